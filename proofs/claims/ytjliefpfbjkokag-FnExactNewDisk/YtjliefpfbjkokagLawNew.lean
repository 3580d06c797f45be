/- The law of NewDisk: at every size the program's NewDisk answers as the specification, and its answer owns its memory. -/
import Derived.Test.YtjliefpfbjkokagNewD
import Derived.Test.YtjliefpfbjkokagEqB
import Derived.Test.YtjliefpfbjkokagMarkB
namespace Go.Proofs.Ytjliefpfbjkokag
open Go.RowKit

theorem newBlocks_span (size : Int) : dspan (newBlocks size) [] = 0 := by
  unfold dspan newBlocks
  split <;> simp [wlens]

set_option maxHeartbeats 1600000 in
theorem lawNew_any (w : World) (size : Int) :
    Calls Try.prog 4 #[.int .i64 size] w fun e w' => e = .returned (.bool true) ∧ Below w.heap.size w w' := by
  generalize hcode : newCode size = code
  have HCODE : Hid (newCode size = code) := hcode
  generalize hbs : newBlocks size = bs
  have HBS : Hid (newBlocks size = bs) := hbs
  have hspan := newBlocks_span size
  rw [hbs] at hspan
  have hsp : (1 : Int) + (dspan bs [] : Nat) ≤ 4611686018427387904 := by omega
  clear hcode hbs hspan
  go_enter Try.func4, Try.ntmps4
  go_wp2_with fail
  refine (specNew_any _ size).mono ?_
  rw [HCODE.out, HBS.out]
  rintro e w1 ⟨aB, nB, cB, aC, nC, cC, rfl, hd⟩
  have HD : Hid (DiskNew w bs [] (.slice aB nB cB) (.slice aC nC cC) w1) := hd
  have hz01 : w.heap.size ≤ w1.heap.size := hd.below.size
  clear hd
  go_wp2_with fail
  refine (implNew_any _ size).mono ?_
  rw [HCODE.out, HBS.out]
  rintro e w2 ⟨aB', nB', cB', aC', nC', cC', rfl, hd'⟩
  have HD' : Hid (DiskNew _ bs [] (.slice aB' nB' cB') (.slice aC' nC' cC') w2) := hd'
  have hz12 : w1.heap.size < w2.heap.size := by have := hd'.below.size; simp at this; omega
  have HX0 : Hid (Box3 w2 w1.heap.size code (.slice aB nB cB) (.slice aC nC cC)) := (Box3.new _ _ _ _ _).later hd'.below
  have HE0 : Hid (DiskO w2 (.slice aB nB cB) (.slice aC nC cC) bs [] (fun b => b < w1.heap.size)) := (((HD.out.disk.mono fun b hb => hb.2).later (later1 _ _)).later hd'.below)
  have HE1 : Hid (DiskO w2 (.slice aB' nB' cB') (.slice aC' nC' cC') bs [] (fun b => w1.heap.size < b ∧ b < w2.heap.size)) := hd'.disk.mono fun b hb => ⟨by have := hb.1; simp at this; omega, hb.2⟩
  have HB2 : Hid (Below w.heap.size w w2) := (HD.out.below.trans ((later1 _ _).mono HD.out.below.size)).trans (hd'.below.mono (by have := HD.out.below.size; simp; omega))
  clear hd' HD HD'
  obtain ⟨p0, p1, p2⟩ := HX0.out
  go_wp2_with fail
  clear p0 p1 p2
  refine (eqDiskResult_true _ code _ _ _ _ bs [] (HE1.out.ints.later (later1 _ _)) (HE1.out.puts.later (later1 _ _)) (HE0.out.ints.later (later1 _ _)) (HE0.out.puts.later (later1 _ _))).mono ?_
  rintro e w3 ⟨rfl, hb3⟩
  have HY1 : Hid (Box3 w3 w2.heap.size code (.slice aB' nB' cB') (.slice aC' nC' cC')) := (Box3.new _ _ _ _ _).later hb3
  have HL3 : Hid (Below w2.heap.size w2 w3) := (later1 _ _).trans (hb3.mono (by simp))
  have hz23 : w2.heap.size < w3.heap.size := by have := hb3.size; simp at this; omega
  clear hb3
  have HX0' : Hid (Box3 w3 w1.heap.size code (.slice aB nB cB) (.slice aC nC cC)) := HX0.out.later HL3.out
  have HE0' : Hid (DiskO w3 (.slice aB nB cB) (.slice aC nC cC) bs [] (fun b => b < w1.heap.size)) := HE0.out.later HL3.out
  have HE1' : Hid (DiskO w3 (.slice aB' nB' cB') (.slice aC' nC' cC') bs [] (fun b => w1.heap.size < b ∧ b < w2.heap.size)) := HE1.out.later HL3.out
  have HB3 : Hid (Below w.heap.size w w3) := HB2.out.trans (HL3.out.mono HB2.out.size)
  clear HX0 HE0 HE1 HL3 HB2
  obtain ⟨q0, q1, q2⟩ := HY1.out
  go_wp2_with fail
  clear q0 q1 q2
  refine (markRes _ code _ _ bs [] _ 1 HE1'.out (by omega) hsp).mono ?_
  rintro e w4 ⟨rfl, hm, hc⟩
  have HM : Hid (Marked w4 (.slice aB' nB' cB') (.slice aC' nC' cC') bs [] 1 (fun b => w1.heap.size < b ∧ b < w2.heap.size)) := hm
  have HY1' : Hid (Box3 w4 w2.heap.size code (.slice aB' nB' cB') (.slice aC' nC' cC')) := HY1.out.chg hc (by omega)
  have HX0'' : Hid (Box3 w4 w1.heap.size code (.slice aB nB cB) (.slice aC nC cC)) := HX0'.out.chg hc (by omega)
  have HE0'' : Hid (DiskO w4 (.slice aB nB cB) (.slice aC nC cC) bs [] (fun b => b < w1.heap.size)) := HE0'.out.chg hc (fun b h h' => by omega)
  have HB4 : Hid (Below w.heap.size w w4) := HB3.out.trans (hc.below HB3.out.size (fun b h => by omega))
  have hz34 : w3.heap.size ≤ w4.heap.size := hc.size
  clear hm hc HY1 HX0' HE0' HE1' HB3
  generalize hK : (1 : Int) + (dspan bs [] : Nat) = K at *
  have hKK : (K != K) = false := by simp
  have hK0 : ¬ K < 0 := by omega
  have HK : Hid ((1 : Int) + (dspan bs [] : Nat) = K) := hK
  clear hK
  obtain ⟨q0, q1, q2⟩ := HY1'.out
  go_wp2_with fail
  clear q0 q1 q2
  refine (heldRes _ code _ _ bs [] _ 1 HM.out (by omega) (by rw [HK.out]; exact hsp)).mono ?_
  rw [HK.out]
  rintro e w5 ⟨rfl, hb5⟩
  have HM5 : Hid (Marked w5 (.slice aB' nB' cB') (.slice aC' nC' cC') bs [] 1 (fun b => w1.heap.size < b ∧ b < w2.heap.size)) := HM.out.later hb5
  have HY5 : Hid (Box3 w5 w2.heap.size code (.slice aB' nB' cB') (.slice aC' nC' cC')) := HY1'.out.later hb5
  have HX5 : Hid (Box3 w5 w1.heap.size code (.slice aB nB cB) (.slice aC nC cC)) := HX0''.out.later hb5
  have HE5 : Hid (DiskO w5 (.slice aB nB cB) (.slice aC nC cC) bs [] (fun b => b < w1.heap.size)) := HE0''.out.later hb5
  have HB5 : Hid (Below w.heap.size w w5) := HB4.out.trans (hb5.mono HB4.out.size)
  clear hb5 HM HY1' HX0'' HE0'' HB4
  go_wp2_with fail
  refine (implNew_any _ size).mono ?_
  rw [HCODE.out, HBS.out]
  rintro e w6 ⟨aB2, nB2, cB2, aC2, nC2, cC2, rfl, hd6⟩
  have HM6 : Hid (Marked w6 (.slice aB' nB' cB') (.slice aC' nC' cC') bs [] 1 (fun b => w1.heap.size < b ∧ b < w2.heap.size)) := HM5.out.later hd6.below
  have HY6 : Hid (Box3 w6 w2.heap.size code (.slice aB' nB' cB') (.slice aC' nC' cC')) := HY5.out.later hd6.below
  have HX6 : Hid (Box3 w6 w1.heap.size code (.slice aB nB cB) (.slice aC nC cC)) := HX5.out.later hd6.below
  have HE6 : Hid (DiskO w6 (.slice aB nB cB) (.slice aC nC cC) bs [] (fun b => b < w1.heap.size)) := HE5.out.later hd6.below
  have HH6 : Hid (DiskO w6 (.slice aB2 nB2 cB2) (.slice aC2 nC2 cC2) bs [] (fun b => w5.heap.size ≤ b ∧ b < w6.heap.size)) := hd6.disk
  have HB6 : Hid (Below w.heap.size w w6) := HB5.out.trans (hd6.below.mono HB5.out.size)
  clear hd6 HM5 HY5 HX5 HE5 HB5
  obtain ⟨p0, p1, p2⟩ := HX6.out
  have hlt6 := HX6.out.lt
  go_wp2_with fail
  clear p0 p1 p2
  refine (eqDiskResult_true _ code _ _ _ _ bs [] (HH6.out.ints.later (later1 _ _)) (HH6.out.puts.later (later1 _ _)) (HE6.out.ints.later (later1 _ _)) (HE6.out.puts.later (later1 _ _))).mono ?_
  rintro e w7 ⟨rfl, hb7⟩
  have HL7 : Hid (Below w6.heap.size w6 w7) := (later1 _ _).trans (hb7.mono (by simp))
  clear hb7
  have HM7 : Hid (Marked w7 (.slice aB' nB' cB') (.slice aC' nC' cC') bs [] 1 (fun b => w1.heap.size < b ∧ b < w2.heap.size)) := HM6.out.later HL7.out
  have HY7 : Hid (Box3 w7 w2.heap.size code (.slice aB' nB' cB') (.slice aC' nC' cC')) := HY6.out.later HL7.out
  have HB7 : Hid (Below w.heap.size w w7) := HB6.out.trans (HL7.out.mono HB6.out.size)
  clear HL7 HM6 HY6 HX6 HE6 HH6 HB6
  obtain ⟨q0, q1, q2⟩ := HY7.out
  go_wp2_with fail
  clear q0 q1 q2
  refine (heldRes _ code _ _ bs [] _ 1 HM7.out (by omega) (by rw [HK.out]; exact hsp)).mono ?_
  rw [HK.out]
  rintro e w8 ⟨rfl, hb8⟩
  have HB8 : Hid (Below w.heap.size w w8) := HB7.out.trans (hb8.mono HB7.out.size)
  clear hb8
  go_wp2
  go_ret
  exact ⟨rfl, HB8.out⟩
end Go.Proofs.Ytjliefpfbjkokag

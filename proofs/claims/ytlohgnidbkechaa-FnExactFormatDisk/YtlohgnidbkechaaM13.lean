/- FormatDisk of the specification. From the reading of an argument to the lists that it holds. No program is named here. What the rows of this seat share: how a disk that came in is opened. How disks and lists of bits that came in are opened, in the laws' one form. -/
import Derived.Test.YtlohgnidbkechaaM12
import Derived.Test.YtlohgnidbkechaaM00
import Derived.ProofKit
import Derived.Deep.Slices
import Derived.Deep.SlicePairs
import Derived.Lib.SmallJoins
import Derived.Test.YtlohgnidbkechaaRows
import Derived.Test.YtlohgnidbkechaaM01
import Derived.Test.YtlohgnidbkechaaM07
namespace Go.Proofs.Ytlohgnidbkechaa
open Go.RowKit
set_option maxRecDepth 100000

set_option maxHeartbeats 6400000 in
theorem l12Format_any (w : World) (x : Int) :
    Calls Try.prog 10 #[.int .i64 x] w fun e w' => ∃ b, e = .returned (.agg #[.slice (some ⟨b, 0, none⟩) 47 47, .slice none 0 0]) ∧ Below w.heap.size w w' ∧ IntsSO w' (.slice (some ⟨b, 0, none⟩) 47 47) (fmtB x) (fun c => w.heap.size ≤ c ∧ c < w'.heap.size) := by
  have HPK : Hid (∀ W, Calls Try.prog 23 #[.agg #[.int .i64 2, .int .i64 0, .int .i64 0, .slice none 0 0, .slice none 0 0]] W fun e w' => ∃ v, e = .returned v ∧ Below W.heap.size W w' ∧ Wds w' W.heap.size v [2, 0, 0, 0]) := fun W => by
    have hno : InoR W (.int .i64 2) (.int .i64 0) (.int .i64 0) (.slice none 0 0) (.slice none 0 0) dir0 := ⟨⟨rfl, rfl, rfl, none, 0, 0, rfl, Nat.le_refl _⟩, Or.inl ⟨rfl, none, 0, rfl⟩, Ents.nil _ _ _⟩
    have := l4Pack_any W 2 0 0 none 0 0 none 0 0 dir0 hno (by decide)
    rw [packL_dir] at this
    exact this
  have HB0 : Hid (Below w.heap.size w (w.alloc (.cells #[.slice none 0 0, .slice none 0 0] 25))) := later1 _ _
  have HR0 : Hid (OwnRow (w.alloc (.cells #[.slice none 0 0, .slice none 0 0] 25)) (w.heap.size) 2 (cel [.slice none 0 0, .slice none 0 0])) := newCel w [.slice none 0 0, .slice none 0 0] _
  go_enter Try.func10, Try.ntmps10
  go_wp2_with fail
  refine (l1New_any _ 47 (by omega)).mono ?_
  rintro e w1 ⟨b, hbb, rfl, hb, hrow⟩
  have HS1 : Hid (IntsSO w1 (.slice (some ⟨b, 0, none⟩) 47 47) (List.replicate 47 []) (fun c => c = b)) := empt47 hrow
  have hbl := hrow.lt
  rw [World.size_alloc] at hbb
  have HRB1 : Hid (OwnRow w1 b 47 (fun _ => .slice none 0 0)) := hrow
  clear hrow
  have HB1 : Hid (Below w.heap.size w w1) := HB0.out.trans (hb.mono HB0.out.size)
  have HR1 : Hid (OwnRow w1 (w.heap.size) 2 (cel [.slice none 0 0, .slice none 0 0])) := HR0.out.later hb
  clear hb
  have hb := later1 w1 (.cells #[.slice (some ⟨b, 0, none⟩) 47 47, .slice none 0 0] 25)
  have HS2 : Hid (IntsSO (w1.alloc (.cells #[.slice (some ⟨b, 0, none⟩) 47 47, .slice none 0 0] 25)) (.slice (some ⟨b, 0, none⟩) 47 47) (List.replicate 47 []) (fun c => c = b)) := HS1.out.keep fun c _ hlt => hb.block c hlt
  have HRB2 : Hid (OwnRow (w1.alloc (.cells #[.slice (some ⟨b, 0, none⟩) 47 47, .slice none 0 0] 25)) b 47 (fun _ => .slice none 0 0)) := HRB1.out.later hb
  clear HS1 HRB1
  have HB2 : Hid (Below w.heap.size w (w1.alloc (.cells #[.slice (some ⟨b, 0, none⟩) 47 47, .slice none 0 0] 25))) := HB1.out.trans (hb.mono HB1.out.size)
  have HR2 : Hid (OwnRow (w1.alloc (.cells #[.slice (some ⟨b, 0, none⟩) 47 47, .slice none 0 0] 25)) (w.heap.size) 2 (cel [.slice none 0 0, .slice none 0 0])) := HR1.out.later hb
  clear hb
  have HD2 : Hid (OwnRow (w1.alloc (.cells #[.slice (some ⟨b, 0, none⟩) 47 47, .slice none 0 0] 25)) w1.heap.size 2 (cel [.slice (some ⟨b, 0, none⟩) 47 47, .slice none 0 0])) := newCel w1 [.slice (some ⟨b, 0, none⟩) 47 47, .slice none 0 0] _
  have hds : (w1.alloc (.cells #[.slice (some ⟨b, 0, none⟩) 47 47, .slice none 0 0] 25)).heap.size = w1.heap.size + 1 := by simp
  have hox : IntsO ((w1.alloc (.cells #[.slice (some ⟨b, 0, none⟩) 47 47, .slice none 0 0] 25)).alloc (.cells #[.int .i64 7, .int .i64 x] 2)) (.slice (some ⟨w1.heap.size + 1, 0, none⟩) 2 2) [7, x] (fresh (w1.alloc (.cells #[.slice (some ⟨b, 0, none⟩) 47 47, .slice none 0 0] 25)) ((w1.alloc (.cells #[.slice (some ⟨b, 0, none⟩) 47 47, .slice none 0 0] 25)).alloc (.cells #[.int .i64 7, .int .i64 x] 2))) := by
    have hr := OwnRow.newS (w1.alloc (.cells #[.slice (some ⟨b, 0, none⟩) 47 47, .slice none 0 0] 25)) (.int .i64 7) (.int .i64 x) 2
    rw [hds] at hr
    refine Or.inr ⟨w1.heap.size + 1, 2, ⟨by omega, hr.lt⟩, rfl, by unfold maxLen; simp, hr.congr fun i hi => ?_⟩
    rcases (show i = 0 ∨ i = 1 by have hi' : i < 2 := hi; omega) with rfl | rfl <;> rfl
  have HSX := IntsSO.set HS2.out (x := 0) (by simp) (later1 (w1.alloc (.cells #[.slice (some ⟨b, 0, none⟩) 47 47, .slice none 0 0] 25)) _) (fun c hc => by subst hc; omega) hox
  have hbx := later1 (w1.alloc (.cells #[.slice (some ⟨b, 0, none⟩) 47 47, .slice none 0 0] 25)) (.cells #[.int .i64 7, .int .i64 x] 2)
  have hb : Below w.heap.size (w1.alloc (.cells #[.slice (some ⟨b, 0, none⟩) 47 47, .slice none 0 0] 25)) (((w1.alloc (.cells #[.slice (some ⟨b, 0, none⟩) 47 47, .slice none 0 0] 25)).alloc (.cells #[.int .i64 7, .int .i64 x] 2)).setCell ⟨b, 0, none⟩ (.slice (some ⟨w1.heap.size + 1, 0, none⟩) 2 2)) := (hbx.mono HB2.out.size).setCell (by show w.heap.size ≤ b; omega) _
  have hsz : (((w1.alloc (.cells #[.slice (some ⟨b, 0, none⟩) 47 47, .slice none 0 0] 25)).alloc (.cells #[.int .i64 7, .int .i64 x] 2)).setCell ⟨b, 0, none⟩ (.slice (some ⟨w1.heap.size + 1, 0, none⟩) 2 2)).heap.size = w1.heap.size + 2 := by simp [World.setCell]
  have HS4 : Hid (IntsSO (((w1.alloc (.cells #[.slice (some ⟨b, 0, none⟩) 47 47, .slice none 0 0] 25)).alloc (.cells #[.int .i64 7, .int .i64 x] 2)).setCell ⟨b, 0, none⟩ (.slice (some ⟨w1.heap.size + 1, 0, none⟩) 2 2)) (.slice (some ⟨b, 0, none⟩) 47 47) (fmt1 x) (fun c => w.heap.size < c ∧ c < (((w1.alloc (.cells #[.slice (some ⟨b, 0, none⟩) 47 47, .slice none 0 0] 25)).alloc (.cells #[.int .i64 7, .int .i64 x] 2)).setCell ⟨b, 0, none⟩ (.slice (some ⟨w1.heap.size + 1, 0, none⟩) 2 2)).heap.size ∧ c ≠ w1.heap.size)) := HSX.mono fun c hc => by
    rw [hsz]
    rcases hc with rfl | hc
    · omega
    · have h1 := hc.1; have h2 := hc.2; rw [World.size_alloc] at h2; omega
  have hrx := (HR2.out.later hbx).store (p := ⟨b, 0, none⟩) (by show w.heap.size ≠ b; omega) (.slice (some ⟨w1.heap.size + 1, 0, none⟩) 2 2)
  have hdx := (HD2.out.later hbx).store (p := ⟨b, 0, none⟩) (by show w1.heap.size ≠ b; omega) (.slice (some ⟨w1.heap.size + 1, 0, none⟩) 2 2)
  have hq := HRB2.out.later hbx
  have hq0 := hq.cell (i := 0) (by omega)
  have hq1 := hq.frozen 0
  have hqa := HRB2.out.cell (i := 0) (by omega)
  have hqb := HRB2.out.frozen 0
  have HB9 : Hid (Below w.heap.size w (((w1.alloc (.cells #[.slice (some ⟨b, 0, none⟩) 47 47, .slice none 0 0] 25)).alloc (.cells #[.int .i64 7, .int .i64 x] 2)).setCell ⟨b, 0, none⟩ (.slice (some ⟨w1.heap.size + 1, 0, none⟩) 2 2))) := HB2.out.trans hb
  have HR9 : Hid (OwnRow (((w1.alloc (.cells #[.slice (some ⟨b, 0, none⟩) 47 47, .slice none 0 0] 25)).alloc (.cells #[.int .i64 7, .int .i64 x] 2)).setCell ⟨b, 0, none⟩ (.slice (some ⟨w1.heap.size + 1, 0, none⟩) 2 2)) (w.heap.size) 2 (cel [.slice none 0 0, .slice none 0 0])) := hrx
  have HD9 : Hid (OwnRow (((w1.alloc (.cells #[.slice (some ⟨b, 0, none⟩) 47 47, .slice none 0 0] 25)).alloc (.cells #[.int .i64 7, .int .i64 x] 2)).setCell ⟨b, 0, none⟩ (.slice (some ⟨w1.heap.size + 1, 0, none⟩) 2 2)) w1.heap.size 2 (cel [.slice (some ⟨b, 0, none⟩) 47 47, .slice none 0 0])) := hdx
  have HQ9 : Hid (OwnRow (((w1.alloc (.cells #[.slice (some ⟨b, 0, none⟩) 47 47, .slice none 0 0] 25)).alloc (.cells #[.int .i64 7, .int .i64 x] 2)).setCell ⟨b, 0, none⟩ (.slice (some ⟨w1.heap.size + 1, 0, none⟩) 2 2)) b 47 (fun c => if c = 0 then (.slice (some ⟨w1.heap.size + 1, 0, none⟩) 2 2) else .slice none 0 0)) := hq.set 0 (.slice (some ⟨w1.heap.size + 1, 0, none⟩) 2 2)
  have HBLX : Hid (b < w1.heap.size) := hbl
  clear hox HSX hbx hb hrx hdx HS2 hq hbl
  go_wp2_with fail
  clear hq0 hq1 hqa hqb
  generalize (((w1.alloc (.cells #[.slice (some ⟨b, 0, none⟩) 47 47, .slice none 0 0] 25)).alloc (.cells #[.int .i64 7, .int .i64 x] 2)).setCell ⟨b, 0, none⟩ (.slice (some ⟨w1.heap.size + 1, 0, none⟩) 2 2)) = w3 at *
  clear hds HRB2
  have d0 : w3.cell? ⟨w1.heap.size, 0, none⟩ = some (.slice (some ⟨b, 0, none⟩) 47 47) := HD9.out.cell (i := 0) (by omega)
  go_region_with (first
    | (go_at_call 23; refine (HPK.out _).mono ?_; rintro e w4 ⟨v, rfl, hb, hw⟩; obtain ⟨av, cv, rfl⟩ := hw.shape
       have HT : Hid (Below w3.heap.size w3 w4) := (Below.refl _ _).drew.trans hb
       have HWI : Hid (IntsO w4 (.slice av 4 cv) [2, 0, 0, 0] (fresh w3 w4)) := hw.own' (w0 := w3) (Nat.le_refl _)
       have d1 := (HD9.out.later HT.out).cell (i := 0) (by omega)
       have q0 := (HQ9.out.later HT.out).cell (i := 17) (by omega)
       have q1 := (HQ9.out.later HT.out).frozen 17
       replace d1 : w4.cell? ⟨w1.heap.size, 0, none⟩ = some (.slice (some ⟨b, 0, none⟩) 47 47) := d1
       replace q0 : w4.cell? ⟨b, 17, none⟩ = some (.slice none 0 0) := q0
       clear hb hw))
  all_goals
    have HSX := IntsSO.set HS4.out (x := 17) (by rw [fmt1_len]; omega) HT.out (fun c hc => hc.2.1) HWI.out
    have HS5 : Hid (IntsSO (w4.setCell ⟨b, 17, none⟩ (.slice av 4 cv)) (.slice (some ⟨b, 0, none⟩) 47 47) (fmtB x) (fun c => w.heap.size < c ∧ c < w4.heap.size ∧ c ≠ w1.heap.size)) := HSX.mono fun c hc => by
      have := HT.out.size
      have := HD9.out.lt
      have := HR9.out.lt
      rcases hc with hc | hc
      · exact ⟨hc.1, by have := hc.2.1; omega, hc.2.2⟩
      · have h1 := hc.1; have h2 := hc.2; exact ⟨by omega, h2, by omega⟩
    have hrx := (HR9.out.later HT.out).store (p := ⟨b, 17, none⟩) (by show w.heap.size ≠ b; omega) (.slice av 4 cv)
    have hdx := (HD9.out.later HT.out).store (p := ⟨b, 17, none⟩) (by show w1.heap.size ≠ b; have := HBLX.out; omega) (.slice av 4 cv)
    have HB5 : Hid (Below w.heap.size w (w4.setCell ⟨b, 17, none⟩ (.slice av 4 cv))) := (HB9.out.trans (HT.out.mono HB9.out.size)).setCell (by show w.heap.size ≤ b; omega) _
    have t0 : (w4.setCell ⟨b, 17, none⟩ (.slice av 4 cv)).cell? ⟨w.heap.size, 0, none⟩ = some (.slice none 0 0) := hrx.cell (i := 0) (by omega)
    have t1 : (w4.setCell ⟨b, 17, none⟩ (.slice av 4 cv)).cell? ⟨w.heap.size, 1, none⟩ = some (.slice none 0 0) := hrx.cell (i := 1) (by omega)
    have f0 := hrx.frozen 0
    have f1 := hrx.frozen 1
    have y0 : (w4.setCell ⟨b, 17, none⟩ (.slice av 4 cv)).cell? ⟨w1.heap.size, 0, none⟩ = some (.slice (some ⟨b, 0, none⟩) 47 47) := hdx.cell (i := 0) (by omega)
    have y1 : (w4.setCell ⟨b, 17, none⟩ (.slice av 4 cv)).cell? ⟨w1.heap.size, 1, none⟩ = some (.slice none 0 0) := hdx.cell (i := 1) (by omega)
    have hsz5 : (w4.setCell ⟨b, 17, none⟩ (.slice av 4 cv)).heap.size = w4.heap.size := by simp [World.setCell]
    rw [← hsz5] at HS5
    clear HSX hrx hdx hsz5 HT HWI HD9 HQ9 HR9 HS4
    go_wp2_with fail
    generalize w4.setCell ⟨b, 17, none⟩ (.slice av 4 cv) = w5 at *
    clear q0 q1 d1
    go_wp2
    refine bodyPost_ret (v := .agg #[.slice (some ⟨b, 0, none⟩) 47 47, .slice none 0 0]) (by simp [results, Try.results10, go_sem, t0, t1]) rfl ⟨b, rfl, (HB5.out.setCell (by simp) _).setCell (by simp) _, ?_⟩
    refine (HS5.out.keep fun c hc _ => ?_).mono fun c hc => ⟨by omega, by simpa [World.setCell] using hc.2.1⟩
    have hne : c ≠ w.heap.size := by omega
    rw [Below.heap_setCell _ _ _ _ hne, Below.heap_setCell _ _ _ _ hne]

set_option maxHeartbeats 3200000 in
theorem specFormU (w : World) (x : Int) :
    Calls Try.prog 4 #[.int .i64 x] w (AnsDR w (formR x)) := by
  have HRA : Hid (seqB x = true → formR x = (0, fmtB x, [])) := fun h => by unfold formR; rw [if_pos h]
  have HRB : Hid (seqB x = false → formR x = (3, [], [])) := fun h => by unfold formR; rw [if_neg (by rw [h]; simp)]
  have HSQ : Hid (∀ W, Calls Try.prog 9 #[.int .i64 x] W fun e w' => e = .returned (.bool (seqB x)) ∧ w' = W) := fun W => l12Seq_any W x
  generalize formR x = RES at *
  generalize seqB x = sb at *
  have HB0 : Hid (Below w.heap.size w (w.alloc (.cells #[.int .i64 0, .slice none 0 0, .slice none 0 0] 27))) := later1 _ _
  have HR0 : Hid (OwnRow (w.alloc (.cells #[.int .i64 0, .slice none 0 0, .slice none 0 0] 27)) (w.heap.size) 3 (cel [.int .i64 0, .slice none 0 0, .slice none 0 0])) := newCel w [.int .i64 0, .slice none 0 0, .slice none 0 0] _
  go_enter Try.func4, Try.ntmps4
  go_wp2_with fail
  refine (HSQ.out _).mono ?_
  rintro e wq ⟨rfl, hq0⟩
  subst wq
  cases sb with
  | false =>
    have HE : Hid (RES = (3, [], [])) := HRB.out rfl
    have hrr := HR0.out
    have t0 : (w.alloc (.cells #[.int .i64 0, .slice none 0 0, .slice none 0 0] 27)).cell? ⟨w.heap.size, 0, none⟩ = some (.int .i64 0) := hrr.cell (i := 0) (by omega)
    have t1 : (w.alloc (.cells #[.int .i64 0, .slice none 0 0, .slice none 0 0] 27)).cell? ⟨w.heap.size, 1, none⟩ = some (.slice none 0 0) := hrr.cell (i := 1) (by omega)
    have t2 : (w.alloc (.cells #[.int .i64 0, .slice none 0 0, .slice none 0 0] 27)).cell? ⟨w.heap.size, 2, none⟩ = some (.slice none 0 0) := hrr.cell (i := 2) (by omega)
    have f0 := hrr.frozen 0
    have f1 := hrr.frozen 1
    have f2 := hrr.frozen 2
    have hlr := hrr.lt
    clear hrr
    go_wp2
    exact bodyPost_ret (v := .agg #[.int .i64 3, .slice none 0 0, .slice none 0 0]) (by simp [results, Try.results4, go_sem]) rfl (by rw [HE.out]; exact AnsDisk.uni (ans_bad (later1 _ _) 3))
  | true =>
    have HE : Hid (RES = (0, fmtB x, [])) := HRA.out rfl
    go_wp2_with fail
    refine (l12Format_any _ x).mono ?_
    rintro e w1 ⟨b, rfl, hb, ho⟩
    have HS : Hid (IntsSO w1 (.slice (some ⟨b, 0, none⟩) 47 47) (fmtB x) (fun c => w.heap.size < c ∧ c < w1.heap.size)) := ho.mono fun c hc => ⟨by have := hc.1; simp at this; omega, hc.2⟩
    clear ho
    have HB1 : Hid (Below w.heap.size w w1) := HB0.out.trans (hb.mono HB0.out.size)
    have HR1 : Hid (OwnRow w1 (w.heap.size) 3 (cel [.int .i64 0, .slice none 0 0, .slice none 0 0])) := HR0.out.later hb
    clear hb
    have hrr := HR1.out
    have t0 : w1.cell? ⟨w.heap.size, 0, none⟩ = some (.int .i64 0) := hrr.cell (i := 0) (by omega)
    have t1 : w1.cell? ⟨w.heap.size, 1, none⟩ = some (.slice none 0 0) := hrr.cell (i := 1) (by omega)
    have t2 : w1.cell? ⟨w.heap.size, 2, none⟩ = some (.slice none 0 0) := hrr.cell (i := 2) (by omega)
    have f0 := hrr.frozen 0
    have f1 := hrr.frozen 1
    have f2 := hrr.frozen 2
    have hlr := hrr.lt
    clear hrr
    go_wp2
    exact bodyPost_ret (v := .agg #[.int .i64 0, .slice (some ⟨b, 0, none⟩) 47 47, .slice none 0 0]) (by simp [results, Try.results4, go_sem, t0, t1, t2]) rfl (by rw [HE.out]; exact ans_fmt HB1.out (Nat.le_refl _) HS.out (fun c hc => ⟨by omega, hc.2, by omega⟩) _ _ _)

theorem formR_span (x : Int) : spanDisk (formR x).2 ≤ 100 := by
  unfold formR
  by_cases h : seqB x = true
  · rw [if_pos h]
    have : spanDisk (fmtB x, []) = 6 := rfl
    show spanDisk (fmtB x, []) ≤ 100
    omega
  · rw [if_neg h]
    have : spanDisk ([], []) = 0 := rfl
    show spanDisk ([], []) ≤ 100
    omega

end Go.Proofs.Ytlohgnidbkechaa

namespace Go.Proofs.Ytlohgnidbkechaa
open Go.ChangeShapes Go.WideShapes Go.ChangeAt Go.RowKit Go.Deep
set_option maxRecDepth 100000

section
variable {H : Type} {enc : TypeId × Value → H} {P : Program} {w : World} {base : Nat} {held : Bool}

theorem addr_of {a : Addr} {v : Value} (h : w.cell? (a.add 0) = some v) : a = ⟨a.block, a.off, none⟩ := by
  obtain ⟨b, o, s⟩ := a
  have : s = none := by simpa [Addr.add] using World.cell?_spot h
  subst this; rfl
theorem add_plain (b off k : Nat) : (⟨b, off, none⟩ : Addr).add k = ⟨b, off + k, none⟩ := by
  by_cases h : k = 0
  · subst h; simp [Addr.add]
  · simp [Addr.add, h]

theorem open_Ints {t e : TypeId} {fuel : Nat} {v : Value} {x : DataW H × List MemPlace} (ht : P.underlying t = some (.slice e)) (he : P.underlying e = some (.int .i64)) (ce : P.cellsOf e = 1) (h : DataW.trod enc P w base (fun _ => true) held fuel t [v] = some x) :
    ∃ zs, Ints w v zs := by
  rcases open_ints ht he ce h with ⟨hcs, _⟩ | ⟨a, len, cap, zs, hcs, _, hl, hm, hz, _, hcell, _⟩
  · simp only [List.cons.injEq, and_true] at hcs
    exact ⟨[], Or.inl ⟨rfl, none, 0, hcs⟩⟩
  · simp only [List.cons.injEq, and_true] at hcs
    simp only [if_true] at hz
    by_cases h0 : len = 0
    · subst h0; exact ⟨[], Or.inl ⟨rfl, some a, cap, hcs⟩⟩
    · have ha := addr_of (hcell 0 (by omega))
      refine ⟨zs.take len, Or.inr ⟨a.block, a.off, cap, ?_, ?_, fun k hk => ?_⟩⟩
      · rw [hcs, List.length_take, Nat.min_eq_left (by omega), ← ha]
      · rw [List.length_take]; omega
      · rw [List.length_take] at hk
        have h1 := hcell k (by omega)
        rw [ha, add_plain] at h1
        rw [h1, List.getElem?_take, if_pos (by omega)]
        rfl

theorem open_IntsS {t e q : TypeId} {fuel : Nat} {v : Value} {x : DataW H × List MemPlace} (ht : P.underlying t = some (.slice e)) (he : P.underlying e = some (.slice q)) (hq : P.underlying q = some (.int .i64)) (ce : P.cellsOf e = 1) (cq : P.cellsOf q = 1)
    (h : DataW.trod enc P w base (fun _ => true) held fuel t [v] = some x) : ∃ zss, IntsS w v zss := by
  rcases open_slice1 ht ce h with ⟨hcs, _⟩ | ⟨a, len, cap, m, n, V, D, Pl, hcs, _, hl, hm, hmm, _, hx⟩
  · simp only [List.cons.injEq, and_true] at hcs
    exact ⟨[], Or.inl ⟨rfl, none, 0, hcs⟩⟩
  · simp only [List.cons.injEq, and_true] at hcs
    simp only [if_true] at hmm
    by_cases h0 : len = 0
    · subst h0; exact ⟨[], Or.inl ⟨rfl, some a, cap, hcs⟩⟩
    · have ha := addr_of (hx 0 (by omega)).1
      obtain ⟨Z, hZ⟩ := choose_lt (α := List Int) (n := m) (p := fun i zs => Ints w (V i) zs) fun i hi => open_Ints he hq cq (hx i hi).2
      refine ⟨(List.range len).map Z, Or.inr ⟨a.block, a.off, cap, V, ?_, ?_, fun k hk => ?_⟩⟩
      · simp only [List.length_map, List.length_range]; rw [hcs, ← ha]
      · simp only [List.length_map, List.length_range]; omega
      · simp only [List.length_map, List.length_range] at hk
        have h1 := (hx k (by omega)).1
        rw [ha, add_plain] at h1
        refine ⟨h1, ?_⟩
        have := hZ k (by omega)
        simpa [hk] using this

theorem open_Puts {t e q : TypeId} {f0 f1 : Field} {fuel : Nat} {v : Value} {x : DataW H × List MemPlace} (ht : P.underlying t = some (.slice e)) (he : P.underlying e = some (.struct #[f0, f1]))
    (ce : P.cellsOf e = 2) (o0 : f0.offset = 0) (o1 : f1.offset = 1) (c0 : P.cellsOf f0.type = 1) (c1 : P.cellsOf f1.type = 1) (h0 : P.underlying f0.type = some (.int .i64)) (h1 : P.underlying f1.type = some (.slice q)) (hq : P.underlying q = some (.int .i64)) (cq : P.cellsOf q = 1)
    (h : DataW.trod enc P w base (fun _ => true) held fuel t [v] = some x) : ∃ ps, Puts w v ps := by
  rcases open_slice_pairs ht he ce o0 o1 c0 c1 h with ⟨hcs, _⟩ | ⟨a, len, cap, m, n, V0, V1, D0, D1, P0, P1, hcs, _, hl, hm, hmm, _, hx⟩
  · simp only [List.cons.injEq, and_true] at hcs
    exact ⟨[], Or.inl ⟨rfl, none, 0, hcs⟩⟩
  · simp only [List.cons.injEq, and_true] at hcs
    simp only [if_true] at hmm
    by_cases hl0 : len = 0
    · subst hl0; exact ⟨[], Or.inl ⟨rfl, some a, cap, hcs⟩⟩
    · have ha := addr_of (by simpa using (hx 0 (by omega)).1)
      obtain ⟨Z, hZ⟩ := choose_lt (α := Int × List Int) (n := m) (p := fun i z => V0 i = .int .i64 z.1 ∧ Ints w (V1 i) z.2) fun i hi => by
        obtain ⟨_, _, g0, g1⟩ := hx i hi
        obtain ⟨zs, hzs⟩ := open_Ints h1 hq cq g1
        obtain ⟨y, hy, _⟩ := DataW.trod_int h0 g0
        simp only [List.cons.injEq, and_true] at hy
        exact ⟨(y, zs), hy, hzs⟩
      refine ⟨(List.range len).map Z, Or.inr ⟨a.block, a.off, cap, V1, ?_, ?_, fun k hk => ?_⟩⟩
      · simp only [List.length_map, List.length_range]; rw [hcs, ← ha]
      · simp only [List.length_map, List.length_range]; omega
      · simp only [List.length_map, List.length_range] at hk
        obtain ⟨e0, e1, _, _⟩ := hx k (by omega)
        rw [ha, add_plain] at e0 e1
        obtain ⟨g0, g1⟩ := hZ k (by omega)
        rw [g0] at e0
        have hg : ((List.range len).map Z)[k]?.getD (0, []) = Z k := by simp [hk]
        rw [hg]
        exact ⟨e0, e1, g1⟩
end

end Go.Proofs.Ytlohgnidbkechaa

namespace Go.Proofs.Ytlohgnidbkechaa
open Go.ChangeShapes Go.WideShapes Go.ChangeAt Go.RowKit Go.Joins
set_option maxRecDepth 100000

theorem Try.own : ownKnob Try.prog.godebug = none := by kernel_rfl
theorem Try.laidOut : laidOutB Try.prog = true := by kernel_rfl
theorem Try.cellsInt : Try.prog.cellsOf 2 = 1 := by kernel_rfl
theorem Try.cellsInts : Try.prog.cellsOf 40 = 1 := by kernel_rfl

end Go.Proofs.Ytlohgnidbkechaa

namespace Go.Proofs.Ytlohgnidbkechaa
open Go.ChangeShapes Go.WideShapes Go.ChangeAt Go.RowKit Go.Joins Go.Deep
set_option maxRecDepth 100000

theorem Try.cellsBool : Try.prog.cellsOf 4 = 1 := by kernel_rfl
theorem open_Bools {H : Type} {enc : TypeId × Value → H} {P : Program} {w : World} {base : Nat} {held : Bool} {t e : TypeId} {fuel : Nat} {v : Value} {x : DataW H × List MemPlace} (ht : P.underlying t = some (.slice e)) (he : P.underlying e = some .bool) (ce : P.cellsOf e = 1) (h : DataW.trod enc P w base (fun _ => true) held fuel t [v] = some x) :
    ∃ zs, Bools w v zs := by
  rcases open_slice1 ht ce h with ⟨hcs, _⟩ | ⟨a, len, cap, m, n, V, D, Pl, hcs, _, hl, hm, hmm, _, hx⟩
  · simp only [List.cons.injEq, and_true] at hcs
    exact ⟨[], Or.inl ⟨rfl, none, 0, hcs⟩⟩
  · simp only [List.cons.injEq, and_true] at hcs
    simp only [if_true] at hmm
    by_cases h0 : len = 0
    · subst h0; exact ⟨[], Or.inl ⟨rfl, some a, cap, hcs⟩⟩
    · have ha := addr_of (hx 0 (by omega)).1
      obtain ⟨Z, hZ⟩ := choose_lt (α := Bool) (n := m) (p := fun i b => V i = .bool b) fun i hi => by
        obtain ⟨b, h1, _⟩ := DataW.trod_bool he (hx i hi).2
        exact ⟨b, by simpa using h1⟩
      refine ⟨(List.range len).map Z, Or.inr ⟨a.block, a.off, cap, ?_, ?_, fun k hk => ?_⟩⟩
      · simp only [List.length_map, List.length_range]; rw [hcs, ← ha]
      · simp only [List.length_map, List.length_range]; omega
      · simp only [List.length_map, List.length_range] at hk
        have h1 := (hx k (by omega)).1
        rw [ha, add_plain] at h1
        rw [h1, hZ k (by omega)]
        simp [hk]
end Go.Proofs.Ytlohgnidbkechaa

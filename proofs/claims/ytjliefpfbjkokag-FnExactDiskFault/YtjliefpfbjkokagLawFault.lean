/- The law of DiskFault: at every disk the program's DiskFault answers as the specification and leaves the disk as it was. -/
import Derived.Test.YtjliefpfbjkokagFaultB
import Derived.Test.YtjliefpfbjkokagEqB
import Derived.Test.YtjliefpfbjkokagSz
import Derived.Test.YtjliefpfbjkokagTo
namespace Go.Proofs.Ytjliefpfbjkokag
open Go.RowKit

set_option maxHeartbeats 1600000 in
theorem lawFault_big (w : World) (aB aC : Option Addr) (nB cB nC cC : Nat) (bs : List (List Int)) (ps : List (Int × List Int)) (hB : IntsS w (.slice aB nB cB) bs) (hP : Puts w (.slice aC nC cC) ps) (hsz : 1048576 < dsize bs ps) :
    Calls Try.prog 3 #[.agg #[.slice aB nB cB, .slice aC nC cC]] w fun e w' => e = .returned (.bool true) ∧ Below w.heap.size w w' := by
  have HB : Hid (IntsS w (.slice aB nB cB) bs) := hB
  have HP : Hid (Puts w (.slice aC nC cC) ps) := hP
  have HS : Hid (szf 1048576 (dsize bs ps) = -1) := szf_no (by omega)
  clear hB hP hsz
  go_enter Try.func3, Try.ntmps3
  go_wp2_with fail
  refine (szDisk_any _ _ _ _ _ _ _ bs ps (HB.out.later (later1 _ _)) (HP.out.later (later1 _ _)) 1048576 (by omega) (by omega)).mono ?_
  rw [HS.out]
  rintro e w1 ⟨rfl, hb1⟩
  have HB1 : Hid (Below w.heap.size w w1) := (later1 _ _).trans (hb1.mono (by simp))
  clear hb1
  go_wp2
  go_ret
  exact ⟨rfl, HB1.out⟩

set_option maxHeartbeats 1600000 in
theorem lawFault_small (w : World) (aB aC : Option Addr) (nB cB nC cC : Nat) (bs : List (List Int)) (ps : List (Int × List Int)) (hB : IntsS w (.slice aB nB cB) bs) (hP : Puts w (.slice aC nC cC) ps) (hsz : dsize bs ps ≤ 1048576) :
    Calls Try.prog 3 #[.agg #[.slice aB nB cB, .slice aC nC cC]] w fun e w' => e = .returned (.bool true) ∧ Below w.heap.size w w' := by
  have HB : Hid (IntsS w (.slice aB nB cB) bs) := hB
  have HP : Hid (Puts w (.slice aC nC cC) ps) := hP
  have HS : Hid (szf 1048576 (dsize bs ps) = 1048576 - (dsize bs ps : Int)) := szf_yes (by omega)
  have hpos : ¬ (1048576 - (dsize bs ps : Int) < 0) := by omega
  have L1 : Hid (bs.length + (bs.map List.length).sum ≤ 1048576) := by unfold dsize at hsz; unfold Hid; omega
  have L2 : Hid (ps.length + (wlens ps).sum ≤ 1048576) := by unfold dsize at hsz; unfold Hid; omega
  generalize hF : faultF bs ps = F
  have HF : Hid (faultF bs ps = F) := hF
  have hFF : (F != F) = false := by simp
  clear hB hP hsz hF
  go_enter Try.func3, Try.ntmps3
  go_wp2_with fail
  refine (szDisk_any _ _ _ _ _ _ _ bs ps (HB.out.later (later1 _ _)) (HP.out.later (later1 _ _)) 1048576 (by omega) (by omega)).mono ?_
  rw [HS.out]
  rintro e w1 ⟨rfl, hb1⟩
  have HX : Hid (Box2 w1 w.heap.size (.slice aB nB cB) (.slice aC nC cC)) := (Box2.new _ _ _ _).later hb1
  have HW : Hid (Below w.heap.size w w1) := (later1 _ _).trans (hb1.mono (by simp))
  clear hb1
  obtain ⟨x0, x1⟩ := HX.out
  go_wp2_with fail
  clear x0 x1
  refine (toDisk_any _ _ _ _ _ _ _ bs ps (HB.out.later HW.out) (HP.out.later HW.out) L1.out L2.out).mono ?_
  rintro e w2 ⟨dB, eB, fB, dC, eC, fC, rfl, hb2, hd2⟩
  have HX2 : Hid (Box2 w2 w.heap.size (.slice aB nB cB) (.slice aC nC cC)) := HX.out.later hb2
  have HW2 : Hid (Below w.heap.size w w2) := HW.out.trans (hb2.mono HW.out.size)
  have HI2 : Hid (IntsS w2 (.slice dB eB fB) bs) := hd2.ints
  have HJ2 : Hid (Puts w2 (.slice dC eC fC) ps) := hd2.puts
  clear hb2 hd2 HX HW
  go_wp2_with fail
  refine (specFault_any _ _ _ bs ps HI2.out HJ2.out).mono ?_
  rw [HF.out]
  rintro e w3 ⟨rfl, hb3⟩
  have HX3 : Hid (Box2 w3 w.heap.size (.slice aB nB cB) (.slice aC nC cC)) := HX2.out.later hb3
  have HW3 : Hid (Below w.heap.size w w3) := HW2.out.trans (hb3.mono HW2.out.size)
  clear hb3 HX2 HW2 HI2 HJ2
  obtain ⟨x0, x1⟩ := HX3.out
  go_wp2_with fail
  clear x0 x1
  refine (toDisk_any _ _ _ _ _ _ _ bs ps (HB.out.later HW3.out) (HP.out.later HW3.out) L1.out L2.out).mono ?_
  rintro e w4 ⟨dB, eB, fB, dC, eC, fC, rfl, hb4, hd4⟩
  have HX4 : Hid (Box2 w4 w.heap.size (.slice aB nB cB) (.slice aC nC cC)) := HX3.out.later hb4
  have HW4 : Hid (Below w.heap.size w w4) := HW3.out.trans (hb4.mono HW3.out.size)
  have HI4 : Hid (IntsS w4 (.slice dB eB fB) bs) := hd4.ints
  have HJ4 : Hid (Puts w4 (.slice dC eC fC) ps) := hd4.puts
  clear hb4 hd4 HX3 HW3
  go_wp2_with fail
  refine (fault_any _ _ _ bs ps (HI4.out.later (later1 _ _)) (HJ4.out.later (later1 _ _))).mono ?_
  rw [HF.out]
  rintro e w5 ⟨rfl, hb5⟩
  have HL5 : Hid (Below w4.heap.size w4 w5) := (later1 _ _).trans (hb5.mono (by simp))
  have HY5 : Hid (Box2 w5 w4.heap.size (.slice dB eB fB) (.slice dC eC fC)) := (Box2.new _ _ _ _).later hb5
  have HX5 : Hid (Box2 w5 w.heap.size (.slice aB nB cB) (.slice aC nC cC)) := HX4.out.later HL5.out
  have HW5 : Hid (Below w.heap.size w w5) := HW4.out.trans (HL5.out.mono HW4.out.size)
  have HI5 : Hid (IntsS w5 (.slice dB eB fB) bs) := HI4.out.later HL5.out
  have HJ5 : Hid (Puts w5 (.slice dC eC fC) ps) := HJ4.out.later HL5.out
  clear hb5 HX4 HW4 HI4 HJ4 HL5
  obtain ⟨x0, x1⟩ := HX5.out
  obtain ⟨y0, y1⟩ := HY5.out
  go_wp2_with fail
  go_region_with (first
    | (go_at_call 11; refine (toDisk_any _ _ _ _ _ _ _ bs ps ?_ ?_ L1.out L2.out).mono ?_; exact HB.out.later HW5.out.drew; exact HP.out.later HW5.out.drew; rintro e w6 ⟨gB, iB, jB, gC, iC, jC, rfl, hb6, hd6⟩; have z0 := cell_later hb6 y0; have z1 := cell_later hb6 y1; have HB6 : Hid (Below w5.heap.size w5 w6) := (Below.refl _ _).drew.trans hb6; have HD6 : Hid (IntsS w6 (.slice gB iB jB) bs ∧ Puts w6 (.slice gC iC jC) ps) := ⟨hd6.ints, hd6.puts⟩; clear hb6 hd6)
    | (go_at_call 13; refine (eqDisk_true _ _ _ _ _ bs ps ?_ ?_ ?_ ?_).mono ?_; exact HI5.out.later HB6.out; exact HJ5.out.later HB6.out; exact HD6.out.1; exact HD6.out.2; rintro e w7 ⟨rfl, hb7⟩; have HB7 : Hid (Below w6.heap.size w6 w7) := hb7; clear hb7))
  all_goals
    go_wp2
    go_ret
    exact ⟨rfl, (HW5.out.trans (HB6.out.mono HW5.out.size)).trans (HB7.out.mono (Nat.le_trans HW5.out.size HB6.out.size))⟩

theorem lawFault_any (w : World) (vB vC : Value) (bs : List (List Int)) (ps : List (Int × List Int)) (hB : IntsS w vB bs) (hP : Puts w vC ps) :
    Calls Try.prog 3 #[.agg #[vB, vC]] w fun e w' => e = .returned (.bool true) ∧ Below w.heap.size w w' := by
  obtain ⟨aB, cB, rfl, _, _⟩ := hB.open'
  obtain ⟨aC, cC, rfl, _, _⟩ := hP.open'
  by_cases h : dsize bs ps ≤ 1048576
  · exact lawFault_small w aB aC _ cB _ cC bs ps hB hP h
  · exact lawFault_big w aB aC _ cB _ cC bs ps hB hP (by omega)
end Go.Proofs.Ytjliefpfbjkokag

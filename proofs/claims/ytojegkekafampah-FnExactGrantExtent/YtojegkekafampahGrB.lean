
/- GrantExtent, the program's: anyMeets and withExtent. -/
import Derived.Test.YtojegkekafampahGrA
import Derived.Test.YtojegkekafampahRevA
namespace Go.Proofs.Ytojegkekafampah
open Go.RowKit
set_option maxRecDepth 100000

set_option maxHeartbeats 1600000 in
theorem anyMeets_walk (w : World) (aE : Option Addr) (nE cE nB : Nat) (es : List E3) (gx gy gz : Int) (hnE : es.length = nE) (hE : AtE w aE nE es) (h8 : nE ≤ 8) (h60 : nB ≤ 60) (hr : ∀ i, i < nE → rightB (extAt es i) nB = true) (hg : rightB (gx, gy, gz) nB = true) :
    Calls Try.prog 49 #[.slice aE nE cE, .agg #[.int .i64 gx, .int .i64 gy, .int .i64 gz]] w fun e w' => e = .returned (.bool (anyMeet es (gx, gy, gz))) ∧ Below w.heap.size w w' := by
  have HN : Hid (es.length = nE) := hnE
  have HE : Hid (AtE w aE nE es) := hE
  have HR : Hid (∀ i, i < nE → rightB (extAt es i) nB = true) := hr
  have hq := rightB_iff.1 hg
  dsimp only at hq
  have hq0 : 0 ≤ gx := by omega
  have hq1 : gx ≤ 60 := by omega
  have hr0 : 0 ≤ gy := by omega
  have hr1 : gy ≤ 60 := by omega
  clear hnE hE hr hg hq
  go_enter Try.func49, Try.ntmps49
  go_wp2
  go_loopw [9] (fun i wr => ∃ j : Nat, j ≤ nE ∧ i = .int .i64 j ∧ Below w.heap.size w wr ∧ Bx wr w.heap.size [.int .i64 gx, .int .i64 gy, .int .i64 gz] ∧ ∀ i : Nat, i < j → meetB (extAt es i) (gx, gy, gz) = false) (fun i _ => nE - (intOf i).toNat)
  case atStart => exact ⟨0, Nat.zero_le _, rfl, later1 _ _, Bx.new w [.int .i64 gx, .int .i64 gy, .int .i64 gz] _, fun i hi => by omega⟩
  case round =>
    obtain ⟨j, hj, rfl, hbl, hbx, hall⟩ := hrel
    have HA : Hid (∀ i : Nat, i < j → meetB (extAt es i) (gx, gy, gz) = false) := hall
    have HBL : Hid (Below w.heap.size w wr) := hbl
    have HBX : Hid (Bx wr w.heap.size [.int .i64 gx, .int .i64 gy, .int .i64 gz]) := hbx
    have hzw : w.heap.size < wr.heap.size := hbx.lt
    have g0 := hbx 0 _ rfl
    have g1 := hbx 1 _ rfl
    have g2 := hbx 2 _ rfl
    clear hall hbl hbx
    by_cases hlt : j < nE
    · obtain ⟨b, off, rfl, c0, c1, c2⟩ := HE.out j hlt
      replace c0 := cell_later HBL.out c0
      replace c1 := cell_later HBL.out c1
      replace c2 := cell_later HBL.out c2
      have hq := rightB_iff.1 (HR.out j hlt)
      have HX : Hid (extAt es j = ((es[j]?.getD (0, 0, 0)).1, (es[j]?.getD (0, 0, 0)).2.1, (es[j]?.getD (0, 0, 0)).2.2)) := rfl
      rw [HX.out] at hq
      dsimp only at hq
      generalize (es[j]?.getD (0, 0, 0)).1 = p at *
      generalize (es[j]?.getD (0, 0, 0)).2.1 = y at *
      generalize (es[j]?.getD (0, 0, 0)).2.2 = z at *
      have hp0 : 0 ≤ p := by omega
      have hp1 : p ≤ 60 := by omega
      have hy0 : 0 ≤ y := by omega
      have hy1 : y ≤ 60 := by omega
      clear hq
      cases hh : meetB (p, y, z) (gx, gy, gz)
      · have HQ : Hid (meetB (p, y, z) (gx, gy, gz) = false) := hh
        have HH : Hid (meetB (extAt es j) (gx, gy, gz) = false) := by unfold Hid; rw [HX.out]; exact hh
        clear hh
        go_wp2_with fail
        refine (meets_any _ p y z gx gy gz hp0 hp1 hy0 hy1 hq0 hq1 hr0 hr1).mono ?_
        rw [HQ.out]
        rintro e w2 ⟨rfl, hb2⟩
        have HB2 : Hid (Below wr.heap.size wr w2) := (later1 _ _).trans (hb2.mono (by simp))
        clear hb2
        go_wp2
        go_roundw
        case rel =>
          refine ⟨j + 1, by omega, by go_num, HBL.out.trans (HB2.out.mono HBL.out.size), HBX.out.later HB2.out, fun i hi => ?_⟩
          by_cases e : i = j
          · subst e; exact HH.out
          · exact HA.out i (by omega)
        case measure => simp [intOf]; omega
      · have HQ : Hid (meetB (p, y, z) (gx, gy, gz) = true) := hh
        have HZ : Hid (anyMeet es (gx, gy, gz) = true) := anyMeet_at (j := j) (by rw [HN.out]; exact hlt) (by rw [HX.out]; exact hh)
        clear hh
        go_wp2_with fail
        refine (meets_any _ p y z gx gy gz hp0 hp1 hy0 hy1 hq0 hq1 hr0 hr1).mono ?_
        rw [HQ.out]
        rintro e w2 ⟨rfl, hb2⟩
        have HB2 : Hid (Below wr.heap.size wr w2) := (later1 _ _).trans (hb2.mono (by simp))
        clear hb2
        go_wp2
        go_ret
        exact ⟨by rw [HZ.out]; rfl, HBL.out.trans (HB2.out.mono HBL.out.size)⟩
    · have e : j = nE := by omega
      subst e
      have HZ : Hid (anyMeet es (gx, gy, gz) = false) := anyMeet_none (fun i hi => HA.out i (by rw [HN.out] at hi; exact hi))
      go_wp2
      go_ret
      exact ⟨by rw [HZ.out]; rfl, HBL.out⟩
end Go.Proofs.Ytojegkekafampah

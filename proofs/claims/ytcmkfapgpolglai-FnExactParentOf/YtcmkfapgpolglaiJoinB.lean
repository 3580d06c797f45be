
/- The path ahead of the last name, and joining: the specification's side. -/
import Derived.Test.YtcmkfapgpolglaiJoinA
import Derived.Test.YtcmkfapgpolglaiLstB
namespace Go.Proofs.Ytcmkfapgpolglai
open Go.RowKit
set_option maxRecDepth 100000

theorem namesL_mem (p : List UInt8) (hp : p.length ≤ 1048576) (k : Nat) : ((namesL p)[k]?.getD []).length ≤ 1048576 := by
  unfold namesL
  split
  · simp
  · cases p with
    | nil => simp [restN]
    | cons b t => have := cutB_mem t k; simp at hp; show ((cutB t)[k]?.getD []).length ≤ _; omega
def parT (p : List UInt8) : List UInt8 := if lastC p = 0 then joinT ((namesL p).take ((namesL p).length - 1)) else []

set_option maxHeartbeats 1600000 in
theorem specParent_code (w : World) (p : List UInt8) (z : Int) (hz : ¬ z = 0) (HC : Hid (∀ W, Calls Try.prog 75 #[.string (mkB p)] W fun e w' => e = .returned (.tuple #[.slice none 0 0, .string ⟨#[]⟩, .int .i64 z]) ∧ Below W.heap.size W w')) :
    Calls Try.prog 33 #[.string (mkB p)] w fun e w' => e = .returned (.agg #[.int .i64 z, .string ⟨#[]⟩]) ∧ Below w.heap.size w w' := by
  have hne : (z != 0) = true := by simpa using hz
  clear hz
  go_enter Try.func33, Try.ntmps33
  go_wp2_with fail
  refine (HC.out _).mono ?_
  rintro e w1 ⟨rfl, hb1⟩
  have HW1 : Hid (Below w.heap.size w w1) := (later1 _ _).trans (hb1.mono (by simp))
  have HR := (OwnRow.newS w (.int .i64 0) (.string ⟨#[]⟩) 58).block (hb1.block w.heap.size (by simp))
  have t0 := HR.cell (i := 0) (by omega)
  have t1 := HR.cell (i := 1) (by omega)
  have s0 := HR.frozen 0
  have s1 := HR.frozen 1
  simp at t0 t1
  clear hb1 HR HC
  go_wp2
  exact bodyPost_ret (v := .agg #[.int .i64 z, .string ⟨#[]⟩]) (by simp [results, Try.results33, go_sem, t0, t1]) rfl ⟨rfl, (HW1.out.setCell (by simp) _).setCell (by simp) _⟩

set_option maxHeartbeats 1600000 in
theorem specParent_ok (w : World) (p : List UInt8) (hp : p.length ≤ 1048576) (h : pathF p = 0) (m : Nat) (h0 : (namesL p).length = m + 1) :
    Calls Try.prog 33 #[.string (mkB p)] w fun e w' => e = .returned (.agg #[.int .i64 0, .string (mkB (joinT ((namesL p).take m)))]) ∧ Below w.heap.size w w' := by
  have HC : Hid (∀ W, Calls Try.prog 75 #[.string (mkB p)] W fun e w' => ∃ A C v, e = .returned (.tuple #[.slice A m C, .string v, .int .i64 0]) ∧ Below W.heap.size W w' ∧ AtT w' A m (namesL p)) := fun W => (l3Last_ok W p h m h0).mono (by rintro e w' ⟨A, C, rfl, hb, ha⟩; exact ⟨A, C, _, rfl, hb, ha⟩)
  have HX : Hid (∀ k : Nat, ((namesL p)[k]?.getD []).length ≤ 1048576) := fun k => namesL_mem p hp k
  have hml : m ≤ 1048577 := by have := namesL_len p; omega
  have hle : m ≤ (namesL p).length := by omega
  clear h h0
  generalize namesL p = xs at *
  have HLE : Hid (m ≤ xs.length) := hle
  clear hle
  go_enter Try.func33, Try.ntmps33
  go_wp2_with fail
  refine (HC.out _).mono ?_
  rintro e w1 ⟨A, C, v, rfl, hb1, hat⟩
  have HAT : Hid (AtT w1 A m xs) := hat
  have HW1 : Hid (Below w.heap.size w w1) := (later1 _ _).trans (hb1.mono (by simp))
  have HR := (OwnRow.newS w (.int .i64 0) (.string ⟨#[]⟩) 58).block (hb1.block w.heap.size (by simp))
  have t0 := HR.cell (i := 0) (by omega)
  have t1 := HR.cell (i := 1) (by omega)
  have s0 := HR.frozen 0
  have s1 := HR.frozen 1
  simp at t0 t1
  clear hb1 HR HC hat
  go_wp2_with fail
  refine (l3Join_any _ A m C xs HLE.out hml HX.out HAT.out).mono ?_
  generalize hy : joinT (xs.take m) = y
  have HY : Hid (joinT (xs.take m) = y) := hy
  clear hy
  rintro e w2 ⟨rfl, rfl⟩
  go_wp2
  exact bodyPost_ret (v := .agg #[.int .i64 0, .string (mkB y)]) (by simp [results, Try.results33, go_sem, t0, t1]) rfl ⟨by rw [HY.out], (HW1.out.setCell (by simp) _).setCell (by simp) _⟩

theorem specParent_any (w : World) (p : List UInt8) (hp : p.length ≤ 1048576) :
    Calls Try.prog 33 #[.string (mkB p)] w fun e w' => e = .returned (.agg #[.int .i64 (lastC p), .string (mkB (parT p))]) ∧ Below w.heap.size w w' := by
  by_cases h : pathF p = 0
  · rcases hm : (namesL p).length with _ | m
    · refine (specParent_code w p 4 (by decide) (fun W => l3Last_none W p h hm)).mono ?_
      rintro e w' ⟨rfl, hb⟩
      have hc : lastC p = 4 := by unfold lastC; rw [if_pos h, if_pos hm]
      exact ⟨by unfold parT; rw [hc]; rfl, hb⟩
    · refine (specParent_ok w p hp h m hm).mono ?_
      rintro e w' ⟨rfl, hb⟩
      have hc : lastC p = 0 := by unfold lastC; rw [if_pos h, if_neg (by omega)]
      exact ⟨by unfold parT; rw [hc, if_pos rfl, hm]; rfl, hb⟩
  · refine (specParent_code w p (pathF p) h (fun W => l3Last_bad W p h)).mono ?_
    rintro e w' ⟨rfl, hb⟩
    have hc : lastC p = pathF p := by unfold lastC; rw [if_neg h]
    exact ⟨by unfold parT; rw [hc, if_neg h]; rfl, hb⟩
end Go.Proofs.Ytcmkfapgpolglai


/- The last name of a path: the program's side, and the law. -/
import Derived.Test.YtcmkfapgpolglaaLstB
namespace Go.Proofs.Ytcmkfapgpolglaa
open Go.RowKit
set_option maxRecDepth 100000

set_option maxHeartbeats 1600000 in
theorem implLast_code (w : World) (p : List UInt8) (z : Int) (hz : ¬ z = 0) (HC : Hid (∀ W, Calls Try.prog 86 #[.string (mkB p)] W fun e w' => e = .returned (.tuple #[.slice none 0 0, .int .i64 z]) ∧ Below W.heap.size W w')) :
    Calls Try.prog 35 #[.string (mkB p)] w fun e w' => e = .returned (.agg #[.int .i64 z, .string ⟨#[]⟩]) ∧ Below w.heap.size w w' := by
  have hne : (z != 0) = true := by simpa using hz
  clear hz
  go_enter Try.func35, Try.ntmps35
  go_wp2_with fail
  refine (HC.out _).mono ?_
  rintro e w1 ⟨rfl, hb1⟩
  have HW1 : Hid (Below w.heap.size w w1) := (later1 _ _).trans (hb1.mono (by simp))
  have HR := (OwnRow.newS w (.int .i64 0) (.string ⟨#[]⟩) 69).block (hb1.block w.heap.size (by simp))
  have t0 := HR.cell (i := 0) (by omega)
  have t1 := HR.cell (i := 1) (by omega)
  have s0 := HR.frozen 0
  have s1 := HR.frozen 1
  simp at t0 t1
  clear hb1 HR HC
  go_wp2
  exact bodyPost_ret (v := .agg #[.int .i64 z, .string ⟨#[]⟩]) (by simp [results, Try.results35, go_sem, t0, t1]) rfl ⟨rfl, (HW1.out.setCell (by simp) _).setCell (by simp) _⟩

set_option maxHeartbeats 3200000 in
theorem implLast_ok (w : World) (p : List UInt8) (hp : p.length ≤ 1048576) (h : pathF p = 0) (m : Nat) (h0 : (namesL p).length = m + 1) :
    Calls Try.prog 35 #[.string (mkB p)] w fun e w' => e = .returned (.agg #[.int .i64 0, .string (mkB ((namesL p)[m]?.getD []))]) ∧ Below w.heap.size w w' := by
  have HC : Hid (∀ W, Calls Try.prog 86 #[.string (mkB p)] W fun e w' => ∃ a c, e = .returned (.tuple #[.slice a (m + 1) c, .int .i64 0]) ∧ Below W.heap.size W w' ∧ AtT w' a (m + 1) (namesL p) ∧ m + 1 ≤ c) := fun W => nwl_ok W p hp h m h0
  have hml : m + 1 ≤ 1048577 := by have := namesL_len p; omega
  clear h h0
  generalize namesL p = xs at *
  have hnm : ((m + 1 : Nat) : Int) - 1 = (m : Int) := by omega
  have hwr : IntKind.i64.wrap (m : Int) = (m : Int) := by rw [IntKind.wrap_i64]; omega
  have hmm : m < m + 1 := by omega
  generalize hM : m + 1 = M at *
  go_enter Try.func35, Try.ntmps35
  go_wp2_with fail
  refine (HC.out _).mono ?_
  rintro e w1 ⟨a, c, rfl, hb1, hat, _⟩
  have HW1 : Hid (Below w.heap.size w w1) := (later1 _ _).trans (hb1.mono (by simp))
  have HR := (OwnRow.newS w (.int .i64 0) (.string ⟨#[]⟩) 69).block (hb1.block w.heap.size (by simp))
  have t0 := HR.cell (i := 0) (by omega)
  have t1 := HR.cell (i := 1) (by omega)
  have s0 := HR.frozen 0
  have s1 := HR.frozen 1
  simp at t0 t1
  obtain ⟨b, off, rfl, c0⟩ := hat m hmm
  generalize hy : xs[m]?.getD [] = y at c0 ⊢
  have HY : Hid (xs[m]?.getD [] = y) := hy
  clear hb1 HR HC hat hy
  go_wp2
  exact bodyPost_ret (v := .agg #[.int .i64 0, .string (mkB y)]) (by simp [results, Try.results35, go_sem, t0, t1]) rfl ⟨by rw [HY.out], (HW1.out.setCell (by simp) _).setCell (by simp) _⟩

theorem implLast_any (w : World) (p : List UInt8) (hp : p.length ≤ 1048576) :
    Calls Try.prog 35 #[.string (mkB p)] w fun e w' => e = .returned (.agg #[.int .i64 (lastC p), .string (mkB (lastT p))]) ∧ Below w.heap.size w w' := by
  by_cases h : pathF p = 0
  · rcases hm : (namesL p).length with _ | m
    · refine (implLast_code w p 4 (by decide) (fun W => nwl_none W p hp h hm)).mono ?_
      rintro e w' ⟨rfl, hb⟩
      have : namesL p = [] := List.length_eq_zero_iff.1 hm
      exact ⟨by unfold lastT lastC; rw [if_pos h, if_pos h, if_pos hm, this]; rfl, hb⟩
    · refine (implLast_ok w p hp h m hm).mono ?_
      rintro e w' ⟨rfl, hb⟩
      exact ⟨by unfold lastT lastC; rw [if_pos h, if_pos h, if_neg (by omega), hm]; rfl, hb⟩
  · refine (implLast_code w p (pathF p) h (fun W => nwl_bad W p hp h)).mono ?_
    rintro e w' ⟨rfl, hb⟩
    exact ⟨by unfold lastT lastC; rw [if_neg h, if_neg h]; rfl, hb⟩

end Go.Proofs.Ytcmkfapgpolglaa


/- The last name of a path: the specification's side. -/
import Derived.Test.YtcmkfapgpolglaiCutD
namespace Go.Proofs.Ytcmkfapgpolglai
open Go.RowKit
set_option maxRecDepth 100000

def lastC (p : List UInt8) : Int := if pathF p = 0 then (if (namesL p).length = 0 then 4 else 0) else pathF p
def lastT (p : List UInt8) : List UInt8 := if pathF p = 0 then (namesL p)[(namesL p).length - 1]?.getD [] else []

theorem ownsRow_cap {w : World} {B : Nat} {e : TypeId} {a : Option Addr} {n m c : Nat} {xs : List Value} (h : w.ownsRow B e 1 (.slice a n c) m xs) : n ≤ c := by
  rcases h.2 with ⟨h1, _⟩ | ⟨g, cap, cur, h1, _, _, h2, _⟩ <;> simp only [Value.slice.injEq] at h1 <;> omega
theorem slice_takeT (a : Option Addr) (n c j : Nat) (hj : j ≤ c) :
    ∃ A C, (∀ W : World, (Instr.slice 50 (.slice a n c) none (some (.int .i64 (j : Int))) none).run Try.prog W = .ok (.slice A j C) W) ∧ ∀ (W : World) (xs : List (List UInt8)), j ≤ n → AtT W a n xs → AtT W A j xs := by
  obtain ⟨i, hi, _⟩ := info_parts Try.infoStr
  refine ⟨if c = 0 then a else a.map (·.add (0 * 1)), c - 0, fun W => ?_, fun W xs hjn h => ?_⟩
  · simp [Instr.slice, Instr.sliceBounds, Instr.sliceBound, asIntOf, run_underlying Try.underlying50, sizeOf, typeInfo, hi, hj]
  · by_cases hc : c = 0
    · intro k hk; omega
    · rw [if_neg hc]
      intro k hk
      obtain ⟨b, off, e, r⟩ := h k (by omega)
      subst e
      exact ⟨b, off, by simp [Addr.add], r⟩

set_option maxHeartbeats 1600000 in
theorem l3Last_bad (w : World) (p : List UInt8) (h : ¬ pathF p = 0) :
    Calls Try.prog 75 #[.string (mkB p)] w fun e w' => e = .returned (.tuple #[.slice none 0 0, .string ⟨#[]⟩, .int .i64 (pathF p)]) ∧ Below w.heap.size w w' := by
  have HC : Hid (Calls Try.prog 62 #[.string (mkB p)] w fun e w' => e = .returned (.tuple #[.slice none 0 0, .int .i64 (pathF p)]) ∧ Below w.heap.size w w') := specSplit_bad w p h
  generalize pathF p = z at *
  have hz1 : (z != 0) = true := by simpa using h
  clear h
  go_enter Try.func75, Try.ntmps75
  go_wp2_with fail
  refine HC.out.mono ?_
  rintro e w1 ⟨rfl, hb1⟩
  have HB : Hid (Below w.heap.size w w1) := hb1
  clear HC hb1
  go_wp2
  go_ret3
  exact ⟨rfl, HB.out⟩

set_option maxHeartbeats 1600000 in
theorem l3Last_none (w : World) (p : List UInt8) (h : pathF p = 0) (h0 : (namesL p).length = 0) :
    Calls Try.prog 75 #[.string (mkB p)] w fun e w' => e = .returned (.tuple #[.slice none 0 0, .string ⟨#[]⟩, .int .i64 4]) ∧ Below w.heap.size w w' := by
  have HC := specSplit_ok w p h
  rw [h0] at HC
  have HCC := HC.mono (R' := fun e w' => ∃ a c, e = .returned (.tuple #[.slice a 0 c, .int .i64 0]) ∧ Below w.heap.size w w') (by rintro e w' ⟨a, c, rfl, hb, _⟩; exact ⟨a, c, rfl, hb⟩)
  have HD : Hid (Calls Try.prog 62 #[.string (mkB p)] w fun e w' => ∃ a c, e = .returned (.tuple #[.slice a 0 c, .int .i64 0]) ∧ Below w.heap.size w w') := HCC
  clear h h0 HC HCC
  go_enter Try.func75, Try.ntmps75
  go_wp2_with fail
  refine HD.out.mono ?_
  rintro e w1 ⟨a, c, rfl, hb1⟩
  have HB : Hid (Below w.heap.size w w1) := hb1
  clear HD hb1
  go_wp2
  go_ret3
  exact ⟨rfl, HB.out⟩

set_option maxHeartbeats 1600000 in
theorem l3Last_ok (w : World) (p : List UInt8) (h : pathF p = 0) (m : Nat) (h0 : (namesL p).length = m + 1) :
    Calls Try.prog 75 #[.string (mkB p)] w fun e w' => ∃ A C, e = .returned (.tuple #[.slice A m C, .string (mkB ((namesL p)[m]?.getD [])), .int .i64 0]) ∧ Below w.heap.size w w' ∧ AtT w' A m (namesL p) := by
  have HC := specSplit_ok w p h
  have HD : Hid (Calls Try.prog 62 #[.string (mkB p)] w fun e w' => ∃ a c, e = .returned (.tuple #[.slice a (m + 1) c, .int .i64 0]) ∧ Below w.heap.size w w' ∧ w'.ownsRow w.heap.size 9 1 (.slice a (m + 1) c) (namesL p).length ((namesL p).map strV)) := HC.mono (by
    rintro e w' ⟨a, c, rfl, hb, hr⟩
    exact ⟨a, c, by rw [h0], hb, by rw [← h0]; exact hr⟩)
  have hml : m + 1 ≤ 1048577 := by
    have h2 : pathF p = if 30 < p.length then 2 else if preB p = true then (if sufB p = true ∧ topB p = false then 5 else if 6 < (namesL p).length then 2 else namesF (namesL p)) else 5 := rfl
    rw [h] at h2
    split at h2
    · omega
    · have := namesL_len p; omega
  clear h HC h0
  generalize namesL p = xs at *
  have hnz : (((m + 1 : Nat) : Int) == 0) = false := by rw [beq_eq_false_iff_ne]; omega
  have hnm : ((m + 1 : Nat) : Int) - 1 = (m : Int) := by omega
  have hwr : IntKind.i64.wrap (m : Int) = (m : Int) := by rw [IntKind.wrap_i64]; omega
  have hmm : m < m + 1 := by omega
  generalize hM : m + 1 = M at *
  go_enter Try.func75, Try.ntmps75
  go_wp2_with fail
  refine HD.out.mono ?_
  rintro e w1 ⟨a, c, rfl, hb1, hrow⟩
  have HB : Hid (Below w.heap.size w w1) := hb1
  have HAT : Hid (AtT w1 a M xs) := (ownsRow_at hrow).2
  obtain ⟨A, C, hrun, htk⟩ := slice_takeT a M c m (by have := ownsRow_cap hrow; omega)
  have HTK : Hid (AtT w1 A m xs) := htk w1 xs (by omega) HAT.out
  obtain ⟨b, off, rfl, c0⟩ := HAT.out m hmm
  generalize hy : xs[m]?.getD [] = y at c0 ⊢
  have HY : Hid (xs[m]?.getD [] = y) := hy
  clear HD hb1 hrow htk hy
  go_wp2
  go_quiet (fail)
  go_wp2
  go_ret3
  exact ⟨A, C, by rw [HY.out]; rfl, below_drewN HB.out nq, HTK.out.later (below_drewN (Below.refl _ _) nq)⟩
end Go.Proofs.Ytcmkfapgpolglai

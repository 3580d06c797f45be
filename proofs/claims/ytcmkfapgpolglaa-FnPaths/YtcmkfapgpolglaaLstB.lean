
/- The last name of a path: both sides. -/
import Derived.Test.YtcmkfapgpolglaaLstA
namespace Go.Proofs.Ytcmkfapgpolglaa
open Go.RowKit
set_option maxRecDepth 100000

theorem lastT_bad {p : List UInt8} (h : ¬ lastC p = 0) : lastT p = [] := by
  unfold lastC at h
  unfold lastT
  by_cases h0 : pathF p = 0
  · rw [if_pos h0] at h ⊢
    have h1 : (namesL p).length = 0 := by
      by_cases e : (namesL p).length = 0
      · exact e
      · rw [if_neg e] at h; omega
    have : namesL p = [] := List.length_eq_zero_iff.1 h1
    rw [this]; rfl
  · rw [if_neg h0]

set_option maxHeartbeats 1600000 in
theorem nwl_bad (w : World) (p : List UInt8) (hp : p.length ≤ 1048576) (h : ¬ pathF p = 0) :
    Calls Try.prog 86 #[.string (mkB p)] w fun e w' => e = .returned (.tuple #[.slice none 0 0, .int .i64 (pathF p)]) ∧ Below w.heap.size w w' := by
  have HC : Hid (∀ W, Calls Try.prog 31 #[.string (mkB p)] W fun e w' => e = .returned (.agg #[.int .i64 (pathF p), .slice none 0 0]) ∧ Below W.heap.size W w') := fun W => implSplit_bad W p hp h
  generalize pathF p = z at *
  have hne : (z != 0) = true := by simpa using h
  clear h
  go_enter Try.func86, Try.ntmps86
  go_wp2_with fail
  refine (HC.out _).mono ?_
  rintro e w1 ⟨rfl, hb1⟩
  have HW1 : Hid (Below w.heap.size w w1) := hb1
  clear HC hb1
  go_wp2
  go_quiet (fail)
  go_wp2
  go_ret2
  exact ⟨rfl, below_drewN (HW1.out.trans ((later1 _ _).mono HW1.out.size)) nq⟩

set_option maxHeartbeats 1600000 in
theorem nwl_none (w : World) (p : List UInt8) (hp : p.length ≤ 1048576) (h : pathF p = 0) (h0 : (namesL p).length = 0) :
    Calls Try.prog 86 #[.string (mkB p)] w fun e w' => e = .returned (.tuple #[.slice none 0 0, .int .i64 4]) ∧ Below w.heap.size w w' := by
  have HC : Hid (∀ W, Calls Try.prog 31 #[.string (mkB p)] W fun e w' => ∃ a c, e = .returned (.agg #[.int .i64 0, .slice a 0 c]) ∧ Below W.heap.size W w') := fun W => (implSplit_ok W p hp h).mono (by
    rintro e w' ⟨a, c, rfl, hb, _⟩
    exact ⟨a, c, by rw [h0], hb⟩)
  clear h h0
  go_enter Try.func86, Try.ntmps86
  go_wp2_with fail
  refine (HC.out _).mono ?_
  rintro e w1 ⟨a, c, rfl, hb1⟩
  have HW1 : Hid (Below w.heap.size w w1) := hb1
  clear HC hb1
  go_wp2
  go_ret2
  exact ⟨rfl, HW1.out.trans ((later1 _ _).mono HW1.out.size)⟩

set_option maxHeartbeats 1600000 in
theorem nwl_ok (w : World) (p : List UInt8) (hp : p.length ≤ 1048576) (h : pathF p = 0) (m : Nat) (h0 : (namesL p).length = m + 1) :
    Calls Try.prog 86 #[.string (mkB p)] w fun e w' => ∃ a c, e = .returned (.tuple #[.slice a (m + 1) c, .int .i64 0]) ∧ Below w.heap.size w w' ∧ AtT w' a (m + 1) (namesL p) ∧ m + 1 ≤ c := by
  have HC : Hid (∀ W, Calls Try.prog 31 #[.string (mkB p)] W fun e w' => ∃ a c, e = .returned (.agg #[.int .i64 0, .slice a (m + 1) c]) ∧ Below W.heap.size W w' ∧ AtT w' a (m + 1) (namesL p) ∧ m + 1 ≤ c) := fun W => (implSplit_ok W p hp h).mono (by
    rintro e w' ⟨a, c, rfl, hb, hr⟩
    rw [h0] at hr
    rw [← h0] at hr
    exact ⟨a, c, by rw [h0], hb, by have := (ownsRow_at hr).2; rwa [h0] at this, by have := ownsRow_cap hr; omega⟩)
  clear h h0
  generalize namesL p = xs at *
  have hnz : (((m + 1 : Nat) : Int) == 0) = false := by rw [beq_eq_false_iff_ne]; omega
  generalize hM : m + 1 = M at *
  go_enter Try.func86, Try.ntmps86
  go_wp2_with fail
  refine (HC.out _).mono ?_
  rintro e w1 ⟨a, c, rfl, hb1, hat, hc⟩
  have HW1 : Hid (Below w.heap.size w w1) := hb1
  have HAT : Hid (AtT w1 a M xs) := hat
  have HCC : Hid (M ≤ c) := hc
  clear HC hb1 hat hc
  go_wp2
  go_ret2
  exact ⟨a, c, rfl, HW1.out.trans ((later1 _ _).mono HW1.out.size), HAT.out.later (later1 _ _), HCC.out⟩
end Go.Proofs.Ytcmkfapgpolglaa

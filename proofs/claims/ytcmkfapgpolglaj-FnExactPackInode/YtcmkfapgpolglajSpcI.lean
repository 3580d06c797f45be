
/- The specification's InodeFault. -/
import Derived.Test.YtcmkfapgpolglajBFor
namespace Go.Proofs.Ytcmkfapgpolglaj
open Go.RowKit
set_option maxRecDepth 100000

theorem l4Size_any (w : World) (x : Int) : Calls Try.prog 46 #[.int .i64 x] w fun e w' => e = .returned (.bool (sizeB x)) ∧ w' = w := by
  go_enter Try.func46, Try.ntmps46
  go_wp2_with fail
  refine (l1In_is (r := sizeB x) rfl).mono ?_
  rintro e w1 ⟨rfl, rfl⟩
  go_wp2
  go_ret
  exact ⟨rfl, rfl⟩
theorem l4For_any (w : World) (x : Int) (h0 : 0 ≤ x) (h1 : x ≤ 32) : Calls Try.prog 47 #[.int .i64 x] w fun e w' => e = .returned (.int .i64 ((x + 7) / 8)) ∧ w' = w := by
  go_enter Try.func47, Try.ntmps47
  go_wp2
  go_ret
  exact ⟨ret_int (by omega), rfl⟩
theorem specBFor_any (w : World) (x : Int) :
    Calls Try.prog 24 #[.int .i64 x] w fun e w' => e = .returned (.agg #[.int .i64 (bforR x).1, .int .i64 (bforR x).2]) ∧ Below w.heap.size w w' := by
  unfold bforR
  by_cases h : sizeB x = true
  · rw [if_pos h]
    have h01 : 0 ≤ x ∧ x ≤ 32 := by simpa [sizeB] using h
    go_enter Try.func24, Try.ntmps24
    go_wp2_with fail
    refine (l4Size_any _ x).mono ?_
    rw [h]
    rintro e w1 ⟨rfl, rfl⟩
    go_wp2_with fail
    refine (l4For_any _ x h01.1 h01.2).mono ?_
    rintro e w1 ⟨rfl, rfl⟩
    go_wp2
    exact bodyPost_ret (v := .agg #[.int .i64 0, .int .i64 ((x + 7) / 8)]) (by simp [results, Try.results24, go_sem]) rfl ⟨rfl, by first | exact later1 _ _ | exact ((later1 _ _).setCell (by simp) _).setCell (by simp) _⟩
  · rw [if_neg h]
    replace h : sizeB x = false := by simpa using h
    go_enter Try.func24, Try.ntmps24
    go_wp2_with fail
    refine (l4Size_any _ x).mono ?_
    rw [h]
    rintro e w1 ⟨rfl, rfl⟩
    go_wp2
    exact bodyPost_ret (v := .agg #[.int .i64 3, .int .i64 0]) (by simp [results, Try.results24, go_sem]) rfl ⟨rfl, by first | exact later1 _ _ | exact ((later1 _ _).setCell (by simp) _).setCell (by simp) _⟩
end Go.Proofs.Ytcmkfapgpolglaj


/- BlocksFor. -/
import Derived.Test.YtcmkfapgpolglajInoP
import Derived.Test.YtcmkfapgpolglajFault
namespace Go.Proofs.Ytcmkfapgpolglaj
open Go.RowKit
set_option maxRecDepth 100000

theorem implBFor_any (w : World) (x : Int) :
    Calls Try.prog 25 #[.int .i64 x] w fun e w' => e = .returned (.agg #[.int .i64 (bforR x).1, .int .i64 (bforR x).2]) ∧ Below w.heap.size w w' := by
  unfold bforR sizeB
  by_cases h0 : x < 0
  · rw [show decide (0 ≤ x ∧ x ≤ 32) = false by simp; omega]
    go_enter Try.func25, Try.ntmps25
    go_wp2
    exact bodyPost_ret (v := .agg #[.int .i64 3, .int .i64 0]) (by simp [results, Try.results25, go_sem]) rfl ⟨rfl, by first | exact later1 _ _ | exact ((later1 _ _).setCell (by simp) _).setCell (by simp) _ | exact ((later2 _ _ _).setCell (by simp) _).setCell (by simp) _⟩
  · by_cases h1 : 32 < x
    · rw [show decide (0 ≤ x ∧ x ≤ 32) = false by simp; omega]
      go_enter Try.func25, Try.ntmps25
      go_wp2
      exact bodyPost_ret (v := .agg #[.int .i64 3, .int .i64 0]) (by simp [results, Try.results25, go_sem]) rfl ⟨rfl, by first | exact later1 _ _ | exact ((later1 _ _).setCell (by simp) _).setCell (by simp) _ | exact ((later2 _ _ _).setCell (by simp) _).setCell (by simp) _⟩
    · rw [show decide (0 ≤ x ∧ x ≤ 32) = true by simp; omega]
      go_enter Try.func25, Try.ntmps25
      go_wp2
      exact bodyPost_ret (v := .agg #[.int .i64 0, .int .i64 ((x + 7) / 8)]) (by simp [results, Try.results25, go_sem]; omega) rfl ⟨rfl, by first | exact later1 _ _ | exact ((later1 _ _).setCell (by simp) _).setCell (by simp) _⟩
end Go.Proofs.Ytcmkfapgpolglaj


/- The walks of the codes of words and disks, the program's and the specification's. -/
import Derived.Test.YtcmkfapgpolglajRows
import Derived.Test.YtcmkfapgpolglajBuilt
import Derived.Test.YtcmkfapgpolglajPure
namespace Go.Proofs.Ytcmkfapgpolglaj
open Go.RowKit
set_option maxRecDepth 100000

theorem l1In_any (w : World) (v low high : Int) :
    Calls Try.prog 54 #[.int .i64 v, .int .i64 low, .int .i64 high] w fun e w' => e = .returned (.bool (decide (low ≤ v ∧ v ≤ high))) ∧ w' = w := by
  by_cases h1 : low ≤ v
  · by_cases h2 : v ≤ high
    · have e1 : decide (low ≤ v ∧ v ≤ high) = true := by simp [h1, h2]
      rw [e1]
      go_enter Try.func54, Try.ntmps54
      go_wp2
      go_ret
      exact ⟨rfl, rfl⟩
    · have e1 : decide (low ≤ v ∧ v ≤ high) = false := by simp [h2]
      rw [e1]
      go_enter Try.func54, Try.ntmps54
      go_wp2
      go_ret
      exact ⟨rfl, rfl⟩
  · have e1 : decide (low ≤ v ∧ v ≤ high) = false := by simp [h1]
    have hd : decide (low ≤ v) = false := by simpa using h1
    rw [e1]
    go_enter Try.func54, Try.ntmps54
    go_wp2
    go_ret
    exact ⟨rfl, rfl⟩

theorem l1In_is {w : World} {v low high : Int} {r : Bool} (h : decide (low ≤ v ∧ v ≤ high) = r) :
    Calls Try.prog 54 #[.int .i64 v, .int .i64 low, .int .i64 high] w fun e w' => e = .returned (.bool r) ∧ w' = w := by
  subst h; exact l1In_any w v low high

theorem place_l1 (n : Nat) (x : Int) : decide (0 ≤ x ∧ x ≤ (n : Int) - 1) = placeB n x := by
  unfold placeB
  by_cases h : 0 ≤ x ∧ x < (n : Int)
  · simp [h]; omega
  · simp [h]; omega

end Go.Proofs.Ytcmkfapgpolglaj


/- The walks of the comparing functions over puts and disks. -/
import Derived.Test.YtcmkfapgpolglaaEqA
import Derived.Deep.RegionWith
import Derived.Deep.RegionHeld3
namespace Go.Proofs.Ytcmkfapgpolglaa
open Go.RowKit
set_option maxRecDepth 100000

theorem beq_pair1 {a b : Int} (xs ys : List Int) (h : (a != b) = true) : false = ((a, xs) == (b, ys)) := by
  symm; rw [Bool.eq_false_iff]; intro e; simp at h; have := eq_of_beq e; simp at this; exact h this.1
theorem beq_pair2 {a b : Int} {xs ys : List Int} {r : Bool} (h : (a != b) = false) (hr : (xs == ys) = r) : r = ((a, xs) == (b, ys)) := by
  simp at h; subst h; rw [← hr]
  by_cases e : xs = ys
  · simp [e]
  · have h1 : (xs == ys) = false := by simp [e]
    rw [h1]; symm; rw [Bool.eq_false_iff]; intro h2; have := eq_of_beq h2; simp at this; exact e this

end Go.Proofs.Ytcmkfapgpolglaa


/- The marks of texts. -/
import Derived.Test.YtcmkfapgpolglakItB
import Derived.Test.YtcmkfapgpolglakOwn
import Derived.Laws.IdiomStrings
namespace Go.Proofs.Ytcmkfapgpolglak
open Go.RowKit

/-- The digits of a number ahead of what stands. -/
def dg (k : Nat) (acc : List UInt8) : List UInt8 := if h : k = 0 then acc else dg (k / 10) (UInt8.ofNat (48 + k % 10) :: acc)
termination_by k
decreasing_by omega

theorem mkB_app (a b : List UInt8) : mkB a ++ mkB b = mkB (a ++ b) := by
  have h : (mkB a ++ mkB b).data.toList = a ++ b := by simp [mkB]
  rw [← mkB_data (mkB a ++ mkB b), h]
end Go.Proofs.Ytcmkfapgpolglak

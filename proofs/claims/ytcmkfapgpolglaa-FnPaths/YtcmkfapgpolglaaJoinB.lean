
/- The path ahead of the last name, and joining: the specification's side. -/
import Derived.Test.YtcmkfapgpolglaaJoinA
import Derived.Test.YtcmkfapgpolglaaLstB
namespace Go.Proofs.Ytcmkfapgpolglaa
open Go.RowKit
set_option maxRecDepth 100000

theorem namesL_mem (p : List UInt8) (hp : p.length ≤ 1048576) (k : Nat) : ((namesL p)[k]?.getD []).length ≤ 1048576 := by
  unfold namesL
  split
  · simp
  · cases p with
    | nil => simp [restN]
    | cons b t => have := cutB_mem t k; simp at hp; show ((cutB t)[k]?.getD []).length ≤ _; omega
def parT (p : List UInt8) : List UInt8 := if lastC p = 0 then joinT ((namesL p).take ((namesL p).length - 1)) else []

end Go.Proofs.Ytcmkfapgpolglaa


/- The iterator that tells the names of a path: its contract. -/
import Derived.RangeFuncNested
import Derived.RangeFuncBound
import Derived.RangeFuncCalls
import Derived.RangeFuncLeaves
import Derived.RangeFuncFrom
import Derived.Shelf.Abstract
import Derived.Shelf.RegionOpen
import Derived.WalkKit
import Derived.OwnWalkIn
import Derived.TacticsInMore
import Derived.LoopNIn
import Derived.LoopIn
import Derived.Test.YtcmkfapgpolglakIdxS
namespace Go.Proofs.Ytcmkfapgpolglak
open Go.RowKit Go.Shelf
attribute [local go_sem] Oper.semAt_some

/-- A text that is no longer than a row takes. -/
abbrev BL := { l : List UInt8 // l.length ≤ 1048576 }
/-- A name as it is told. -/
abbrev encB (x : BL) : Array Value := #[.string (mkB x.1)]
abbrev txt (pre : List BL) : List (List UInt8) := pre.map (·.1)
theorem mkB_toList (l : List UInt8) : (mkB l).toList = l := by rw [ByteArray.toList_eq, mkB_list]
def strLen : Value → Nat
  | .string s => s.size
  | _ => 0

end Go.Proofs.Ytcmkfapgpolglak

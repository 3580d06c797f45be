
/- The walks of the marking and holding functions over slices. -/
import Derived.Test.YtcmkfapgpolglakRows
import Derived.Test.YtcmkfapgpolglakOwn
namespace Go.Proofs.Ytcmkfapgpolglak
open Go.RowKit

/-- What stands in the inner list i while the first j are marked. -/
def half (k : Int) (zss : List (List Int)) (j i : Nat) : List Int := if i < j then marks (k + (upto (zss.map List.length) i : Nat)) (zss[i]?.getD []).length else zss[i]?.getD []

end Go.Proofs.Ytcmkfapgpolglak


/- Lists of texts: marking, holding, comparing. -/
import Derived.Test.YtcmkfapgpolglakMrkT
import Derived.Test.YtcmkfapgpolglakCutB
import Derived.Deep.RegionHeld3
namespace Go.Proofs.Ytcmkfapgpolglak
open Go.RowKit

def mkT (k : Nat) : Value := .string (mkB (109 :: dg k []))

end Go.Proofs.Ytcmkfapgpolglak

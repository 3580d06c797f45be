
/- Lists of texts: marking, holding, comparing. -/
import Derived.Test.YtcmkfapgpolglajMrkT
import Derived.Test.YtcmkfapgpolglajCutB
import Derived.Deep.RegionHeld3
namespace Go.Proofs.Ytcmkfapgpolglaj
open Go.RowKit
set_option maxRecDepth 100000

def mkT (k : Nat) : Value := .string (mkB (109 :: dg k []))

end Go.Proofs.Ytcmkfapgpolglaj

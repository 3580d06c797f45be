
/- The walks of the laws' functions over lists of extents. -/
import Derived.Test.YtcmkfapgpolglajRows
import Derived.Test.YtcmkfapgpolglajExtA
import Derived.Test.YtcmkfapgpolglajSz
import Derived.Deep.RegionWith
import Derived.Deep.RegionHeld3
namespace Go.Proofs.Ytcmkfapgpolglaj
open Go.RowKit
set_option maxRecDepth 100000

end Go.Proofs.Ytcmkfapgpolglaj


/- The walks of the laws' functions over lists of extents. -/
import Derived.Test.YtagmmgcdebgfnaaRows
import Derived.Test.YtagmmgcdebgfnaaExtA
import Derived.Test.YtagmmgcdebgfnaaSz
import Derived.Deep.RegionWith
import Derived.Deep.RegionHeld3
namespace Go.Proofs.Ytagmmgcdebgfnaa
open Go.RowKit
set_option maxRecDepth 100000

end Go.Proofs.Ytagmmgcdebgfnaa

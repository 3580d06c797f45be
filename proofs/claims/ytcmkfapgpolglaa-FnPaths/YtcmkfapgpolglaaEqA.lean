
/- The walks of the comparing functions over slices of integers and of slices. -/
import Derived.Test.YtcmkfapgpolglaaRows
import Derived.Test.YtcmkfapgpolglaaBase
namespace Go.Proofs.Ytcmkfapgpolglaa
open Go.RowKit
set_option maxRecDepth 100000

end Go.Proofs.Ytcmkfapgpolglaa

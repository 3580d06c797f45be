
/- The last name of a path: the program's side, and the law. -/
import Derived.Test.YtcmkfapgpolglaiLstB
namespace Go.Proofs.Ytcmkfapgpolglai
open Go.RowKit
set_option maxRecDepth 100000

end Go.Proofs.Ytcmkfapgpolglai

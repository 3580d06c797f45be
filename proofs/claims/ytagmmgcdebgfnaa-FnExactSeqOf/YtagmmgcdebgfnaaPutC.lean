
/- The walk of the program's PutBlock. -/
import Derived.Test.YtagmmgcdebgfnaaPutB
namespace Go.Proofs.Ytagmmgcdebgfnaa
open Go.RowKit
set_option maxRecDepth 100000

end Go.Proofs.Ytagmmgcdebgfnaa

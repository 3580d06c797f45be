
/- WriteKern, the specification's. -/
import Derived.Test.YtojegkekafampaiWrkC
namespace Go.Proofs.Ytojegkekafampai
open Go.RowKit
set_option maxRecDepth 100000

end Go.Proofs.Ytojegkekafampai

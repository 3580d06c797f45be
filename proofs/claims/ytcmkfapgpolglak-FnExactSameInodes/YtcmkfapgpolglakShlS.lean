
/- Contracts of the library, laid from the shelf for this program. -/
import Derived.Shelf.Small.Strs
import Derived.Shelf.LaysM
import Derived.Shelf.Strconv.Clone
import Derived.Shelf.Strings.Search1
import Derived.Shelf.Strings.Prefix
import Derived.Shelf.Slices.Equal
import Derived.Shelf.Slices.Empties2
import Derived.Test.YtcmkfapgpolglakRows
namespace Go.Proofs.Ytcmkfapgpolglak
open Go.Shelf Go.RowKit Go.Lib
end Go.Proofs.Ytcmkfapgpolglak

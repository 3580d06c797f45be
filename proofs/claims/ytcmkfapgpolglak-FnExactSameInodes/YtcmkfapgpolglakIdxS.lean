
/- The library's IndexByte, laid from the shelf. -/
import Derived.Shelf.Small.Strs
import Derived.Shelf.Strings.Search1
import Derived.Test.YtcmkfapgpolglakStrP
namespace Go.Proofs.Ytcmkfapgpolglak
open Go.RowKit Go.Shelf
end Go.Proofs.Ytcmkfapgpolglak

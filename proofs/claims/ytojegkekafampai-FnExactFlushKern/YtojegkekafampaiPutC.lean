
/- The walk of the program's PutBlock. -/
import Derived.Test.YtojegkekafampaiPutB
namespace Go.Proofs.Ytojegkekafampai
open Go.RowKit
set_option maxRecDepth 100000

theorem resRow {w w1 : World} (x y : Value) (h : Below ((w.alloc (.cells #[x, y] 33)).alloc (.cells #[.int .i64 0, .slice none 0 0, .slice none 0 0] 95)).heap.size ((w.alloc (.cells #[x, y] 33)).alloc (.cells #[.int .i64 0, .slice none 0 0, .slice none 0 0] 95)) w1) :
    OwnRow w1 (w.heap.size + 1) 3 (fun i => if i = 0 then .int .i64 0 else if i = 1 then .slice none 0 0 else .slice none 0 0) := by
  have h2 := (three (w.alloc (.cells #[x, y] 33)) (.int .i64 0) (.slice none 0 0) (.slice none 0 0) 95).later h
  simpa using h2

end Go.Proofs.Ytojegkekafampai

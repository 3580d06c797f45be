
/- Rows told by the list of their values. -/
import Derived.Test.YtagmmgcdebgfnaaUni
namespace Go.Proofs.Ytagmmgcdebgfnaa
open Go.RowKit
set_option maxRecDepth 100000

theorem rowVL (w : World) (vs : List Value) (t : TypeId) : OwnRow (w.alloc (.cells vs.toArray t)) w.heap.size vs.length (fun i => vs[i]?.getD (.int .i64 0)) := by
  refine ⟨_, t, Go.Deep.blk_alloc_new _ _, by simp, fun i hi => ?_⟩
  simp [hi]

def cel (vs : List Value) (i : Nat) : Value := vs[i]?.getD (.int .i64 0)
theorem newCel (w : World) (vs : List Value) (t : TypeId) : OwnRow (w.alloc (.cells vs.toArray t)) w.heap.size vs.length (cel vs) := rowVL w vs t
end Go.Proofs.Ytagmmgcdebgfnaa

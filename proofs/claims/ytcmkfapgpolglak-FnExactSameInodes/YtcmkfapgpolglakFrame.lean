
/- What the rows of this seat share: how a disk that came in is opened. -/
import Derived.Test.YtcmkfapgpolglakRows
import Derived.Test.YtcmkfapgpolglakOpen
namespace Go.Proofs.Ytcmkfapgpolglak
open Go.ChangeShapes Go.WideShapes Go.ChangeAt Go.RowKit Go.Joins

theorem Try.own : ownKnob Try.prog.godebug = none := by kernel_rfl
theorem Try.laidOut : laidOutB Try.prog = true := by kernel_rfl
theorem Try.cellsInt : Try.prog.cellsOf 2 = 1 := by kernel_rfl
theorem Try.cellsInts : Try.prog.cellsOf 22 = 1 := by kernel_rfl

end Go.Proofs.Ytcmkfapgpolglak

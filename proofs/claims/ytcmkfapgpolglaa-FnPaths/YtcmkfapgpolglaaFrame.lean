
/- What the rows of this seat share: how a disk that came in is opened. -/
import Derived.Test.YtcmkfapgpolglaaRows
import Derived.Test.YtcmkfapgpolglaaOpen
namespace Go.Proofs.Ytcmkfapgpolglaa
open Go.ChangeShapes Go.WideShapes Go.ChangeAt Go.RowKit Go.Joins
set_option maxRecDepth 100000

theorem Try.own : ownKnob Try.prog.godebug = none := by kernel_rfl
theorem Try.laidOut : laidOutB Try.prog = true := by kernel_rfl
theorem Try.cellsInt : Try.prog.cellsOf 2 = 1 := by kernel_rfl
theorem Try.cellsInts : Try.prog.cellsOf 36 = 1 := by kernel_rfl

end Go.Proofs.Ytcmkfapgpolglaa


/- What of a path is wrong: the walk of the program's pathFault. -/
import Derived.Test.YtcmkfapgpolglakItC
import Derived.Test.YtcmkfapgpolglakShlS
namespace Go.Proofs.Ytcmkfapgpolglak
open Go.RowKit

def preB (l : List UInt8) : Bool := l.head? == some 47
def sufB (l : List UInt8) : Bool := l.getLast? == some 47
def topB (l : List UInt8) : Bool := l == [47]
theorem pre_lib (l : List UInt8) : Lib.hasPrefix l [47] = preB l := by
  cases l with
  | nil => rfl
  | cons b t => simp [Lib.hasPrefix, preB, List.isPrefixOf]; exact BEq.comm
theorem suf_lib (l : List UInt8) : Lib.hasSuffix l [47] = sufB l := by
  unfold Lib.hasSuffix sufB
  cases h : l.reverse with
  | nil =>
    have : l = [] := by simpa using h
    subst this; rfl
  | cons b t =>
    have : l = t.reverse ++ [b] := by
      have := congrArg List.reverse h
      simpa using this
    subst this
    simp [List.isSuffixOf, List.isPrefixOf]; exact BEq.comm
def pathF (l : List UInt8) : Int :=
  if 30 < l.length then 2 else if preB l = true then (if sufB l = true ∧ topB l = false then 5 else if 6 < (namesL l).length then 2 else namesF (namesL l)) else 5

end Go.Proofs.Ytcmkfapgpolglak


/- Ranges over the names of a path: namesFault. -/
import Derived.Scope
import Derived.Test.YtcmkfapgpolglakItB
namespace Go.Proofs.Ytcmkfapgpolglak
open Go.RowKit Go.Shelf
attribute [local go_sem] Oper.semAt_some

/-- The fault of the first name that has one. -/
def namesF : List (List UInt8) → Int
  | [] => 0
  | x :: t => if nameF (mkB x) = 0 then namesF t else nameF (mkB x)
theorem nameF_cases (s : ByteArray) : nameF s = 0 ∨ nameF s = 2 ∨ nameF s = 5 := by
  unfold nameF
  split
  · simp
  · split
    · split <;> simp
    · simp
theorem namesF_app (a b : List (List UInt8)) : namesF (a ++ b) = if namesF a = 0 then namesF b else namesF a := by
  induction a with
  | nil => simp [namesF]
  | cons x t ih =>
    simp only [List.cons_append, namesF]
    split
    · exact ih
    · rfl
theorem namesF_snoc {a : List (List UInt8)} (x : List UInt8) (h : namesF a = 0) : namesF (a ++ [x]) = nameF (mkB x) := by
  rw [namesF_app, if_pos h]
  simp only [namesF]
  split
  · rename_i h; exact h.symm
  · rfl
theorem namesF_prefix {a b : List (List UInt8)} (h : a <+: b) (hn : ¬ namesF a = 0) : namesF b = namesF a := by
  obtain ⟨t, rfl⟩ := h
  rw [namesF_app, if_neg hn]

end Go.Proofs.Ytcmkfapgpolglak

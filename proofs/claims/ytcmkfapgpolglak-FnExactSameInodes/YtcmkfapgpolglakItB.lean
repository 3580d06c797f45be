
/- Ranges over the names of a path: howMany. -/
import Derived.Test.YtcmkfapgpolglakItA
namespace Go.Proofs.Ytcmkfapgpolglak
open Go.RowKit Go.Shelf
attribute [local go_sem] Oper.semAt_some

theorem cutHead_len (b : UInt8) (ps : List (List UInt8)) (h : ps ≠ []) : (cutHead b ps).length = ps.length := by
  cases ps with
  | nil => exact absurd rfl h
  | cons a t => rfl
theorem cutB_ne (l : List UInt8) : cutB l ≠ [] := by rw [cut_step]; simp
theorem cutB_len (l : List UInt8) : (cutB l).length ≤ l.length + 1 := by
  induction l with
  | nil => simp [cutB]
  | cons b t ih =>
    unfold cutB
    split
    · simp only [List.length_cons]; omega
    · rw [cutHead_len b _ (cutB_ne t)]; simp only [List.length_cons]; omega
theorem namesL_len (l : List UInt8) : (namesL l).length ≤ l.length + 1 := by
  unfold namesL
  split
  · simp
  · cases l with
    | nil => simp [restN]
    | cons b t => have := cutB_len t; simp only [restN, List.length_cons]; omega
theorem cell_new_l (W : World) (v : Value) (t : TypeId) : (W.alloc (.cells #[v] t)).cell? ⟨W.heap.size, 0, none⟩ = some v ∧ (W.alloc (.cells #[v] t)).frozen? ⟨W.heap.size, 0, none⟩ = false := by
  have h : (W.alloc (.cells #[v] t)).heap[W.heap.size]? = some (.cells #[v] t (0, 0)) := World.alloc_heap_new W _
  constructor
  · simp only [World.cell?, h]; rfl
  · simp only [World.frozen?, h]; rfl

end Go.Proofs.Ytcmkfapgpolglak

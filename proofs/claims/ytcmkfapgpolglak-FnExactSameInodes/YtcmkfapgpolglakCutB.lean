
/- The specification's l3Names and l3Split. -/
import Derived.Test.YtcmkfapgpolglakCutA
namespace Go.Proofs.Ytcmkfapgpolglak
open Go.RowKit

/-- How a list of texts reads. -/
def AtT (w : World) (a : Option Addr) (n : Nat) (xs : List (List UInt8)) : Prop := ∀ k, k < n → ∃ b off, a = some ⟨b, off, none⟩ ∧ w.cell? ⟨b, off + k, none⟩ = some (.string (mkB (xs[k]?.getD [])))
theorem AtT.later {w w' : World} {a : Option Addr} {n : Nat} {xs : List (List UInt8)} (h : AtT w a n xs) (hb : Below w.heap.size w w') : AtT w' a n xs := fun k hk => by
  obtain ⟨b, off, e, c⟩ := h k hk
  exact ⟨b, off, e, cell_later hb c⟩
theorem ownsRow_at {w : World} {B : Nat} {e : TypeId} {a : Option Addr} {n c : Nat} {xs : List (List UInt8)} (h : w.ownsRow B e 1 (.slice a n c) xs.length (xs.map strV)) : n = xs.length ∧ AtT w a n xs := by
  obtain ⟨hl, ⟨h1, h2⟩ | ⟨g, cap, cur, h1, h2, h3, h4, h5, h6, h7⟩⟩ := h
  · simp only [Value.slice.injEq] at h1
    exact ⟨by rw [h1.2.1, h2], fun k hk => by rw [h1.2.1] at hk; omega⟩
  · simp only [Value.slice.injEq] at h1
    refine ⟨h1.2.1, fun k hk => ⟨g, 0, h1.1, ?_⟩⟩
    rw [h1.2.1] at hk
    have h8 : (xs.map strV)[k]? = some (.string (mkB (xs[k]?.getD []))) := by rw [List.getElem?_map, List.getElem?_eq_getElem hk]; rfl
    rw [← h7, List.getElem?_take, if_pos (by omega), Array.getElem?_toList] at h8
    rw [Nat.zero_add]
    simp only [World.cell?, h3]
    exact h8
def namesC (xs : List (List UInt8)) : Int := if 6 < xs.length then 2 else namesF xs
theorem namesF_at {xs : List (List UInt8)} {j : Nat} (h : ∀ i, i < j → nameF (mkB (xs[i]?.getD [])) = 0) (hj : j < xs.length) (hn : ¬ nameF (mkB (xs[j]?.getD [])) = 0) : namesF xs = nameF (mkB (xs[j]?.getD [])) := by
  induction xs generalizing j with
  | nil => simp at hj
  | cons x t ih =>
    cases j with
    | zero => simp at hn ⊢; simp [namesF, hn]
    | succ j =>
      have h0 : nameF (mkB x) = 0 := by simpa using h 0 (by omega)
      simp only [namesF, if_pos h0]
      have := ih (j := j) (fun i hi => by simpa using h (i + 1) (by omega)) (by simpa using hj) (by simpa using hn)
      simpa using this
theorem namesF_zero {xs : List (List UInt8)} (h : ∀ i, i < xs.length → nameF (mkB (xs[i]?.getD [])) = 0) : namesF xs = 0 := by
  induction xs with
  | nil => rfl
  | cons x t ih =>
    have h0 : nameF (mkB x) = 0 := by simpa using h 0 (by simp)
    simp only [namesF, if_pos h0]
    exact ih fun i hi => by simpa using h (i + 1) (by simpa using hi)

end Go.Proofs.Ytcmkfapgpolglak


/- The walks of the copying functions. -/
import Derived.Test.YtcmkfapgpolglaaRows
import Derived.Test.YtcmkfapgpolglaaBuilt
namespace Go.Proofs.Ytcmkfapgpolglaa
open Go.RowKit
set_option maxRecDepth 100000

theorem Try.infoInt : (Try.prog.info? 2).map (fun i => (i.zero, i.size, i.bytes)) = some (some (.int .i64 0), 1, 8) := by kernel_rfl
theorem Try.infoInts : (Try.prog.info? 36).map (fun i => (i.zero, i.size, i.bytes)) = some (some (.slice none 0 0), 1, 24) := by kernel_rfl

theorem len_le_sum (zss : List (List Int)) : ∀ k : Nat, (zss[k]?.getD []).length ≤ (zss.map List.length).sum := by
  intro k
  by_cases h : k < zss.length
  · have h1 := upto_succ (zss.map List.length) k (by simpa using h)
    rw [lens_get] at h1
    have h2 := upto_le (zss.map List.length) (k + 1)
    omega
  · rw [List.getElem?_eq_none (by omega)]; simp
theorem wlen_le_sum (ps : List (Int × List Int)) : ∀ k : Nat, (ps[k]?.getD (0, [])).2.length ≤ (wlens ps).sum := by
  intro k
  by_cases h : k < ps.length
  · have h1 := upto_succ (wlens ps) k (by rw [wlens_length]; exact h)
    rw [wlens_get] at h1
    have h2 := upto_le (wlens ps) (k + 1)
    omega
  · rw [List.getElem?_eq_none (by omega)]; simp

theorem Try.infoPut : (Try.prog.info? 38).map (fun i => (i.zero, i.size, i.bytes)) = some (some (.agg #[.int .i64 0, .slice none 0 0]), 2, 32) := by kernel_rfl

/-- The cells of a row of puts of which the first j stand. -/
def partCell (ps : List (Int × List Int)) (u : Nat → Value) (j c : Nat) : Value := if c < j * 2 then putCell ps u c else pairCell (.int .i64 0) (.slice none 0 0) c
theorem partCell_next (ps : List (Int × List Int)) (u : Nat → Value) (j c : Nat) (v : Value) : (if c = j * 2 + 1 then v else (if c = j * 2 then .int .i64 (ps[j]?.getD (0, [])).1 else partCell ps u j c)) = partCell ps (fun i => if i = j then v else u i) (j + 1) c := by
  unfold partCell
  by_cases e : c = j * 2 + 1
  · subst e; rw [if_pos rfl, if_pos (by omega), putCell_words]; simp
  · rw [if_neg e]
    by_cases e2 : c = j * 2
    · subst e2; rw [if_pos rfl, if_pos (by omega), putCell_at]
    · rw [if_neg e2]
      by_cases e3 : c < j * 2
      · rw [if_pos e3, if_pos (by omega)]
        unfold putCell
        by_cases e4 : c % 2 = 0
        · rw [if_pos e4, if_pos e4]
        · rw [if_neg e4, if_neg e4]
          show u (c / 2) = if c / 2 = j then v else u (c / 2)
          rw [if_neg (by omega)]
      · rw [if_neg e3, if_neg (by omega)]

/-- An answer that is a disk by itself. -/
def AnsBare (w : World) (bs : List (List Int)) (ps : List (Int × List Int)) (e : Ending) (w' : World) : Prop :=
  ∃ aB nB cB aC nC cC, e = .returned (.agg #[.slice aB nB cB, .slice aC nC cC]) ∧ Below w.heap.size w w' ∧ DiskO w' (.slice aB nB cB) (.slice aC nC cC) bs ps (fresh w w')

end Go.Proofs.Ytcmkfapgpolglaa

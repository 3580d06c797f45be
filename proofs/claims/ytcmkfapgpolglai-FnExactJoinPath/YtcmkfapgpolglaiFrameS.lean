
/- How lists of texts that came in are opened. -/
import Derived.Test.YtcmkfapgpolglaiFrame
import Derived.Test.YtcmkfapgpolglaiJnC
namespace Go.Proofs.Ytcmkfapgpolglai
open Go.ChangeShapes Go.WideShapes Go.ChangeAt Go.RowKit Go.Joins Go.Deep
set_option maxRecDepth 100000

theorem Try.cellsStr' : Try.prog.cellsOf 9 = 1 := by kernel_rfl
theorem open_Strs {H : Type} {enc : TypeId × Value → H} {P : Program} {w : World} {base : Nat} {held : Bool} {t e : TypeId} {fuel : Nat} {v : Value} {x : DataW H × List MemPlace} (ht : P.underlying t = some (.slice e)) (he : P.underlying e = some .string) (ce : P.cellsOf e = 1) (h : DataW.trod enc P w base (fun _ => true) held fuel t [v] = some x) :
    ∃ xs, Strs w v xs := by
  rcases open_slice1 ht ce h with ⟨hcs, _⟩ | ⟨a, len, cap, m, n, V, D, Pl, hcs, _, hl, hm, hmm, _, hx⟩
  · simp only [List.cons.injEq, and_true] at hcs
    exact ⟨[], none, 0, hcs, by simp, fun k => by simp, fun k hk => by simp at hk⟩
  · simp only [List.cons.injEq, and_true] at hcs
    simp only [if_true] at hmm
    by_cases h0 : len = 0
    · subst h0; exact ⟨[], some a, cap, hcs, by simp, fun k => by simp, fun k hk => by simp at hk⟩
    · have ha := addr_of (hx 0 (by omega)).1
      obtain ⟨Z, hZ⟩ := choose_lt (α := ByteArray) (n := m) (p := fun i s => V i = .string s ∧ s.size ≤ maxLen) fun i hi => by
        obtain ⟨s, h1, _, h2⟩ := DataW.trod_string he (hx i hi).2
        exact ⟨s, by simpa using h1, h2⟩
      refine ⟨(List.range len).map fun i => (Z i).data.toList, some a, cap, ?_, ?_, fun k => ?_, fun k hk => ?_⟩
      · simp only [List.length_map, List.length_range]; exact hcs
      · simp only [List.length_map, List.length_range]; omega
      · by_cases hk : k < len
        · have hg : ((List.range len).map fun i => (Z i).data.toList)[k]?.getD [] = (Z k).data.toList := by simp [hk]
          rw [hg, Array.length_toList]
          exact (hZ k (by omega)).2
        · rw [List.getElem?_eq_none (by simpa using Nat.le_of_not_lt hk)]
          simp
      · simp only [List.length_map, List.length_range] at hk
        have h1 := (hx k (by omega)).1
        rw [ha, add_plain] at h1
        have hg : ((List.range len).map fun i => (Z i).data.toList)[k]?.getD [] = (Z k).data.toList := by simp [hk]
        rw [hg, mkB_data]
        exact ⟨a.block, a.off, by rw [← ha], by rw [h1, (hZ k (by omega)).1]⟩
end Go.Proofs.Ytcmkfapgpolglai

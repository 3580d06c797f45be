
/- What appending extents to an empty list that was just built comes to. -/
import Derived.Test.YtojegkekafampahAppE
import Derived.Deep.RegionLaw
namespace Go.Proofs.Ytojegkekafampah
open Go.RowKit
set_option maxRecDepth 100000

theorem append_lit (W : World) (ty : TypeId) (base g : Nat) (fs : List E3) (hrow : W.heap[g]? = some (.cells #[] 70 (0, 0))) (hbg : base ≤ g) (a : Option Addr) (cap : Nat) (hn : fs.length ≤ 1048576) (hc : AtE W a fs.length fs) :
    ∃ a' c' X, (Builtin.append_ #[34, 34] ty #[.slice (some ⟨g, 0, none⟩) 0 0, .slice a fs.length cap]).run Try.prog W = .ok (.slice a' fs.length c') X ∧ Below base W X ∧ ExtsO X (.slice a' fs.length c') fs (fun b => (b = g ∨ W.heap.size ≤ b) ∧ b < X.heap.size) ∧
      (∀ b, b < W.heap.size → b ≠ g → X.heap[b]? = W.heap[b]?) := by
  have hgl : g < W.heap.size := (Array.getElem?_eq_some_iff.1 hrow).1
  have h : ERow W base (.slice (some ⟨g, 0, none⟩) 0 0) [] := ⟨by simp [exCells], Or.inr ⟨g, 0, #[], rfl, hbg, hrow, Nat.le_refl _, by unfold maxLen; omega, by simp, by simp [exCells]⟩⟩
  obtain ⟨v', X, hr, ho, hB, hk, hg, a', c', rfl⟩ := append_exts W ty base _ [] fs h (by omega) a cap (by simpa using hn) hc
  simp only [List.length_nil, Nat.zero_add, List.nil_append] at hr ho hg
  refine ⟨a', c', X, hr, hB, ho.exts.mono fun b hb => ⟨?_, hb.2.2⟩, fun b hb hne => hk b hb (by simp only [Value.ownBlock]; simpa using fun e => hne e.symm)⟩
  rcases hg b hb.1 with e | e
  · simp only [Value.ownBlock, Option.some.injEq] at e
    exact Or.inl e.symm
  · exact Or.inr e
end Go.Proofs.Ytojegkekafampah

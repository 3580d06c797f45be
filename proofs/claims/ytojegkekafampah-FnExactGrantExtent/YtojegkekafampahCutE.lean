
/- Pieces of a list of extents: what slicing it comes to. -/
import Derived.Test.YtojegkekafampahAppE
import Derived.Test.YtojegkekafampahCpyE
namespace Go.Proofs.Ytojegkekafampah
open Go.RowKit
set_option maxRecDepth 100000

theorem AtE.take {w : World} {a : Option Addr} {n : Nat} {es : List E3} (h : AtE w a n es) {j : Nat} (hj : j ≤ n) : AtE w a j (es.take j) := fun k hk => by
  obtain ⟨b, off, e, c0, c1, c2⟩ := h k (by omega)
  refine ⟨b, off, e, ?_, ?_, ?_⟩ <;> rw [List.getElem?_take, if_pos hk] <;> assumption
theorem slice_take (a : Option Addr) (n c j : Nat) (hj : j ≤ c) :
    ∃ A C, (∀ W : World, (Instr.slice 34 (.slice a n c) none (some (.int .i64 (j : Int))) none).run Try.prog W = .ok (.slice A j C) W) ∧ ∀ (W : World) (es : List E3), j ≤ n → AtE W a n es → AtE W A j (es.take j) := by
  obtain ⟨i, hi, _⟩ := Try.infoExt'
  refine ⟨if c = 0 then a else a.map (·.add (0 * 3)), c - 0, fun W => ?_, fun W es hjn h => ?_⟩
  · simp [Instr.slice, Instr.sliceBounds, Instr.sliceBound, asIntOf, run_underlying Try.underlying34, sizeOf, typeInfo, hi, hj]
  · by_cases hc : c = 0
    · intro k hk; omega
    · rw [if_neg hc]
      have := h.take hjn
      intro k hk
      obtain ⟨b, off, e, r⟩ := this k hk
      subst e
      exact ⟨b, off, by simp [Addr.add], r⟩
theorem slice_drop (a : Option Addr) (n c l : Nat) (hl : l ≤ n) (hc : n ≤ c) :
    ∃ A C, (∀ W : World, (Instr.slice 34 (.slice a n c) (some (.int .i64 (l : Int))) none none).run Try.prog W = .ok (.slice A (n - l) C) W) ∧ ∀ (W : World) (es : List E3), AtE W a n es → AtE W A (n - l) (es.drop l) := by
  obtain ⟨i, hi, _, h2, _⟩ := Try.infoExt'
  refine ⟨if c = l then a else a.map (·.add (l * 3)), c - l, fun W => ?_, fun W es h => ?_⟩
  · simp [Instr.slice, Instr.sliceBounds, Instr.sliceBound, asIntOf, run_underlying Try.underlying34, sizeOf, typeInfo, hi, h2, hl]
  · by_cases hcl : c = l
    · intro k hk; omega
    · rw [if_neg hcl]
      intro k hk
      obtain ⟨b, off, e, c0, c1, c2⟩ := h (l + k) (by omega)
      subst e
      refine ⟨b, off + l * 3, by simp [add_plain'], ?_, ?_, ?_⟩ <;> rw [List.getElem?_drop]
      · rw [← c0, show off + l * 3 + k * 3 = off + (l + k) * 3 by omega]
      · rw [← c1, show off + l * 3 + k * 3 + 1 = off + (l + k) * 3 + 1 by omega]
      · rw [← c2, show off + l * 3 + k * 3 + 2 = off + (l + k) * 3 + 2 by omega]

/-- Two pieces appended to an empty list that lies at g. -/
theorem two_apps (W : World) (g base : Nat) (fs gs : List E3) (hrow : W.heap[g]? = some (.cells #[] 70 (0, 0))) (hbg : base ≤ g) (A1 A2 : Option Addr) (C1 C2 n1 n2 : Nat) (l1 : fs.length = n1) (l2 : gs.length = n2) (hn : n1 + n2 ≤ 1000000) (h1 : AtE W A1 n1 fs) (h2 : AtE W A2 n2 gs) (hlo : ∀ b off, A2 = some ⟨b, off, none⟩ → 0 < n2 → b < g) :
    ∃ v1 X1 v2 X2 a c, (Builtin.append_ #[34, 34] 34 #[.slice (some ⟨g, 0, none⟩) 0 0, .slice A1 n1 C1]).run Try.prog W = .ok v1 X1 ∧ (Builtin.append_ #[34, 34] 34 #[v1, .slice A2 n2 C2]).run Try.prog X1 = .ok v2 X2 ∧
      v2 = .slice a (n1 + n2) c ∧ ExtsO X2 v2 (fs ++ gs) (fun b => (b = g ∨ W.heap.size ≤ b) ∧ b < X2.heap.size) ∧ (∀ b, b < W.heap.size → b ≠ g → X1.heap[b]? = W.heap[b]?) ∧ (∀ b, b < W.heap.size → b ≠ g → X2.heap[b]? = W.heap[b]?) ∧ Below base W X1 ∧ Below base W X2 := by
  subst l1 l2
  have hgl : g < W.heap.size := (Array.getElem?_eq_some_iff.1 hrow).1
  have h0 : ERow W base (.slice (some ⟨g, 0, none⟩) 0 0) [] := ⟨by simp [exCells], Or.inr ⟨g, 0, #[], rfl, hbg, hrow, Nat.le_refl _, by unfold maxLen; omega, by simp, by simp [exCells]⟩⟩
  obtain ⟨v1, X1, hr1, ho1, hB1, hk1, hg1, a1', c1', e1⟩ := append_exts W 34 base _ [] fs h0 (by omega) A1 C1 (by simp; omega) h1
  simp only [List.nil_append] at ho1
  have hk1' : ∀ b, b < W.heap.size → b ≠ g → X1.heap[b]? = W.heap[b]? := fun b hb hne => hk1 b hb (by simp only [Value.ownBlock]; simpa using fun e => hne e.symm)
  have hA2 : AtE X1 A2 gs.length gs := fun k hk => by
    obtain ⟨b, off, e, r0, r1, r2⟩ := h2 k hk
    have hb := hlo b off e (by omega)
    refine ⟨b, off, e, ?_, ?_, ?_⟩
    · rw [World.cell?_of_block (w := W) (hk1' b (by omega) (by omega))]; exact r0
    · rw [World.cell?_of_block (w := W) (hk1' b (by omega) (by omega))]; exact r1
    · rw [World.cell?_of_block (w := W) (hk1' b (by omega) (by omega))]; exact r2
  obtain ⟨v2, X2, hr2, ho2, hB2, hk2, hg2, a2', c2', e2⟩ := append_exts X1 34 base v1 fs gs ho1 (by have := hB1.size; omega) A2 C2 (by omega) hA2
  have own1 : ∀ b, v1.ownBlock = some b → b = g ∨ W.heap.size ≤ b := fun b hb => by
    rcases hg1 b hb with e | e
    · simp only [Value.ownBlock, Option.some.injEq] at e; exact Or.inl e.symm
    · exact Or.inr e
  have own2 : ∀ b, v2.ownBlock = some b → b = g ∨ W.heap.size ≤ b := fun b hb => by
    rcases hg2 b hb with e | e
    · exact own1 b e
    · exact Or.inr (by have := hB1.size; omega)
  refine ⟨v1, X1, v2, X2, a2', c2', hr1, hr2, e2, ho2.exts.mono fun b hb => ⟨own2 b hb.1, hb.2.2⟩, hk1', fun b hb hne => ?_, hB1, hB1.trans (hB2)⟩
  rw [hk2 b (by have := hB1.size; omega) (fun e => by rcases own1 b e with h | h <;> omega)]
  exact hk1' b hb hne
end Go.Proofs.Ytojegkekafampah

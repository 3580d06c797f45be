
/- What 'append' and 'copy' of extents come to. -/
import Derived.Test.YtojegkekafampahExtB
import Derived.Test.YtojegkekafampahAppA
import Derived.Deep.AppendLies
import Derived.Laws.CopyOwn
namespace Go.Proofs.Ytojegkekafampah
open Go.RowKit
set_option maxRecDepth 100000

/-- The cells of extents, one behind the other. -/
def exCells (es : List E3) : List Value := es.flatMap fun e => [.int .i64 e.1, .int .i64 e.2.1, .int .i64 e.2.2]
theorem exCells_length (es : List E3) : (exCells es).length = es.length * 3 := by
  induction es with
  | nil => rfl
  | cons a t ih =>
    have : exCells (a :: t) = [.int .i64 a.1, .int .i64 a.2.1, .int .i64 a.2.2] ++ exCells t := by simp [exCells]
    rw [this, List.length_append, ih]
    simp [Nat.add_mul]
    omega
theorem exCells_append (es fs : List E3) : exCells (es ++ fs) = exCells es ++ exCells fs := by simp [exCells]
theorem exCells_get (es : List E3) (j : Nat) (h : j < es.length * 3) : (exCells es)[j]? = some (exCell es j) := by
  induction es generalizing j with
  | nil => simp at h
  | cons a t ih =>
    have e : exCells (a :: t) = .int .i64 a.1 :: .int .i64 a.2.1 :: .int .i64 a.2.2 :: exCells t := by simp [exCells]
    rw [e]
    match j with
    | 0 => simp [exCell]
    | 1 => simp [exCell]
    | 2 => simp [exCell]
    | j + 3 =>
      simp only [List.getElem?_cons_succ]
      rw [ih j (by simp at h; omega)]
      unfold exCell
      have h1 : (j + 3) % 3 = j % 3 := by omega
      have h2 : (j + 3) / 3 = j / 3 + 1 := by omega
      rw [h1, h2]
      simp
theorem exCells_one (es : List E3) : ∀ u ∈ exCells es, u.oneCell' = true := by
  intro u hu
  simp only [exCells, List.mem_flatMap] at hu
  obtain ⟨e, _, hu⟩ := hu
  simp at hu
  rcases hu with rfl | rfl | rfl <;> rfl
theorem AtE.cells {w : World} {b off n : Nat} {es : List E3} (h : AtE w (some ⟨b, off, none⟩) n es) (hn : es.length = n) (j : Nat) (u : Value) (hu : (exCells es)[j]? = some u) : w.cell? ((⟨b, off, none⟩ : Addr).add j) = some u := by
  have hj : j < es.length * 3 := by rw [← exCells_length]; exact (List.getElem?_eq_some_iff.1 hu).1
  rw [exCells_get es j hj] at hu
  simp only [Option.some.injEq] at hu
  subst hu
  obtain ⟨b', off', e, c0, c1, c2⟩ := h (j / 3) (by omega)
  simp only [Option.some.injEq, Addr.mk.injEq, and_true] at e
  obtain ⟨rfl, rfl⟩ := e
  rw [add_plain']
  have : j % 3 = 0 ∨ j % 3 = 1 ∨ j % 3 = 2 := by omega
  unfold exCell
  rcases this with e | e | e
  · rw [if_pos e, ← c0, show off + j = off + j / 3 * 3 by omega]
  · rw [if_neg (by omega), if_pos e, ← c1, show off + j = off + j / 3 * 3 + 1 by omega]
  · rw [if_neg (by omega), if_neg (by omega), ← c2, show off + j = off + j / 3 * 3 + 2 by omega]

theorem Try.infoExt' : ∃ i, Try.prog.info? 70 = some i ∧ i.zero = some (.agg #[.int .i64 0, .int .i64 0, .int .i64 0]) ∧ i.size = 3 ∧ i.bytes = 24 := by
  obtain ⟨i, hi, h⟩ := Option.map_eq_some_iff.1 Try.infoExt
  simp only [Prod.mk.injEq] at h
  exact ⟨i, hi, h.1, h.2.1, h.2.2⟩

/-- Extents in a row that the call owns, in a block from base on. -/
def ERow (w : World) (base : Nat) (v : Value) (es : List E3) : Prop := w.ownsRow base 70 3 v es.length (exCells es)
theorem ERow.exts {w : World} {base : Nat} {v : Value} {es : List E3} (h : ERow w base v es) : ExtsO w v es (fun b => v.ownBlock = some b ∧ base ≤ b ∧ b < w.heap.size) := by
  obtain ⟨hl, h | ⟨g, cap, cur, rfl, hb, hh, hnc, hcm, hcs, htake⟩⟩ := h
  · obtain ⟨rfl, h0⟩ := h
    exact Or.inl ⟨List.eq_nil_of_length_eq_zero h0, none, 0, rfl⟩
  · refine Or.inr ⟨g, cap, ⟨rfl, hb, (Array.getElem?_eq_some_iff.1 hh).1⟩, rfl, ⟨by omega, hnc⟩, cur, _, hh, by rw [hcs]; exact Nat.mul_le_mul_right 3 hnc, fun i hi => ?_⟩
    have h1 := exCells_get es i hi
    rw [← htake, List.getElem?_take, if_pos hi, Array.getElem?_toList] at h1
    exact h1
theorem ERow.keep {w w' : World} {base : Nat} {v : Value} {es : List E3} (h : ERow w base v es) (e : ∀ b, v.ownBlock = some b → w'.heap[b]? = w.heap[b]?) : ERow w' base v es := by
  obtain ⟨hl, h | ⟨g, cap, cur, rfl, hb, hh, r⟩⟩ := h
  · exact ⟨hl, Or.inl h⟩
  · exact ⟨hl, Or.inr ⟨g, cap, cur, rfl, hb, by rw [e g rfl]; exact hh, r⟩⟩
theorem ERow.lt {w : World} {base : Nat} {v : Value} {es : List E3} (h : ERow w base v es) : ∀ b, v.ownBlock = some b → base ≤ b ∧ b < w.heap.size := fun b hb => World.ownsRow.lt h b hb
theorem ERow.lit (w : World) (base : Nat) (hb : base ≤ w.heap.size) : ERow (w.alloc (.cells #[] 70)) base (.slice (some ⟨w.heap.size, 0, none⟩) 0 0) [] := World.ownsRow_lit w #[] 0 hb (by simp) rfl
theorem ERow.shape {w : World} {base : Nat} {v : Value} {es : List E3} (h : ERow w base v es) : ∃ a c, v = .slice a es.length c := by
  obtain ⟨hl, h | ⟨g, cap, cur, rfl, _⟩⟩ := h
  · exact ⟨none, 0, by rw [h.1, h.2]⟩
  · exact ⟨_, _, rfl⟩

/-- More extents behind a row. -/
theorem append_exts (w : World) (ty : TypeId) (base : Nat) (v : Value) (es fs : List E3) (h : ERow w base v es) (hbase : base ≤ w.heap.size) (a : Option Addr) (cap : Nat) (hn : es.length + fs.length ≤ 1048576) (hc : AtE w a fs.length fs) :
    ∃ v' X, (Builtin.append_ #[34, 34] ty #[v, .slice a fs.length cap]).run Try.prog w = .ok v' X ∧ ERow X base v' (es ++ fs) ∧ Below base w X ∧
      (∀ b, b < w.heap.size → v.ownBlock ≠ some b → X.heap[b]? = w.heap[b]?) ∧ (∀ b, v'.ownBlock = some b → v.ownBlock = some b ∨ w.heap.size ≤ b) ∧ ∃ a' c', v' = .slice a' (es.length + fs.length) c' := by
  obtain ⟨i, hi, h1, h2, h3⟩ := Try.infoExt'
  by_cases h0 : fs.length = 0
  · have hfs : fs = [] := List.eq_nil_of_length_eq_zero h0
    subst hfs
    have hv : ∃ a0 c0, v = .slice a0 es.length c0 ∧ es.length ≤ c0 := by
      obtain ⟨hl, h' | ⟨g, c0, cur, rfl, _, _, hnc, _⟩⟩ := h
      · exact ⟨none, 0, by rw [h'.1, h'.2], by omega⟩
      · exact ⟨_, _, rfl, hnc⟩
    obtain ⟨a0, c0, rfl, hle⟩ := hv
    refine ⟨_, w, ?_, by simpa using h, Below.refl _ _, fun _ _ _ => rfl, fun b hb => Or.inl hb, a0, c0, by simp⟩
    cases a <;> cases a0 <;> simp [Builtin.append_, run_underlying Try.underlying34, sizeOf, typeInfo, hi, Builtin.lenOf, Builtin.firstCells, storeCells, loadCells, loadCellsFrom, hle]
  · obtain ⟨b, off, rfl, _⟩ := hc 0 (by omega)
    obtain ⟨g, c', X, hr, ho, hg, hat, hgX⟩ := run_append_lies (P := Try.prog) w 34 ty base 70 i _ 3 24 Try.underlying34 hi h1 h2 h3 rfl (by decide) v es.length _ h ⟨b, off, none⟩ fs.length cap (exCells fs) (exCells_length fs) (fun j u hu => hc.cells rfl j u hu) (exCells_one fs) (by omega) (by unfold maxLen; omega) (by omega) hbase w.heap.size rfl
    refine ⟨_, X, hr, ?_, below_grown hg hbase (fun k hk => (h.lt k hk).1), fun b hb hne => hg.block b hb (fun e => hne e.symm), fun b hb => ?_, _, _, rfl⟩
    · unfold ERow; rw [List.length_append, exCells_append]; exact ho
    · simp only [Value.ownBlock, Option.some.injEq] at hb
      subst hb
      rcases hat with h | h
      · exact Or.inl h
      · exact Or.inr (by omega)
end Go.Proofs.Ytojegkekafampah

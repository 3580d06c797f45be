
/- Lists of entries and inodes: how they read, what they own. -/
import Derived.Test.YtcmkfapgpolglakMrkS
import Derived.Test.YtcmkfapgpolglakUni
namespace Go.Proofs.Ytcmkfapgpolglak
open Go.RowKit

abbrev EN := ByteArray × Int
def en0 : EN := (⟨#[]⟩, 0)
/-- The cells of a row of entries. -/
def enCell (es : List EN) (j : Nat) : Value := if j % 2 = 0 then .string (es[j / 2]?.getD en0).1 else .int .i64 (es[j / 2]?.getD en0).2
theorem enCell_0 (es : List EN) (k : Nat) : enCell es (k * 2) = .string (es[k]?.getD en0).1 := by
  unfold enCell; rw [if_pos (by omega), show k * 2 / 2 = k by omega]
theorem enCell_1 (es : List EN) (k : Nat) : enCell es (k * 2 + 1) = .int .i64 (es[k]?.getD en0).2 := by
  unfold enCell; rw [if_neg (by omega), show (k * 2 + 1) / 2 = k by omega]

/-- Where the entries of a list lie. -/
def AtN (w : World) (a : Option Addr) (n : Nat) (es : List EN) : Prop :=
  ∀ k, k < n → ∃ b off, a = some ⟨b, off, none⟩ ∧ w.cell? ⟨b, off + k * 2, none⟩ = some (.string (es[k]?.getD en0).1) ∧ w.cell? ⟨b, off + k * 2 + 1, none⟩ = some (.int .i64 (es[k]?.getD en0).2)
theorem AtN.later {w w' : World} {a : Option Addr} {n : Nat} {es : List EN} (h : AtN w a n es) (hb : Below w.heap.size w w') : AtN w' a n es := fun k hk => by
  obtain ⟨b, off, e, c0, c1⟩ := h k hk
  exact ⟨b, off, e, cell_later hb c0, cell_later hb c1⟩
/-- The slice v reads as the entries es. -/
def Ents (w : World) (v : Value) (es : List EN) : Prop := ∃ a cap, v = .slice a es.length cap ∧ (es.length ≤ maxLen ∧ es.length ≤ cap ∧ ∀ k : Nat, (es[k]?.getD en0).1.size ≤ maxLen) ∧ AtN w a es.length es
theorem Ents.later {w w' : World} {v : Value} {es : List EN} (h : Ents w v es) (hb : Below w.heap.size w w') : Ents w' v es := by
  obtain ⟨a, cap, h1, h2, h3⟩ := h
  exact ⟨a, cap, h1, h2, h3.later hb⟩
theorem Ents.nil (w : World) (a : Option Addr) (cap : Nat) : Ents w (.slice a 0 cap) [] := ⟨a, cap, rfl, ⟨by simp, by simp, fun k => by simp [en0, ByteArray.size]⟩, fun k hk => by simp at hk⟩
theorem Ents.open' {w : World} {v : Value} {es : List EN} (h : Ents w v es) : ∃ a cap, v = .slice a es.length cap ∧ es.length ≤ maxLen ∧ (∀ k : Nat, (es[k]?.getD en0).1.size ≤ maxLen) ∧ AtN w a es.length es := by
  obtain ⟨a, cap, h1, h2, h3⟩ := h
  exact ⟨a, cap, h1, h2.1, h2.2.2, h3⟩

/-- The slice v holds the entries es, in one block of F. -/
def EntsO (w : World) (v : Value) (es : List EN) (F : Nat → Prop) : Prop :=
  (es = [] ∧ ∃ a cap, v = .slice a 0 cap) ∨
  (∃ b cap, F b ∧ v = .slice (some ⟨b, 0, none⟩) es.length cap ∧ (es.length ≤ maxLen ∧ es.length ≤ cap ∧ ∀ k : Nat, (es[k]?.getD en0).1.size ≤ maxLen) ∧ OwnRow w b (es.length * 2) (enCell es))
theorem OwnRow.atN {w : World} {b n : Nat} {es : List EN} (h : OwnRow w b (n * 2) (enCell es)) : AtN w (some ⟨b, 0, none⟩) n es := fun k hk =>
  ⟨b, 0, rfl, by rw [Nat.zero_add, h.cell (by omega), enCell_0], by rw [Nat.zero_add, h.cell (by omega), enCell_1]⟩
theorem EntsO.reads {w : World} {v : Value} {es : List EN} {F : Nat → Prop} (h : EntsO w v es F) : Ents w v es := by
  rcases h with ⟨rfl, a, cap, rfl⟩ | ⟨b, cap, _, h1, h2, h3⟩
  · exact Ents.nil w a cap
  · exact ⟨_, cap, h1, h2, h3.atN⟩
theorem EntsO.keep {w w' : World} {v : Value} {es : List EN} {F : Nat → Prop} (h : EntsO w v es F) (e : ∀ b, F b → b < w.heap.size → w'.heap[b]? = w.heap[b]?) : EntsO w' v es F := by
  rcases h with h | ⟨b, cap, hF, h1, h2, h3⟩
  · exact Or.inl h
  · exact Or.inr ⟨b, cap, hF, h1, h2, h3.block (e b hF h3.lt)⟩
theorem EntsO.mono {w : World} {v : Value} {es : List EN} {F G : Nat → Prop} (h : EntsO w v es F) (e : ∀ b, F b → G b) : EntsO w v es G := by
  rcases h with h | ⟨b, cap, hF, h1⟩
  · exact Or.inl h
  · exact Or.inr ⟨b, cap, e b hF, h1⟩
theorem EntsO.bound {w : World} {v : Value} {es : List EN} {F : Nat → Prop} (h : EntsO w v es F) : EntsO w v es (fun b => F b ∧ b < w.heap.size) := by
  rcases h with h | ⟨b, cap, hF, h1, h2, h3⟩
  · exact Or.inl h
  · exact Or.inr ⟨b, cap, ⟨hF, h3.lt⟩, h1, h2, h3⟩
theorem EntsO.later {w w' : World} {v : Value} {es : List EN} {F : Nat → Prop} (h : EntsO w v es F) (hb : Below w.heap.size w w') : EntsO w' v es F := h.keep fun b _ hlt => hb.block b hlt

/-- The marks of n entries, from k on. -/
def marksN (k : Nat) (n : Nat) : List EN := (List.range n).map fun i : Nat => (mkB (109 :: dg (k + 2 * i) []), ((k + 2 * i + 1 : Nat) : Int))
theorem marksN_length (k n : Nat) : (marksN k n).length = n := by simp [marksN]
theorem marksN_get (k : Nat) {n i : Nat} (h : i < n) : (marksN k n)[i]?.getD en0 = (mkB (109 :: dg (k + 2 * i) []), ((k + 2 * i + 1 : Nat) : Int)) := by simp [marksN, h]
def markCell (k c : Nat) : Value := if c % 2 = 0 then mkT (k + c) else .int .i64 ((k + c : Nat) : Int)
theorem enCell_marks (k : Nat) {n c : Nat} (h : c < n * 2) : enCell (marksN k n) c = markCell k c := by
  have h3 : c / 2 < n := by omega
  unfold enCell markCell
  rw [marksN_get k h3]
  by_cases e : c % 2 = 0
  · rw [if_pos e, if_pos e]; unfold mkT; rw [show k + 2 * (c / 2) = k + c by omega]
  · rw [if_neg e, if_neg e]; show Value.int .i64 ((k + 2 * (c / 2) + 1 : Nat) : Int) = _; rw [show k + 2 * (c / 2) + 1 = k + c by omega]
theorem dg_len (k : Nat) : ∀ acc, (dg k acc).length ≤ k + acc.length := by
  induction k using Nat.strongRecOn with
  | ind k ih =>
    intro acc
    unfold dg
    split
    · omega
    · have := ih (k / 10) (by omega) (UInt8.ofNat (48 + k % 10) :: acc)
      simp only [List.length_cons] at this
      omega
theorem marksN_size (k n : Nat) (h : k + 2 * n ≤ 4294967296) (i : Nat) : ((marksN k n)[i]?.getD en0).1.size ≤ maxLen := by
  unfold maxLen
  by_cases e : i < n
  · rw [marksN_get k e]
    show (mkB (109 :: dg (k + 2 * i) [])).size ≤ _
    rw [mkB_size]
    have := dg_len (k + 2 * i) []
    simp only [List.length_cons, List.length_nil] at this ⊢
    omega
  · rw [List.getElem?_eq_none (by rw [marksN_length]; omega)]
    simp [en0, ByteArray.size]

/-- The cells of a row of entries of which the first j stand. -/
def partN (es : List EN) (j c : Nat) : Value := if c < j * 2 then enCell es c else pairCell (.string ⟨#[]⟩) (.int .i64 0) c
theorem partN_next (es : List EN) (j c : Nat) : (if c = j * 2 + 1 then .int .i64 (es[j]?.getD en0).2 else (if c = j * 2 then .string (es[j]?.getD en0).1 else partN es j c)) = partN es (j + 1) c := by
  unfold partN
  by_cases e1 : c = j * 2 + 1
  · subst e1; rw [if_pos rfl, if_pos (by omega), enCell_1]
  · rw [if_neg e1]
    by_cases e0 : c = j * 2
    · subst e0; rw [if_pos rfl, if_pos (by omega), enCell_0]
    · rw [if_neg e0]
      by_cases h : c < j * 2
      · rw [if_pos h, if_pos (by omega)]
      · rw [if_neg h, if_neg (by omega)]
/-- How great a list of entries is. -/
def nlens (es : List EN) : List Nat := es.map fun e => e.1.size
theorem nlens_length (es : List EN) : (nlens es).length = es.length := by simp [nlens]
theorem nlens_get (es : List EN) (i : Nat) : (nlens es)[i]?.getD 0 = (es[i]?.getD en0).1.size := by
  unfold nlens; rw [List.getElem?_map]; cases es[i]? <;> rfl
def sizeN (es : List EN) : Nat := es.length + (nlens es).sum

/-- A slice is no longer than its room. -/
def capOK (v : Value) : Prop := ∃ a n c, v = .slice a n c ∧ n ≤ c
/-- Inodes: kind, links, size, blocks, entries. -/
abbrev ID := Int × Int × Int × List Int × List EN
def InoR (w : World) (v0 v1 v2 vB vE : Value) (d : ID) : Prop := (v0 = .int .i64 d.1 ∧ v1 = .int .i64 d.2.1 ∧ v2 = .int .i64 d.2.2.1 ∧ capOK vB) ∧ Ints w vB d.2.2.2.1 ∧ Ents w vE d.2.2.2.2
theorem InoR.later {w w' : World} {v0 v1 v2 vB vE : Value} {d : ID} (h : InoR w v0 v1 v2 vB vE d) (hb : Below w.heap.size w w') : InoR w' v0 v1 v2 vB vE d := ⟨h.1, h.2.1.later hb, h.2.2.later hb⟩
def InoU (w : World) (v0 v1 v2 vB vE : Value) (d : ID) (F : Nat → Prop) : Prop := (v0 = .int .i64 d.1 ∧ v1 = .int .i64 d.2.1 ∧ v2 = .int .i64 d.2.2.1 ∧ capOK vB) ∧ ∃ F1 G1 : Nat → Prop, IntsO w vB d.2.2.2.1 F1 ∧ EntsO w vE d.2.2.2.2 G1 ∧ (∀ b, F1 b → ¬ G1 b) ∧ ∀ b, F1 b ∨ G1 b → F b
theorem InoU.reads {w : World} {v0 v1 v2 vB vE : Value} {d : ID} {F : Nat → Prop} (h : InoU w v0 v1 v2 vB vE d F) : InoR w v0 v1 v2 vB vE d := by
  obtain ⟨h0, _, _, h1, h2, _⟩ := h
  exact ⟨h0, h1.reads, h2.reads⟩
theorem InoU.keep {w w' : World} {v0 v1 v2 vB vE : Value} {d : ID} {F : Nat → Prop} (h : InoU w v0 v1 v2 vB vE d F) (e : ∀ b, F b → b < w.heap.size → w'.heap[b]? = w.heap[b]?) : InoU w' v0 v1 v2 vB vE d F := by
  obtain ⟨h0, F1, G1, h1, h2, hd, hf⟩ := h
  exact ⟨h0, F1, G1, h1.keep fun b hb => e b (hf b (Or.inl hb)), h2.keep fun b hb => e b (hf b (Or.inr hb)), hd, hf⟩
theorem InoU.later {w w' : World} {v0 v1 v2 vB vE : Value} {d : ID} {F : Nat → Prop} (h : InoU w v0 v1 v2 vB vE d F) (hb : Below w.heap.size w w') : InoU w' v0 v1 v2 vB vE d F := h.keep fun b _ hlt => hb.block b hlt
theorem InoU.mono {w : World} {v0 v1 v2 vB vE : Value} {d : ID} {F G : Nat → Prop} (h : InoU w v0 v1 v2 vB vE d F) (e : ∀ b, F b → G b) : InoU w v0 v1 v2 vB vE d G := by
  obtain ⟨h0, F1, G1, h1, h2, hd, hf⟩ := h
  exact ⟨h0, F1, G1, h1, h2, hd, fun b hb => e b (hf b hb)⟩
theorem InoU.chg {w w' : World} {v0 v1 v2 vB vE : Value} {d : ID} {F G : Nat → Prop} (h : InoU w v0 v1 v2 vB vE d F) (hc : Chg G w w') (hd : ∀ b, F b → ¬ G b) : InoU w' v0 v1 v2 vB vE d F := h.keep fun b hb hlt => hc.block b hlt (hd b hb)
def sizeIno (d : ID) : Nat := d.2.2.2.1.length + sizeN d.2.2.2.2
def spanIno (d : ID) : Nat := d.2.2.2.1.length + 2 * d.2.2.2.2.length
theorem spanIno_le (d : ID) : spanIno d ≤ 2 * sizeIno d := by unfold spanIno sizeIno sizeN; omega
end Go.Proofs.Ytcmkfapgpolglak

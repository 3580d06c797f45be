/- Lists of entries and inodes: how they read, what they own. Lists of inodes: how they read, what they own. No program is named here. The walks of the laws' functions over lists of entries. Marks of lists of entries. The walks of the laws' functions over inodes. The law's copy of an inode. The walks of the laws' functions over lists of inodes: how great they are, copied, held against each other. Lists of inodes are marked. -/
import Derived.Test.YtlacppjlclfpmaaGreatM02
import Derived.Test.YtlacppjlclfpmaaGreatRows
import Derived.Deep.RegionWith
import Derived.Deep.RegionHeld3
namespace Go.Proofs.YtlacppjlclfpmaaGreat
open Go.RowKit
set_option maxRecDepth 100000

abbrev EN := ByteArray × Int
def en0 : EN := (⟨#[]⟩, 0)
/-- The cells of a row of entries. -/
def enCell (es : List EN) (j : Nat) : Value := if j % 2 = 0 then .string (es[j / 2]?.getD en0).1 else .int .i64 (es[j / 2]?.getD en0).2
theorem enCell_0 (es : List EN) (k : Nat) : enCell es (k * 2) = .string (es[k]?.getD en0).1 := by
  unfold enCell; rw [if_pos (by omega), show k * 2 / 2 = k by omega]
theorem enCell_1 (es : List EN) (k : Nat) : enCell es (k * 2 + 1) = .int .i64 (es[k]?.getD en0).2 := by
  unfold enCell; rw [if_neg (by omega), show (k * 2 + 1) / 2 = k by omega]

/-- Where the entries of a list lie. -/
def AtN (w : World) (a : Option Addr) (n : Nat) (es : List EN) : Prop :=
  ∀ k, k < n → ∃ b off, a = some ⟨b, off, none⟩ ∧ w.cell? ⟨b, off + k * 2, none⟩ = some (.string (es[k]?.getD en0).1) ∧ w.cell? ⟨b, off + k * 2 + 1, none⟩ = some (.int .i64 (es[k]?.getD en0).2)
theorem AtN.later {w w' : World} {a : Option Addr} {n : Nat} {es : List EN} (h : AtN w a n es) (hb : Below w.heap.size w w') : AtN w' a n es := fun k hk => by
  obtain ⟨b, off, e, c0, c1⟩ := h k hk
  exact ⟨b, off, e, cell_later hb c0, cell_later hb c1⟩
/-- The slice v reads as the entries es. -/
def Ents (w : World) (v : Value) (es : List EN) : Prop := ∃ a cap, v = .slice a es.length cap ∧ (es.length ≤ maxLen ∧ es.length ≤ cap ∧ ∀ k : Nat, (es[k]?.getD en0).1.size ≤ maxLen) ∧ AtN w a es.length es
theorem Ents.later {w w' : World} {v : Value} {es : List EN} (h : Ents w v es) (hb : Below w.heap.size w w') : Ents w' v es := by
  obtain ⟨a, cap, h1, h2, h3⟩ := h
  exact ⟨a, cap, h1, h2, h3.later hb⟩
theorem Ents.nil (w : World) (a : Option Addr) (cap : Nat) : Ents w (.slice a 0 cap) [] := ⟨a, cap, rfl, ⟨by simp, by simp, fun k => by simp [en0, ByteArray.size]⟩, fun k hk => by simp at hk⟩
theorem Ents.open' {w : World} {v : Value} {es : List EN} (h : Ents w v es) : ∃ a cap, v = .slice a es.length cap ∧ es.length ≤ maxLen ∧ (∀ k : Nat, (es[k]?.getD en0).1.size ≤ maxLen) ∧ AtN w a es.length es := by
  obtain ⟨a, cap, h1, h2, h3⟩ := h
  exact ⟨a, cap, h1, h2.1, h2.2.2, h3⟩

/-- The slice v holds the entries es, in one block of F. -/
def EntsO (w : World) (v : Value) (es : List EN) (F : Nat → Prop) : Prop :=
  (es = [] ∧ ∃ a cap, v = .slice a 0 cap) ∨
  (∃ b cap, F b ∧ v = .slice (some ⟨b, 0, none⟩) es.length cap ∧ (es.length ≤ maxLen ∧ es.length ≤ cap ∧ ∀ k : Nat, (es[k]?.getD en0).1.size ≤ maxLen) ∧ OwnRow w b (es.length * 2) (enCell es))
theorem OwnRow.atN {w : World} {b n : Nat} {es : List EN} (h : OwnRow w b (n * 2) (enCell es)) : AtN w (some ⟨b, 0, none⟩) n es := fun k hk =>
  ⟨b, 0, rfl, by rw [Nat.zero_add, h.cell (by omega), enCell_0], by rw [Nat.zero_add, h.cell (by omega), enCell_1]⟩
theorem EntsO.reads {w : World} {v : Value} {es : List EN} {F : Nat → Prop} (h : EntsO w v es F) : Ents w v es := by
  rcases h with ⟨rfl, a, cap, rfl⟩ | ⟨b, cap, _, h1, h2, h3⟩
  · exact Ents.nil w a cap
  · exact ⟨_, cap, h1, h2, h3.atN⟩
theorem EntsO.keep {w w' : World} {v : Value} {es : List EN} {F : Nat → Prop} (h : EntsO w v es F) (e : ∀ b, F b → b < w.heap.size → w'.heap[b]? = w.heap[b]?) : EntsO w' v es F := by
  rcases h with h | ⟨b, cap, hF, h1, h2, h3⟩
  · exact Or.inl h
  · exact Or.inr ⟨b, cap, hF, h1, h2, h3.block (e b hF h3.lt)⟩
theorem EntsO.mono {w : World} {v : Value} {es : List EN} {F G : Nat → Prop} (h : EntsO w v es F) (e : ∀ b, F b → G b) : EntsO w v es G := by
  rcases h with h | ⟨b, cap, hF, h1⟩
  · exact Or.inl h
  · exact Or.inr ⟨b, cap, e b hF, h1⟩
theorem EntsO.bound {w : World} {v : Value} {es : List EN} {F : Nat → Prop} (h : EntsO w v es F) : EntsO w v es (fun b => F b ∧ b < w.heap.size) := by
  rcases h with h | ⟨b, cap, hF, h1, h2, h3⟩
  · exact Or.inl h
  · exact Or.inr ⟨b, cap, ⟨hF, h3.lt⟩, h1, h2, h3⟩
theorem EntsO.later {w w' : World} {v : Value} {es : List EN} {F : Nat → Prop} (h : EntsO w v es F) (hb : Below w.heap.size w w') : EntsO w' v es F := h.keep fun b _ hlt => hb.block b hlt

/-- The marks of n entries, from k on. -/
def marksN (k : Nat) (n : Nat) : List EN := (List.range n).map fun i : Nat => (mkB (109 :: dg (k + 2 * i) []), ((k + 2 * i + 1 : Nat) : Int))
theorem marksN_length (k n : Nat) : (marksN k n).length = n := by simp [marksN]
theorem marksN_get (k : Nat) {n i : Nat} (h : i < n) : (marksN k n)[i]?.getD en0 = (mkB (109 :: dg (k + 2 * i) []), ((k + 2 * i + 1 : Nat) : Int)) := by simp [marksN, h]
def markCell (k c : Nat) : Value := if c % 2 = 0 then mkT (k + c) else .int .i64 ((k + c : Nat) : Int)
theorem enCell_marks (k : Nat) {n c : Nat} (h : c < n * 2) : enCell (marksN k n) c = markCell k c := by
  have h3 : c / 2 < n := by omega
  unfold enCell markCell
  rw [marksN_get k h3]
  by_cases e : c % 2 = 0
  · rw [if_pos e, if_pos e]; unfold mkT; rw [show k + 2 * (c / 2) = k + c by omega]
  · rw [if_neg e, if_neg e]; show Value.int .i64 ((k + 2 * (c / 2) + 1 : Nat) : Int) = _; rw [show k + 2 * (c / 2) + 1 = k + c by omega]
theorem dg_len (k : Nat) : ∀ acc, (dg k acc).length ≤ k + acc.length := by
  induction k using Nat.strongRecOn with
  | ind k ih =>
    intro acc
    unfold dg
    split
    · omega
    · have := ih (k / 10) (by omega) (UInt8.ofNat (48 + k % 10) :: acc)
      simp only [List.length_cons] at this
      omega
theorem marksN_size (k n : Nat) (h : k + 2 * n ≤ 4294967296) (i : Nat) : ((marksN k n)[i]?.getD en0).1.size ≤ maxLen := by
  unfold maxLen
  by_cases e : i < n
  · rw [marksN_get k e]
    show (mkB (109 :: dg (k + 2 * i) [])).size ≤ _
    rw [mkB_size]
    have := dg_len (k + 2 * i) []
    simp only [List.length_cons, List.length_nil] at this ⊢
    omega
  · rw [List.getElem?_eq_none (by rw [marksN_length]; omega)]
    simp [en0, ByteArray.size]

/-- The cells of a row of entries of which the first j stand. -/
def partN (es : List EN) (j c : Nat) : Value := if c < j * 2 then enCell es c else pairCell (.string ⟨#[]⟩) (.int .i64 0) c
theorem partN_next (es : List EN) (j c : Nat) : (if c = j * 2 + 1 then .int .i64 (es[j]?.getD en0).2 else (if c = j * 2 then .string (es[j]?.getD en0).1 else partN es j c)) = partN es (j + 1) c := by
  unfold partN
  by_cases e1 : c = j * 2 + 1
  · subst e1; rw [if_pos rfl, if_pos (by omega), enCell_1]
  · rw [if_neg e1]
    by_cases e0 : c = j * 2
    · subst e0; rw [if_pos rfl, if_pos (by omega), enCell_0]
    · rw [if_neg e0]
      by_cases h : c < j * 2
      · rw [if_pos h, if_pos (by omega)]
      · rw [if_neg h, if_neg (by omega)]
/-- How great a list of entries is. -/
def nlens (es : List EN) : List Nat := es.map fun e => e.1.size
theorem nlens_length (es : List EN) : (nlens es).length = es.length := by simp [nlens]
theorem nlens_get (es : List EN) (i : Nat) : (nlens es)[i]?.getD 0 = (es[i]?.getD en0).1.size := by
  unfold nlens; rw [List.getElem?_map]; cases es[i]? <;> rfl
def sizeN (es : List EN) : Nat := es.length + (nlens es).sum

/-- A slice is no longer than its room. -/
def capOK (v : Value) : Prop := ∃ a n c, v = .slice a n c ∧ n ≤ c
/-- Inodes: kind, links, size, blocks, entries. -/
abbrev ID := Int × Int × Int × List Int × List EN
def InoR (w : World) (v0 v1 v2 vB vE : Value) (d : ID) : Prop := (v0 = .int .i64 d.1 ∧ v1 = .int .i64 d.2.1 ∧ v2 = .int .i64 d.2.2.1 ∧ capOK vB) ∧ Ints w vB d.2.2.2.1 ∧ Ents w vE d.2.2.2.2
theorem InoR.later {w w' : World} {v0 v1 v2 vB vE : Value} {d : ID} (h : InoR w v0 v1 v2 vB vE d) (hb : Below w.heap.size w w') : InoR w' v0 v1 v2 vB vE d := ⟨h.1, h.2.1.later hb, h.2.2.later hb⟩
def InoU (w : World) (v0 v1 v2 vB vE : Value) (d : ID) (F : Nat → Prop) : Prop := (v0 = .int .i64 d.1 ∧ v1 = .int .i64 d.2.1 ∧ v2 = .int .i64 d.2.2.1 ∧ capOK vB) ∧ ∃ F1 G1 : Nat → Prop, IntsO w vB d.2.2.2.1 F1 ∧ EntsO w vE d.2.2.2.2 G1 ∧ (∀ b, F1 b → ¬ G1 b) ∧ ∀ b, F1 b ∨ G1 b → F b
theorem InoU.reads {w : World} {v0 v1 v2 vB vE : Value} {d : ID} {F : Nat → Prop} (h : InoU w v0 v1 v2 vB vE d F) : InoR w v0 v1 v2 vB vE d := by
  obtain ⟨h0, _, _, h1, h2, _⟩ := h
  exact ⟨h0, h1.reads, h2.reads⟩
theorem InoU.keep {w w' : World} {v0 v1 v2 vB vE : Value} {d : ID} {F : Nat → Prop} (h : InoU w v0 v1 v2 vB vE d F) (e : ∀ b, F b → b < w.heap.size → w'.heap[b]? = w.heap[b]?) : InoU w' v0 v1 v2 vB vE d F := by
  obtain ⟨h0, F1, G1, h1, h2, hd, hf⟩ := h
  exact ⟨h0, F1, G1, h1.keep fun b hb => e b (hf b (Or.inl hb)), h2.keep fun b hb => e b (hf b (Or.inr hb)), hd, hf⟩
theorem InoU.later {w w' : World} {v0 v1 v2 vB vE : Value} {d : ID} {F : Nat → Prop} (h : InoU w v0 v1 v2 vB vE d F) (hb : Below w.heap.size w w') : InoU w' v0 v1 v2 vB vE d F := h.keep fun b _ hlt => hb.block b hlt
theorem InoU.mono {w : World} {v0 v1 v2 vB vE : Value} {d : ID} {F G : Nat → Prop} (h : InoU w v0 v1 v2 vB vE d F) (e : ∀ b, F b → G b) : InoU w v0 v1 v2 vB vE d G := by
  obtain ⟨h0, F1, G1, h1, h2, hd, hf⟩ := h
  exact ⟨h0, F1, G1, h1, h2, hd, fun b hb => e b (hf b hb)⟩
theorem InoU.chg {w w' : World} {v0 v1 v2 vB vE : Value} {d : ID} {F G : Nat → Prop} (h : InoU w v0 v1 v2 vB vE d F) (hc : Chg G w w') (hd : ∀ b, F b → ¬ G b) : InoU w' v0 v1 v2 vB vE d F := h.keep fun b hb hlt => hc.block b hlt (hd b hb)
def sizeIno (d : ID) : Nat := d.2.2.2.1.length + sizeN d.2.2.2.2
def spanIno (d : ID) : Nat := d.2.2.2.1.length + 2 * d.2.2.2.2.length
theorem spanIno_le (d : ID) : spanIno d ≤ 2 * sizeIno d := by unfold spanIno sizeIno sizeN; omega
end Go.Proofs.YtlacppjlclfpmaaGreat

namespace Go.Proofs.YtlacppjlclfpmaaGreat
open Go.RowKit
set_option maxRecDepth 100000

def id0 : ID := (0, 0, 0, [], [])
/-- The cells of a row of inodes. -/
def inCell (ds : List ID) (u : Nat → Value × Value) (j : Nat) : Value :=
  if j % 5 = 0 then .int .i64 (ds[j / 5]?.getD id0).1 else if j % 5 = 1 then .int .i64 (ds[j / 5]?.getD id0).2.1 else if j % 5 = 2 then .int .i64 (ds[j / 5]?.getD id0).2.2.1 else if j % 5 = 3 then (u (j / 5)).1 else (u (j / 5)).2
theorem inCell_0 (ds : List ID) (u : Nat → Value × Value) (k : Nat) : inCell ds u (k * 5) = .int .i64 (ds[k]?.getD id0).1 := by
  unfold inCell; rw [if_pos (by omega), show k * 5 / 5 = k by omega]
theorem inCell_1 (ds : List ID) (u : Nat → Value × Value) (k : Nat) : inCell ds u (k * 5 + 1) = .int .i64 (ds[k]?.getD id0).2.1 := by
  unfold inCell; rw [if_neg (by omega), if_pos (by omega), show (k * 5 + 1) / 5 = k by omega]
theorem inCell_2 (ds : List ID) (u : Nat → Value × Value) (k : Nat) : inCell ds u (k * 5 + 2) = .int .i64 (ds[k]?.getD id0).2.2.1 := by
  unfold inCell; rw [if_neg (by omega), if_neg (by omega), if_pos (by omega), show (k * 5 + 2) / 5 = k by omega]
theorem inCell_3 (ds : List ID) (u : Nat → Value × Value) (k : Nat) : inCell ds u (k * 5 + 3) = (u k).1 := by
  unfold inCell; rw [if_neg (by omega), if_neg (by omega), if_neg (by omega), if_pos (by omega), show (k * 5 + 3) / 5 = k by omega]
theorem inCell_4 (ds : List ID) (u : Nat → Value × Value) (k : Nat) : inCell ds u (k * 5 + 4) = (u k).2 := by
  unfold inCell; rw [if_neg (by omega), if_neg (by omega), if_neg (by omega), if_neg (by omega), show (k * 5 + 4) / 5 = k by omega]

/-- Inode d lies at block b, place o. -/
def InoAt (w : World) (b o : Nat) (d : ID) : Prop :=
  ∃ aB cB aE cE, w.cell? ⟨b, o, none⟩ = some (.int .i64 d.1) ∧ w.cell? ⟨b, o + 1, none⟩ = some (.int .i64 d.2.1) ∧ w.cell? ⟨b, o + 2, none⟩ = some (.int .i64 d.2.2.1) ∧
    w.cell? ⟨b, o + 3, none⟩ = some (.slice aB d.2.2.2.1.length cB) ∧ w.cell? ⟨b, o + 4, none⟩ = some (.slice aE d.2.2.2.2.length cE) ∧
    InoR w (.int .i64 d.1) (.int .i64 d.2.1) (.int .i64 d.2.2.1) (.slice aB d.2.2.2.1.length cB) (.slice aE d.2.2.2.2.length cE) d
theorem InoAt.later {w w' : World} {b o : Nat} {d : ID} (h : InoAt w b o d) (hb : Below w.heap.size w w') : InoAt w' b o d := by
  obtain ⟨aB, cB, aE, cE, h0, h1, h2, h3, h4, h5⟩ := h
  exact ⟨aB, cB, aE, cE, cell_later hb h0, cell_later hb h1, cell_later hb h2, cell_later hb h3, cell_later hb h4, h5.later hb⟩
theorem InoAt.mk' {w : World} {b o : Nat} {d : ID} {vB vE : Value} (h0 : w.cell? ⟨b, o, none⟩ = some (.int .i64 d.1)) (h1 : w.cell? ⟨b, o + 1, none⟩ = some (.int .i64 d.2.1)) (h2 : w.cell? ⟨b, o + 2, none⟩ = some (.int .i64 d.2.2.1)) (h3 : w.cell? ⟨b, o + 3, none⟩ = some vB) (h4 : w.cell? ⟨b, o + 4, none⟩ = some vE)
    (h : InoR w (.int .i64 d.1) (.int .i64 d.2.1) (.int .i64 d.2.2.1) vB vE d) : InoAt w b o d := by
  obtain ⟨aB, cB, eB, _, _⟩ := h.2.1.open'
  obtain ⟨aE, cE, eE, _, _⟩ := h.2.2.open'
  subst eB eE
  exact ⟨aB, cB, aE, cE, h0, h1, h2, h3, h4, h⟩

/-- Where the inodes of a list lie. -/
def AtI (w : World) (a : Option Addr) (n : Nat) (ds : List ID) : Prop :=
  ∀ k, k < n → ∃ b o, a = some ⟨b, o, none⟩ ∧ InoAt w b (o + k * 5) (ds[k]?.getD id0)
theorem AtI.later {w w' : World} {a : Option Addr} {n : Nat} {ds : List ID} (h : AtI w a n ds) (hb : Below w.heap.size w w') : AtI w' a n ds := fun k hk => by
  obtain ⟨b, o, e, h1⟩ := h k hk
  exact ⟨b, o, e, h1.later hb⟩
/-- The slice v reads as the inodes ds. -/
def Inos (w : World) (v : Value) (ds : List ID) : Prop := ∃ a cap, v = .slice a ds.length cap ∧ (ds.length ≤ maxLen ∧ ds.length ≤ cap) ∧ AtI w a ds.length ds
theorem Inos.later {w w' : World} {v : Value} {ds : List ID} (h : Inos w v ds) (hb : Below w.heap.size w w') : Inos w' v ds := by
  obtain ⟨a, cap, h1, h2, h3⟩ := h
  exact ⟨a, cap, h1, h2, h3.later hb⟩
theorem Inos.nil (w : World) (a : Option Addr) (cap : Nat) : Inos w (.slice a 0 cap) [] := ⟨a, cap, rfl, ⟨by simp, by simp⟩, fun k hk => by simp at hk⟩
theorem Inos.open' {w : World} {v : Value} {ds : List ID} (h : Inos w v ds) : ∃ a cap, v = .slice a ds.length cap ∧ (ds.length ≤ maxLen ∧ ds.length ≤ cap) ∧ AtI w a ds.length ds := h

/-- The slice v holds the inodes ds; no two of their lists, nor the outer one, lie in one block. -/
def InosO (w : World) (v : Value) (ds : List ID) (F : Nat → Prop) : Prop :=
  (ds = [] ∧ ∃ a cap, v = .slice a 0 cap) ∨
  (∃ b cap, ∃ u : Nat → Value × Value, ∃ G : Nat → Nat → Prop, F b ∧ (∀ i c, G i c → F c ∧ c ≠ b) ∧ (∀ i j c, i ≠ j → G i c → ¬ G j c) ∧
    v = .slice (some ⟨b, 0, none⟩) ds.length cap ∧ (ds.length ≤ maxLen ∧ ds.length ≤ cap) ∧ OwnRow w b (ds.length * 5) (inCell ds u) ∧
    ∀ i, i < ds.length → InoU w (.int .i64 (ds[i]?.getD id0).1) (.int .i64 (ds[i]?.getD id0).2.1) (.int .i64 (ds[i]?.getD id0).2.2.1) (u i).1 (u i).2 (ds[i]?.getD id0) (G i))
theorem InosO.reads {w : World} {v : Value} {ds : List ID} {F : Nat → Prop} (h : InosO w v ds F) : Inos w v ds := by
  rcases h with ⟨rfl, a, cap, rfl⟩ | ⟨b, cap, u, G, _, _, _, h1, h2, h3, h4⟩
  · exact Inos.nil w a cap
  · refine ⟨_, cap, h1, h2, fun k hk => ⟨b, 0, rfl, ?_⟩⟩
    rw [Nat.zero_add]
    have e0 := h3.cell (i := k * 5) (by omega)
    have e1 := h3.cell (i := k * 5 + 1) (by omega)
    have e2 := h3.cell (i := k * 5 + 2) (by omega)
    have e3 := h3.cell (i := k * 5 + 3) (by omega)
    have e4 := h3.cell (i := k * 5 + 4) (by omega)
    rw [inCell_0] at e0
    rw [inCell_1] at e1
    rw [inCell_2] at e2
    rw [inCell_3] at e3
    rw [inCell_4] at e4
    exact InoAt.mk' e0 e1 e2 e3 e4 (h4 k hk).reads
theorem InosO.keep {w w' : World} {v : Value} {ds : List ID} {F : Nat → Prop} (h : InosO w v ds F) (e : ∀ b, F b → b < w.heap.size → w'.heap[b]? = w.heap[b]?) : InosO w' v ds F := by
  rcases h with h | ⟨b, cap, u, G, hF, hG, hGG, h1, h2, h3, h4⟩
  · exact Or.inl h
  · exact Or.inr ⟨b, cap, u, G, hF, hG, hGG, h1, h2, h3.block (e b hF h3.lt), fun i hi => (h4 i hi).keep fun c hc => e c (hG i c hc).1⟩
theorem InosO.mono {w : World} {v : Value} {ds : List ID} {F F' : Nat → Prop} (h : InosO w v ds F) (e : ∀ b, F b → F' b) : InosO w v ds F' := by
  rcases h with h | ⟨b, cap, u, G, hF, hG, h1⟩
  · exact Or.inl h
  · exact Or.inr ⟨b, cap, u, G, e b hF, fun i c hc => ⟨e c (hG i c hc).1, (hG i c hc).2⟩, h1⟩
theorem InosO.later {w w' : World} {v : Value} {ds : List ID} {F : Nat → Prop} (h : InosO w v ds F) (hb : Below w.heap.size w w') : InosO w' v ds F := h.keep fun b _ hlt => hb.block b hlt
theorem InosO.chg {w w' : World} {v : Value} {ds : List ID} {F G : Nat → Prop} (h : InosO w v ds F) (hc : Chg G w w') (hd : ∀ b, F b → ¬ G b) : InosO w' v ds F := h.keep fun b hb hlt => hc.block b hlt (hd b hb)

/-- How great lists of inodes are, and how far they are marked. -/
def isz (ds : List ID) : List Nat := ds.map sizeIno
theorem isz_length (ds : List ID) : (isz ds).length = ds.length := by simp [isz]
theorem isz_get (ds : List ID) (i : Nat) : (isz ds)[i]?.getD 0 = sizeIno (ds[i]?.getD id0) := by
  unfold isz; rw [List.getElem?_map]; cases ds[i]? <;> rfl
def sizeInos (ds : List ID) : Nat := ds.length + (isz ds).sum
def isp (ds : List ID) : List Nat := ds.map fun d => 3 + spanIno d
theorem isp_length (ds : List ID) : (isp ds).length = ds.length := by simp [isp]
theorem isp_get (ds : List ID) (i : Nat) (h : i < ds.length) : (isp ds)[i]?.getD 0 = 3 + spanIno (ds[i]?.getD id0) := by
  unfold isp; rw [List.getElem?_map, List.getElem?_eq_getElem h]; rfl
def spanInos (ds : List ID) : Nat := (isp ds).sum
theorem spanInos_le (ds : List ID) : spanInos ds ≤ 3 * sizeInos ds := by
  unfold spanInos sizeInos isp isz
  induction ds with
  | nil => simp
  | cons d ds ih =>
    have := spanIno_le d
    simp only [List.map_cons, List.sum_cons, List.length_cons] at ih ⊢
    omega
theorem isz_le (ds : List ID) (k : Nat) : sizeIno (ds[k]?.getD id0) ≤ (isz ds).sum := by
  by_cases h : k < ds.length
  · have h1 := upto_succ (isz ds) k (by rw [isz_length]; exact h)
    rw [isz_get] at h1
    have h2 := upto_le (isz ds) (k + 1)
    omega
  · rw [List.getElem?_eq_none (by omega)]; simp [sizeIno, sizeN, nlens, id0]

/-- The first j inodes stand, inode i in the blocks from s i up to s (i + 1), none below lo. -/
structure BuiltI (w : World) (lo j : Nat) (u : Nat → Value × Value) (f : Nat → ID) (s : Nat → Nat) : Prop where
  lo : lo ≤ s 0
  mono : ∀ i, i < j → s i ≤ s (i + 1)
  hi : s j ≤ w.heap.size
  at' : ∀ i, i < j → InoU w (.int .i64 (f i).1) (.int .i64 (f i).2.1) (.int .i64 (f i).2.2.1) (u i).1 (u i).2 (f i) (fun b => s i ≤ b ∧ b < s (i + 1))
theorem BuiltI.nil {w : World} {lo : Nat} (u : Nat → Value × Value) (f : Nat → ID) (h : lo ≤ w.heap.size) : BuiltI w lo 0 u f (fun _ => w.heap.size) :=
  ⟨h, fun i hi => by omega, Nat.le_refl _, fun i hi => by omega⟩
theorem BuiltI.le {w : World} {lo j : Nat} {u : Nat → Value × Value} {f : Nat → ID} {s : Nat → Nat} (h : BuiltI w lo j u f s) : ∀ i k, i ≤ k → k ≤ j → s i ≤ s k := by
  intro i k hik
  induction k with
  | zero => intro _; have : i = 0 := by omega
            subst this; exact Nat.le_refl _
  | succ k ih =>
    intro hk
    by_cases e : i = k + 1
    · subst e; exact Nat.le_refl _
    · exact Nat.le_trans (ih (by omega) (by omega)) (h.mono k (by omega))
theorem BuiltI.low {w : World} {lo j : Nat} {u : Nat → Value × Value} {f : Nat → ID} {s : Nat → Nat} (h : BuiltI w lo j u f s) (i : Nat) (hi : i ≤ j) : lo ≤ s i := Nat.le_trans h.lo (h.le 0 i (Nat.zero_le _) hi)
theorem BuiltI.keep {w w' : World} {lo j : Nat} {u : Nat → Value × Value} {f : Nat → ID} {s : Nat → Nat} (h : BuiltI w lo j u f s) (hs : w.heap.size ≤ w'.heap.size) (e : ∀ b, lo ≤ b → b < w.heap.size → w'.heap[b]? = w.heap[b]?) : BuiltI w' lo j u f s :=
  ⟨h.lo, h.mono, Nat.le_trans h.hi hs, fun i hi => (h.at' i hi).keep fun b hb hlt => e b (Nat.le_trans (h.low i (by omega)) hb.1) hlt⟩
theorem BuiltI.later {w w' : World} {lo j : Nat} {u : Nat → Value × Value} {f : Nat → ID} {s : Nat → Nat} (h : BuiltI w lo j u f s) (hb : Below w.heap.size w w') : BuiltI w' lo j u f s := h.keep hb.size fun b _ hlt => hb.block b hlt
theorem BuiltI.store {w : World} {lo j : Nat} {u : Nat → Value × Value} {f : Nat → ID} {s : Nat → Nat} (h : BuiltI w lo j u f s) {p : Addr} (hp : p.block < lo) (v : Value) : BuiltI (w.setCell p v) lo j u f s :=
  h.keep (by simp [World.setCell]) fun b hb _ => Below.heap_setCell _ _ _ _ (by omega)
theorem BuiltI.next {w w' : World} {lo j : Nat} {u : Nat → Value × Value} {f : Nat → ID} {s : Nat → Nat} {vB vE : Value} (h : BuiltI w lo j u f s) (hb : Below w.heap.size w w') (hv : InoU w' (.int .i64 (f j).1) (.int .i64 (f j).2.1) (.int .i64 (f j).2.2.1) vB vE (f j) (fresh w w')) :
    BuiltI w' lo (j + 1) (fun i => if i = j then (vB, vE) else u i) f (fun i => if i ≤ j then s i else w'.heap.size) := by
  have h' := h.later hb
  have en : ∀ i : Nat, ¬ i + 1 ≤ i := fun i => by omega
  refine ⟨by simpa using h.lo, fun i hi => ?_, by simp [en], fun i hi => ?_⟩
  · by_cases e : i = j
    · subst e; simp [en]; exact h'.hi
    · simp [show i ≤ j by omega, show i + 1 ≤ j by omega]; exact h.mono i (by omega)
  · by_cases e : i = j
    · subst e
      simp [en]
      exact hv.mono fun b hb => ⟨Nat.le_trans h.hi hb.1, hb.2⟩
    · simp [e, show i ≤ j by omega, show i + 1 ≤ j by omega]
      exact h'.at' i (by omega)
theorem BuiltI.apart {w : World} {lo n : Nat} {u : Nat → Value × Value} {f : Nat → ID} {s : Nat → Nat} (h : BuiltI w lo n u f s) (i j c : Nat) (e : i ≠ j) (h1 : i < n ∧ s i ≤ c ∧ c < s (i + 1)) (h2 : j < n ∧ s j ≤ c ∧ c < s (j + 1)) : False := by
  rcases Nat.lt_or_gt_of_ne e with h3 | h3
  · have := h.le (i + 1) j (by omega) (by omega); omega
  · have := h.le (j + 1) i (by omega) (by omega); omega
theorem BuiltI.inos {w : World} {lo n b cap : Nat} {u : Nat → Value × Value} {s : Nat → Nat} (ds : List ID) (h : BuiltI w lo n u (fun i => ds[i]?.getD id0) s) (hn : ds.length = n) (hm : n ≤ maxLen ∧ n ≤ cap) (hb : b < lo) (hr : OwnRow w b (n * 5) (inCell ds u)) (F : Nat → Prop) (hF : F b) (hF' : ∀ c, lo ≤ c → c < w.heap.size → F c) :
    InosO w (.slice (some ⟨b, 0, none⟩) n cap) ds F := by
  subst hn
  refine Or.inr ⟨b, cap, u, fun i c => i < ds.length ∧ s i ≤ c ∧ c < s (i + 1), hF, fun i c hc => ?_, fun i j c e h1 h2 => h.apart i j c e h1 h2, rfl, hm, hr, fun i hi => ?_⟩
  · have h1 := h.low i (by omega)
    have h2 := h.le (i + 1) ds.length (by omega) (Nat.le_refl _)
    have h3 := h.hi
    exact ⟨hF' c (by omega) (by omega), by omega⟩
  · exact (h.at' i hi).mono fun c hc => ⟨hi, hc⟩

/-- The cells of a row of inodes of which the first j stand. -/
def zeroI (j : Nat) : Value := if j % 5 < 3 then .int .i64 0 else .slice none 0 0
def partI (ds : List ID) (u : Nat → Value × Value) (j c : Nat) : Value := if c < j * 5 then inCell ds u c else zeroI c
theorem partI_next (ds : List ID) (u : Nat → Value × Value) (j c : Nat) (vB vE : Value) :
    (if c = j * 5 + 4 then vE else if c = j * 5 + 3 then vB else if c = j * 5 + 2 then .int .i64 (ds[j]?.getD id0).2.2.1 else if c = j * 5 + 1 then .int .i64 (ds[j]?.getD id0).2.1 else if c = j * 5 then .int .i64 (ds[j]?.getD id0).1 else partI ds u j c) = partI ds (fun i => if i = j then (vB, vE) else u i) (j + 1) c := by
  unfold partI
  by_cases e4 : c = j * 5 + 4
  · subst e4; rw [if_pos rfl, if_pos (by omega), inCell_4]; simp
  · rw [if_neg e4]
    by_cases e3 : c = j * 5 + 3
    · subst e3; rw [if_pos rfl, if_pos (by omega), inCell_3]; simp
    · rw [if_neg e3]
      by_cases e2 : c = j * 5 + 2
      · subst e2; rw [if_pos rfl, if_pos (by omega), inCell_2]
      · rw [if_neg e2]
        by_cases e1 : c = j * 5 + 1
        · subst e1; rw [if_pos rfl, if_pos (by omega), inCell_1]
        · rw [if_neg e1]
          by_cases e0 : c = j * 5
          · subst e0; rw [if_pos rfl, if_pos (by omega), inCell_0]
          · rw [if_neg e0]
            by_cases e : c < j * 5
            · rw [if_pos e, if_pos (by omega)]
              unfold inCell
              dsimp only
              rw [if_neg (show ¬ c / 5 = j by omega)]
            · rw [if_neg e, if_neg (by omega)]

/-- 'make' of n inodes. -/
theorem run_make_five {P : Program} (t e : TypeId) (x0 x1 x2 x3 x4 : Value) (bytes : Nat) (ht : P.underlying t = some (.slice e)) (hinfo : (P.info? e).map (fun i => (i.zero, i.size, i.bytes)) = some (some (.agg #[x0, x1, x2, x3, x4]), 5, bytes)) (hz : (Value.agg #[x0, x1, x2, x3, x4]).cells = #[x0, x1, x2, x3, x4])
    (kl kc : IntKind) (n : Nat) (hbytes : bytes * n ≤ 281474976710656) (h63 : n ≤ 9223372036854775807) (w : World) :
    (Instr.makeSlice t (.int kl (n : Int)) (.int kc (n : Int))).run P w = .ok (.slice (some ⟨w.heap.size, 0, none⟩) n n) (w.alloc (.cells (madeCells #[x0, x1, x2, x3, x4] (n * 5)) e)) := by
  obtain ⟨i, hi, hzz⟩ := Option.map_eq_some_iff.1 hinfo
  simp only [Prod.mk.injEq] at hzz
  obtain ⟨h1, h2, h3⟩ := hzz
  have hb' : (i.bytes : Int) * (n : Int) ≤ 281474976710656 := by
    have h : ((i.bytes * n : Nat) : Int) ≤ 281474976710656 := by rw [h3]; omega
    rwa [Int.natCast_mul] at h
  have hr := run_make (P := P) w t e i _ ht hi h1 kl kc n n (by omega) (Int.le_refl _) hb' (by omega)
  simp only [Int.toNat_natCast, h2, hz] at hr
  exact hr
theorem OwnRow.madeFive (w : World) (n : Nat) (t : TypeId) : OwnRow (w.alloc (.cells (madeCells #[.int .i64 0, .int .i64 0, .int .i64 0, .slice none 0 0, .slice none 0 0] (n * 5)) t)) w.heap.size (n * 5) zeroI := by
  refine ⟨_, t, Go.Deep.blk_alloc_new _ _, by rw [size_madeCells]; exact Nat.le_refl _, fun i hi => ?_⟩
  unfold madeCells zeroI
  rw [Array.getElem?_map]
  have h1 : (Array.range (n * 5))[i]? = some i := by simp [hi]
  rw [h1]
  have : i % 5 = 0 ∨ i % 5 = 1 ∨ i % 5 = 2 ∨ i % 5 = 3 ∨ i % 5 = 4 := by omega
  rcases this with h | h | h | h | h <;> simp [h]
end Go.Proofs.YtlacppjlclfpmaaGreat

namespace Go.Proofs.YtlacppjlclfpmaaGreat
open Go.RowKit
set_option maxRecDepth 100000

theorem Tryz.infoEnt : (Tryz.prog.info? 109).map (fun i => (i.zero, i.size, i.bytes)) = some (some (.agg #[.string ⟨#[]⟩, .int .i64 0]), 2, 24) := by kernel_rfl

theorem eqEnt_true (w : World) (s : ByteArray) (z : Int) :
    Calls Tryz.prog 101 #[.agg #[.string s, .int .i64 z], .agg #[.string s, .int .i64 z]] w fun e w' => e = .returned (.bool true) ∧ Below w.heap.size w w' := by
  have h0 : (s.toList != s.toList) = false := by simp
  have h2 : (z != z) = false := by simp
  go_enter Tryz.func101, Tryz.ntmps101
  go_wp2
  go_ret
  exact ⟨rfl, later2 _ _ _⟩

set_option maxHeartbeats 800000 in
theorem eqEnts_walk (w : World) (a a' : Option Addr) (cap cap' n : Nat) (es : List EN) (hn : n ≤ maxLen) (hc : AtN w a n es) (hc' : AtN w a' n es) :
    Calls Tryz.prog 96 #[.slice a n cap, .slice a' n cap'] w fun e w' => e = .returned (.bool true) ∧ Below w.heap.size w w' := by
  unfold maxLen at hn
  have HC : Hid (AtN w a n es) := hc
  have HC' : Hid (AtN w a' n es) := hc'
  clear hc hc'
  go_enter Tryz.func96, Tryz.ntmps96
  go_wp2
  go_loopw [5] (fun i wr => ∃ k : Nat, k ≤ n ∧ i = .int .i64 k ∧ Below w.heap.size w wr) (fun i _ => n - (intOf i).toNat)
  case atStart => exact ⟨0, Nat.zero_le _, rfl, Below.refl _ _⟩
  case round =>
    obtain ⟨j, hj, rfl, hbl⟩ := hrel
    by_cases hlt : j < n
    · obtain ⟨b, off, rfl, c0, c1⟩ := HC.out j hlt
      obtain ⟨b', off', rfl, d0, d1⟩ := HC'.out j hlt
      replace c0 := cell_later hbl c0
      replace c1 := cell_later hbl c1
      replace d0 := cell_later hbl d0
      replace d1 := cell_later hbl d1
      generalize (es[j]?.getD en0).1 = x at c0 d0
      generalize (es[j]?.getD en0).2 = y at c1 d1
      have HBL : Hid (Below w.heap.size w wr) := hbl
      clear hbl
      go_wp2_with fail
      go_region_with ((go_at_call 101; refine (eqEnt_true _ x y).mono ?_; rintro e w' ⟨rfl, hb2⟩))
      all_goals
        go_wp2
        go_roundw
        case rel => exact ⟨j + 1, by omega, by go_num, (HBL.out.drew).trans (hb2.mono HBL.out.size)⟩
        case measure => simp [intOf]; omega
    · go_wp2
      go_ret
      exact ⟨rfl, hbl⟩
theorem eqEntsU {w : World} {v v' : Value} {es : List EN} (h : Ents w v es) (h' : Ents w v' es) : Calls Tryz.prog 96 #[v, v'] w fun e w' => e = .returned (.bool true) ∧ Below w.heap.size w w' := by
  obtain ⟨a, cap, rfl, hm, _, hc⟩ := h.open'
  obtain ⟨a', cap', rfl, _, hc'⟩ := h'
  exact eqEnts_walk w a a' cap cap' es.length es hm hc hc'
end Go.Proofs.YtlacppjlclfpmaaGreat

namespace Go.Proofs.YtlacppjlclfpmaaGreat
open Go.RowKit
set_option maxRecDepth 100000

set_option maxHeartbeats 400000 in
theorem markEnts_nil (w : World) (a : Option Addr) (cap k : Nat) :
    Calls Tryz.prog 87 #[.slice a 0 cap, .int .i64 (k : Int)] w fun e w' => e = .returned (.int .i64 (k : Int)) ∧ w' = w := by
  go_enter Tryz.func87, Tryz.ntmps87
  go_wp2
  go_loop [1, 5] (fun q i => i = .int .i64 0 ∧ q = .int .i64 (k : Int)) (fun _ _ => 0)
  case atStart => exact ⟨rfl, rfl⟩
  case round =>
    obtain ⟨rfl, rfl⟩ := hrel
    go_wp2
    go_ret
    exact ⟨rfl, rfl⟩

theorem markCell_0 (k j : Nat) : markCell k (j * 2) = mkT (k + 2 * j) := by unfold markCell; rw [if_pos (by omega), show k + j * 2 = k + 2 * j by omega]
theorem markCell_1 (k j : Nat) : markCell k (j * 2 + 1) = .int .i64 ((k + 2 * j : Nat) + 1 : Int) := by unfold markCell; rw [if_neg (by omega)]; congr 1; omega

set_option maxHeartbeats 1600000 in
theorem markEnts_walk (w : World) (b cap n k : Nat) (f : Nat → Value) (hk0 : 1 ≤ k) (hk : k + 2 * n ≤ 4294967296) (hr : OwnRow w b (n * 2) f) :
    Calls Tryz.prog 87 #[.slice (some ⟨b, 0, none⟩) n cap, .int .i64 (k : Int)] w fun e w' => e = .returned (.int .i64 ((k + 2 * n : Nat) : Int)) ∧ OwnRow w' b (n * 2) (markCell k) ∧ Chg (fun c => c = b) w w' := by
  have HR : Hid (OwnRow w b (n * 2) f) := hr
  clear hr
  go_enter Tryz.func87, Tryz.ntmps87
  go_wp2
  go_loopw [1, 5] (fun q i wr => ∃ j : Nat, j ≤ n ∧ i = .int .i64 j ∧ q = .int .i64 ((k + 2 * j : Nat) : Int) ∧ OwnRow wr b (n * 2) (fun c => if c < j * 2 then markCell k c else f c) ∧ Chg (fun c => c = b) w wr) (fun _ i _ => n - (intOf i).toNat)
  case atStart => exact ⟨0, Nat.zero_le _, rfl, by simp, HR.out.congr fun i _ => by simp, Chg.refl _ _⟩
  case round =>
    obtain ⟨j, hj, rfl, rfl, hrow, hch⟩ := hrel
    have HROW : Hid (OwnRow wr b (n * 2) (fun c => if c < j * 2 then markCell k c else f c)) := hrow
    have HCH : Hid (Chg (fun c => c = b) w wr) := hch
    clear hch
    by_cases hlt : j < n
    · have c3 := hrow.lt
      have c1 := hrow.cell (i := j * 2) (by omega)
      have c2 := hrow.frozen (j * 2)
      simp only [Nat.lt_irrefl, if_false] at c1
      clear hrow
      have hkk : k + 2 * j + 2 ≤ 4294967296 := by omega
      have hk1 : 1 ≤ k + 2 * j := by omega
      have HV : Hid (∀ c : Nat, (if c = j * 2 + 1 then Value.int .i64 (((k + 2 * j : Nat) : Int) + 1) else if c = j * 2 then mkT (k + 2 * j) else if c < j * 2 then markCell k c else f c) = if c < (j + 1) * 2 then markCell k c else f c) := by
        intro c
        by_cases e1 : c = j * 2 + 1
        · subst e1; rw [if_pos rfl, if_pos (by omega), markCell_1]
        · rw [if_neg e1]
          by_cases e0 : c = j * 2
          · subst e0; rw [if_pos rfl, if_pos (by omega), markCell_0]
          · rw [if_neg e0]
            by_cases h : c < j * 2
            · rw [if_pos h, if_pos (by omega)]
            · rw [if_neg h, if_neg (by omega)]
      have HQ : Hid (k + 2 * (j + 1) = k + 2 * j + 2) := by unfold Hid; omega
      generalize hq : k + 2 * j = q at *
      clear hq
      go_wp2_with fail
      refine (markText_any _ q hk1 (by omega)).mono ?_
      rintro e w1 ⟨rfl, hb1⟩
      have HCH1 : Hid (Chg (fun c => c = b) w w1) := HCH.out.trans (Chg.of_below hb1)
      have hrow1 := HROW.out.block (hb1.block b c3)
      have HROW1 : Hid (OwnRow w1 b (n * 2) (fun c => if c < j * 2 then markCell k c else f c)) := hrow1
      have d0 := hrow1.cell (i := j * 2) (by omega)
      have d1 := hrow1.cell (i := j * 2 + 1) (by omega)
      simp only [Nat.lt_irrefl, if_false] at d0
      rw [if_neg (by omega)] at d1
      have f0 := hrow1.frozen (j * 2)
      have f1 := hrow1.frozen (j * 2 + 1)
      have HT : Hid (mkT q = .string (mkB (109 :: dg q []))) := rfl
      rw [HT.out] at HV
      generalize mkB (109 :: dg q []) = v at *
      clear hb1 hrow1 HROW HCH HT c1 c2
      go_wp2
      go_roundw
      case rel =>
        refine ⟨j + 1, by omega, by go_num, by rw [HQ.out]; go_num, ((HROW1.out.set (j * 2) _).set (j * 2 + 1) _).congr fun c hc => ?_, (HCH1.out.set rfl _ _).set rfl _ _⟩
        rw [← HV.out c]
      case measure => simp [intOf]; omega
    · have hjn : j = n := by omega
      clear hrow
      go_wp2
      go_ret
      subst hjn
      exact ⟨rfl, HROW.out.congr fun i hi => by simp [hi], HCH.out⟩
theorem markEntsU {w : World} {v : Value} {es : List EN} {F : Nat → Prop} (k : Nat) (h : EntsO w v es F) (hk0 : 1 ≤ k) (hk : k + 2 * es.length ≤ 4294967296) :
    Calls Tryz.prog 87 #[v, .int .i64 (k : Int)] w fun e w' => e = .returned (.int .i64 ((k + 2 * es.length : Nat) : Int)) ∧ EntsO w' v (marksN k es.length) F ∧ Chg F w w' := by
  rcases h with ⟨rfl, a, cap, rfl⟩ | ⟨b, cap, hF, rfl, hl, hr⟩
  · exact (markEnts_nil w a cap k).mono fun e w' ⟨he, hw⟩ => ⟨by rw [he]; simp, Or.inl ⟨rfl, a, cap, rfl⟩, hw ▸ Chg.refl _ _⟩
  · refine (markEnts_walk w b cap es.length k _ hk0 hk hr).mono fun e w' ⟨he, hrow, hc⟩ => ⟨he, Or.inr ⟨b, cap, hF, by rw [marksN_length], by rw [marksN_length]; exact ⟨hl.1, hl.2.1, marksN_size k _ hk⟩, ?_⟩, hc.mono fun c hc => hc ▸ hF⟩
    rw [marksN_length]
    exact hrow.congr fun c hc => (enCell_marks k hc).symm

set_option maxHeartbeats 3200000 in
theorem heldEnts_walk (w : World) (a : Option Addr) (cap n k : Nat) (hk0 : 1 ≤ k) (hk : k + 2 * n ≤ 4294967296) (hc : AtN w a n (marksN k n)) :
    Calls Tryz.prog 89 #[.slice a n cap, .int .i64 (k : Int)] w fun e w' => e = .returned (.int .i64 ((k + 2 * n : Nat) : Int)) ∧ Below w.heap.size w w' := by
  have HC : Hid (AtN w a n (marksN k n)) := hc
  clear hc
  go_enter Tryz.func89, Tryz.ntmps89
  go_wp2
  go_loopw [1, 5] (fun q i wr => ∃ j : Nat, j ≤ n ∧ i = .int .i64 j ∧ q = .int .i64 ((k + 2 * j : Nat) : Int) ∧ Below w.heap.size w wr) (fun _ i _ => n - (intOf i).toNat)
  case atStart => exact ⟨0, Nat.zero_le _, rfl, by simp, Below.refl _ _⟩
  case round =>
    obtain ⟨j, hj, rfl, rfl, hbl⟩ := hrel
    have HBL : Hid (Below w.heap.size w wr) := hbl
    clear hbl
    by_cases hlt : j < n
    · obtain ⟨b, off, rfl, c0, c1⟩ := HC.out j hlt
      rw [marksN_get k hlt] at c0 c1
      dsimp only at c0 c1
      replace c0 := cell_later HBL.out c0
      replace c1 := cell_later HBL.out c1
      have hkk : k + 2 * j + 2 ≤ 4294967296 := by omega
      have hk1 : 1 ≤ k + 2 * j := by omega
      have HQ : Hid (k + 2 * (j + 1) = k + 2 * j + 2) := by unfold Hid; omega
      generalize hq : k + 2 * j = q at *
      have HMT : Hid (∀ W, Calls Tryz.prog 62 #[.int .i64 (q : Int)] W fun e w' => e = .returned (.string (mkB (109 :: dg q []))) ∧ Below W.heap.size W w') := fun W => markText_any W q hk1 (by omega)
      generalize mkB (109 :: dg q []) = v at *
      clear hq
      have hne : (v.toList != v.toList) = false := by simp
      have hnz : ((((q + 1 : Nat) : Int)) != (q : Int) + 1) = false := by simp
      go_wp2_with fail
      go_region_held3 (fun W => W.cell? ⟨b, off + j * 2, none⟩ = some (.string v) ∧ W.cell? ⟨b, off + j * 2 + 1, none⟩ = some (.int .i64 ((q + 1 : Nat) : Int))) (go_keep) (first | (go_at_call 62; refine (HMT.out _).mono ?_; rintro e w2 ⟨rfl, hb2⟩; have HB2 : Hid (Below wr.heap.size wr w2) := (Below.refl _ _).drew.trans hb2; have k0 := cell_later hb2 c0; have k1 := cell_later hb2 c1; clear hb2))
      all_goals
        go_wp2
        go_roundw
        case rel => exact ⟨j + 1, by omega, by go_num, by rw [HQ.out]; go_num, HBL.out.trans (HB2.out.mono HBL.out.size)⟩
        case measure => simp [intOf]; omega
    · have hjn : j = n := by omega
      go_wp2
      go_ret
      subst hjn
      exact ⟨rfl, HBL.out⟩
theorem heldEntsU {w : World} {v : Value} (k n : Nat) (h : Ents w v (marksN k n)) (hk0 : 1 ≤ k) (hk : k + 2 * n ≤ 4294967296) :
    Calls Tryz.prog 89 #[v, .int .i64 (k : Int)] w fun e w' => e = .returned (.int .i64 ((k + 2 * n : Nat) : Int)) ∧ Below w.heap.size w w' := by
  obtain ⟨a, cap, rfl, hm, _, hc⟩ := h.open'
  rw [marksN_length] at hm hc ⊢
  exact heldEnts_walk w a cap n k hk0 hk hc
end Go.Proofs.YtlacppjlclfpmaaGreat

namespace Go.Proofs.YtlacppjlclfpmaaGreat
open Go.RowKit
set_option maxRecDepth 100000

theorem OwnRow.newV (w : World) (vs : List Value) (t : TypeId) : OwnRow (w.alloc (.cells vs.toArray t)) w.heap.size vs.length (fun i => vs[i]?.getD (.int .i64 0)) := by
  refine ⟨_, t, Go.Deep.blk_alloc_new _ _, by simp, fun i hi => ?_⟩
  simp [List.getElem?_eq_getElem hi]

set_option maxHeartbeats 1600000 in
theorem eqInodeU (w : World) (v0 v1 v2 vB vE v0' v1' v2' vB' vE' : Value) (d : ID) (h : InoR w v0 v1 v2 vB vE d) (h' : InoR w v0' v1' v2' vB' vE' d) :
    Calls Tryz.prog 83 #[.agg #[v0, v1, v2, vB, vE], .agg #[v0', v1', v2', vB', vE']] w fun e w' => e = .returned (.bool true) ∧ Below w.heap.size w w' := by
  obtain ⟨⟨rfl, rfl, rfl, _⟩, h1, h2⟩ := h
  obtain ⟨⟨rfl, rfl, rfl, _⟩, h1', h2'⟩ := h'
  obtain ⟨a1, c1, rfl, _⟩ := h1.open'
  obtain ⟨a2, c2, rfl, _⟩ := h2.open'
  obtain ⟨b1, k1, rfl, _⟩ := h1'.open'
  obtain ⟨b2, k2, rfl, _⟩ := h2'.open'
  have H1 : Hid (Ints w _ d.2.2.2.1) := h1
  have H1' : Hid (Ints w _ d.2.2.2.1) := h1'
  have H2 : Hid (Ents w _ d.2.2.2.2) := h2
  have H2' : Hid (Ents w _ d.2.2.2.2) := h2'
  clear h1 h2 h1' h2'
  generalize d.1 = z0
  generalize d.2.1 = z1
  generalize d.2.2.1 = z2
  generalize d.2.2.2.1.length = m1 at *
  generalize d.2.2.2.2.length = m2 at *
  have e0 : (z0 != z0) = false := by simp
  have e1 : (z1 != z1) = false := by simp
  have e2 : (z2 != z2) = false := by simp
  go_enter Tryz.func83, Tryz.ntmps83
  go_wp2_with fail
  refine (eqIntsU (H1.out.later (later2 _ _ _)) (H1'.out.later (later2 _ _ _))).mono ?_
  rintro e w1 ⟨rfl, hb1⟩
  have HB1 : Hid (Below w.heap.size w w1) := (later2 _ _ _).trans (hb1.mono (by simp; omega))
  have x2 : w1.cell? ⟨w.heap.size, 4, none⟩ = some (.slice a2 m2 c2) := by
    rw [hb1.cell (by simp; omega)]
    exact ((OwnRow.newV w [.int .i64 z0, .int .i64 z1, .int .i64 z2, .slice a1 m1 c1, .slice a2 m2 c2] 58).later (later1 _ _)).cell (i := 4) (by simp)
  have y2 : w1.cell? ⟨w.heap.size + 1, 4, none⟩ = some (.slice b2 m2 k2) := by
    rw [hb1.cell (by simp)]
    have := (OwnRow.newV (w.alloc (.cells #[.int .i64 z0, .int .i64 z1, .int .i64 z2, .slice a1 m1 c1, .slice a2 m2 c2] 58)) [.int .i64 z0, .int .i64 z1, .int .i64 z2, .slice b1 m1 k1, .slice b2 m2 k2] 58).cell (i := 4) (by simp)
    rw [World.size_alloc] at this
    exact this
  clear hb1
  go_wp2_with fail
  refine (eqEntsU (H2.out.later HB1.out) (H2'.out.later HB1.out)).mono ?_
  rintro e w2 ⟨rfl, hb2⟩
  have HB2 : Hid (Below w.heap.size w w2) := HB1.out.trans (hb2.mono HB1.out.size)
  clear hb2
  go_wp2
  go_ret
  exact ⟨rfl, HB2.out⟩

/-- An inode whose lists are marked from k on. -/
def mkIno (k : Int) (d : ID) : ID := (d.1, d.2.1, d.2.2.1, marks k d.2.2.2.1.length, marksN (k + (d.2.2.2.1.length : Nat)).toNat d.2.2.2.2.length)

end Go.Proofs.YtlacppjlclfpmaaGreat

namespace Go.Proofs.YtlacppjlclfpmaaGreat
open Go.RowKit
set_option maxRecDepth 100000

def z5 : List Value := [.int .i64 0, .int .i64 0, .int .i64 0, .slice none 0 0, .slice none 0 0]
theorem box5 (w : World) (o1 o2 : Obj) (t : TypeId) (z0 z1 z2 : Value) :
    OwnRow (((w.alloc o1).alloc o2).alloc (.cells #[z0, z1, z2, .slice none 0 0, .slice none 0 0] t)) (w.heap.size + 1 + 1) 5 (fun i => if i = 0 then z0 else if i = 1 then z1 else if i = 2 then z2 else .slice none 0 0) := by
  have h := OwnRow.newV ((w.alloc o1).alloc o2) [z0, z1, z2, .slice none 0 0, .slice none 0 0] t
  simp only [World.size_alloc] at h
  refine OwnRow.congr (n := 5) h fun i hi => ?_
  have : i = 0 ∨ i = 1 ∨ i = 2 ∨ i = 3 ∨ i = 4 := by omega
  rcases this with rfl | rfl | rfl | rfl | rfl <;> simp
theorem box5' (w : World) (o1 o3 : Obj) (t : TypeId) :
    OwnRow (((w.alloc o1).alloc (.cells #[.int .i64 0, .int .i64 0, .int .i64 0, .slice none 0 0, .slice none 0 0] t)).alloc o3) (w.heap.size + 1) 5 (fun i => if i < 3 then .int .i64 0 else .slice none 0 0) := by
  have h := (OwnRow.newV (w.alloc o1) z5 t).later (later1 _ o3)
  simp only [World.size_alloc] at h
  refine OwnRow.congr (n := 5) h fun i hi => ?_
  have : i = 0 ∨ i = 1 ∨ i = 2 ∨ i = 3 ∨ i = 4 := by omega
  rcases this with rfl | rfl | rfl | rfl | rfl <;> simp [z5]
theorem box5p (w : World) (x0 x1 x2 x3 x4 : Value) (o2 o3 : Obj) (t : TypeId) :
    OwnRow (((w.alloc (.cells #[x0, x1, x2, x3, x4] t)).alloc o2).alloc o3) w.heap.size 5 (fun i => [x0, x1, x2, x3, x4][i]?.getD (.int .i64 0)) :=
  ((OwnRow.newV w [x0, x1, x2, x3, x4] t).later (later1 _ o2)).later (later1 _ o3)

end Go.Proofs.YtlacppjlclfpmaaGreat

namespace Go.Proofs.YtlacppjlclfpmaaGreat
open Go.RowKit
set_option maxRecDepth 100000

theorem Tryz.infoIno : (Tryz.prog.info? 58).map (fun i => (i.zero, i.size, i.bytes)) = some (some (.agg #[.int .i64 0, .int .i64 0, .int .i64 0, .slice none 0 0, .slice none 0 0]), 5, 72) := by kernel_rfl

set_option maxHeartbeats 3200000 in
theorem eqInos_walk (w : World) (a a' : Option Addr) (cap cap' n : Nat) (ds : List ID) (hn : n ≤ maxLen) (hc : AtI w a n ds) (hc' : AtI w a' n ds) :
    Calls Tryz.prog 58 #[.slice a n cap, .slice a' n cap'] w fun e w' => e = .returned (.bool true) ∧ Below w.heap.size w w' := by
  unfold maxLen at hn
  have HC : Hid (AtI w a n ds) := hc
  have HC' : Hid (AtI w a' n ds) := hc'
  clear hc hc'
  go_enter Tryz.func58, Tryz.ntmps58
  go_wp2
  go_loopw [5] (fun i wr => ∃ k : Nat, k ≤ n ∧ i = .int .i64 k ∧ Below w.heap.size w wr) (fun i _ => n - (intOf i).toNat)
  case atStart => exact ⟨0, Nat.zero_le _, rfl, Below.refl _ _⟩
  case round =>
    obtain ⟨j, hj, rfl, hbl⟩ := hrel
    by_cases hlt : j < n
    · obtain ⟨b, o, rfl, hI⟩ := HC.out j hlt
      obtain ⟨b', o', rfl, hI'⟩ := HC'.out j hlt
      obtain ⟨aB, cB, aE, cE, c0, c1, c2, c3, c4, hR⟩ := hI.later hbl
      obtain ⟨aB', cB', aE', cE', d0, d1, d2, d3, d4, hR'⟩ := hI'.later hbl
      clear hI hI' HC HC'
      have HI : Hid (InoR wr _ _ _ _ _ (ds[j]?.getD id0)) := hR
      have HI' : Hid (InoR wr _ _ _ _ _ (ds[j]?.getD id0)) := hR'
      have HBL : Hid (Below w.heap.size w wr) := hbl
      clear hbl hR hR'
      generalize ds[j]?.getD id0 = d at *
      have HEQ : Hid (∀ W, Below wr.heap.size wr W → Calls Tryz.prog 83 #[.agg #[.int .i64 d.1, .int .i64 d.2.1, .int .i64 d.2.2.1, .slice aB d.2.2.2.1.length cB, .slice aE d.2.2.2.2.length cE], .agg #[.int .i64 d.1, .int .i64 d.2.1, .int .i64 d.2.2.1, .slice aB' d.2.2.2.1.length cB', .slice aE' d.2.2.2.2.length cE']] W fun e w' => e = .returned (.bool true) ∧ Below W.heap.size W w') := fun W hW => eqInodeU W _ _ _ _ _ _ _ _ _ _ d (HI.out.later hW) (HI'.out.later hW)
      clear HI HI'
      generalize d.2.2.2.1.length = m1 at *
      generalize d.2.2.2.2.length = m2 at *
      generalize d.1 = z0 at *
      generalize d.2.1 = z1 at *
      generalize d.2.2.1 = z2 at *
      go_wp2_with fail
      go_region_with ((go_at_call 83; refine (HEQ.out _ (Below.refl _ _).drew).mono ?_; rintro e w' ⟨rfl, hb2⟩))
      all_goals
        go_wp2
        go_roundw
        case rel => exact ⟨j + 1, by omega, by go_num, (HBL.out.drew).trans (hb2.mono HBL.out.size)⟩
        case measure => simp [intOf]; omega
    · go_wp2
      go_ret
      exact ⟨rfl, hbl⟩
theorem eqInosU {w : World} {v v' : Value} {ds : List ID} (h : Inos w v ds) (h' : Inos w v' ds) : Calls Tryz.prog 58 #[v, v'] w fun e w' => e = .returned (.bool true) ∧ Below w.heap.size w w' := by
  obtain ⟨a, cap, rfl, hm, hc⟩ := h.open'
  obtain ⟨a', cap', rfl, _, hc'⟩ := h'.open'
  exact eqInos_walk w a a' cap cap' ds.length ds hm.1 hc hc'
end Go.Proofs.YtlacppjlclfpmaaGreat

namespace Go.Proofs.YtlacppjlclfpmaaGreat
open Go.RowKit
set_option maxRecDepth 100000

/-- Where the marks of inode j begin. -/
def inum (k : Nat) (ds : List ID) (j : Nat) : Nat := k + upto (isp ds) j
/-- What stands of a list of inodes of which the first j are marked. -/
structure HalfI (w : World) (b n j : Nat) (ds : List ID) (u : Nat → Value × Value) (F1 G1 : Nat → Nat → Prop) : Prop where
  row : ∃ f, OwnRow w b (n * 5) f ∧ (∀ i, i < n → f (i * 5 + 3) = (u i).1 ∧ f (i * 5 + 4) = (u i).2) ∧ ∀ i, i < n → ∀ q, q < 3 → ∃ z, f (i * 5 + q) = .int .i64 z
  ints : ∀ i, j ≤ i → i < n → IntsO w (u i).1 (ds[i]?.getD id0).2.2.2.1 (F1 i)
  ents : ∀ i, j ≤ i → i < n → EntsO w (u i).2 (ds[i]?.getD id0).2.2.2.2 (G1 i)
theorem HalfI.row_set {w : World} {b n j q : Nat} {ds : List ID} {u : Nat → Value × Value} {F1 G1 : Nat → Nat → Prop} (h : HalfI w b n j ds u F1 G1) (i : Nat) (hq : q < 3) (z : Int) (hF : ∀ i, ¬ F1 i b) (hG : ∀ i, ¬ G1 i b) : HalfI (w.setCell ⟨b, i * 5 + q, none⟩ (.int .i64 z)) b n j ds u F1 G1 := by
  obtain ⟨f, hr, h1, h2⟩ := h.row
  refine ⟨⟨_, hr.set (i * 5 + q) (.int .i64 z), fun k hk => ?_, fun k hk p hp => ?_⟩, fun k hj hk => (h.ints k hj hk).keep fun c hc _ => Below.heap_setCell _ _ _ _ (fun e => hF k (by have e' : c = b := e; rwa [e'] at hc)), fun k hj hk => (h.ents k hj hk).keep fun c hc _ => Below.heap_setCell _ _ _ _ (fun e => hG k (by have e' : c = b := e; rwa [e'] at hc))⟩
  · rw [if_neg (by omega), if_neg (by omega)]
    exact h1 k hk
  · by_cases e : k * 5 + p = i * 5 + q
    · exact ⟨z, by rw [if_pos e]⟩
    · rw [if_neg e]; exact h2 k hk p hp

set_option maxHeartbeats 6400000 in
theorem markInos_walk (w : World) (b cap n k : Nat) (F : Nat → Prop) (ds : List ID) (u : Nat → Value × Value) (F1 G1 : Nat → Nat → Prop) (hF : F b) (hFF : ∀ i c, F1 i c → F c ∧ c ≠ b) (hGF : ∀ i c, G1 i c → F c ∧ c ≠ b) (hFG : ∀ i j c, F1 i c → ¬ G1 j c) (hFd : ∀ i j c, i ≠ j → F1 i c → ¬ F1 j c) (hGd : ∀ i j c, i ≠ j → G1 i c → ¬ G1 j c)
    (hn : ds.length = n) (hk0 : 1 ≤ k) (hk : k + spanInos ds ≤ 4294967296) (hn2 : n ≤ 9223372036854775807) (h0 : HalfI w b n 0 ds u F1 G1) :
    Calls Tryz.prog 63 #[.slice (some ⟨b, 0, none⟩) n cap, .int .i64 (k : Int)] w fun e w' => e = .returned (.int .i64 ((k + spanInos ds : Nat) : Int)) ∧ Chg F w w' := by
  have H0 : Hid (HalfI w b n 0 ds u F1 G1) := h0
  have HF : Hid (F b) := hF
  have HFF : Hid (∀ i c, F1 i c → F c ∧ c ≠ b) := hFF
  have HGF : Hid (∀ i c, G1 i c → F c ∧ c ≠ b) := hGF
  have HFG : Hid (∀ i j c, F1 i c → ¬ G1 j c) := hFG
  have HFD : Hid (∀ i j c, i ≠ j → F1 i c → ¬ F1 j c) := hFd
  have HGD : Hid (∀ i j c, i ≠ j → G1 i c → ¬ G1 j c) := hGd
  have HN : Hid (ds.length = n) := hn
  have HE : Hid (inum k ds n = k + spanInos ds) := by
    have := upto_all (isp ds)
    rw [isp_length, hn] at this
    unfold Hid inum spanInos
    rw [this]
  have HBD : Hid (∀ j, j < n → inum k ds j + 3 + (ds[j]?.getD id0).2.2.2.1.length + 2 * (ds[j]?.getD id0).2.2.2.2.length = inum k ds (j + 1) ∧ inum k ds (j + 1) ≤ 4294967296) := fun j hj => by
    have h1 := upto_succ (isp ds) j (by rw [isp_length]; omega)
    rw [isp_get ds j (by omega)] at h1
    have h2 := upto_le (isp ds) (j + 1)
    have h3 : spanIno (ds[j]?.getD id0) = (ds[j]?.getD id0).2.2.2.1.length + 2 * (ds[j]?.getD id0).2.2.2.2.length := rfl
    have h4 : spanInos ds = (isp ds).sum := rfl
    unfold inum
    omega
  have HI0 : Hid (inum k ds 0 = k) := by unfold Hid inum; rw [upto_zero, Nat.add_zero]
  have HK1 : Hid (∀ j, 1 ≤ inum k ds j) := fun j => by unfold inum; omega
  rw [← HE.out]
  clear h0 hF hFF hGF hFG hFd hGd hn hk HE
  generalize inum k ds = N at *
  go_enter Tryz.func63, Tryz.ntmps63
  go_wp2
  go_loopw [1, 5] (fun q i wr => ∃ j : Nat, j ≤ n ∧ i = .int .i64 j ∧ q = .int .i64 ((N j : Nat) : Int) ∧ HalfI wr b n j ds u F1 G1 ∧ Chg F w wr) (fun _ i _ => n - (intOf i).toNat)
  case atStart => exact ⟨0, Nat.zero_le _, rfl, by rw [HI0.out], H0.out, Chg.refl _ _⟩
  case round =>
    obtain ⟨j, hj, rfl, rfl, hh, hch⟩ := hrel
    have HH : Hid (HalfI wr b n j ds u F1 G1) := hh
    have HCH : Hid (Chg F w wr) := hch
    clear hh hch H0
    by_cases hlt : j < n
    · obtain ⟨hs, hle⟩ := HBD.out j hlt
      have hN1 := HK1.out j
      have hNb : N j + 3 ≤ 4294967296 := by omega
      have HSN : Hid (N j + 3 + (ds[j]?.getD id0).2.2.2.1.length + 2 * (ds[j]?.getD id0).2.2.2.2.length = N (j + 1)) := hs
      obtain ⟨f, hr, hu, hz⟩ := HH.out.row
      obtain ⟨z0, e0⟩ := hz j hlt 0 (by omega)
      obtain ⟨z1, e1⟩ := hz j hlt 1 (by omega)
      obtain ⟨z2, e2⟩ := hz j hlt 2 (by omega)
      have c0 : wr.cell? ⟨b, j * 5, none⟩ = some (.int .i64 z0) := by rw [hr.cell (by omega)]; exact congrArg some e0
      have c1 : wr.cell? ⟨b, j * 5 + 1, none⟩ = some (.int .i64 z1) := by rw [hr.cell (by omega), e1]
      have c2 : wr.cell? ⟨b, j * 5 + 2, none⟩ = some (.int .i64 z2) := by rw [hr.cell (by omega), e2]
      have c3 : wr.cell? ⟨b, j * 5 + 3, none⟩ = some (u j).1 := by rw [hr.cell (by omega), (hu j hlt).1]
      have c4 : wr.cell? ⟨b, j * 5 + 4, none⟩ = some (u j).2 := by rw [hr.cell (by omega), (hu j hlt).2]
      have f0 := hr.frozen (j * 5)
      have f1 := hr.frozen (j * 5 + 1)
      have f2 := hr.frozen (j * 5 + 2)
      have hbw := hr.lt
      clear hr hu hz e0 e1 e2 f
      have nF : ∀ i, ¬ F1 i b := fun i h => (HFF.out i b h).2 rfl
      have nG : ∀ i, ¬ G1 i b := fun i h => (HGF.out i b h).2 rfl
      have HH3 : Hid (HalfI (((wr.setCell ⟨b, j * 5, none⟩ (.int .i64 ((N j : Nat) : Int))).setCell ⟨b, j * 5 + 1, none⟩ (.int .i64 (((N j : Nat) : Int) + 1))).setCell ⟨b, j * 5 + 2, none⟩ (.int .i64 (((N j : Nat) : Int) + 1 + 1))) b n j ds u F1 G1) :=
        ((HH.out.row_set (q := 0) j (by omega) _ nF nG).row_set (q := 1) j (by omega) _ nF nG).row_set (q := 2) j (by omega) _ nF nG
      have HCH3 : Hid (Chg F w (((wr.setCell ⟨b, j * 5, none⟩ (.int .i64 ((N j : Nat) : Int))).setCell ⟨b, j * 5 + 1, none⟩ (.int .i64 (((N j : Nat) : Int) + 1))).setCell ⟨b, j * 5 + 2, none⟩ (.int .i64 (((N j : Nat) : Int) + 1 + 1)))) := ((HCH.out.set HF.out _ _).set HF.out _ _).set HF.out _ _
      have HIJ := HH3.out.ints j (Nat.le_refl _) hlt
      have HEJ := HH3.out.ents j (Nat.le_refl _) hlt
      obtain ⟨aB, cB, eB, _⟩ := HIJ.ints.shape
      obtain ⟨aE, cE, eE, _⟩ := HEJ.reads.open'
      rw [eB] at c3 HIJ
      rw [eE] at c4 HEJ
      have HEE : Hid ((u j).2 = .slice aE (ds[j]?.getD id0).2.2.2.2.length cE) := eE
      have HIJ' : Hid (IntsO _ (.slice aB (ds[j]?.getD id0).2.2.2.1.length cB) (ds[j]?.getD id0).2.2.2.1 (F1 j)) := HIJ
      clear HIJ HEJ eB eE nF nG hs
      go_wp2_with fail
      clear c0 c1 c2 c3 c4 f0 f1 f2
      refine (markInts_any (((N j : Nat) : Int) + 1 + 1 + 1) HIJ'.out (by omega) (by have := HSN.out; omega)).mono ?_
      rintro e w1 ⟨rfl, -, hc1⟩
      obtain ⟨q, hq⟩ : ∃ q : Nat, ((N j : Nat) : Int) + 1 + 1 + 1 + ((ds[j]?.getD id0).2.2.2.1.length : Nat) = (q : Int) := ⟨N j + 3 + (ds[j]?.getD id0).2.2.2.1.length, by omega⟩
      rw [hq]
      have hqn : q + 2 * (ds[j]?.getD id0).2.2.2.2.length = N (j + 1) := by have := HSN.out; omega
      have HQN : Hid (((q + 2 * (ds[j]?.getD id0).2.2.2.2.length : Nat) : Int) = ((N (j + 1) : Nat) : Int)) := by unfold Hid; rw [hqn]
      have hq1 : 1 ≤ q := by omega
      have hH1 : HalfI w1 b n (j + 1) ds u F1 G1 := ⟨by
        obtain ⟨f, hr, h1, h2⟩ := HH3.out.row
        exact ⟨f, hr.block (hc1.block b hr.lt (fun h => (HFF.out j b h).2 rfl)), h1, h2⟩, fun i hi hin => (HH3.out.ints i (by omega) hin).keep fun c hc hl => hc1.block c hl (HFD.out i j c (by omega) hc), fun i hi hin => (HH3.out.ents i (by omega) hin).keep fun c hc hl => hc1.block c hl (fun h => HFG.out j i c h hc)⟩
      have HEJ1 : Hid (EntsO w1 (.slice aE (ds[j]?.getD id0).2.2.2.2.length cE) (ds[j]?.getD id0).2.2.2.2 (G1 j)) := by
        have := (HH3.out.ents j (Nat.le_refl _) hlt).keep (w' := w1) fun c hc hl => hc1.block c hl (fun h => HFG.out j j c h hc)
        rw [HEE.out] at this
        exact this
      obtain ⟨f, hr, hu, hz⟩ := hH1.row
      have c4 : w1.cell? ⟨b, j * 5 + 4, none⟩ = some (.slice aE (ds[j]?.getD id0).2.2.2.2.length cE) := by rw [hr.cell (by omega), (hu j hlt).2, HEE.out]
      have HH1 : Hid (HalfI w1 b n (j + 1) ds u F1 G1) := hH1
      have HCH1 : Hid (Chg F w w1) := HCH3.out.trans (hc1.mono fun c hc => (HFF.out j c hc).1)
      clear hz hc1 hH1 hr hu f HH3 HCH3 HIJ' hq
      go_wp2_with fail
      refine (markEntsU q HEJ1.out hq1 (by omega)).mono ?_
      rintro e w2 ⟨rfl, -, hc2⟩
      rw [HQN.out]
      have HH2 : Hid (HalfI w2 b n (j + 1) ds u F1 G1) := ⟨by
        obtain ⟨f, hr, h1, h2⟩ := HH1.out.row
        exact ⟨f, hr.block (hc2.block b hr.lt (fun h => (HGF.out j b h).2 rfl)), h1, h2⟩, fun i hi hin => (HH1.out.ints i hi hin).keep fun c hc hl => hc2.block c hl (fun h => HFG.out i j c hc h), fun i hi hin => (HH1.out.ents i hi hin).keep fun c hc hl => hc2.block c hl (HGD.out i j c (by omega) hc)⟩
      have HCH2 : Hid (Chg F w w2) := HCH1.out.trans (hc2.mono fun c hc => (HGF.out j c hc).1)
      clear hc2 c4 HH1 HCH1 HEJ1
      go_wp2
      go_roundw
      case rel => exact ⟨j + 1, by omega, by go_num, rfl, HH2.out, HCH2.out⟩
      case measure => simp [intOf]; omega
    · have HJ : Hid (N j = N n) := by unfold Hid; rw [show j = n by omega]
      go_wp2
      go_ret
      exact ⟨ret_int (by rw [HJ.out]), HCH.out⟩

set_option maxHeartbeats 800000 in
theorem markInos_nil (w : World) (a : Option Addr) (cap : Nat) (k : Int) :
    Calls Tryz.prog 63 #[.slice a 0 cap, .int .i64 k] w fun e w' => e = .returned (.int .i64 k) ∧ w' = w := by
  go_enter Tryz.func63, Tryz.ntmps63
  go_wp2
  go_loop [1, 5] (fun q i => i = .int .i64 0 ∧ q = .int .i64 k) (fun _ _ => 0)
  case atStart => exact ⟨rfl, rfl⟩
  case round =>
    obtain ⟨rfl, rfl⟩ := hrel
    go_wp2
    go_ret
    exact ⟨rfl, rfl⟩

theorem choose_fg {n : Nat} {P : Nat → (Nat → Prop) → (Nat → Prop) → Prop} (h : ∀ i, i < n → ∃ F G, P i F G) : ∃ (F G : Nat → Nat → Prop), ∀ i, i < n → P i (F i) (G i) := by
  have h' : ∀ i, ∃ FG : (Nat → Prop) × (Nat → Prop), i < n → P i FG.1 FG.2 := fun i => by
    by_cases hi : i < n
    · obtain ⟨F, G, hp⟩ := h i hi
      exact ⟨(F, G), fun _ => hp⟩
    · exact ⟨(fun _ => False, fun _ => False), fun h => absurd h hi⟩
  exact ⟨fun i => (Classical.choose (h' i)).1, fun i => (Classical.choose (h' i)).2, fun i hi => Classical.choose_spec (h' i) hi⟩

theorem markInosU {w : World} {v : Value} {ds : List ID} {F : Nat → Prop} (k : Int) (h : InosO w v ds F) (hk0 : 1 ≤ k) (hk : k + (spanInos ds : Nat) ≤ 4294967296) :
    Calls Tryz.prog 63 #[v, .int .i64 k] w fun e w' => e = .returned (.int .i64 (k + (spanInos ds : Nat))) ∧ Chg F w w' := by
  rcases h with ⟨rfl, a, cap, rfl⟩ | ⟨b, cap, u, G, hF, hG, hGG, rfl, hl, hr, hu⟩
  · exact (markInos_nil w a cap k).mono fun e w' ⟨he, hw⟩ => ⟨by rw [he]; simp [spanInos, isp], hw ▸ Chg.refl _ _⟩
  · obtain ⟨q, rfl⟩ := Int.eq_ofNat_of_zero_le (a := k) (by omega)
    obtain ⟨F1, G1, hfg⟩ := choose_fg (fun i hi => (hu i hi).2)
    have hm : ds.length ≤ 9223372036854775807 := by have := hl.1; unfold maxLen at this; omega
    have := markInos_walk w b cap ds.length q F ds u (fun i c => i < ds.length ∧ F1 i c) (fun i c => i < ds.length ∧ G1 i c) hF (fun i c hc => hG i c ((hfg i hc.1).2.2.2 c (Or.inl hc.2))) (fun i c hc => hG i c ((hfg i hc.1).2.2.2 c (Or.inr hc.2)))
      (fun i j c hc hc' => by
        by_cases e : i = j
        · subst e; exact (hfg i hc.1).2.2.1 c hc.2 hc'.2
        · exact hGG i j c e ((hfg i hc.1).2.2.2 c (Or.inl hc.2)) ((hfg j hc'.1).2.2.2 c (Or.inr hc'.2)))
      (fun i j c e hc hc' => hGG i j c e ((hfg i hc.1).2.2.2 c (Or.inl hc.2)) ((hfg j hc'.1).2.2.2 c (Or.inl hc'.2)))
      (fun i j c e hc hc' => hGG i j c e ((hfg i hc.1).2.2.2 c (Or.inr hc.2)) ((hfg j hc'.1).2.2.2 c (Or.inr hc'.2))) rfl (by omega) (by omega) hm
      ⟨⟨_, hr, fun i _ => ⟨inCell_3 ds u i, inCell_4 ds u i⟩, fun i _ p hp => by
        have : p = 0 ∨ p = 1 ∨ p = 2 := by omega
        rcases this with rfl | rfl | rfl
        · exact ⟨_, inCell_0 ds u i⟩
        · exact ⟨_, inCell_1 ds u i⟩
        · exact ⟨_, inCell_2 ds u i⟩⟩, fun i _ hi => (hfg i hi).1.mono fun c hc => ⟨hi, hc⟩, fun i _ hi => (hfg i hi).2.1.mono fun c hc => ⟨hi, hc⟩⟩
    exact this.mono fun e w' ⟨h1, h2⟩ => ⟨by rw [h1]; congr 2, h2⟩
end Go.Proofs.YtlacppjlclfpmaaGreat

/- Lists of extents: how they read, what they own. No program is named here. The walks of the laws' functions over lists of extents. What 'append' and 'copy' of extents come to. The program's copying of a list of extents. Pieces of a list of extents: what slicing it comes to. A queue: words that grow by append and are gone through from the front. Maps from int64 to int64 that the call made: what they tell of a key. The program: what is reached, in a map. The program's PickBlocks and FreeInode. The program's PackInode. PackInode, and answers that are words, in the one form of the laws. Kerns: how they read, what they own, and the walks of the laws' functions over them. -/
import Derived.Test.YtaibcofendjnnaaGreatDoorM00
import Derived.Test.YtaibcofendjnnaaGreatDoorRows
import Derived.Deep.RegionWith
import Derived.Deep.RegionHeld3
import Derived.Test.YtaibcofendjnnaaGreatDoorM02
import Derived.Deep.AppendLies
import Derived.Laws.CopyOwn
import Derived.Test.YtaibcofendjnnaaGreatDoorM08
import Derived.Test.YtaibcofendjnnaaGreatDoorM06
import Derived.Test.YtaibcofendjnnaaGreatDoorM12
import Derived.Maps.RangeWalk
import Derived.Maps.OwnOps
import Derived.Maps.Views
import Derived.Deep.LoopGhost
import Derived.Test.YtaibcofendjnnaaGreatDoorM09
import Derived.Test.YtaibcofendjnnaaGreatDoorM03
namespace Go.Proofs.YtaibcofendjnnaaGreatDoor
open Go.RowKit
set_option maxRecDepth 100000

abbrev E3 := Int × Int × Int
/-- The cells of a row of extents. -/
def exCell (es : List E3) (j : Nat) : Value := .int .i64 (if j % 3 = 0 then (es[j / 3]?.getD (0, 0, 0)).1 else if j % 3 = 1 then (es[j / 3]?.getD (0, 0, 0)).2.1 else (es[j / 3]?.getD (0, 0, 0)).2.2)
theorem exCell_0 (es : List E3) (k : Nat) : exCell es (k * 3) = .int .i64 (es[k]?.getD (0, 0, 0)).1 := by
  unfold exCell; rw [if_pos (by omega), show k * 3 / 3 = k by omega]
theorem exCell_1 (es : List E3) (k : Nat) : exCell es (k * 3 + 1) = .int .i64 (es[k]?.getD (0, 0, 0)).2.1 := by
  unfold exCell; rw [if_neg (by omega), if_pos (by omega), show (k * 3 + 1) / 3 = k by omega]
theorem exCell_2 (es : List E3) (k : Nat) : exCell es (k * 3 + 2) = .int .i64 (es[k]?.getD (0, 0, 0)).2.2 := by
  unfold exCell; rw [if_neg (by omega), if_neg (by omega), show (k * 3 + 2) / 3 = k by omega]

/-- Where the extents of a list lie. -/
def AtE (w : World) (a : Option Addr) (n : Nat) (es : List E3) : Prop :=
  ∀ k, k < n → ∃ b off, a = some ⟨b, off, none⟩ ∧ w.cell? ⟨b, off + k * 3, none⟩ = some (.int .i64 (es[k]?.getD (0, 0, 0)).1) ∧ w.cell? ⟨b, off + k * 3 + 1, none⟩ = some (.int .i64 (es[k]?.getD (0, 0, 0)).2.1) ∧ w.cell? ⟨b, off + k * 3 + 2, none⟩ = some (.int .i64 (es[k]?.getD (0, 0, 0)).2.2)
theorem AtE.later {w w' : World} {a : Option Addr} {n : Nat} {es : List E3} (h : AtE w a n es) (hb : Below w.heap.size w w') : AtE w' a n es := fun k hk => by
  obtain ⟨b, off, e, c0, c1, c2⟩ := h k hk
  exact ⟨b, off, e, cell_later hb c0, cell_later hb c1, cell_later hb c2⟩
/-- The slice v reads as the extents es. -/
def Exts (w : World) (v : Value) (es : List E3) : Prop := ∃ a cap, v = .slice a es.length cap ∧ (es.length ≤ maxLen ∧ es.length ≤ cap) ∧ AtE w a es.length es
theorem Exts.later {w w' : World} {v : Value} {es : List E3} (h : Exts w v es) (hb : Below w.heap.size w w') : Exts w' v es := by
  obtain ⟨a, cap, h1, h2, h3⟩ := h
  exact ⟨a, cap, h1, h2, h3.later hb⟩
theorem Exts.open' {w : World} {v : Value} {es : List E3} (h : Exts w v es) : ∃ a cap, v = .slice a es.length cap ∧ es.length ≤ maxLen ∧ AtE w a es.length es := by
  obtain ⟨a, cap, h1, h2, h3⟩ := h
  exact ⟨a, cap, h1, h2.1, h3⟩
theorem Exts.cap {w : World} {a : Option Addr} {n c : Nat} {es : List E3} (h : Exts w (.slice a n c) es) : es.length ≤ c := by
  obtain ⟨a', c', h1, h2, _⟩ := h
  simp only [Value.slice.injEq] at h1
  rw [h1.2.2]
  exact h2.2
theorem Exts.nil (w : World) (a : Option Addr) (cap : Nat) : Exts w (.slice a 0 cap) [] := ⟨a, cap, rfl, by simp, fun k hk => by simp at hk⟩

/-- The slice v holds the extents es, in one block of F. -/
def ExtsO (w : World) (v : Value) (es : List E3) (F : Nat → Prop) : Prop :=
  (es = [] ∧ ∃ a cap, v = .slice a 0 cap) ∨
  (∃ b cap, F b ∧ v = .slice (some ⟨b, 0, none⟩) es.length cap ∧ (es.length ≤ maxLen ∧ es.length ≤ cap) ∧ OwnRow w b (es.length * 3) (exCell es))
theorem OwnRow.atE {w : World} {b n : Nat} {es : List E3} (h : OwnRow w b (n * 3) (exCell es)) : AtE w (some ⟨b, 0, none⟩) n es := fun k hk =>
  ⟨b, 0, rfl, by rw [Nat.zero_add, h.cell (by omega), exCell_0], by rw [Nat.zero_add, h.cell (by omega), exCell_1], by rw [Nat.zero_add, h.cell (by omega), exCell_2]⟩
theorem ExtsO.reads {w : World} {v : Value} {es : List E3} {F : Nat → Prop} (h : ExtsO w v es F) : Exts w v es := by
  rcases h with ⟨rfl, a, cap, rfl⟩ | ⟨b, cap, _, h1, h2, h3⟩
  · exact Exts.nil w a cap
  · exact ⟨_, cap, h1, h2, h3.atE⟩
theorem ExtsO.keep {w w' : World} {v : Value} {es : List E3} {F : Nat → Prop} (h : ExtsO w v es F) (e : ∀ b, F b → b < w.heap.size → w'.heap[b]? = w.heap[b]?) : ExtsO w' v es F := by
  rcases h with h | ⟨b, cap, hF, h1, h2, h3⟩
  · exact Or.inl h
  · exact Or.inr ⟨b, cap, hF, h1, h2, h3.block (e b hF h3.lt)⟩
theorem ExtsO.mono {w : World} {v : Value} {es : List E3} {F G : Nat → Prop} (h : ExtsO w v es F) (e : ∀ b, F b → G b) : ExtsO w v es G := by
  rcases h with h | ⟨b, cap, hF, h1⟩
  · exact Or.inl h
  · exact Or.inr ⟨b, cap, e b hF, h1⟩
theorem ExtsO.bound {w : World} {v : Value} {es : List E3} {F : Nat → Prop} (h : ExtsO w v es F) : ExtsO w v es (fun b => F b ∧ b < w.heap.size) := by
  rcases h with h | ⟨b, cap, hF, h1, h2, h3⟩
  · exact Or.inl h
  · exact Or.inr ⟨b, cap, ⟨hF, h3.lt⟩, h1, h2, h3⟩
theorem ExtsO.later {w w' : World} {v : Value} {es : List E3} {F : Nat → Prop} (h : ExtsO w v es F) (hb : Below w.heap.size w w') : ExtsO w' v es F := h.keep fun b _ hlt => hb.block b hlt
theorem ExtsO.store {w : World} {v : Value} {es : List E3} {F : Nat → Prop} (h : ExtsO w v es F) {p : Addr} (hp : ∀ b, F b → b ≠ p.block) (x : Value) : ExtsO (w.setCell p x) v es F := h.keep fun b hb _ => Below.heap_setCell _ _ _ _ (hp b hb)

/-- The marks of n extents, from k on. -/
def marksE (k : Int) (n : Nat) : List E3 := (List.range n).map fun i : Nat => (k + 3 * (i : Int), k + 3 * (i : Int) + 1, k + 3 * (i : Int) + 2)
theorem marksE_length (k : Int) (n : Nat) : (marksE k n).length = n := by simp [marksE]
theorem marksE_get (k : Int) {n i : Nat} (h : i < n) : (marksE k n)[i]?.getD (0, 0, 0) = (k + 3 * (i : Int), k + 3 * (i : Int) + 1, k + 3 * (i : Int) + 2) := by simp [marksE, h]
theorem exCell_marks (k : Int) {n c : Nat} (h : c < n * 3) : exCell (marksE k n) c = .int .i64 (k + (c : Int)) := by
  have h3 : c / 3 < n := by omega
  unfold exCell
  rw [marksE_get k h3]
  congr 1
  have : c % 3 = 0 ∨ c % 3 = 1 ∨ c % 3 = 2 := by omega
  rcases this with e | e | e
  · rw [if_pos e]; omega
  · rw [if_neg (by omega), if_pos e]; show k + 3 * ((c / 3 : Nat) : Int) + 1 = k + (c : Int); omega
  · rw [if_neg (by omega), if_neg (by omega)]; show k + 3 * ((c / 3 : Nat) : Int) + 2 = k + (c : Int); omega

/-- 'make' of n triples. -/
theorem run_make_trip {P : Program} (t e : TypeId) (x y z : Value) (bytes : Nat) (ht : P.underlying t = some (.slice e)) (hinfo : (P.info? e).map (fun i => (i.zero, i.size, i.bytes)) = some (some (.agg #[x, y, z]), 3, bytes)) (hz : (Value.agg #[x, y, z]).cells = #[x, y, z])
    (kl kc : IntKind) (n : Nat) (hbytes : bytes * n ≤ 281474976710656) (h63 : n ≤ 9223372036854775807) (w : World) :
    (Instr.makeSlice t (.int kl (n : Int)) (.int kc (n : Int))).run P w = .ok (.slice (some ⟨w.heap.size, 0, none⟩) n n) (w.alloc (.cells (madeCells #[x, y, z] (n * 3)) e)) := by
  obtain ⟨i, hi, hzz⟩ := Option.map_eq_some_iff.1 hinfo
  simp only [Prod.mk.injEq] at hzz
  obtain ⟨h1, h2, h3⟩ := hzz
  have hb' : (i.bytes : Int) * (n : Int) ≤ 281474976710656 := by
    have h : ((i.bytes * n : Nat) : Int) ≤ 281474976710656 := by rw [h3]; omega
    rwa [Int.natCast_mul] at h
  have hr := run_make (P := P) w t e i _ ht hi h1 kl kc n n (by omega) (Int.le_refl _) hb' (by omega)
  simp only [Int.toNat_natCast, h2, hz] at hr
  exact hr
theorem OwnRow.madeTrip (w : World) (n : Nat) (t : TypeId) : OwnRow (w.alloc (.cells (madeCells #[.int .i64 0, .int .i64 0, .int .i64 0] (n * 3)) t)) w.heap.size (n * 3) (fun _ => .int .i64 0) := by
  refine ⟨_, t, Go.Deep.blk_alloc_new _ _, by rw [size_madeCells]; exact Nat.le_refl _, fun i hi => ?_⟩
  unfold madeCells
  rw [Array.getElem?_map]
  have h1 : (Array.range (n * 3))[i]? = some i := by simp [hi]
  rw [h1]
  have : i % 3 = 0 ∨ i % 3 = 1 ∨ i % 3 = 2 := by omega
  rcases this with e | e | e <;> simp [e]
/-- The cells of a row of extents of which the first j stand. -/
def partE (es : List E3) (j c : Nat) : Value := if c < j * 3 then exCell es c else .int .i64 0
theorem partE_next (es : List E3) (j c : Nat) : (if c = j * 3 + 2 then .int .i64 (es[j]?.getD (0, 0, 0)).2.2 else (if c = j * 3 + 1 then .int .i64 (es[j]?.getD (0, 0, 0)).2.1 else (if c = j * 3 then .int .i64 (es[j]?.getD (0, 0, 0)).1 else partE es j c))) = partE es (j + 1) c := by
  unfold partE
  by_cases e2 : c = j * 3 + 2
  · subst e2; rw [if_pos rfl, if_pos (by omega), exCell_2]
  · rw [if_neg e2]
    by_cases e1 : c = j * 3 + 1
    · subst e1; rw [if_pos rfl, if_pos (by omega), exCell_1]
    · rw [if_neg e1]
      by_cases e0 : c = j * 3
      · subst e0; rw [if_pos rfl, if_pos (by omega), exCell_0]
      · rw [if_neg e0]
        by_cases h : c < j * 3
        · rw [if_pos h, if_pos (by omega)]
        · rw [if_neg h, if_neg (by omega)]
end Go.Proofs.YtaibcofendjnnaaGreatDoor

namespace Go.Proofs.YtaibcofendjnnaaGreatDoor
open Go.RowKit
set_option maxRecDepth 100000

/-- The cells of extents, one behind the other. -/
def exCells (es : List E3) : List Value := es.flatMap fun e => [.int .i64 e.1, .int .i64 e.2.1, .int .i64 e.2.2]
theorem exCells_length (es : List E3) : (exCells es).length = es.length * 3 := by
  induction es with
  | nil => rfl
  | cons a t ih =>
    have : exCells (a :: t) = [.int .i64 a.1, .int .i64 a.2.1, .int .i64 a.2.2] ++ exCells t := by simp [exCells]
    rw [this, List.length_append, ih]
    simp [Nat.add_mul]
    omega
theorem exCells_append (es fs : List E3) : exCells (es ++ fs) = exCells es ++ exCells fs := by simp [exCells]
theorem exCells_get (es : List E3) (j : Nat) (h : j < es.length * 3) : (exCells es)[j]? = some (exCell es j) := by
  induction es generalizing j with
  | nil => simp at h
  | cons a t ih =>
    have e : exCells (a :: t) = .int .i64 a.1 :: .int .i64 a.2.1 :: .int .i64 a.2.2 :: exCells t := by simp [exCells]
    rw [e]
    match j with
    | 0 => simp [exCell]
    | 1 => simp [exCell]
    | 2 => simp [exCell]
    | j + 3 =>
      simp only [List.getElem?_cons_succ]
      rw [ih j (by simp at h; omega)]
      unfold exCell
      have h1 : (j + 3) % 3 = j % 3 := by omega
      have h2 : (j + 3) / 3 = j / 3 + 1 := by omega
      rw [h1, h2]
      simp
theorem exCells_one (es : List E3) : ∀ u ∈ exCells es, u.oneCell' = true := by
  intro u hu
  simp only [exCells, List.mem_flatMap] at hu
  obtain ⟨e, _, hu⟩ := hu
  simp at hu
  rcases hu with rfl | rfl | rfl <;> rfl
theorem AtE.cells {w : World} {b off n : Nat} {es : List E3} (h : AtE w (some ⟨b, off, none⟩) n es) (hn : es.length = n) (j : Nat) (u : Value) (hu : (exCells es)[j]? = some u) : w.cell? ((⟨b, off, none⟩ : Addr).add j) = some u := by
  have hj : j < es.length * 3 := by rw [← exCells_length]; exact (List.getElem?_eq_some_iff.1 hu).1
  rw [exCells_get es j hj] at hu
  simp only [Option.some.injEq] at hu
  subst hu
  obtain ⟨b', off', e, c0, c1, c2⟩ := h (j / 3) (by omega)
  simp only [Option.some.injEq, Addr.mk.injEq, and_true] at e
  obtain ⟨rfl, rfl⟩ := e
  rw [add_plain']
  have : j % 3 = 0 ∨ j % 3 = 1 ∨ j % 3 = 2 := by omega
  unfold exCell
  rcases this with e | e | e
  · rw [if_pos e, ← c0, show off + j = off + j / 3 * 3 by omega]
  · rw [if_neg (by omega), if_pos e, ← c1, show off + j = off + j / 3 * 3 + 1 by omega]
  · rw [if_neg (by omega), if_neg (by omega), ← c2, show off + j = off + j / 3 * 3 + 2 by omega]

end Go.Proofs.YtaibcofendjnnaaGreatDoor

namespace Go.Proofs.YtaibcofendjnnaaGreatDoor
open Go.RowKit
set_option maxRecDepth 100000

/-- 'copy' between two rows of n elements of 'size' cells each. -/
theorem run_copy_wide {P : Program} (w : World) (dT sT ty elem : TypeId) (g n dCap : Nat) (a : Addr) (sCap size : Nat) (cur : Array Value) (t : TypeId) (cs : List Value)
    (hu : P.underlying dT = some (.slice elem)) (hs : (P.info? elem).map (·.size) = some size)
    (hg : w.heap[g]? = some (.cells cur t (0, 0))) (hn : cs.length = n * size)
    (hsrc : ∀ j v, cs[j]? = some v → w.cell? (a.add j) = some v) (hfit : cs.length ≤ cur.size) (h1 : ∀ v ∈ cs, v.oneCell' = true) :
    (Builtin.copy_ #[dT, sT] ty #[.slice (some ⟨g, 0, none⟩) n dCap, .slice (some a) n sCap]).run P w = .ok (goInt n) (w.setRow g (cs ++ cur.toList.drop cs.length).toArray) := by
  have hl := run_loadCells_list (P := P) w a cs hsrc
  have hst := run_storeCells_at P g 0 t cs 0 cur w hg (by simpa using hfit) h1
  simp only [Nat.zero_add, List.take_zero, List.nil_append] at hst
  cases hq : P.info? elem with
  | none => simp [hq] at hs
  | some i =>
    have hi : i.size = size := by simpa [hq] using hs
    have hm : Nat.min n n = n := Nat.min_self n
    simp [Builtin.copy_, run_underlying hu, Builtin.lenOf, Builtin.firstCells, sizeOf, typeInfo, hq, hi, hm, ← hn, hl, hst]
theorem run_copy_zero {P : Program} (w : World) (dT sT ty elem : TypeId) (d a : Option Addr) (dCap sCap size : Nat) (hu : P.underlying dT = some (.slice elem)) (hs : (P.info? elem).map (·.size) = some size) :
    (Builtin.copy_ #[dT, sT] ty #[.slice d 0 dCap, .slice a 0 sCap]).run P w = .ok (goInt 0) w := by
  cases hq : P.info? elem with
  | none => simp [hq] at hs
  | some i => cases a <;> cases d <;> simp [Builtin.copy_, run_underlying hu, Builtin.lenOf, Builtin.firstCells, sizeOf, typeInfo, hq, storeCells, loadCells, loadCellsFrom]

end Go.Proofs.YtaibcofendjnnaaGreatDoor

namespace Go.Proofs.YtaibcofendjnnaaGreatDoor
open Go.RowKit
set_option maxRecDepth 100000

theorem AtE.take {w : World} {a : Option Addr} {n : Nat} {es : List E3} (h : AtE w a n es) {j : Nat} (hj : j ≤ n) : AtE w a j (es.take j) := fun k hk => by
  obtain ⟨b, off, e, c0, c1, c2⟩ := h k (by omega)
  refine ⟨b, off, e, ?_, ?_, ?_⟩ <;> rw [List.getElem?_take, if_pos hk] <;> assumption
end Go.Proofs.YtaibcofendjnnaaGreatDoor

namespace Go.Proofs.YtaibcofendjnnaaGreatDoor
open Go.RowKit
set_option maxRecDepth 100000

def Qu (w : World) (n₀ : Nat) (v : Value) (zs : List Int) : Prop :=
  ∃ g off cap cur, v = .slice (some ⟨g, off, none⟩) zs.length cap ∧ n₀ ≤ g ∧ w.heap[g]? = some (.cells cur 2 (0, 0)) ∧ zs.length ≤ cap ∧ cap ≤ maxLen ∧ off + cap ≤ cur.size ∧ ∀ k, k < zs.length → cur[off + k]? = some (.int .i64 (zs[k]?.getD 0))
theorem Qu.keep {w w' : World} {n₀ : Nat} {v : Value} {zs : List Int} (h : Qu w n₀ v zs) (e : ∀ b c f, n₀ ≤ b → w.heap[b]? = some (.cells c 2 f) → w'.heap[b]? = w.heap[b]?) : Qu w' n₀ v zs := by
  obtain ⟨g, off, cap, cur, h1, h2, h3, h4⟩ := h
  exact ⟨g, off, cap, cur, h1, h2, (e g _ _ h2 h3).trans h3, h4⟩
theorem Qu.later {w w' : World} {n₀ : Nat} {v : Value} {zs : List Int} (h : Qu w n₀ v zs) (hb : Below w.heap.size w w') : Qu w' n₀ v zs := h.keep fun b _ _ _ hc => hb.block b (Array.getElem?_eq_some_iff.1 hc).1
theorem Qu.shape {w : World} {n₀ : Nat} {v : Value} {zs : List Int} (h : Qu w n₀ v zs) : ∃ a c, v = .slice a zs.length c ∧ zs.length ≤ c := by
  obtain ⟨g, off, cap, cur, rfl, _, _, h4, _⟩ := h
  exact ⟨_, _, rfl, h4⟩
theorem Qu.one (w : World) (n₀ : Nat) (hn : n₀ ≤ w.heap.size) (x : Int) : Qu (w.alloc (.cells #[.int .i64 x] 2)) n₀ (.slice (some ⟨w.heap.size, 0, none⟩) 1 1) [x] :=
  ⟨w.heap.size, 0, 1, #[.int .i64 x], rfl, hn, Go.Deep.blk_alloc_new _ _, by simp, by unfold maxLen; omega, by simp, fun k hk => by
    have : k = 0 := by simp at hk; exact hk
    subst this; rfl⟩
theorem Qu.cell {w : World} {n₀ : Nat} {a : Option Addr} {n c : Nat} {zs : List Int} (h : Qu w n₀ (.slice a n c) zs) {k : Nat} (hk : k < zs.length) : ∃ g off, a = some ⟨g, off, none⟩ ∧ w.cell? ⟨g, off + k, none⟩ = some (.int .i64 (zs[k]?.getD 0)) := by
  obtain ⟨g, off, cap, cur, e, _, h3, _, _, _, h6⟩ := h
  simp only [Value.slice.injEq] at e
  refine ⟨g, off, e.1, ?_⟩
  have := h6 k hk
  simp [World.cell?, h3, this]
theorem slice_tailQ (a : Option Addr) (n c : Nat) (hl : 1 ≤ n) (hc : n ≤ c) :
    ∃ A C, (∀ W : World, (Instr.slice 67 (.slice a n c) (some (.int .i64 1)) none none).run Tryz.prog W = .ok (.slice A (n - 1) C) W) ∧ ∀ (W : World) (n₀ : Nat) (z : Int) (zs : List Int), Qu W n₀ (.slice a n c) (z :: zs) → Qu W n₀ (.slice A (n - 1) C) zs := by
  obtain ⟨i, hi, _, h2, _⟩ := Tryz.infoInt'
  refine ⟨if c = 1 then a else a.map (·.add 1), c - 1, fun W => ?_, fun W n₀ z zs h => ?_⟩
  · simp [Instr.slice, Instr.sliceBounds, Instr.sliceBound, asIntOf, run_underlying Tryz.underlying67, sizeOf, typeInfo, hi, h2]
    intro hlt
    omega
  · obtain ⟨g, off, cap, cur, e, h1, h3, h4, h5, h6, h7⟩ := h
    simp only [Value.slice.injEq, List.length_cons] at e
    obtain ⟨rfl, rfl, rfl⟩ := e
    simp only [List.length_cons] at h4 h7
    by_cases hcl : c = 1
    · have hz : zs = [] := List.eq_nil_of_length_eq_zero (by omega)
      subst hz
      rw [if_pos hcl]
      exact ⟨g, off, c - 1, cur, by simp, h1, h3, by simp, by omega, by omega, fun k hk => by simp at hk⟩
    · rw [if_neg hcl]
      refine ⟨g, off + 1, c - 1, cur, by simp [add_plain'], h1, h3, by omega, by omega, by omega, fun k hk => ?_⟩
      have := h7 (k + 1) (by omega)
      rw [show off + 1 + k = off + (k + 1) by omega, this]
      simp
/-- Blocks that hold no words stand as they did. -/
def KeepQ (w w' : World) : Prop := ∀ (b : Nat) (o : Obj), w.heap[b]? = some o → (∀ c f, o ≠ .cells c 2 f) → w'.heap[b]? = some o
theorem append_q (w : World) (n₀ : Nat) (v : Value) (zs : List Int) (x : Int) (hq : Qu w n₀ v zs) (hn₀ : n₀ ≤ w.heap.size) (hz : zs.length ≤ 1000) :
    ∃ v' X, (Builtin.append_ #[67, 67] 67 #[v, .slice (some ⟨w.heap.size, 0, none⟩) 1 1]).run Tryz.prog (w.alloc (.cells #[.int .i64 x] 2)) = .ok v' X ∧ Qu X n₀ v' (zs ++ [x]) ∧ Below n₀ w X ∧ KeepQ w X := by
  obtain ⟨i, hi, h1, h2, h3⟩ := Tryz.infoInt'
  have hq' := hq.later (later1 w (.cells #[.int .i64 x] 2))
  have hBW : Below n₀ w (w.alloc (.cells #[.int .i64 x] 2)) := (later1 w _).mono hn₀
  have hKW : KeepQ w (w.alloc (.cells #[.int .i64 x] 2)) := fun b o hb _ => ((later1 w _).block b (Array.getElem?_eq_some_iff.1 hb).1).trans hb
  have hcell : (w.alloc (.cells #[.int .i64 x] 2)).cell? ⟨w.heap.size, 0, none⟩ = some (.int .i64 x) := by rw [new_cell]; rfl
  have hsz : n₀ ≤ (w.alloc (.cells #[.int .i64 x] 2)).heap.size := by simp; omega
  generalize hW : w.alloc (.cells #[.int .i64 x] 2) = W at *
  clear hW
  obtain ⟨g, off, cap, cur, rfl, hg0, hg, hnc, hcm, hoc, hrd⟩ := hq'
  have hglt : g < W.heap.size := (Array.getElem?_eq_some_iff.1 hg).1
  have hnews : ∀ j u, ([.int .i64 x] : List Value)[j]? = some u → W.cell? ((⟨w.heap.size, 0, none⟩ : Addr).add j) = some u := fun j u hu => by
    match j, hu with
    | 0, hu => simp at hu; subst hu; rw [add_plain']; exact hcell
    | j + 1, hu => simp at hu
  by_cases hroom : zs.length + 1 ≤ cap
  · have hf := run_firstCells_some (P := Tryz.prog) W i.size 1 ⟨w.heap.size, 0, none⟩ 1 1 [.int .i64 x] (by simp [h2]) hnews
    rw [h2] at hf
    have hst := run_storeCells_at Tryz.prog g (off + zs.length) 2 [.int .i64 x] 0 cur W hg (by simp; omega) (by simp [Value.oneCell'])
    simp only [Nat.add_zero, List.length_cons, List.length_nil, Nat.zero_add] at hst
    refine ⟨.slice (some ⟨g, off, none⟩) (zs.length + 1) cap, W.setRow g (cur.toList.take (off + zs.length) ++ [Value.int .i64 x] ++ cur.toList.drop (off + zs.length + 1)).toArray, ?_, ?_, hBW.trans ?_, ?_⟩
    · simp [Builtin.append_, run_underlying Tryz.underlying67, sizeOf, typeInfo, hi, h2, Builtin.lenOf, hroom, hf, add_plain', hst]
    · refine ⟨g, off, cap, _, by simp, hg0, setRow_heap W g cur _ 2 _ hg, by simp; omega, hcm, ?_, fun k hk => ?_⟩
      · simp only [List.size_toArray, List.length_append, List.length_take, List.length_drop, Array.length_toList, List.length_cons, List.length_nil]
        omega
      · simp only [List.length_append, List.length_cons, List.length_nil] at hk
        have hlt : (cur.toList.take (off + zs.length)).length = off + zs.length := by rw [List.length_take]; simp; omega
        rw [List.getElem?_toArray, List.append_assoc]
        by_cases hkz : k < zs.length
        · rw [List.getElem?_append_left (by rw [hlt]; omega), List.getElem?_take, if_pos (by omega), List.getElem?_append_left hkz, Array.getElem?_toList]
          exact hrd k hkz
        · have : k = zs.length := by omega
          subst this
          rw [List.getElem?_append_right (by rw [hlt]; omega), hlt, Nat.sub_self]
          simp
    · refine ⟨rfl, rfl, rfl, by simp, fun b hb => setRow_other W g b _ (by omega)⟩
    · intro b o hb ho
      have hb' := hKW b o hb ho
      by_cases e : b = g
      · subst e
        rw [hg] at hb'
        simp only [Option.some.injEq] at hb'
        exact absurd hb'.symm (ho _ _)
      · rw [← hb']; exact setRow_other W g b _ e
  · have hr := run_append_grow (P := Tryz.prog) W 67 67 2 i (.int .i64 0) Tryz.underlying67 hi h1 ⟨g, off, none⟩ zs.length cap (zs.map intV) (by simp [h2]) (fun j u hu => by
      rw [List.getElem?_map, Option.map_eq_some_iff] at hu
      obtain ⟨z, hz1, rfl⟩ := hu
      have hj : j < zs.length := (List.getElem?_eq_some_iff.1 hz1).1
      have := hrd j hj
      rw [hz1, Option.getD_some] at this
      rw [add_plain']
      simp [World.cell?, hg, this, intV]) ⟨w.heap.size, 0, none⟩ 1 1 [.int .i64 x] (by simp [h2]) hnews (by omega) (by omega) (growslice_fits (by omega) (by rw [h3]; omega))
    have hge := grownCap_ge W (zs.length + 1) cap 2
    have hcm' := grownCap_le_maxLen W (zs.length + 1) cap 2 (by unfold maxLen; omega)
    have hBX : ∀ o, Below W.heap.size W (W.drew.alloc o) := fun o => ⟨rfl, rfl, rfl, by simp, fun b hb => (later1 W.drew o).block b hb⟩
    refine ⟨_, _, hr, ?_, hBW.trans ((hBX _).mono hsz), fun b o hb ho => ?_⟩
    · refine ⟨W.heap.size, 0, _, _, by simp, hsz, Go.Deep.blk_alloc_new _ _, by simp; omega, hcm', ?_, fun k hk => ?_⟩
      · simp only [Array.size_append, List.size_toArray, size_zeroCells, List.length_map, List.length_cons, List.length_nil, Value.cells]
        simp
        omega
      · simp only [List.length_append, List.length_cons, List.length_nil] at hk
        rw [Nat.zero_add, Array.getElem?_append_left (by simp; omega)]
        by_cases hkz : k < zs.length
        · rw [Array.getElem?_append_left (by simpa using hkz), List.getElem?_append_left hkz]
          simp [List.getElem?_eq_getElem hkz, intV]
        · have : k = zs.length := by omega
          subst this
          rw [Array.getElem?_append_right (by simp)]
          simp
    · rw [(hBX _).block b (Array.getElem?_eq_some_iff.1 (hKW b o hb ho)).1]
      exact hKW b o hb ho
end Go.Proofs.YtaibcofendjnnaaGreatDoor

namespace Go.Proofs.YtaibcofendjnnaaGreatDoor
open Go.RowKit Go.Maps
set_option maxRecDepth 100000

theorem Tryz.keyInt : Keyed Tryz.prog 2 := int_keyed Tryz.underlying2
theorem Tryz.zeroInt (w : World) : (zeroValue 2).run Tryz.prog w = .ok (.int .i64 0) w := by
  obtain ⟨i, hi, h1, _⟩ := Tryz.infoInt'
  simp [zeroValue, typeInfo, hi, h1]
abbrev wf64 (x : Int) : Prop := (Lit.int .i64 x).wf = true
theorem wf64_of {x : Int} (h0 : 0 ≤ x) (h1 : x ≤ 1000000) : wf64 x := by
  have h3 : IntKind.i64.min = -9223372036854775808 := by decide
  have h4 : IntKind.i64.max = 9223372036854775807 := by decide
  simp only [wf64, Lit.wf, h3, h4]
  simp
  omega
/-- Which keys a map has, and what it tells of each. -/
structure Tells (D : DataW Unit) (p : Int → Bool) (m : Int → Int) : Prop where
  val : ∀ x, wf64 x → D.atKey (.int .i64 x) (.lit (.int .i64 0)) = .lit (.int .i64 (m x))
  has : ∀ x, wf64 x → Maps.has D (.int .i64 x) = p x
def Mp (w : World) (b n : Nat) (p : Int → Bool) (m : Int → Int) : Prop := ∃ D : DataW Unit, w.ownsMap Tryz.prog 2 (plainElem Tryz.prog 2) b n D ∧ Tells D p m
theorem Mp.made (w : World) : Mp (w.alloc (.map #[] 0)) w.heap.size 0 (fun _ => false) (fun _ => 0) :=
  ⟨.map [], World.ownsMap_made w Tryz.prog 2 _, fun _ _ => rfl, fun _ _ => rfl⟩
theorem Mp.lt {w : World} {b n : Nat} {p : Int → Bool} {m : Int → Int} (h : Mp w b n p m) : b < w.heap.size := by
  obtain ⟨D, h, _⟩ := h
  exact h.lt
theorem Mp.keep {w w' : World} {b n : Nat} {p : Int → Bool} {m : Int → Int} (h : Mp w b n p m) (e : w'.heap[b]? = w.heap[b]?) : Mp w' b n p m := by
  obtain ⟨D, ⟨es, clock, hb, r⟩, ht⟩ := h
  exact ⟨D, ⟨es, clock, e.trans hb, r⟩, ht⟩
theorem Mp.later {w w' : World} {b n : Nat} {p : Int → Bool} {m : Int → Int} (h : Mp w b n p m) (hb : Below w.heap.size w w') : Mp w' b n p m := h.keep (hb.block b h.lt)
theorem Mp.drewN {w : World} {b n : Nat} {p : Int → Bool} {m : Int → Int} (h : Mp w b n p m) (q : Nat) : Mp (w.drewN q) b n p m := h.later (below_drewN (Below.refl _ _) q)
theorem Mp.keepQ {w w' : World} {b n : Nat} {p : Int → Bool} {m : Int → Int} (h : Mp w b n p m) (hk : KeepQ w w') : Mp w' b n p m := by
  have h0 := h
  obtain ⟨D, ⟨es, clock, hb, r⟩, ht⟩ := h
  exact h0.keep ((hk b _ hb (by intros; simp)).trans hb.symm)
theorem Mp.look {w : World} {b n : Nat} {p : Int → Bool} {m : Int → Int} (h : Mp w b n p m) {x : Int} (hx : wf64 x) : (Instr.lookup 161 (.map (some b)) (.int .i64 x) false).run Tryz.prog w = .ok (.int .i64 (m x)) w := by
  obtain ⟨D, ho, ht⟩ := h
  obtain ⟨c, hr, hc, _⟩ := ho.lookup_int Tryz.keyInt Tryz.underlying161 Tryz.underlying2 (Tryz.zeroInt w) (keyOf_int_mk Tryz.underlying2 hx)
  rw [ht.val x hx] at hc
  simp at hc
  rw [hr, hc]
def putP (p : Int → Bool) (x : Int) : Int → Bool := fun y => if y = x then true else p y
theorem Mp.put {w : World} {b n : Nat} {p : Int → Bool} {m : Int → Int} (h : Mp w b n p m) (hn : n < maxLen) {x v : Int} (hx : wf64 x) (hv : wf64 v) :
    ∃ w', (Instr.mapUpdate 161 (.map (some b)) (.int .i64 x) (.int .i64 v)).run Tryz.prog w = .ok () w' ∧ Mp w' b (n + 1) (putP p x) (putM m x v) ∧ w.mapTurned w' b := by
  obtain ⟨D, ho, ht⟩ := h
  have hk : keyOf Tryz.prog 2 (.int .i64 x) = some (.int .i64 x) := keyOf_int_mk Tryz.underlying2 hx
  obtain ⟨w', hr, ho', hturn⟩ := ho.store Tryz.keyInt Tryz.underlying161 hn hk (plainElem_int Tryz.underlying2 hv)
  refine ⟨w', hr, ⟨_, ho', fun y hy => ?_, fun y hy => ?_⟩, hturn⟩
  · unfold putM
    by_cases e : y = x
    · subst e; rw [if_pos rfl, Maps.atKey_put_same ho.isMap (Tryz.keyInt.key hk)]
    · rw [if_neg e, Maps.atKey_put_other (by simpa using e)]; exact ht.val y hy
  · unfold putP
    by_cases e : y = x
    · subst e; rw [if_pos rfl]; exact Maps.has_put_same ho.isMap (Tryz.keyInt.key hk) _
    · rw [if_neg e, ← ht.has y hy]; exact Maps.has_put_other (by simpa using e) _
theorem turned_block {w w' : World} {b : Nat} (h : w.mapTurned w' b) (k : Nat) (hk : k ≠ b) : w'.heap[k]? = w.heap[k]? := by
  by_cases hlt : k < w.heap.size
  · exact h.grown.block k hlt (by simpa using hk)
  · obtain ⟨es, c, es', c', hb, rfl⟩ := h
    exact (MapKept.heap_set hb).2 k hk
theorem turned_below {w w' : World} {b B : Nat} (h : w.mapTurned w' b) (hB : B ≤ b) : Below B w w' :=
  ⟨h.grown.os, h.grown.tape, h.grown.output, h.grown.size, fun k hk => turned_block h k (by omega)⟩
/-- While a map is gone through and what is 0 is deleted: what it tells stays. -/
structure SweepT (D : DataW Unit) (p : Int → Bool) (m : Int → Int) (left : Lit → Bool) : Prop where
  val : ∀ x, wf64 x → D.atKey (.int .i64 x) (.lit (.int .i64 0)) = .lit (.int .i64 (m x))
  has : ∀ x, wf64 x → Maps.has D (.int .i64 x) = (p x && (!decide (m x = 0) || left (.int .i64 x)))
theorem SweepT.start {D : DataW Unit} {p : Int → Bool} {m : Int → Int} (h : Tells D p m) : SweepT D p m (Maps.has D) :=
  ⟨h.val, fun x hx => by rw [h.has x hx]; cases p x <;> simp⟩
theorem SweepT.stays {D : DataW Unit} {p : Int → Bool} {m : Int → Int} {left : Lit → Bool} (h : SweepT D p m left) {x c : Int} (hx : wf64 x) (hat : ∀ zd, D.atKey (.int .i64 x) zd = .lit (.int .i64 c)) (hc : ¬ c = 0) : SweepT D p m (fun z => left z && !z.sameKey (.int .i64 x)) := by
  have hm : m x = c := by have := h.val x hx; rw [hat] at this; simpa using this.symm
  refine ⟨h.val, fun y hy => ?_⟩
  rw [h.has y hy]
  by_cases e : y = x
  · subst e; rw [hm]; simp [hc]
  · have : (Lit.int .i64 y).sameKey (.int .i64 x) = false := by
      cases hs : (Lit.int .i64 y).sameKey (.int .i64 x) with
      | false => rfl
      | true => exact absurd (by simpa using WideAt.sameKey_eq hs) e
    simp [this]
theorem SweepT.struck {D : DataW Unit} {p : Int → Bool} {m : Int → Int} {left : Lit → Bool} (h : SweepT D p m left) {x : Int} (hx : wf64 x) (hat : ∀ zd, D.atKey (.int .i64 x) zd = .lit (.int .i64 0)) : SweepT (D.del (.int .i64 x)) p m (fun z => left z && !z.sameKey (.int .i64 x)) := by
  have hm : m x = 0 := by have := h.val x hx; rw [hat] at this; simpa using this.symm
  have hk : WideAt.IsKeyLit (.int .i64 x) := Tryz.keyInt.key (keyOf_int_mk Tryz.underlying2 hx)
  refine ⟨fun y hy => ?_, fun y hy => ?_⟩
  · by_cases e : y = x
    · subst e; rw [Maps.atKey_del_same, hm]
    · rw [Maps.atKey_del_other (by simpa using e)]; exact h.val y hy
  · by_cases e : y = x
    · subst e; rw [Maps.has_del_same, hm, WideAt.sameKey_self hk]; simp
    · have : (Lit.int .i64 y).sameKey (.int .i64 x) = false := by
        cases hs : (Lit.int .i64 y).sameKey (.int .i64 x) with
        | false => rfl
        | true => exact absurd (by simpa using WideAt.sameKey_eq hs) e
      rw [Maps.has_del_other (by simpa using e), h.has y hy, this]; simp
theorem SweepT.done {D : DataW Unit} {p : Int → Bool} {m : Int → Int} {left : Lit → Bool} (h : SweepT D p m left) (hl : ∀ kl, left kl = false) : Tells D (fun x => p x && !decide (m x = 0)) m :=
  ⟨h.val, fun x hx => by rw [h.has x hx, hl]; simp⟩
end Go.Proofs.YtaibcofendjnnaaGreatDoor

namespace Go.Proofs.YtaibcofendjnnaaGreatDoor
open Go.RowKit Go.Maps
set_option maxRecDepth 100000

section
variable {P : Program} {w : World}
/-- A look-up, a store into a map whose run is known, at its place in a walk. -/
theorem wpList_lookup_run {ops : Array Oper} {rest : List Oper} {o : Oper} {a : Act} {Q : Exit → Act → World → Prop} (hgd : o.guard = none) (m x : Operand) (t : TypeId) (ho : o.op = .lookup t m x false) (vm vx : Value) (hm : a.eval m = vm) (hx : a.eval x = vx) (v' : Value)
    (hr : (Instr.lookup t vm vx false).run P w = .ok v' w) (h : wpList P ops Q rest (a.put o.dst v') w) : wpList P ops Q (o :: rest) a w := by
  refine wpList_plain hgd fun K hK => ?_
  unfold Oper.wp
  simp [execOp, ho, hm, hx, hr, Result.andThen]
  exact hK _ _ h
theorem wpList_mapUpdate_run {ops : Array Oper} {rest : List Oper} {o : Oper} {a : Act} {Q : Exit → Act → World → Prop} (hgd : o.guard = none) (m x v : Operand) (t : TypeId) (ho : o.op = .mapUpdate t m x v) (vm vx vv : Value) (hm : a.eval m = vm) (hx : a.eval x = vx) (hv : a.eval v = vv) (w' : World)
    (hr : (Instr.mapUpdate t vm vx vv).run P w = .ok () w') (h : wpList P ops Q rest (a.put o.dst undef) w') : wpList P ops Q (o :: rest) a w := by
  refine wpList_plain hgd fun K hK => ?_
  unfold Oper.wp
  simp [execOp, ho, hm, hx, hv, hr, Result.andThen]
  exact hK _ _ h
end
theorem putP_same {p : Int → Bool} {x : Int} (h : p x = true) : putP p x = p := by
  funext y
  unfold putP
  by_cases e : y = x
  · rw [if_pos e, e, h]
  · rw [if_neg e]
theorem putP_next (j : Nat) : putP (fun x => decide (0 ≤ x ∧ x < (j : Int))) (j : Int) = fun x => decide (0 ≤ x ∧ x < ((j + 1 : Nat) : Int)) := by
  funext y
  unfold putP
  by_cases e : y = j
  · rw [if_pos e]; simp; omega
  · rw [if_neg e]
    show decide (0 ≤ y ∧ y < (j : Int)) = _
    by_cases h : 0 ≤ y ∧ y < (j : Int)
    · rw [decide_eq_true h, decide_eq_true (by omega)]
    · rw [decide_eq_false h, decide_eq_false (by omega)]
theorem putM_zero (x : Int) : putM (fun _ => 0) x 0 = fun _ => 0 := by
  funext y
  unfold putM
  split <;> rfl
theorem putM_at (m : Int → Int) (x v : Int) : putM m x v x = v := by unfold putM; rw [if_pos rfl]
/-- A map's block is no words' block, and what was made since stands apart from it. -/
theorem Qu.turned {w w' : World} {n₀ b : Nat} {v : Value} {zs : List Int} {N : Nat} {p : Int → Bool} {m : Int → Int} (h : Qu w n₀ v zs) (hm : Mp w b N p m) (ht : w.mapTurned w' b) : Qu w' n₀ v zs := h.keep fun k c f _ hk => turned_block ht k fun e => by
  obtain ⟨D, ⟨es, clock, hb, _⟩, _⟩ := hm
  rw [e, hb] at hk
  cases hk
theorem cell_turned {w w' : World} {b : Nat} (ht : w.mapTurned w' b) {k i : Nat} (hk : k ≠ b) {v : Value} (h : w.cell? ⟨k, i, none⟩ = some v) : w'.cell? ⟨k, i, none⟩ = some v := by
  simp only [World.cell?] at h ⊢
  rw [turned_block ht k hk]
  exact h
def intsN (h : List Nat) : List Int := h.map fun k : Nat => (k : Int)
theorem intsN_len (h : List Nat) : (intsN h).length = h.length := by simp [intsN]
theorem intsN_get (h : List Nat) (k : Nat) : (intsN h)[k]?.getD 0 = ((h[k]?.getD 0 : Nat) : Int) := by
  unfold intsN
  rw [List.getElem?_map]
  cases h[k]? <;> simp
theorem entsOf_get {ds : List ID} {j k : Nat} (hk : k < (ds[j]?.getD id0).2.2.2.2.length) : (entsOf ds j)[k]? = some ((ds[j]?.getD id0).2.2.2.2[k]?.getD en0).2 := by
  unfold entsOf entI
  rw [List.getElem?_map, List.getElem?_eq_getElem hk]
  rfl
theorem entsOf_len (ds : List ID) (j : Nat) : (entsOf ds j).length = (ds[j]?.getD id0).2.2.2.2.length := by simp [entsOf, entI]

set_option maxHeartbeats 6400000 in
theorem reachFrom_top (w : World) (a : Option Addr) (n c t : Nat) (ds : List ID) (hdn : ds.length = n) (hn0 : t < n) (hn : n ≤ 10) (hc : AtI w a n ds) (hr : inRange ds) (h6 : ∀ i, (entsOf ds i).length ≤ 6) :
    Calls Tryz.prog 115 #[.slice a n c, .int .i64 (t : Int)] w fun e w' => ∃ b N m, e = .returned (.map (some b)) ∧ Below w.heap.size w w' ∧ w.heap.size ≤ b ∧ Mp w' b N (fun x => decide (0 ≤ x ∧ x < (n : Int)) && !decide (m x = 0)) m ∧ (∀ i : Nat, 0 < m (i : Int) ↔ RT (entsOf ds) t i) ∧ ∀ x, 0 ≤ m x := by
  have HC : Hid (AtI w a n ds) := hc
  have HR : Hid (∀ i, i < n → ∀ x ∈ entsOf ds i, 0 ≤ x ∧ x < (n : Int)) := by rw [← hdn]; exact hr
  have H6 : Hid (∀ i, (entsOf ds i).length ≤ 6) := h6
  have HM0 : Hid (Mp (w.alloc (.map #[] 0)) w.heap.size 0 (fun _ => false) (fun _ => 0)) := Mp.made w
  have hmm := @run_makeMap Tryz.prog
  clear hc hr h6 hdn
  go_enter Tryz.func115, Tryz.ntmps115
  go_wp2
  clear hmm
  go_loopw [15] (fun i wr => ∃ j : Nat, j ≤ n ∧ i = .int .i64 j ∧ Below w.heap.size w wr ∧ Mp wr w.heap.size j (fun x => decide (0 ≤ x ∧ x < (j : Int))) (fun _ => 0)) (fun i _ => n - (intOf i).toNat)
  case atStart =>
    refine ⟨0, Nat.zero_le _, rfl, later1 _ _, ?_⟩
    have : (fun x : Int => decide (0 ≤ x ∧ x < ((0 : Nat) : Int))) = fun _ => false := by funext x; simp
    rw [this]; exact HM0.out
  case round =>
    obtain ⟨j, hj, rfl, hbl, hmp⟩ := hrel
    have HBL : Hid (Below w.heap.size w wr) := hbl
    have HMP : Hid (Mp wr w.heap.size j (fun x => decide (0 ≤ x ∧ x < (j : Int))) (fun _ => 0)) := hmp
    clear hbl hmp HM0
    by_cases hlt : j < n
    · obtain ⟨w1, hup, hmp1, hturn⟩ := HMP.out.put (x := (j : Int)) (v := 0) (by unfold maxLen; omega) (wf64_of (by omega) (by omega)) (wf64_of (by omega) (by omega))
      rw [putP_next, putM_zero] at hmp1
      have HUP : Hid (_ = _) := hup
      have HMP1 : Hid (Mp w1 w.heap.size (j + 1) (fun x => decide (0 ≤ x ∧ x < ((j + 1 : Nat) : Int))) (fun _ => 0)) := hmp1
      have HB1 : Hid (Below w.heap.size w w1) := HBL.out.trans (turned_below hturn (Nat.le_refl _))
      clear hup hmp1 hturn
      go_wp2_with (first | (at_mapUpdate; refine wpList_mapUpdate_run rfl _ _ _ _ rfl _ _ _ rfl rfl rfl _ HUP.out ?_) | fail)
      go_roundw
      case rel => exact ⟨j + 1, by omega, by go_num, HB1.out, HMP1.out⟩
      case measure => simp [intOf]; omega
    · have hjn : j = n := by omega
      subst hjn
      clear hlt hj
      obtain ⟨w1, hup, hmp1, hturn⟩ := HMP.out.put (x := (t : Int)) (v := 1) (by unfold maxLen; omega) (wf64_of (by omega) (by omega)) (wf64_of (by omega) (by omega))
      rw [putP_same (by simp; omega)] at hmp1
      have HUP : Hid (_ = _) := hup
      have HB1 : Hid (Below w.heap.size w w1) := HBL.out.trans (turned_below hturn (Nat.le_refl _))
      have HMP1 : Hid (Mp (w1.alloc (.cells #[.int .i64 (t : Int)] 2)) w.heap.size (j + 1) (fun x => decide (0 ≤ x ∧ x < (j : Int))) (putM (fun _ => 0) (t : Int) 1)) := hmp1.later (later1 _ _)
      have HQ1 : Hid (Qu (w1.alloc (.cells #[.int .i64 (t : Int)] 2)) w.heap.size (.slice (some ⟨w1.heap.size, 0, none⟩) 1 1) (intsN [t])) := Qu.one w1 _ HB1.out.size (t : Int)
      have HBQ : Hid (Below w.heap.size w (w1.alloc (.cells #[.int .i64 (t : Int)] 2))) := HB1.out.trans ((later1 _ _).mono HB1.out.size)
      clear hup hmp1 hturn HMP HBL
      have HBF : Hid (Bfs (entsOf ds) j [t] 0 0 (putM (fun _ => 0) (t : Int) 1) t) := Bfs.init _ _ _ hn0
      go_wp2_with (first | (at_mapUpdate; refine wpList_mapUpdate_run rfl _ _ _ _ rfl _ _ _ rfl rfl rfl _ HUP.out ?_) | fail)
      generalize hW : w1.alloc (.cells #[.int .i64 (t : Int)] 2) = W1 at *
      clear hW HUP HB1
      go_loopg [7] j (fun gk v wr => ∃ (h : List Nat) (p : Nat) (m : Int → Int) (N : Nat), gk + p = j ∧ N ≤ j + 1 + 6 * p ∧ Bfs (entsOf ds) j h p 0 m t ∧ Qu wr w.heap.size v (intsN (h.drop p)) ∧ Mp wr w.heap.size N (fun x => decide (0 ≤ x ∧ x < (j : Int))) m ∧ Below w.heap.size w wr)
      case atStart => exact ⟨[t], 0, _, j + 1, rfl, by omega, HBF.out, HQ1.out, HMP1.out, HBQ.out⟩
      case round =>
        obtain ⟨h, p, m, N, hgk, hN, hbf, hq, hmp, hbw⟩ := hrel
        have HBFS : Hid (Bfs (entsOf ds) j h p 0 m t) := hbf
        have HMPR : Hid (Mp wr w.heap.size N (fun x => decide (0 ≤ x ∧ x < (j : Int))) m) := hmp
        have HBW : Hid (Below w.heap.size w wr) := hbw
        obtain ⟨aq, cq, hv, hcq⟩ := hq.shape
        have HQU : Hid (Qu wr w.heap.size _ (intsN (h.drop p))) := hq
        have hlen : (intsN (h.drop p)).length = h.length - p := by rw [intsN_len, List.length_drop]
        rw [hlen] at hv hcq
        subst hv
        have hpl := hbf.le
        have hhl := hbf.len
        clear hbf hq hmp hbw HBF HQ1 HMP1 HBQ
        by_cases hp : p < h.length
        · obtain ⟨q, hqe⟩ : ∃ q, h[p]?.getD 0 = q := ⟨_, rfl⟩
          have HQE : Hid (h[p]?.getD 0 = q) := hqe
          have hqin : q ∈ h := by rw [← hqe, List.getElem?_eq_getElem hp]; exact List.getElem_mem hp
          have hqj : q < j := HBFS.out.lt q hqin
          have hdrop : h.drop p = q :: h.drop (p + 1) := by
            rw [List.drop_eq_getElem_cons hp, ← hqe, List.getElem?_eq_getElem hp]; rfl
          obtain ⟨g, off, rfl, cQ⟩ := HQU.out.cell (k := 0) (by rw [hlen]; omega)
          rw [intsN_get, hdrop] at cQ
          simp only [List.getElem?_cons_zero, Option.getD_some, Nat.add_zero] at cQ
          obtain ⟨b0, o0, rfl, hI⟩ := HC.out q hqj
          obtain ⟨aB, cB, aE, cE, _, _, _, _, c4w, h5⟩ := hI
          obtain ⟨_, _, e1, hm1, _, hc1⟩ := h5.2.2.open'
          simp only [Value.slice.injEq] at e1
          obtain ⟨rfl, _, rfl⟩ := e1
          have c4 := cell_later HBW.out c4w
          have HCB : Hid (AtN w aE (ds[q]?.getD id0).2.2.2.2.length (ds[q]?.getD id0).2.2.2.2) := hc1
          have HEG : Hid (∀ k, k < (ds[q]?.getD id0).2.2.2.2.length → (entsOf ds q)[k]? = some ((ds[q]?.getD id0).2.2.2.2[k]?.getD en0).2) := fun k hk => entsOf_get hk
          have HEL : Hid ((entsOf ds q).length = (ds[q]?.getD id0).2.2.2.2.length) := entsOf_len ds q
          have hE6 : (ds[q]?.getD id0).2.2.2.2.length ≤ 6 := by have := H6.out q; rw [HEL.out] at this; exact this
          have HRQ : Hid (∀ x ∈ entsOf ds q, 0 ≤ x ∧ x < (j : Int)) := HR.out q hqj
          clear c4w h5 hc1 hm1 hqin
          generalize (ds[q]?.getD id0).2.2.2.2 = es at *
          generalize es.length = nE at *
          have hq0 : ((q : Nat) : Int) < (j : Int) := by omega
          have hpos : 0 < h.length - p := by omega
          have HHL : Hid (h.length ≤ j) := hhl
          have HGK : Hid (gk + p = j) := hgk
          have HNN : Hid (N ≤ j + 1 + 6 * p) := hN
          have HPL : Hid (p < h.length) := hp
          have hp10 : p ≤ 10 := by omega
          clear hlen hqe hdrop hhl hgk hN hp hpl
          generalize h.length - p = nq at *
          go_wp2
          clear cQ c4
          obtain ⟨wo, rfl⟩ : ∃ wo, wo = wr := ⟨_, rfl⟩
          go_loopw [7, 38] (fun v i wr2 => ∃ (k : Nat) (h2 : List Nat) (m2 : Int → Int) (N2 : Nat), k ≤ nE ∧ i = .int .i64 k ∧ N2 ≤ j + 1 + 6 * p + k ∧ p < h2.length ∧ h2[p]?.getD 0 = q ∧ Bfs (entsOf ds) j h2 p k m2 t ∧ Qu wr2 w.heap.size v (intsN (h2.drop p)) ∧ Mp wr2 w.heap.size N2 (fun x => decide (0 ≤ x ∧ x < (j : Int))) m2 ∧ Below w.heap.size w wr2) (fun _ i _ => nE - (intOf i).toNat)
          case atStart => exact ⟨0, h, m, N, Nat.zero_le _, rfl, HNN.out, HPL.out, HQE.out, HBFS.out, HQU.out, HMPR.out, HBW.out⟩
          case round =>
            obtain ⟨k, h2, m2, N2, hk, rfl, hN2, hp2, hq2, hbf2, hqu2, hmp2, hbw2⟩ := hrel
            have HN2 : Hid (N2 ≤ j + 1 + 6 * p + k) := hN2
            have HP2 : Hid (p < h2.length) := hp2
            have HQ2 : Hid (h2[p]?.getD 0 = q) := hq2
            have HBF2 : Hid (Bfs (entsOf ds) j h2 p k m2 t) := hbf2
            have HMP2 : Hid (Mp wr w.heap.size N2 (fun x => decide (0 ≤ x ∧ x < (j : Int))) m2) := hmp2
            have HBW2 : Hid (Below w.heap.size w wr) := hbw2
            obtain ⟨av, cv, hv, hcv⟩ := hqu2.shape
            have HQU2 : Hid (Qu wr w.heap.size _ (intsN (h2.drop p))) := hqu2
            have hlen2 : (intsN (h2.drop p)).length = h2.length - p := by rw [intsN_len, List.length_drop]
            rw [hlen2] at hv hcv
            have hh2 := hbf2.len
            subst hv
            clear hN2 hbf2 hqu2 hmp2 hbw2 HQU HMPR HBFS HNN HPL HQE HBW
            by_cases hlk : k < nE
            · obtain ⟨b1, o1, rfl, d0, d1⟩ := HCB.out k hlk
              replace d0 := cell_later HBW2.out d0
              replace d1 := cell_later HBW2.out d1
              have hxk := HEG.out k hlk
              have hxr := HRQ.out _ (List.mem_of_getElem? hxk)
              have HXK : Hid ((entsOf ds (h2[p]?.getD 0))[k]? = some (es[k]?.getD en0).2) := by unfold Hid; rw [HQ2.out]; exact hxk
              clear hxk hlen2 hq2 HEG
              generalize (es[k]?.getD en0).1 = nm at *
              generalize (es[k]?.getD en0).2 = x at *
              have hwx : wf64 x := wf64_of hxr.1 (by omega)
              have hbn := HBF2.out.bnd hn (by omega) x
              have hmpa : Mp (wr.alloc (.cells #[.string nm, .int .i64 x] 128)) w.heap.size N2 (fun x => decide (0 ≤ x ∧ x < (j : Int))) m2 := HMP2.out.later (later1 _ _)
              have HLK1 : Hid (_ = _) := hmpa.look hwx
              obtain ⟨wB, hup, hmpb, hturn⟩ := hmpa.put (x := x) (v := m2 x + 1) (by have := HN2.out; unfold maxLen; omega) hwx (wf64_of (by omega) (by omega))
              rw [putP_same (by simp; omega)] at hmpb
              have HUP : Hid (_ = _) := hup
              have HLK2 : Hid (_ = _) := hmpb.look hwx
              rw [putM_at] at HLK2
              have hsz2 : w.heap.size ≤ wr.heap.size := HBW2.out.size
              have ce : (wr.alloc (.cells #[.string nm, .int .i64 x] 128)).cell? ⟨wr.heap.size, 1, none⟩ = some (.int .i64 x) := by rw [new_cell]; rfl
              have hblt : w.heap.size < wr.heap.size := HMP2.out.lt
              have ceB : wB.cell? ⟨wr.heap.size, 1, none⟩ = some (.int .i64 x) := cell_turned hturn (by omega) ce
              have HQB : Hid (Qu wB w.heap.size (.slice av (h2.length - p) cv) (intsN (h2.drop p))) := (HQU2.out.later (later1 _ _)).turned hmpa hturn
              have HBB : Hid (Below w.heap.size w wB) := (HBW2.out.trans ((later1 _ _).mono hsz2)).trans (turned_below hturn (Nat.le_refl _))
              have HMB : Hid (Mp wB w.heap.size (N2 + 1) (fun x => decide (0 ≤ x ∧ x < (j : Int))) (putM m2 x (m2 x + 1))) := hmpb
              obtain ⟨mx, hmx⟩ : ∃ mx, m2 x = mx := ⟨_, rfl⟩
              have HMX : Hid (m2 x = mx) := hmx
              rw [hmx] at HLK1 HUP HLK2 hbn HMB
              clear hmpa hup hmpb hturn hmx HMP2 HBW2
              by_cases hone : mx + 1 = 1
              · have hb1 : (mx + 1 == 1) = true := by simpa using hone
                obtain ⟨v', X, hap, hqX, hbX, hkX⟩ := append_q wB w.heap.size _ _ x HQB.out HBB.out.size (by rw [intsN_len, List.length_drop]; omega)
                have HAP : Hid (_ = _) := hap
                have hxn : ((x.toNat : Nat) : Int) = x := by omega
                have HBFN : Hid (Bfs (entsOf ds) j (h2 ++ [x.toNat]) p (k + 1) (putM m2 x (mx + 1)) t) := by
                  have := HBF2.out.new HP2.out HXK.out hxr.1 hxr.2 (by rw [HMX.out]; exact hone)
                  rw [HMX.out] at this
                  exact this
                have HQX : Hid (Qu X w.heap.size v' (intsN ((h2 ++ [x.toNat]).drop p))) := by
                  unfold Hid
                  rw [List.drop_append_of_le_length (by omega)]
                  unfold intsN at hqX ⊢
                  rw [List.map_append, List.map_singleton, hxn]
                  exact hqX
                have HMX2 : Hid (Mp X w.heap.size (N2 + 1) (fun x => decide (0 ≤ x ∧ x < (j : Int))) (putM m2 x (mx + 1))) := HMB.out.keepQ hkX
                have HBX : Hid (Below w.heap.size w X) := HBB.out.trans hbX
                have HQP : Hid ((h2 ++ [x.toNat])[p]?.getD 0 = q) := by unfold Hid; rw [List.getElem?_append_left HP2.out]; exact HQ2.out
                clear hap hqX hbX hkX hone HQB HMB HBB hxn
                go_wp2_with (first
                  | (at_lookup; first | refine wpList_lookup_run rfl _ _ _ rfl _ _ rfl rfl _ HLK1.out ?_ | refine wpList_lookup_run rfl _ _ _ rfl _ _ rfl rfl _ HLK2.out ?_)
                  | (at_mapUpdate; refine wpList_mapUpdate_run rfl _ _ _ _ rfl _ _ _ rfl rfl rfl _ HUP.out ?_)
                  | refine wpList_append_run rfl _ _ _ rfl _ _ rfl rfl _ _ HAP.out ?_
                  | fail)
                go_roundw
                case rel => exact ⟨k + 1, h2 ++ [x.toNat], _, N2 + 1, by omega, by go_num, by have := HN2.out; omega, by rw [List.length_append]; have := HP2.out; omega, HQP.out, HBFN.out, HQX.out, HMX2.out, HBX.out⟩
                case measure => simp [intOf]; omega
              · have hb1 : (mx + 1 == 1) = false := by simpa using hone
                have HBFN : Hid (Bfs (entsOf ds) j h2 p (k + 1) (putM m2 x (mx + 1)) t) := by
                  have := HBF2.out.old HXK.out hxr.1 (by rw [HMX.out]; exact hone)
                  rw [HMX.out] at this
                  exact this
                clear hone
                go_wp2_with (first
                  | (at_lookup; first | refine wpList_lookup_run rfl _ _ _ rfl _ _ rfl rfl _ HLK1.out ?_ | refine wpList_lookup_run rfl _ _ _ rfl _ _ rfl rfl _ HLK2.out ?_)
                  | (at_mapUpdate; refine wpList_mapUpdate_run rfl _ _ _ _ rfl _ _ _ rfl rfl rfl _ HUP.out ?_)
                  | fail)
                go_roundw
                case rel => exact ⟨k + 1, h2, _, N2 + 1, by omega, by go_num, by have := HN2.out; omega, HP2.out, HQ2.out, HBFN.out, HQB.out, HMB.out, HBB.out⟩
                case measure => simp [intOf]; omega
            · have hke : k = nE := by omega
              have hBN : Bfs (entsOf ds) j h2 (p + 1) 0 m2 t := HBF2.out.next HP2.out (by rw [HQ2.out, HEL.out]; exact hke.symm) (by omega)
              have hd2 : h2.drop p = q :: h2.drop (p + 1) := by
                rw [List.drop_eq_getElem_cons hp2, ← hq2, List.getElem?_eq_getElem hp2]; rfl
              obtain ⟨A, C, hsl, htl⟩ := slice_tailQ av (h2.length - p) cv (by omega) hcv
              have HQT : Hid (Qu wr w.heap.size (.slice A (h2.length - p - 1) C) (intsN (h2.drop (p + 1)))) := htl wr w.heap.size (q : Int) _ (by
                have := HQU2.out
                rw [hd2] at this
                exact this)
              have HBFN : Hid (Bfs (entsOf ds) j h2 (p + 1) 0 m2 t) := hBN
              have HG2 : Hid (gk - 1 < gk ∧ gk - 1 + (p + 1) = j) := by have := HGK.out; have := HBFN.out.le; have := HBFN.out.len; unfold Hid; omega
              have HNX : Hid (N2 ≤ j + 1 + 6 * (p + 1)) := by have := HN2.out; unfold Hid; omega
              clear hBN hd2 htl hke hq2 hlen2
              go_wp2
              go_roundg (gk - 1)
              case measure => exact HG2.out.1
              case rel => exact ⟨h2, p + 1, m2, N2, HG2.out.2, HNX.out, HBFN.out, HQT.out, HMP2.out, HBW2.out⟩
        · have hpe : p = h.length := by omega
          have HD : Hid (∀ i : Nat, 0 < m (i : Int) ↔ RT (entsOf ds) t i) := fun i => HBFS.out.done hpe i
          have HNNEG : Hid (∀ x, 0 ≤ m x) := HBFS.out.nn
          obtain ⟨D, ho, ht⟩ := HMPR.out
          have HT : Hid (Tells D (fun x => decide (0 ≤ x ∧ x < (j : Int))) m) := ht
          have hz0 : h.length - p = 0 := by omega
          have hbs : w.heap.size ≤ wr.heap.size := HBW.out.size
          rw [hz0] at *
          clear ht hlen hpe hp hpl hhl hgk hN hcq HQU HBFS HMPR HC HR H6
          go_wp2_with (first
            | (at_range; refine wpList_range_own _ rfl _ 161 rfl 2 2 Tryz.keyInt Tryz.underlying161 _ w.heap.size N _ rfl ho ?_; intro w0 hrg0 hg0 hs0)
            | go_in)
          try go_frame
          have HRG0 : Hid (w0.ranges Tryz.prog 2 (plainElem Tryz.prog 2) w.heap.size wr.heap.size N D (Maps.has D) (Maps.size D)) := hrg0
          have HB0 : Hid (Below w.heap.size w w0) := HBW.out.trans (below_grown hg0 hbs (by simp))
          clear hrg0 hg0 hs0 ho
          generalize wr.heap.size = rb at *
          go_loopw [10] (fun _ wr2 => ∃ (left : Lit → Bool) (cnt : Nat) (D2 : DataW Unit), wr2.ranges Tryz.prog 2 (plainElem Tryz.prog 2) w.heap.size rb N D2 left cnt ∧ SweepT D2 (fun x => decide (0 ≤ x ∧ x < (j : Int))) m left ∧ Below w.heap.size w wr2) (fun _ wr2 => wr2.rangeLeft w.heap.size rb)
          case atStart => exact ⟨_, _, D, HRG0.out, SweepT.start HT.out, HB0.out⟩
          case round =>
            obtain ⟨left, cnt, D2, hrg, hsw, hbw⟩ := hrel
            have HSW : Hid (SweepT D2 (fun x => decide (0 ≤ x ∧ x < (j : Int))) m left) := hsw
            have HB2 : Hid (Below w.heap.size w wr) := hbw
            clear hsw hbw HRG0 HT HB0 HBW
            have hsz := HB2.out.size
            go_wp2_with (first
              | (at_next; refine wpList_next_ranges_ii _ rfl _ rfl 2 2 .i64 .i64 Tryz.keyInt Tryz.underlying2 Tryz.underlying2 w.heap.size rb N _ _ _ rfl hrg ?_ ?_)
              | go_in)
            · intro _ hl0
              have HTL := HSW.out.done hl0
              have HMF : Hid (Mp wr w.heap.size N (fun x => decide (0 ≤ x ∧ x < (j : Int)) && !decide (m x = 0)) m) := ⟨D2, hrg.owns, HTL⟩
              clear HTL hl0 hrg
              go_wp2
              go_ret
              exact ⟨_, _, m, rfl, HB2.out, Nat.le_refl _, HMF.out, HD.out, HNNEG.out⟩
            · intro x c w1 cnt1 hwx hwc hlx hat hrg1 hlt hg1 hs1 hen
              have HB1 : Hid (Below w.heap.size w w1) := HB2.out.trans (below_grown hg1 hsz (fun k hk => by cases hk; exact hbs))
              go_wp2_with (first
                | (at_delete; refine wpList_delete_ranges _ rfl _ _ 161 2 rfl 2 Tryz.keyInt Tryz.underlying161 _ w.heap.size rb N _ _ _ rfl hrg1 _ _ rfl (keyOf_int_mk Tryz.underlying2 hwx) ?_; intro w2 cnt2 hrg2 hle hturn; go_frame)
                | go_in)
              · have hc0 : c = 0 := by simpa using (by assumption : (c == 0) = true)
                subst hc0
                rw [strike_twice] at hrg2
                go_roundw
                case rel => exact ⟨_, cnt2, _, hrg2, HSW.out.struck hwx hat, HB1.out.trans (turned_below hturn (Nat.le_refl _))⟩
                case measure => rw [hrg2.left_eq, hrg.left_eq]; omega
              · have hc0 : ¬ c = 0 := by simpa using (by assumption : (c == 0) = false)
                go_roundw
                case rel => exact ⟨_, cnt1, _, hrg1, HSW.out.stays hwx hat hc0, HB1.out⟩
                case measure => rw [hrg1.left_eq, hrg.left_eq]; exact hlt
theorem reachFrom_any (w : World) (a : Option Addr) (n c : Nat) (ds : List ID) (hdn : ds.length = n) (hn0 : 0 < n) (hn : n ≤ 10) (hc : AtI w a n ds) (hr : inRange ds) (h6 : ∀ i, (entsOf ds i).length ≤ 6) :
    Calls Tryz.prog 115 #[.slice a n c, .int .i64 0] w fun e w' => ∃ b N m, e = .returned (.map (some b)) ∧ Below w.heap.size w w' ∧ w.heap.size ≤ b ∧ Mp w' b N (fun x => decide (0 ≤ x ∧ x < (n : Int)) && !decide (m x = 0)) m ∧ (∀ i : Nat, 0 < m (i : Int) ↔ RP (entsOf ds) i) ∧ ∀ x, 0 ≤ m x :=
  reachFrom_top w a n c 0 ds hdn hn0 hn hc hr h6
end Go.Proofs.YtaibcofendjnnaaGreatDoor

namespace Go.Proofs.YtaibcofendjnnaaGreatDoor
open Go.RowKit
set_option maxRecDepth 100000

theorem AnsIR.gen {w w2 : World} {r : Int} {a : Option Addr} {n c : Nat} {zs : List Int} (hb : Below w.heap.size w w2) (ho : IntsO w2 (.slice a n c) zs (fun b => w.heap.size + 1 ≤ b ∧ b < w2.heap.size)) (x y : Value) :
    AnsIR w (r, zs) (.returned (.agg #[.int .i64 r, .slice a n c])) ((w2.setCell ⟨w.heap.size, 0, none⟩ x).setCell ⟨w.heap.size, 1, none⟩ y) := by
  refine ⟨_, _, _, rfl, (hb.setCell (by simp) _).setCell (by simp) _, (ho.keep fun b hb hlt => ?_).mono fun b hb => ⟨by omega, by simp only [World.setCell, Array.size_modify]; exact hb.2⟩⟩
  rw [Below.heap_setCell _ _ _ _ (by simp; omega), Below.heap_setCell _ _ _ _ (by simp; omega)]
theorem AnsIR.later {w w2 w3 : World} {r : Int × List Int} {e : Ending} (h : AnsIR w r e w2) (hb : Below w2.heap.size w2 w3) : AnsIR w r e w3 := by
  obtain ⟨a, n, c, h1, h2, h3⟩ := h
  exact ⟨a, n, c, h1, h2.trans (hb.mono h2.size), (h3.keep fun b _ hlt => hb.block b hlt).mono fun b hh => ⟨hh.1, Nat.lt_of_lt_of_le hh.2 hb.size⟩⟩

end Go.Proofs.YtaibcofendjnnaaGreatDoor

namespace Go.Proofs.YtaibcofendjnnaaGreatDoor
open Go.RowKit
set_option maxRecDepth 100000

/-- Block b holds vs and is not frozen. -/
theorem Obx.row {w : World} {b : Nat} {x y : Value} {t : TypeId} (h : Obx w b [x, y] t) : OwnRow w b 2 (fun i => if i = 0 then x else y) := by
  refine ⟨_, _, h, by simp, fun i hi => ?_⟩
  have : i = 0 ∨ i = 1 := by omega
  rcases this with rfl | rfl <;> simp

end Go.Proofs.YtaibcofendjnnaaGreatDoor

namespace Go.Proofs.YtaibcofendjnnaaGreatDoor
open Go.RowKit
set_option maxRecDepth 100000

def mkInts (k : Int) (zs : List Int) : List Int := marks k zs.length
end Go.Proofs.YtaibcofendjnnaaGreatDoor

namespace Go.Proofs.YtaibcofendjnnaaGreatDoor
open Go.RowKit
set_option maxRecDepth 100000

abbrev KD := DK × List E3
def KernR (w : World) (vB vC vE : Value) (d : KD) : Prop := DiskR w vB vC d.1 ∧ Exts w vE d.2
theorem KernR.later {w w' : World} {vB vC vE : Value} {d : KD} (h : KernR w vB vC vE d) (hb : Below w.heap.size w w') : KernR w' vB vC vE d := ⟨h.1.later hb, h.2.later hb⟩
def KernU (w : World) (vB vC vE : Value) (d : KD) (F : Nat → Prop) : Prop := ∃ F1 G1 : Nat → Prop, DiskU w vB vC d.1 F1 ∧ ExtsO w vE d.2 G1 ∧ (∀ b, F1 b → ¬ G1 b) ∧ ∀ b, F1 b ∨ G1 b → F b
theorem DiskU.keep {w w' : World} {vB vC : Value} {d : DK} {F : Nat → Prop} (h : DiskU w vB vC d F) (e : ∀ b, F b → b < w.heap.size → w'.heap[b]? = w.heap[b]?) : DiskU w' vB vC d F := DiskO.keep h e
theorem KernU.reads {w : World} {vB vC vE : Value} {d : KD} {F : Nat → Prop} (h : KernU w vB vC vE d F) : KernR w vB vC vE d := by
  obtain ⟨_, _, h1, h2, _⟩ := h
  exact ⟨h1.reads, h2.reads⟩
theorem KernU.keep {w w' : World} {vB vC vE : Value} {d : KD} {F : Nat → Prop} (h : KernU w vB vC vE d F) (e : ∀ b, F b → b < w.heap.size → w'.heap[b]? = w.heap[b]?) : KernU w' vB vC vE d F := by
  obtain ⟨F1, G1, h1, h2, hd, hf⟩ := h
  exact ⟨F1, G1, h1.keep fun b hb => e b (hf b (Or.inl hb)), h2.keep fun b hb => e b (hf b (Or.inr hb)), hd, hf⟩
theorem KernU.later {w w' : World} {vB vC vE : Value} {d : KD} {F : Nat → Prop} (h : KernU w vB vC vE d F) (hb : Below w.heap.size w w') : KernU w' vB vC vE d F := h.keep fun b _ hlt => hb.block b hlt
theorem KernU.mono {w : World} {vB vC vE : Value} {d : KD} {F G : Nat → Prop} (h : KernU w vB vC vE d F) (e : ∀ b, F b → G b) : KernU w vB vC vE d G := by
  obtain ⟨F1, G1, h1, h2, hd, hf⟩ := h
  exact ⟨F1, G1, h1, h2, hd, fun b hb => e b (hf b hb)⟩
theorem KernU.chg {w w' : World} {vB vC vE : Value} {d : KD} {F G : Nat → Prop} (h : KernU w vB vC vE d F) (hc : Chg G w w') (hd : ∀ b, F b → ¬ G b) : KernU w' vB vC vE d F := h.keep fun b hb hlt => hc.block b hlt (hd b hb)
theorem DiskU.bound {w : World} {vB vC : Value} {d : DK} {F : Nat → Prop} (h : DiskU w vB vC d F) : DiskU w vB vC d (fun b => F b ∧ b < w.heap.size) := DiskO.bound h
theorem KernU.bound {w : World} {vB vC vE : Value} {d : KD} {F : Nat → Prop} (h : KernU w vB vC vE d F) : KernU w vB vC vE d (fun b => F b ∧ b < w.heap.size) := by
  obtain ⟨F1, G1, h1, h2, hd, hf⟩ := h
  exact ⟨_, _, h1.bound, h2.bound, fun b hb hb' => hd b hb.1 hb'.1, fun b hb => hb.elim (fun h => ⟨hf b (Or.inl h.1), h.2⟩) (fun h => ⟨hf b (Or.inr h.1), h.2⟩)⟩
def sizeKern (d : KD) : Nat := sizeDisk d.1 + d.2.length

theorem OwnRow.new3 (w : World) (x y z : Value) (t : TypeId) : OwnRow (w.alloc (.cells #[x, y, z] t)) w.heap.size 3 (fun i => if i = 0 then x else if i = 1 then y else z) := by
  refine ⟨_, t, Go.Deep.blk_alloc_new _ _, by simp, fun i hi => ?_⟩
  have : i = 0 ∨ i = 1 ∨ i = 2 := by omega
  rcases this with rfl | rfl | rfl <;> simp

def spanKern (d : KD) : Nat := spanDisk d.1 + 3 * d.2.length
theorem spanKern_le (d : KD) : spanKern d ≤ 3 * sizeKern d := by have := spanDisk_le d.1; unfold spanKern sizeKern; omega
def mkKern (k : Int) (d : KD) : KD := (mkDisk k d.1, marksE (k + (spanDisk d.1 : Nat)) d.2.length)
theorem mkDisk_len1 (k : Int) (d : DK) : (mkDisk k d).1.length = d.1.length := by simp [mkDisk, marksS_length]
theorem mkDisk_len2 (k : Int) (d : DK) : (mkDisk k d).2.length = d.2.length := by simp [mkDisk, marksP_length, wlens]

end Go.Proofs.YtaibcofendjnnaaGreatDoor

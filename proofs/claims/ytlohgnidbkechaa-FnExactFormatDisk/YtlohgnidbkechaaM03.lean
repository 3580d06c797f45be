/- Rows that grow by append, of elements of any kind, each with memory of its own. The walk of the program's drive.disk: the cache of pointers becomes a list of puts. NameFault, the specification's and the program's: what both come to. Texts as lists of bytes: cut at each slash. No program is named here but for slicing. The library's IndexByte, laid from the shelf. The iterator that tells the names of a path: its contract. Ranges over the names of a path: howMany. The marks of texts. Ranges over the names of a path: namesFault. Contracts of the library, laid from the shelf for this program. What of a path is wrong: the walk of the program's pathFault. SplitPath, the program's. The specification's cutting of a text at each slash. The specification's l3Names and l3Split. Lists of texts: marking, holding, comparing. Lists of entries and inodes: how they read, what they own. -/
import Derived.Test.YtlohgnidbkechaaM02
import Derived.Test.YtlohgnidbkechaaM01
import Derived.Test.YtlohgnidbkechaaRows
import Derived.Test.YtlohgnidbkechaaM00
import Derived.Lib.Bytealg
import Derived.Shelf.Small.Strs
import Derived.Shelf.Strings.Search1
import Derived.RangeFuncNested
import Derived.RangeFuncBound
import Derived.RangeFuncCalls
import Derived.RangeFuncLeaves
import Derived.RangeFuncFrom
import Derived.Shelf.Abstract
import Derived.Shelf.RegionOpen
import Derived.WalkKit
import Derived.OwnWalkIn
import Derived.TacticsInMore
import Derived.LoopNIn
import Derived.LoopIn
import Derived.Laws.IdiomStrings
import Derived.Scope
import Derived.Shelf.LaysM
import Derived.Shelf.Strconv.Clone
import Derived.Shelf.Strings.Prefix
import Derived.Shelf.Slices.Equal
import Derived.Shelf.Slices.Empties2
import Derived.RangeFuncWrites
import Derived.RangeFuncBox
import Derived.Maps.AppendAt
import Derived.Deep.RegionHeld3
namespace Go.Proofs.Ytlohgnidbkechaa
open Go.RowKit
set_option maxRecDepth 100000

/-- What an element's cells u own (the blocks F) and tell (x) stays as long as these blocks do. -/
def StP {α : Type} (P : World → List Value → α → (Nat → Prop) → Prop) : Prop :=
  ∀ (w w' : World) (u : List Value) (x : α) (F : Nat → Prop), P w u x F → (∀ b, F b → b < w.heap.size → w'.heap[b]? = w.heap[b]?) → P w' u x F
/-- A row of n elements that the call owns; element i is told by its cells u i, which own the blocks G i. -/
structure GRow {α : Type} (P : World → List Value → α → (Nat → Prop) → Prop) (w : World) (base : Nat) (e : TypeId) (size : Nat) (v : Value) (n : Nat) (x : Nat → α) (u : Nat → List Value) (G : Nat → Nat → Prop) : Prop where
  own : w.ownsRow base e size v n ((List.range n).flatMap u)
  len : ∀ i, i < n → (u i).length = size
  lo : ∀ i c, i < n → G i c → base ≤ c ∧ c < w.heap.size
  ne : ∀ i c, i < n → G i c → v.ownBlock ≠ some c
  inj : ∀ i j c, i < n → j < n → i ≠ j → G i c → ¬ G j c
  at' : ∀ i, i < n → P w (u i) (x i) (G i)
section
variable {α : Type} {P : World → List Value → α → (Nat → Prop) → Prop}
theorem GRow.nil (w : World) (base : Nat) (e : TypeId) (size : Nat) (x : Nat → α) : GRow P w base e size (.slice none 0 0) 0 x (fun _ => []) (fun _ _ => False) :=
  ⟨World.ownsRow_nil _ _ _ _, fun i hi => by omega, fun i _ hi => by omega, fun i _ hi => by omega, fun i _ _ hi => by omega, fun i hi => by omega⟩
theorem GRow.lit0 (w : World) (base : Nat) (hb : base ≤ w.heap.size) (e : TypeId) (size : Nat) (x : Nat → α) : GRow P (w.alloc (.cells #[] e)) base e size (.slice (some ⟨w.heap.size, 0, none⟩) 0 0) 0 x (fun _ => []) (fun _ _ => False) :=
  ⟨by simpa using World.ownsRow_lit (e := e) (size := size) w #[] 0 hb (by unfold maxLen; omega) (by simp), fun i hi => by omega, fun i _ hi => by omega, fun i _ hi => by omega, fun i _ _ hi => by omega, fun i hi => by omega⟩
theorem GRow.keep (hP : StP P) {w w' : World} {base : Nat} {e : TypeId} {size : Nat} {v : Value} {n : Nat} {x : Nat → α} {u : Nat → List Value} {G : Nat → Nat → Prop} (h : GRow P w base e size v n x u G) (hs : w.heap.size ≤ w'.heap.size) (k : ∀ c, base ≤ c → c < w.heap.size → w'.heap[c]? = w.heap[c]?) : GRow P w' base e size v n x u G := by
  refine ⟨?_, h.len, fun i c hi hc => ⟨(h.lo i c hi hc).1, Nat.lt_of_lt_of_le (h.lo i c hi hc).2 hs⟩, h.ne, h.inj, fun i hi => hP _ _ _ _ _ (h.at' i hi) fun c hc hlt => k c (h.lo i c hi hc).1 hlt⟩
  obtain ⟨h1, h2⟩ := h.own
  refine ⟨h1, ?_⟩
  rcases h2 with h2 | ⟨g, cap, cur, hv, hg, hh, r⟩
  · exact Or.inl h2
  · exact Or.inr ⟨g, cap, cur, hv, hg, by rw [k g hg (Array.getElem?_eq_some_iff.1 hh).1]; exact hh, r⟩
theorem GRow.later (hP : StP P) {w w' : World} {base : Nat} {e : TypeId} {size : Nat} {v : Value} {n : Nat} {x : Nat → α} {u : Nat → List Value} {G : Nat → Nat → Prop} (h : GRow P w base e size v n x u G) (hb : Below w.heap.size w w') : GRow P w' base e size v n x u G := h.keep hP hb.size fun c _ hlt => hb.block c hlt
theorem GRow.shape {w : World} {base : Nat} {e : TypeId} {size : Nat} {v : Value} {n : Nat} {x : Nat → α} {u : Nat → List Value} {G : Nat → Nat → Prop} (h : GRow P w base e size v n x u G) : ∃ a c, v = .slice a n c := by
  rcases h.own.2 with ⟨rfl, rfl⟩ | ⟨g, c, cur, rfl, _⟩
  · exact ⟨_, _, rfl⟩
  · exact ⟨_, _, rfl⟩
/-- What 'append' of one element comes to. -/
theorem GRow.append (hP : StP P) (w w1 : World) (t ty e : TypeId) (i : TypeInfo) (z : Value) (size bytes : Nat) (ht : Try.prog.underlying t = some (.slice e)) (hi : Try.prog.info? e = some i) (hz : i.zero = some z) (hsize : i.size = size) (hby : i.bytes = bytes) (hzs : z.cells.size = size) (hsz : 0 < size) (hbb : bytes ≤ 1000)
    (base n : Nat) (v : Value) (x : Nat → α) (u : Nat → List Value) (G : Nat → Nat → Prop) (h : GRow P w base e size v n x u G) (hb : base ≤ w.heap.size) (hn : n ≤ 1048600) (hb1 : Below w.heap.size w w1)
    (cs : List Value) (hlen : cs.length = size) (hone : ∀ y ∈ cs, y.oneCell' = true) (F : Nat → Prop) (hF : ∀ c, F c → w.heap.size ≤ c ∧ c < w1.heap.size) (hf : P w1 cs (x n) F) :
    ∃ g cap X u' G', (Builtin.append_ #[t, t] ty #[v, .slice (some ⟨w1.heap.size, 0, none⟩) 1 1]).run Try.prog (w1.alloc (.cells cs.toArray e)) = .ok (.slice (some ⟨g, 0, none⟩) (n + 1) cap) X ∧
      Below base w X ∧ w1.heap.size < X.heap.size ∧ GRow P X base e size (.slice (some ⟨g, 0, none⟩) (n + 1) cap) (n + 1) x u' G' ∧ (∀ b, b < w1.heap.size → v.ownBlock ≠ some b → X.heap[b]? = w1.heap[b]? ∧ g ≠ b) := by
  have hsz1 := hb1.size
  have hbW : Below w.heap.size w (w1.alloc (.cells cs.toArray e)) := hb1.trans ((later1 _ _).mono hb1.size)
  have hW := h.later hP hbW
  obtain ⟨g, cap, X, hr, ho, hg, hat, hgX⟩ := run_append_lies (P := Try.prog) (w1.alloc (.cells cs.toArray e)) t ty base e i z size bytes ht hi hz hsize hby hzs hsz v n _ hW.own ⟨w1.heap.size, 0, none⟩ 1 1 cs (by rw [hlen, Nat.one_mul])
    (fun j y hy => by
      rw [add_plain', Nat.zero_add, new_cell]
      simpa using hy) hone (by decide) (by unfold maxLen; omega) (by have : (n + 1) * bytes ≤ 1048601 * 1000 := Nat.mul_le_mul (by omega) hbb; omega) (by simp; omega) (w1.heap.size + 1) (by simp)
  have hrowb : ∀ g, v.ownBlock = some g → base ≤ g ∧ g < w.heap.size := fun g hg => h.own.lt g hg
  have hXb : ∀ b, b < w1.heap.size → v.ownBlock ≠ some b → X.heap[b]? = w1.heap[b]? := fun b hb' hne => (hg.block b (by simp; omega) (fun e => hne e.symm)).trans ((later1 _ _).block b hb')
  have hne : ∀ b, b ≤ w1.heap.size → v.ownBlock ≠ some b → g ≠ b := by
    intro b hb' hb2 e
    subst e
    rcases hat with h | h
    · exact hb2 h
    · omega
  have old : ∀ b, b < w.heap.size → v.ownBlock ≠ some b → X.heap[b]? = w.heap[b]? := fun b hb' hne => (hXb b (by omega) hne).trans (hb1.block b hb')
  have hXs : w1.heap.size < X.heap.size := by have := hg.size; simp at this; omega
  have hfr : ∀ c, F c → v.ownBlock ≠ some c := fun c hc e => by have := (hrowb c e).2; have := (hF c hc).1; omega
  refine ⟨g, cap, X, fun j => if j = n then cs else u j, fun j c => if j = n then F c else G j c, hr, (hbW.mono hb).trans (below_grown hg (by simp; omega) (fun g hg' => (hrowb g hg').1)), hXs, ⟨?_, fun j hj => ?_, fun j c hj hc => ?_, fun j c hj hc => ?_, fun j j' c hj hj' e hc hc' => ?_, fun j hj => ?_⟩, fun b hb hn => ⟨hXb b hb hn, hne b (Nat.le_of_lt hb) hn⟩⟩
  · rw [List.range_succ, List.flatMap_append]
    have e1 : (List.range n).flatMap (fun i => if i = n then cs else u i) = (List.range n).flatMap u := by
      have e0 : (List.range n).map (fun i => if i = n then cs else u i) = (List.range n).map u := List.map_congr_left fun i hi => by rw [if_neg (by have := List.mem_range.1 hi; omega)]
      rw [List.flatMap_def, List.flatMap_def, e0]
    have e2 : [n].flatMap (fun i => if i = n then cs else u i) = cs := by simp only [List.flatMap_cons, List.flatMap_nil, List.append_nil, if_true]
    rw [e1, e2]
    exact ho
  · by_cases e : j = n
    · simp only [e, if_true]; exact hlen
    · simp only [e, if_false]; exact h.len j (by omega)
  · by_cases e : j = n
    · simp only [e, if_true] at hc
      have := hF c hc
      omega
    · simp only [e, if_false] at hc
      have := h.lo j c (by omega) hc
      omega
  · by_cases e : j = n
    · simp only [e, if_true] at hc
      exact fun e' => hne c (Nat.le_of_lt (hF c hc).2) (hfr c hc) (by simpa [Value.ownBlock] using e')
    · simp only [e, if_false] at hc
      have hl := h.lo j c (by omega) hc
      exact fun e' => hne c (by omega) (h.ne j c (by omega) hc) (by simpa [Value.ownBlock] using e')
  · by_cases e1 : j = n
    · by_cases e2 : j' = n
      · omega
      · simp only [e1, e2, if_true, if_false] at hc hc'
        have := (h.lo j' c (by omega) hc').2
        have := (hF c hc).1
        omega
    · by_cases e2 : j' = n
      · simp only [e1, e2, if_true, if_false] at hc hc'
        have := (h.lo j c (by omega) hc).2
        have := (hF c hc').1
        omega
      · simp only [e1, e2, if_false] at hc hc'
        exact h.inj j j' c (by omega) (by omega) e hc hc'
  · by_cases e : j = n
    · subst e
      simp only [if_true]
      exact hP _ _ _ _ _ hf fun c hc hlt => hXb c hlt (hfr c hc)
    · simp only [e, if_false]
      exact hP _ _ _ _ _ (h.at' j (by omega)) fun c hc hlt => old c hlt (h.ne j c (by omega) hc)
/-- The cells of such a row. -/
def rowCell (u : Nat → List Value) (size c : Nat) : Value := (u (c / size))[c % size]?.getD undef
theorem GRow.cells {w : World} {base : Nat} {e : TypeId} {size : Nat} {v : Value} {n : Nat} {x : Nat → α} {u : Nat → List Value} {G : Nat → Nat → Prop} (h : GRow P w base e size v n x u G) (hsz : 0 < size) (hn : 0 < n) :
    ∃ g cap, v = .slice (some ⟨g, 0, none⟩) n cap ∧ base ≤ g ∧ g < w.heap.size ∧ n ≤ maxLen ∧ n ≤ cap ∧ OwnRow w g (n * size) (rowCell u size) := by
  obtain ⟨hl, h2 | ⟨g, cap, cur, rfl, hb, hh, hnc, hcm, hcs, htake⟩⟩ := h.own
  · omega
  · have hle : n * size ≤ cap * size := Nat.mul_le_mul_right _ hnc
    refine ⟨g, cap, rfl, hb, (Array.getElem?_eq_some_iff.1 hh).1, by omega, hnc, cur, e, hh, by omega, fun c hc => ?_⟩
    have hd : c / size < n := by rw [Nat.div_lt_iff_lt_mul hsz]; exact hc
    have hm : c % size < size := Nat.mod_lt _ hsz
    have hu : ∀ i, (if i < n then u i else List.replicate size undef).length = size := fun i => by
      by_cases hi : i < n
      · rw [if_pos hi]; exact h.len i hi
      · rw [if_neg hi]; simp
    have e0 : (List.range n).flatMap u = (List.range n).flatMap (fun i => if i < n then u i else List.replicate size undef) := by
      have : (List.range n).map u = (List.range n).map (fun i => if i < n then u i else List.replicate size undef) := List.map_congr_left fun i hi => by rw [if_pos (List.mem_range.1 hi)]
      rw [List.flatMap_def, List.flatMap_def, this]
    have hg := flat_get (C := fun i _ => if i < n then u i else List.replicate size undef) hsz (fun _ => undef) hu n (c / size) (c % size) hd hm
    rw [Nat.div_add_mod', ← e0, if_pos hd] at hg
    have h1 : ((List.range n).flatMap u)[c]? = cur[c]? := by rw [← htake, List.getElem?_take, if_pos hc, Array.getElem?_toList]
    rw [h1] at hg
    have hlt : c < cur.size := by omega
    show cur[c]? = some (rowCell u size c)
    unfold rowCell
    rw [← hg, Array.getElem?_eq_getElem hlt]; rfl
end

/-- A put, in two cells. -/
def PutP (w : World) (u : List Value) (p : Int × List Int) (F : Nat → Prop) : Prop := ∃ a c, u = [.int .i64 p.1, .slice a p.2.length c] ∧ IntsO w (.slice a p.2.length c) p.2 F
theorem PutP.steady : StP PutP := fun w w' u x F h k => by
  obtain ⟨a, c, h1, h2⟩ := h
  exact ⟨a, c, h1, h2.keep k⟩
theorem PutsO.reads {w : World} {v : Value} {ps : List (Int × List Int)} {F : Nat → Prop} (h : PutsO w v ps F) : Puts w v ps := h.puts
theorem PutsO.later {w w' : World} {v : Value} {ps : List (Int × List Int)} {F : Nat → Prop} (h : PutsO w v ps F) (hb : Below w.heap.size w w') : PutsO w' v ps F := h.keep fun b _ hlt => hb.block b hlt
theorem PutsO.chg {w w' : World} {v : Value} {ps : List (Int × List Int)} {F G : Nat → Prop} (h : PutsO w v ps F) (hc : Chg G w w') (hd : ∀ b, F b → ¬ G b) : PutsO w' v ps F := h.keep fun b hb hlt => hc.block b hlt (hd b hb)
theorem GRow.puts {w : World} {base : Nat} {e : TypeId} {v : Value} {n : Nat} {u : Nat → List Value} {G : Nat → Nat → Prop} {ps : List (Int × List Int)} (h : GRow PutP w base e 2 v n (fun i => ps[i]?.getD (0, [])) u G) (hn : ps.length = n) (F : Nat → Prop) (hF : ∀ c, base ≤ c → c < w.heap.size → F c) : PutsO w v ps F := by
  subst hn
  by_cases h0 : ps.length = 0
  · obtain ⟨a, c, e⟩ := h.shape
    exact Or.inl ⟨List.eq_nil_of_length_eq_zero h0, a, c, by rw [e, h0]⟩
  · obtain ⟨g, cap, rfl, hb, hg, hl, hc, hr⟩ := h.cells (by decide) (by omega)
    refine Or.inr ⟨g, cap, fun i => (u i)[1]?.getD undef, fun i c => i < ps.length ∧ G i c, hF g hb hg, fun i c hc => ⟨hF c (h.lo i c hc.1 hc.2).1 (h.lo i c hc.1 hc.2).2, fun e => h.ne i c hc.1 hc.2 (by simp [Value.ownBlock, e])⟩, fun i j c e h1 h2 => h.inj i j c h1.1 h2.1 e h1.2 h2.2, rfl, hl, hr.congr fun c hc => ?_, fun i hi => ?_⟩
    · obtain ⟨a, c', e1, _⟩ := h.at' (c / 2) (by omega)
      unfold rowCell putCell
      rw [e1]
      have : c % 2 = 0 ∨ c % 2 = 1 := by omega
      rcases this with e | e <;> simp [e, e1]
    · obtain ⟨a, c', e1, e2⟩ := h.at' i hi
      show IntsO w ((u i)[1]?.getD undef) _ _
      rw [e1]
      exact e2.mono fun c hc => ⟨hi, hc⟩

/-- Answers that are puts, in the one form. -/
def AnsPR (w : World) (r : Int × List (Int × List Int)) (e : Ending) (w' : World) : Prop := ∃ a n c, e = .returned (.agg #[.int .i64 r.1, .slice a n c]) ∧ Below w.heap.size w w' ∧ PutsO w' (.slice a n c) r.2 (fresh w w')
theorem AnsPR.putB {w W : World} {rb : Nat} {r : Int} {zs : List (Int × List Int)} {a : Option Addr} {n c : Nat} (hB : Below w.heap.size w W) (hrb : w.heap.size ≤ rb) (hY : PutsO W (.slice a n c) zs (fun b => rb < b ∧ b < W.heap.size)) (x y : Value) : AnsPR w (r, zs) (.returned (.agg #[.int .i64 r, .slice a n c])) ((W.setCell ⟨rb, 0, none⟩ x).setCell ⟨rb, 1, none⟩ y) := by
  refine ⟨a, n, c, rfl, (hB.setCell hrb _).setCell hrb _, ?_⟩
  refine ((hY.store (fun b hb => by have := hb.1; show b ≠ rb; omega) x).store (fun b hb => by have := hb.1; show b ≠ rb; omega) y).mono fun b hb => ⟨by omega, ?_⟩
  simpa [World.setCell] using hb.2
theorem AnsPR.badB {w W : World} {rb : Nat} (r : Int) (hB : Below w.heap.size w W) (hrb : w.heap.size ≤ rb) (x y : Value) : AnsPR w (r, []) (.returned (.agg #[.int .i64 r, .slice none 0 0])) ((W.setCell ⟨rb, 0, none⟩ x).setCell ⟨rb, 1, none⟩ y) := AnsPR.putB hB hrb (Or.inl ⟨rfl, _, _, rfl⟩) x y
end Go.Proofs.Ytlohgnidbkechaa

namespace Go.Proofs.Ytlohgnidbkechaa
open Go.RowKit
set_option maxRecDepth 100000

theorem Try.infoPut' : ∃ i, Try.prog.info? 53 = some i ∧ i.zero = some (.agg #[.int .i64 0, .slice none 0 0]) ∧ i.size = 2 ∧ i.bytes = 32 := by
  obtain ⟨i, hi, h⟩ := Option.map_eq_some_iff.1 Try.infoPut
  simp only [Prod.mk.injEq] at h
  exact ⟨i, hi, h.1, h.2.1, h.2.2⟩
theorem Try.infoInts' : ∃ i, Try.prog.info? 40 = some i ∧ i.zero = some (.slice none 0 0) ∧ i.size = 1 ∧ i.bytes = 24 := by
  obtain ⟨i, hi, h⟩ := Option.map_eq_some_iff.1 Try.infoInts
  simp only [Prod.mk.injEq] at h
  exact ⟨i, hi, h.1, h.2.1, h.2.2⟩
theorem upd_nat (k : Nat → Nat) (n : Nat) : (fun j => if j = n then k n else k j) = k := by
  funext j; by_cases h : j = n
  · simp [h]
  · simp [h]
theorem upd_val (k : Nat → Value) (n : Nat) : (fun j => if j = n then k n else k j) = k := by
  funext j; by_cases h : j = n
  · simp [h]
  · simp [h]

/-- Where the pointer to put i lies, and the put itself. -/
theorem Cache.ptr {w : World} {base n c : Nat} {a : Option Addr} {f : Nat → Int × List Int} {pb k : Nat → Nat} {u : Nat → Value} (h : Cache w base (.slice a n c) n f pb k u) {i : Nat} (hi : i < n) :
    ∃ g ua uc, a = some ⟨g, 0, none⟩ ∧ w.cell? ⟨g, i, none⟩ = some (.pointer (some ⟨pb i, 0, none⟩)) ∧ w.cell? ⟨pb i, 0, none⟩ = some (.int .i64 (f i).1) ∧ w.cell? ⟨pb i, 1, none⟩ = some (.slice ua (f i).2.length uc) ∧ u i = .slice ua (f i).2.length uc := by
  obtain ⟨g, cap, e, _, _, _, hrow⟩ := ownsRow_row h.own (by omega)
  simp only [Value.slice.injEq, true_and] at e
  obtain ⟨ua, uc, hu⟩ := h.sh i hi
  have hb := h.box i hi
  have b0 := hb.cell (i := 0) (by omega)
  have b1 := hb.cell (i := 1) (by omega)
  simp at b0 b1
  rw [hu] at b1
  refine ⟨g, ua, uc, e.1, ?_, b0, b1, hu⟩
  rw [hrow.cell hi]
  simp [hi]

theorem ownsRow_le {w : World} {base base' : Nat} {e : TypeId} {size : Nat} {v : Value} {n : Nat} {xs : List Value} (h : w.ownsRow base e size v n xs) (hb : base' ≤ base) : w.ownsRow base' e size v n xs := by
  obtain ⟨h1, h2⟩ := h
  refine ⟨h1, ?_⟩
  rcases h2 with h2 | ⟨g, cap, cur, hv, hg, r⟩
  · exact Or.inl h2
  · exact Or.inr ⟨g, cap, cur, hv, by omega, r⟩

set_option maxHeartbeats 3200000 in
theorem disk_any (w : World) (bd base n : Nat) (aB : Option Addr) (nB cB : Nat) (aP : Option Addr) (cP : Nat) (f : Nat → Int × List Int) (pb k : Nat → Nat) (u : Nat → Value) (hn : n ≤ 1000) (hd : OwnRow w bd 2 (fun c => if c = 0 then .slice aB nB cB else .slice aP n cP)) (hc : Cache w base (.slice aP n cP) n f pb k u) :
    Calls Try.prog 17 #[.pointer (some ⟨bd, 0, none⟩)] w fun e w' => ∃ aC cC, e = .returned (.agg #[.slice aB nB cB, .slice aC n cC]) ∧ Below w.heap.size w w' ∧ LRow (C2 fun i => (f i).1) w' w.heap.size base 53 2 (.slice aC n cC) n (fun i => (f i).2) k u := by
  have HC : Hid (Cache w base (.slice aP n cP) n f pb k u) := hc
  have d0 := hd.cell (i := 0) (by omega)
  have d1 := hd.cell (i := 1) (by omega)
  simp at d0 d1
  have hlt : bd < w.heap.size := hd.lt
  clear hd hc
  obtain ⟨ti, hi, h1, h2, h3⟩ := Try.infoPut'
  have HI : Hid (Try.prog.info? 53 = some ti ∧ ti.zero = some (.agg #[.int .i64 0, .slice none 0 0]) ∧ ti.size = 2 ∧ ti.bytes = 32) := ⟨hi, h1, h2, h3⟩
  clear hi h1 h2 h3
  go_enter Try.func17, Try.ntmps17
  go_wp2_with fail
  go_loopw [17] (fun i wr => ∃ j : Nat, j ≤ n ∧ i = .int .i64 j ∧ Below w.heap.size w wr ∧ w.heap.size + 2 ≤ wr.heap.size ∧ OwnRow wr w.heap.size 2 (fun c => if c = 0 then .slice none 0 0 else .slice none 0 0) ∧
    ∃ aC cC, OwnRow wr (w.heap.size + 1) 2 (fun c => if c = 0 then .slice aB nB cB else .slice aC j cC) ∧ LRow (C2 fun i => (f i).1) wr (w.heap.size + 2) base 53 2 (.slice aC j cC) j (fun i => (f i).2) k u) (fun i _ => n - (intOf i).toNat)
  case atStart =>
    refine ⟨0, Nat.zero_le _, rfl, later2 _ _ _, by simp, (OwnRow.two w _ _ _).later (later1 _ _), none, 0, by simpa using OwnRow.two (w.alloc (.cells #[.slice none 0 0, .slice none 0 0] 25)) (.slice aB nB cB) (.slice none 0 0) 25, ?_⟩
    exact ⟨World.ownsRow_nil _ _ _ _, fun i hi => by omega, fun i hi => by omega, fun i j hi => by omega, fun i hi => by omega, fun i hi => by omega⟩
  case round =>
    obtain ⟨j, hj, rfl, hbw, hsz, hres, aC, cC, hrow, hlr⟩ := hrel
    have HBW : Hid (Below w.heap.size w wr) := hbw
    have HRES : Hid (OwnRow wr w.heap.size 2 (fun c => if c = 0 then .slice none 0 0 else .slice none 0 0)) := hres
    have HROW : Hid (OwnRow wr (w.heap.size + 1) 2 (fun c => if c = 0 then .slice aB nB cB else .slice aC j cC)) := hrow
    have HLR : Hid (LRow (C2 fun i => (f i).1) wr (w.heap.size + 2) base 53 2 (.slice aC j cC) j (fun i => (f i).2) k u) := hlr
    clear hbw hres hrow hlr
    by_cases hjn : j < n
    · obtain ⟨g, ua, uc, e, p0, p1, p2, hu⟩ := HC.out.ptr hjn
      subst e
      replace p0 := cell_later HBW.out p0
      replace p1 := cell_later HBW.out p1
      replace p2 := cell_later HBW.out p2
      have hat := (HC.out.at' j hjn).keep (w' := wr.drew) fun b hb hl => by rw [hb]; exact HBW.out.block _ (HC.out.lo j hjn).2.2
      rw [hu] at hat
      obtain ⟨hi, h1, h2, h3⟩ := HI.out
      have hklt := (HC.out.lo j hjn).2.2
      have hap := LRow.append wr wr.drew 23 23 53 ti _ 2 32 Try.underlying23 hi h1 h2 h3 rfl (by decide) (by decide) (w.heap.size + 2) base j _ _ k u HLR.out hsz (by omega) (Below.refl _ _).drew ua uc rfl (fun x hx => by simp [C2] at hx; rcases hx with rfl | rfl <;> rfl) (k j) (HC.out.lo j hjn).2.1 (by show k j < wr.heap.size; have := HBW.out.size; omega)
        (fun e => by have := (HLR.out.own.lt _ e).1; omega) (fun i hi => HC.out.inj i j (by omega) hjn (by omega)) hat
      rw [← hu, upd_nat, upd_val] at hap
      obtain ⟨g2, cap2, X, hr, hXb, hBX, hXs, hLX⟩ := hap
      rw [hu] at hr
      have HR : Hid (_ = _) := hr
      have HBX : Hid (Below (w.heap.size + 2) wr X) := hBX
      have HLX : Hid (LRow (C2 fun i => (f i).1) X (w.heap.size + 2) base 53 2 (.slice (some ⟨g2, 0, none⟩) (j + 1) cap2) (j + 1) (fun i => (f i).2) k u) := hLX
      have HROWX : Hid (OwnRow X (w.heap.size + 1) 2 (fun c => if c = 0 then .slice aB nB cB else .slice aC j cC)) := HROW.out.block (hBX.block _ (by omega))
      have HRESX : Hid (OwnRow X w.heap.size 2 (fun c => if c = 0 then .slice none 0 0 else .slice none 0 0)) := HRES.out.block (hBX.block _ (by omega))
      have q1 := HROW.out.cell (i := 1) (by omega)
      have x1 := HROWX.out.cell (i := 1) (by omega)
      have x2 := HROWX.out.frozen 1
      have hbig : w.heap.size + 1 < wr.heap.size := by omega
      simp at q1 x1
      clear hr hXb hBX hLX hat hi h1 h2 h3 hu hXs
      go_wp2_with fail
      go_region_law (refine step_append_run rfl _ _ 23 rfl _ _ rfl rfl _ _ HR.out ?_)
      all_goals
        go_wp2
        go_roundw
        case rel =>
          refine ⟨j + 1, by omega, by go_num, (HBW.out.trans (HBX.out.mono (by omega))).setCell (by simp) _, ?_, HRESX.out.store (by simp) _, some ⟨g2, 0, none⟩, cap2, (HROWX.out.set 1 _).congr fun c hc => ?_, HLX.out.keep (by simp [World.setCell]) (fun g hg => Below.heap_setCell _ _ _ _ (by have := (HLX.out.own.lt g hg).1; simp; omega)) (fun i hi => Below.heap_setCell _ _ _ _ (by have := (HC.out.lo i (by omega)).2.2; simp; omega))⟩
          · have := HBX.out.size; simp [World.setCell]; omega
          · have : c = 0 ∨ c = 1 := by omega
            rcases this with rfl | rfl <;> simp
        case measure => simp [intOf]; omega
    · have q0 := HROW.out.cell (i := 0) (by omega)
      have q1 := HROW.out.cell (i := 1) (by omega)
      have r0 := HRES.out.cell (i := 0) (by omega)
      have r1 := HRES.out.cell (i := 1) (by omega)
      have r2 := HRES.out.frozen 0
      have r3 := HRES.out.frozen 1
      simp at q0 q1 r0 r1
      have e : j = n := by omega
      subst e
      go_wp2
      refine bodyPost_ret (v := .agg #[.slice aB nB cB, .slice aC j cC]) (by simp [results, Try.results17, go_sem, r0, r1]) rfl ⟨aC, cC, rfl, (HBW.out.setCell (Nat.le_refl _) _).setCell (Nat.le_refl _) _, ?_⟩
      have h := HLR.out.keep (w' := (wr.setCell ⟨w.heap.size, 0, none⟩ (.slice aB nB cB)).setCell ⟨w.heap.size, 1, none⟩ (.slice aC j cC)) (by simp [World.setCell]) (fun g hg => (Below.heap_setCell _ _ _ _ (by have := (HLR.out.own.lt g hg).1; simp; omega)).trans (Below.heap_setCell _ _ _ _ (by have := (HLR.out.own.lt g hg).1; simp; omega))) (fun i hi => (Below.heap_setCell _ _ _ _ (by have := (HC.out.lo i hi).2.2; simp; omega)).trans (Below.heap_setCell _ _ _ _ (by have := (HC.out.lo i hi).2.2; simp; omega)))
      exact ⟨ownsRow_le h.own (by omega), h.lo, h.ne, h.inj, h.sh, h.at'⟩
end Go.Proofs.Ytlohgnidbkechaa

namespace Go.Proofs.Ytlohgnidbkechaa
open Go.RowKit
set_option maxRecDepth 100000

def byB (c : UInt8) : Bool := decide (97 ≤ (c.toNat : Int)) && decide ((c.toNat : Int) ≤ 122)
def nameF (s : ByteArray) : Int := if s.size = 0 then 5 else if s.data.toList.all byB = true then (if 4 < s.size then 2 else 0) else 5
theorem nameF_bad {s : ByteArray} {k : Nat} (h : k < s.size) (hb : byB s[k] = false) : nameF s = 5 := by
  unfold nameF
  split
  · rfl
  · rw [if_neg]
    intro ha
    rw [List.all_eq_true] at ha
    have := ha s[k] (by
      have : s[k] = s.data.toList[k]'(by simpa using h) := rfl
      rw [this]; exact List.getElem_mem _)
    rw [hb] at this
    exact absurd this (by simp)
theorem nameF_good {s : ByteArray} (ha : ∀ j (h : j < s.size), byB s[j] = true) : nameF s = if s.size = 0 then 5 else if 4 < s.size then 2 else 0 := by
  unfold nameF
  rw [if_pos (c := s.data.toList.all byB = true)]
  rw [List.all_eq_true]
  intro c hc
  obtain ⟨k, hk, rfl⟩ := List.mem_iff_getElem.1 hc
  exact ha k (by simpa using hk)

theorem toList_size (s : ByteArray) : s.toList.length = s.size := by rw [ByteArray.toList_eq]; rfl
theorem emp_no {s : ByteArray} (h : ¬ s.size = 0) : s.toList.isEmpty = false := by
  cases hs : s.toList with
  | nil => have := toList_size s; rw [hs] at this; exact absurd this.symm h
  | cons a t => rfl
theorem emp_yes {s : ByteArray} (h : s.size = 0) : s.toList.isEmpty = true := by
  cases hs : s.toList with
  | nil => rfl
  | cons a t => have := toList_size s; rw [hs, h] at this; simp at this

set_option maxHeartbeats 800000 in
theorem isNameByte_any (w : World) (c : UInt8) : Calls Try.prog 71 #[.int .u8 (c.toNat : Int)] w fun e w' => e = .returned (.bool (byB c)) ∧ w' = w := by
  unfold byB
  by_cases h1 : 97 ≤ (c.toNat : Int)
  · by_cases h2 : (c.toNat : Int) ≤ 122
    · rw [decide_eq_true h1, decide_eq_true h2]
      go_enter Try.func71, Try.ntmps71
      go_wp2
      go_ret
      exact ⟨rfl, rfl⟩
    · rw [decide_eq_true h1, decide_eq_false h2]
      have d2 : decide ((c.toNat : Int) ≤ 122) = false := by simpa using h2
      go_enter Try.func71, Try.ntmps71
      go_wp2
      go_ret
      exact ⟨rfl, rfl⟩
  · rw [decide_eq_false h1]
    have d1 : decide (97 ≤ (c.toNat : Int)) = false := by simpa using h1
    go_enter Try.func71, Try.ntmps71
    go_wp2
    go_ret
    exact ⟨rfl, rfl⟩

set_option maxHeartbeats 800000 in
theorem implName_any (w : World) (s : ByteArray) (hs : s.size ≤ maxLen) : Calls Try.prog 69 #[.string s] w fun e w' => e = .returned (.int .i64 (nameF s)) ∧ w' = w := by
  unfold maxLen at hs
  by_cases h0 : s.size = 0
  · have hem := emp_yes h0
    have HN : Hid (nameF s = 5) := by unfold Hid nameF; rw [if_pos h0]
    rw [HN.out]
    go_enter Try.func69, Try.ntmps69
    go_wp2
    go_ret
    exact ⟨rfl, rfl⟩
  · have hem := emp_no h0
    go_enter Try.func69, Try.ntmps69
    go_wp2
    go_loop [8] (fun i => ∃ k : Nat, k ≤ s.size ∧ i = .int .i64 k ∧ ∀ j (h : j < s.size), j < k → byB s[j] = true) (fun i => s.size - (intOf i).toNat)
    case atStart => exact ⟨0, Nat.zero_le _, rfl, fun j h h' => by omega⟩
    case round =>
      obtain ⟨k, hk, rfl, ha⟩ := hrel
      have HA : Hid (∀ j (h : j < s.size), j < k → byB s[j] = true) := ha
      clear ha
      by_cases hlt : k < s.size
      · cases hb : byB s[k]
        · have HB : Hid (byB s[k] = false) := hb
          have HN : Hid (nameF s = 5) := nameF_bad hlt hb
          clear hb
          go_wp2_with fail
          refine (isNameByte_any _ _).mono ?_
          rw [HB.out]
          rintro e w1 ⟨rfl, rfl⟩
          go_wp2
          go_ret
          exact ⟨ret_int HN.out.symm, rfl⟩
        · have HB : Hid (byB s[k] = true) := hb
          clear hb
          go_wp2_with fail
          refine (isNameByte_any _ _).mono ?_
          rw [HB.out]
          rintro e w1 ⟨rfl, rfl⟩
          go_wp2
          go_round
          case rel =>
            refine ⟨k + 1, by omega, by go_num, fun j h hj => ?_⟩
            by_cases e : j = k
            · subst e; exact HB.out
            · exact HA.out j h (by omega)
          case measure => simp [intOf]; omega
      · have HN : Hid (nameF s = if s.size = 0 then 5 else if 4 < s.size then 2 else 0) := nameF_good fun j h => HA.out j h (by omega)
        by_cases h4 : 4 < s.size
        · go_wp2
          go_ret
          exact ⟨ret_int (by rw [HN.out, if_neg h0, if_pos h4]), rfl⟩
        · go_wp2
          go_ret
          exact ⟨ret_int (by rw [HN.out, if_neg h0, if_neg h4]), rfl⟩

end Go.Proofs.Ytlohgnidbkechaa

namespace Go.Proofs.Ytlohgnidbkechaa
open Go.RowKit
set_option maxRecDepth 100000

def mkB (l : List UInt8) : ByteArray := ⟨l.toArray⟩
theorem mkB_data (s : ByteArray) : mkB s.data.toList = s := by cases s; simp [mkB]
theorem mkB_list (l : List UInt8) : (mkB l).data.toList = l := by simp [mkB]
theorem mkB_size (l : List UInt8) : (mkB l).size = l.length := by simp [mkB, ByteArray.size]
theorem mkB_inj {l m : List UInt8} (h : mkB l = mkB m) : l = m := by rw [← mkB_list l, h, mkB_list]
def cutHead (b : UInt8) : List (List UInt8) → List (List UInt8)
  | [] => [[b]]
  | p :: ps => (b :: p) :: ps
/-- A text cut at each slash. -/
def cutB : List UInt8 → List (List UInt8)
  | [] => [[]]
  | b :: l => if b = 47 then [] :: cutB l else cutHead b (cutB l)
def takeTo (l : List UInt8) : List UInt8 := l.takeWhile (· != 47)
def dropTo (l : List UInt8) : List UInt8 := l.dropWhile (· != 47)
/-- What stands behind each slash, the first sign being one. -/
def restN : List UInt8 → List (List UInt8)
  | [] => []
  | _ :: t => cutB t
theorem cut_step (t : List UInt8) : cutB t = takeTo t :: restN (dropTo t) := by
  induction t with
  | nil => rfl
  | cons b l ih =>
    unfold cutB takeTo dropTo
    by_cases h : b = 47
    · rw [if_pos h, List.takeWhile_cons, List.dropWhile_cons, if_neg (by simp [h]), if_neg (by simp [h])]
      rfl
    · rw [if_neg h, ih, List.takeWhile_cons, List.dropWhile_cons, if_pos (by simpa using h), if_pos (by simpa using h)]
      rfl
theorem idx_cases (t : List UInt8) : (Lib.indexByte t 47 = -1 ∧ takeTo t = t ∧ dropTo t = []) ∨ ∃ o : Nat, Lib.indexByte t 47 = (o : Int) ∧ o < t.length ∧ takeTo t = t.take o ∧ dropTo t = t.drop o := by
  induction t with
  | nil => exact Or.inl ⟨rfl, rfl, rfl⟩
  | cons b l ih =>
    unfold Lib.indexByte takeTo dropTo
    by_cases h : b = 47
    · exact Or.inr ⟨0, by simp [h], by simp, by simp [h], by simp [h]⟩
    · have hb : (b == 47) = false := by simpa using h
      rcases ih with ⟨h1, h2, h3⟩ | ⟨o, h1, h2, h3, h4⟩
      · refine Or.inl ⟨by simp [hb, h1], ?_, ?_⟩
        · rw [List.takeWhile_cons, if_pos (by simpa using h)]; unfold takeTo at h2; rw [h2]
        · rw [List.dropWhile_cons, if_pos (by simpa using h)]; unfold dropTo at h3; rw [h3]
      · refine Or.inr ⟨o + 1, ?_, by simp; omega, ?_, ?_⟩
        · have : (Lib.indexByte l 47 == -1) = false := by rw [h1]; simp
          simp [hb, h1]
        · rw [List.takeWhile_cons, if_pos (by simpa using h)]; unfold takeTo at h3; rw [h3]; rfl
        · rw [List.dropWhile_cons, if_pos (by simpa using h)]; unfold dropTo at h4; rw [h4]; rfl
theorem restN_cons (b : UInt8) (t : List UInt8) : restN (b :: t) = takeTo t :: restN (dropTo t) := cut_step t
theorem dropTo_le (t : List UInt8) : (dropTo t).length ≤ t.length := by unfold dropTo; exact (List.dropWhile_sublist _).length_le
theorem takeTo_le (t : List UInt8) : (takeTo t).length ≤ t.length := by unfold takeTo; exact (List.takeWhile_sublist _).length_le
/-- The names that a path tells. -/
def namesL (l : List UInt8) : List (List UInt8) := if l = [47] then [] else restN l

theorem run_from (l : List UInt8) (k : Nat) (hk : k ≤ l.length) (W : World) : (Instr.slice 9 (.string (mkB l)) (some (.int .i64 (k : Int))) none none).run Try.prog W = .ok (.string (mkB (l.drop k))) W := by
  have hs := mkB_size l
  have he : (mkB l).extract k (mkB l).size = mkB (l.drop k) := by
    have h : ((mkB l).extract k (mkB l).size).data.toList = l.drop k := by
      simp only [mkB, ByteArray.size, ByteArray.data_extract, Array.toList_extract, List.size_toArray, List.extract_eq_take_drop]
      exact List.take_of_length_le (by simp)
    rw [← mkB_data ((mkB l).extract k (mkB l).size), h]
  simp [Instr.slice, Instr.sliceBounds, Instr.sliceBound, asIntOf, run_underlying Try.underlying9, hs, hk]
  rw [← hs]
  exact he
theorem run_upto (l : List UInt8) (k : Nat) (hk : k ≤ l.length) (W : World) : (Instr.slice 9 (.string (mkB l)) none (some (.int .i64 (k : Int))) none).run Try.prog W = .ok (.string (mkB (l.take k))) W := by
  have hs := mkB_size l
  have he : (mkB l).extract 0 k = mkB (l.take k) := by
    have h : ((mkB l).extract 0 k).data.toList = l.take k := by simp [mkB]
    rw [← mkB_data ((mkB l).extract 0 k), h]
  simp [Instr.slice, Instr.sliceBounds, Instr.sliceBound, asIntOf, run_underlying Try.underlying9, hs, hk]
  exact he
end Go.Proofs.Ytlohgnidbkechaa

namespace Go.Proofs.Ytlohgnidbkechaa
open Go.RowKit Go.Shelf
set_option maxRecDepth 100000
attribute [local go_sem] Oper.semAt_some

/-- A text that is no longer than a row takes. -/
abbrev BL := { l : List UInt8 // l.length ≤ 1048576 }
/-- A name as it is told. -/
abbrev encB (x : BL) : Array Value := #[.string (mkB x.1)]
abbrev txt (pre : List BL) : List (List UInt8) := pre.map (·.1)
theorem mkB_toList (l : List UInt8) : (mkB l).toList = l := by rw [ByteArray.toList_eq, mkB_list]
def strLen : Value → Nat
  | .string s => s.size
  | _ => 0

end Go.Proofs.Ytlohgnidbkechaa

namespace Go.Proofs.Ytlohgnidbkechaa
open Go.RowKit Go.Shelf
set_option maxRecDepth 100000
attribute [local go_sem] Oper.semAt_some

theorem cutHead_len (b : UInt8) (ps : List (List UInt8)) (h : ps ≠ []) : (cutHead b ps).length = ps.length := by
  cases ps with
  | nil => exact absurd rfl h
  | cons a t => rfl
theorem cutB_ne (l : List UInt8) : cutB l ≠ [] := by rw [cut_step]; simp
theorem cutB_len (l : List UInt8) : (cutB l).length ≤ l.length + 1 := by
  induction l with
  | nil => simp [cutB]
  | cons b t ih =>
    unfold cutB
    split
    · simp only [List.length_cons]; omega
    · rw [cutHead_len b _ (cutB_ne t)]; simp only [List.length_cons]; omega
theorem namesL_len (l : List UInt8) : (namesL l).length ≤ l.length + 1 := by
  unfold namesL
  split
  · simp
  · cases l with
    | nil => simp [restN]
    | cons b t => have := cutB_len t; simp only [restN, List.length_cons]; omega
theorem cell_new_l (W : World) (v : Value) (t : TypeId) : (W.alloc (.cells #[v] t)).cell? ⟨W.heap.size, 0, none⟩ = some v ∧ (W.alloc (.cells #[v] t)).frozen? ⟨W.heap.size, 0, none⟩ = false := by
  have h : (W.alloc (.cells #[v] t)).heap[W.heap.size]? = some (.cells #[v] t (0, 0)) := World.alloc_heap_new W _
  constructor
  · simp only [World.cell?, h]; rfl
  · simp only [World.frozen?, h]; rfl

end Go.Proofs.Ytlohgnidbkechaa

namespace Go.Proofs.Ytlohgnidbkechaa
open Go.RowKit
set_option maxRecDepth 100000

/-- The digits of a number ahead of what stands. -/
def dg (k : Nat) (acc : List UInt8) : List UInt8 := if h : k = 0 then acc else dg (k / 10) (UInt8.ofNat (48 + k % 10) :: acc)
termination_by k
decreasing_by omega

theorem mkB_app (a b : List UInt8) : mkB a ++ mkB b = mkB (a ++ b) := by
  have h : (mkB a ++ mkB b).data.toList = a ++ b := by simp [mkB]
  rw [← mkB_data (mkB a ++ mkB b), h]
theorem conv_one (w : World) (j : Nat) :
    (convert 68 9 (.slice (some ⟨w.heap.size, 0, none⟩) 1 1)).run Try.prog (w.alloc (.cells #[.int .u8 (48 + (j : Int) % 10)] 5)) = .ok (.string (mkB [UInt8.ofNat (48 + j % 10)])) (w.alloc (.cells #[.int .u8 (48 + (j : Int) % 10)] 5)) := by
  refine run_convert_bytes_back _ 68 9 5 ⟨w.heap.size, 0, none⟩ 1 [UInt8.ofNat (48 + j % 10)] Try.underlying68 Try.underlying5 Try.underlying9 (fun i hi => ?_)
  have hi0 : i = 0 := by simpa using hi
  subst hi0
  have h1 : (UInt8.ofNat (48 + j % 10)).toNat = 48 + j % 10 := by rw [UInt8.toNat_ofNat']; omega
  show (w.alloc (.cells #[.int .u8 (48 + (j : Int) % 10)] 5)).cell? ⟨w.heap.size, 0, none⟩ = some (.int .u8 ((UInt8.ofNat (48 + j % 10)).toNat : Int))
  rw [h1, (cell_new_l w _ _).1]
  congr 2

end Go.Proofs.Ytlohgnidbkechaa

namespace Go.Proofs.Ytlohgnidbkechaa
open Go.RowKit Go.Shelf
set_option maxRecDepth 100000
attribute [local go_sem] Oper.semAt_some

/-- The fault of the first name that has one. -/
def namesF : List (List UInt8) → Int
  | [] => 0
  | x :: t => if nameF (mkB x) = 0 then namesF t else nameF (mkB x)
theorem nameF_cases (s : ByteArray) : nameF s = 0 ∨ nameF s = 2 ∨ nameF s = 5 := by
  unfold nameF
  split
  · simp
  · split
    · split <;> simp
    · simp
theorem namesF_app (a b : List (List UInt8)) : namesF (a ++ b) = if namesF a = 0 then namesF b else namesF a := by
  induction a with
  | nil => simp [namesF]
  | cons x t ih =>
    simp only [List.cons_append, namesF]
    split
    · exact ih
    · rfl
theorem namesF_snoc {a : List (List UInt8)} (x : List UInt8) (h : namesF a = 0) : namesF (a ++ [x]) = nameF (mkB x) := by
  rw [namesF_app, if_pos h]
  simp only [namesF]
  split
  · rename_i h; exact h.symm
  · rfl
theorem namesF_prefix {a b : List (List UInt8)} (h : a <+: b) (hn : ¬ namesF a = 0) : namesF b = namesF a := by
  obtain ⟨t, rfl⟩ := h
  rw [namesF_app, if_neg hn]

end Go.Proofs.Ytlohgnidbkechaa

namespace Go.Proofs.Ytlohgnidbkechaa
open Go.RowKit
set_option maxRecDepth 100000

def preB (l : List UInt8) : Bool := l.head? == some 47
def sufB (l : List UInt8) : Bool := l.getLast? == some 47
def topB (l : List UInt8) : Bool := l == [47]
theorem pre_lib (l : List UInt8) : Lib.hasPrefix l [47] = preB l := by
  cases l with
  | nil => rfl
  | cons b t => simp [Lib.hasPrefix, preB, List.isPrefixOf]; exact BEq.comm
theorem suf_lib (l : List UInt8) : Lib.hasSuffix l [47] = sufB l := by
  unfold Lib.hasSuffix sufB
  cases h : l.reverse with
  | nil =>
    have : l = [] := by simpa using h
    subst this; rfl
  | cons b t =>
    have : l = t.reverse ++ [b] := by
      have := congrArg List.reverse h
      simpa using this
    subst this
    simp [List.isSuffixOf, List.isPrefixOf]; exact BEq.comm
def pathF (l : List UInt8) : Int :=
  if 30 < l.length then 2 else if preB l = true then (if sufB l = true ∧ topB l = false then 5 else if 6 < (namesL l).length then 2 else namesF (namesL l)) else 5

end Go.Proofs.Ytlohgnidbkechaa

namespace Go.Proofs.Ytlohgnidbkechaa
open Go.RowKit Go.Shelf
set_option maxRecDepth 100000
attribute [local go_sem] Oper.semAt_some

theorem Try.infoStr : (Try.prog.info? 9).map (fun i => (i.zero, i.size, i.bytes)) = some (some (.string ⟨#[]⟩), 1, 16) := by kernel_rfl
/-- The cells of a list of texts. -/
def strV (l : List UInt8) : Value := .string (mkB l)
/-- The names that SplitPath answers. -/
def splitL (l : List UInt8) : List (List UInt8) := if pathF l = 0 then namesL l else []

theorem ownsRow_later {B : Nat} {e : TypeId} {k : Nat} {v : Value} {n : Nat} {xs : List Value} {w w' : World} (h : w.ownsRow B e k v n xs) (hb : Below w.heap.size w w') : w'.ownsRow B e k v n xs :=
  h.kept (row := none) ⟨hb.os, hb.tape, hb.output, hb.size, fun j hj _ => hb.block j hj⟩ (by cases hv : v.ownBlock <;> simp)
theorem ownsRow_shape {w : World} {B : Nat} {e : TypeId} {k : Nat} {v : Value} {n : Nat} {xs : List Value} (h : w.ownsRow B e k v n xs) : ∃ a c, v = .slice a n c := by
  rcases h.2 with ⟨rfl, rfl⟩ | ⟨g, cap, cur, rfl, _⟩
  · exact ⟨_, _, rfl⟩
  · exact ⟨_, _, rfl⟩
theorem ownsRow_base {w : World} {B B' : Nat} {e : TypeId} {k : Nat} {v : Value} {n : Nat} {xs : List Value} (h : w.ownsRow B e k v n xs) (hb : B' ≤ B) : w.ownsRow B' e k v n xs := by
  obtain ⟨hl, h | ⟨g, cap, cur, h1, h2, r⟩⟩ := h
  · exact ⟨hl, Or.inl h⟩
  · exact ⟨hl, Or.inr ⟨g, cap, cur, h1, Nat.le_trans hb h2, r⟩⟩
theorem ownsRow_store {w : World} {B : Nat} {e : TypeId} {k : Nat} {v : Value} {n : Nat} {xs : List Value} (h : w.ownsRow B e k v n xs) {p : Addr} (hp : p.block < B) (u : Value) : (w.setCell p u).ownsRow B e k v n xs := by
  obtain ⟨hl, h | ⟨g, cap, cur, h1, h2, h3, r⟩⟩ := h
  · exact ⟨hl, Or.inl h⟩
  · exact ⟨hl, Or.inr ⟨g, cap, cur, h1, h2, (Below.heap_setCell _ _ _ _ (by omega)).trans h3, r⟩⟩
theorem keeps_later {w w' : World} (hb : Below w.heap.size w w') : KeepsOthers w w' := ⟨hb.size, fun j _ hj _ => (hb.block j (Array.getElem?_eq_some_iff.1 hj).1).trans hj⟩
theorem OwnRow.newS (w : World) (x y : Value) (t : TypeId) : OwnRow (w.alloc (.cells #[x, y] t)) w.heap.size 2 (fun i => if i = 0 then x else y) := by
  refine ⟨_, t, World.alloc_heap_new w _, by simp, fun i hi => ?_⟩
  have : i = 0 ∨ i = 1 := by omega
  rcases this with rfl | rfl <;> simp

/-- What a builtin append is known to come to, inside a region of a round that draws its order. -/
theorem stepIn_append_run {F : Fence} {n : Nat} {P : Program} {w : World} {ops : Array Oper} {o : Oper} {a : Act} {K : Act → World → Prop} {Q : Exit → Act → World → Prop} {E : Prop} (hgd : o.guard = none) (s x : Operand) (t : TypeId)
    (hop : o.op = .call { callee := .builtin .append, args := #[s, x], argTypes := #[t, t] }) (v y : Value) (hs : a.eval s = v) (hx : a.eval x = y) (v' : Value) (w' : World)
    (hr : (Builtin.append_ #[t, t] o.type #[v, y]).run P w = .ok v' w') (h : K (a.put o.dst v') w') : if Region.wanted o (yielded ops a.tmps) = true then Oper.wpIn F n P o a w K Q else E := by
  have hw : Region.wanted o (yielded ops a.tmps) = true := by simp [Region.wanted, hgd]
  rw [if_pos hw]
  unfold Oper.wpIn
  refine ⟨?_, ?_⟩
  · simp [Oper.about, hop, resolve, Target.leads, Sem.run_pure]
  · rw [Oper.semAt_plain F _ _ (by rw [hop]; intro c hc'; cases hc')]
    simp [execOp, hop, resolve, invoke, builtin, hs, hx, hr, Result.andThen]
    exact h

end Go.Proofs.Ytlohgnidbkechaa

namespace Go.Proofs.Ytlohgnidbkechaa
open Go.RowKit
set_option maxRecDepth 100000

theorem cut_at47 {l : List UInt8} {n : Nat} (h : ∀ k, k < n → l[k]?.getD 0 ≠ 47) (hn : n ≤ l.length) (he : n = l.length ∨ l[n]?.getD 0 = 47) : takeTo l = l.take n ∧ dropTo l = l.drop n := by
  induction l generalizing n with
  | nil => simp at hn; subst hn; exact ⟨rfl, rfl⟩
  | cons b t ih =>
    unfold takeTo dropTo
    cases n with
    | zero =>
      have hb : b = 47 := by rcases he with h | h <;> simp at h; exact h
      simp [hb]
    | succ n =>
      have hb : ¬ b = 47 := by have := h 0 (by omega); simpa using this
      have := ih (n := n) (fun k hk => by have := h (k + 1) (by omega); simpa using this) (by simpa using hn) (by simpa using he)
      unfold takeTo dropTo at this
      rw [List.takeWhile_cons, List.dropWhile_cons, if_pos (by simpa using hb), if_pos (by simpa using hb), this.1, this.2]
      exact ⟨rfl, rfl⟩
theorem run_mid (l : List UInt8) (f k : Nat) (hf : f ≤ k) (hk : k ≤ l.length) (W : World) : (Instr.slice 9 (.string (mkB l)) (some (.int .i64 (f : Int))) (some (.int .i64 (k : Int))) none).run Try.prog W = .ok (.string (mkB ((l.drop f).take (k - f)))) W := by
  have hs := mkB_size l
  have he : (mkB l).extract f k = mkB ((l.drop f).take (k - f)) := by
    have h : ((mkB l).extract f k).data.toList = (l.drop f).take (k - f) := by
      simp only [mkB, ByteArray.data_extract, Array.toList_extract, List.extract_eq_take_drop]
    rw [← mkB_data ((mkB l).extract f k), h]
  simp [Instr.slice, Instr.sliceBounds, Instr.sliceBound, asIntOf, run_underlying Try.underlying9, hs, hk, hf]
  exact he
theorem mkB_get (t : List UInt8) (j : Nat) (h : j < (mkB t).size) : (mkB t)[j] = t[j]?.getD 0 := by
  have h' : j < t.length := by rw [← mkB_size]; exact h
  rw [List.getElem?_eq_getElem h', Option.getD_some]
  show (mkB t).data[j] = _
  simp [mkB]
/-- How far the cutting is: 'done' pieces, the next one from f on. -/
def CutSt (t : List UInt8) (j f : Nat) (done : List (List UInt8)) : Prop :=
  (j ≤ t.length ∧ f ≤ j ∧ cutB t = done ++ cutB (t.drop f) ∧ (∀ k, f ≤ k → k < j → t[k]?.getD 0 ≠ 47) ∧ done.length ≤ j) ∨ (j = t.length + 1 ∧ done = cutB t)
theorem cut_here {t : List UInt8} {j f : Nat} {done : List (List UInt8)} (hf : f ≤ j) (hj : j ≤ t.length) (h1 : cutB t = done ++ cutB (t.drop f)) (h2 : ∀ k, f ≤ k → k < j → t[k]?.getD 0 ≠ 47) (he : j = t.length ∨ t[j]?.getD 0 = 47) :
    cutB t = (done ++ [(t.drop f).take (j - f)]) ++ restN (t.drop j) := by
  have := cut_at47 (l := t.drop f) (n := j - f) (fun k hk => by rw [List.getElem?_drop]; exact h2 (f + k) (by omega) (by omega)) (by simp; omega) (by
    rcases he with e | e
    · exact Or.inl (by simp; omega)
    · exact Or.inr (by rw [List.getElem?_drop, show f + (j - f) = j by omega]; exact e))
  rw [h1, cut_step (t.drop f), this.1, this.2, List.drop_drop, show f + (j - f) = j by omega, List.append_assoc]
  rfl

end Go.Proofs.Ytlohgnidbkechaa

namespace Go.Proofs.Ytlohgnidbkechaa
open Go.RowKit
set_option maxRecDepth 100000

/-- How a list of texts reads. -/
def AtT (w : World) (a : Option Addr) (n : Nat) (xs : List (List UInt8)) : Prop := ∀ k, k < n → ∃ b off, a = some ⟨b, off, none⟩ ∧ w.cell? ⟨b, off + k, none⟩ = some (.string (mkB (xs[k]?.getD [])))
theorem AtT.later {w w' : World} {a : Option Addr} {n : Nat} {xs : List (List UInt8)} (h : AtT w a n xs) (hb : Below w.heap.size w w') : AtT w' a n xs := fun k hk => by
  obtain ⟨b, off, e, c⟩ := h k hk
  exact ⟨b, off, e, cell_later hb c⟩
theorem ownsRow_at {w : World} {B : Nat} {e : TypeId} {a : Option Addr} {n c : Nat} {xs : List (List UInt8)} (h : w.ownsRow B e 1 (.slice a n c) xs.length (xs.map strV)) : n = xs.length ∧ AtT w a n xs := by
  obtain ⟨hl, ⟨h1, h2⟩ | ⟨g, cap, cur, h1, h2, h3, h4, h5, h6, h7⟩⟩ := h
  · simp only [Value.slice.injEq] at h1
    exact ⟨by rw [h1.2.1, h2], fun k hk => by rw [h1.2.1] at hk; omega⟩
  · simp only [Value.slice.injEq] at h1
    refine ⟨h1.2.1, fun k hk => ⟨g, 0, h1.1, ?_⟩⟩
    rw [h1.2.1] at hk
    have h8 : (xs.map strV)[k]? = some (.string (mkB (xs[k]?.getD []))) := by rw [List.getElem?_map, List.getElem?_eq_getElem hk]; rfl
    rw [← h7, List.getElem?_take, if_pos (by omega), Array.getElem?_toList] at h8
    rw [Nat.zero_add]
    simp only [World.cell?, h3]
    exact h8
def namesC (xs : List (List UInt8)) : Int := if 6 < xs.length then 2 else namesF xs
theorem namesF_at {xs : List (List UInt8)} {j : Nat} (h : ∀ i, i < j → nameF (mkB (xs[i]?.getD [])) = 0) (hj : j < xs.length) (hn : ¬ nameF (mkB (xs[j]?.getD [])) = 0) : namesF xs = nameF (mkB (xs[j]?.getD [])) := by
  induction xs generalizing j with
  | nil => simp at hj
  | cons x t ih =>
    cases j with
    | zero => simp at hn ⊢; simp [namesF, hn]
    | succ j =>
      have h0 : nameF (mkB x) = 0 := by simpa using h 0 (by omega)
      simp only [namesF, if_pos h0]
      have := ih (j := j) (fun i hi => by simpa using h (i + 1) (by omega)) (by simpa using hj) (by simpa using hn)
      simpa using this
theorem namesF_zero {xs : List (List UInt8)} (h : ∀ i, i < xs.length → nameF (mkB (xs[i]?.getD [])) = 0) : namesF xs = 0 := by
  induction xs with
  | nil => rfl
  | cons x t ih =>
    have h0 : nameF (mkB x) = 0 := by simpa using h 0 (by simp)
    simp only [namesF, if_pos h0]
    exact ih fun i hi => by simpa using h (i + 1) (by simpa using hi)

end Go.Proofs.Ytlohgnidbkechaa

namespace Go.Proofs.Ytlohgnidbkechaa
open Go.RowKit
set_option maxRecDepth 100000

def mkT (k : Nat) : Value := .string (mkB (109 :: dg k []))

end Go.Proofs.Ytlohgnidbkechaa

namespace Go.Proofs.Ytlohgnidbkechaa
open Go.RowKit
set_option maxRecDepth 100000

abbrev EN := ByteArray × Int
def en0 : EN := (⟨#[]⟩, 0)
/-- The cells of a row of entries. -/
def enCell (es : List EN) (j : Nat) : Value := if j % 2 = 0 then .string (es[j / 2]?.getD en0).1 else .int .i64 (es[j / 2]?.getD en0).2
theorem enCell_0 (es : List EN) (k : Nat) : enCell es (k * 2) = .string (es[k]?.getD en0).1 := by
  unfold enCell; rw [if_pos (by omega), show k * 2 / 2 = k by omega]
theorem enCell_1 (es : List EN) (k : Nat) : enCell es (k * 2 + 1) = .int .i64 (es[k]?.getD en0).2 := by
  unfold enCell; rw [if_neg (by omega), show (k * 2 + 1) / 2 = k by omega]

/-- Where the entries of a list lie. -/
def AtN (w : World) (a : Option Addr) (n : Nat) (es : List EN) : Prop :=
  ∀ k, k < n → ∃ b off, a = some ⟨b, off, none⟩ ∧ w.cell? ⟨b, off + k * 2, none⟩ = some (.string (es[k]?.getD en0).1) ∧ w.cell? ⟨b, off + k * 2 + 1, none⟩ = some (.int .i64 (es[k]?.getD en0).2)
theorem AtN.later {w w' : World} {a : Option Addr} {n : Nat} {es : List EN} (h : AtN w a n es) (hb : Below w.heap.size w w') : AtN w' a n es := fun k hk => by
  obtain ⟨b, off, e, c0, c1⟩ := h k hk
  exact ⟨b, off, e, cell_later hb c0, cell_later hb c1⟩
/-- The slice v reads as the entries es. -/
def Ents (w : World) (v : Value) (es : List EN) : Prop := ∃ a cap, v = .slice a es.length cap ∧ (es.length ≤ maxLen ∧ es.length ≤ cap ∧ ∀ k : Nat, (es[k]?.getD en0).1.size ≤ maxLen) ∧ AtN w a es.length es
theorem Ents.later {w w' : World} {v : Value} {es : List EN} (h : Ents w v es) (hb : Below w.heap.size w w') : Ents w' v es := by
  obtain ⟨a, cap, h1, h2, h3⟩ := h
  exact ⟨a, cap, h1, h2, h3.later hb⟩
theorem Ents.nil (w : World) (a : Option Addr) (cap : Nat) : Ents w (.slice a 0 cap) [] := ⟨a, cap, rfl, ⟨by simp, by simp, fun k => by simp [en0, ByteArray.size]⟩, fun k hk => by simp at hk⟩
theorem Ents.open' {w : World} {v : Value} {es : List EN} (h : Ents w v es) : ∃ a cap, v = .slice a es.length cap ∧ es.length ≤ maxLen ∧ (∀ k : Nat, (es[k]?.getD en0).1.size ≤ maxLen) ∧ AtN w a es.length es := by
  obtain ⟨a, cap, h1, h2, h3⟩ := h
  exact ⟨a, cap, h1, h2.1, h2.2.2, h3⟩

/-- The slice v holds the entries es, in one block of F. -/
def EntsO (w : World) (v : Value) (es : List EN) (F : Nat → Prop) : Prop :=
  (es = [] ∧ ∃ a cap, v = .slice a 0 cap) ∨
  (∃ b cap, F b ∧ v = .slice (some ⟨b, 0, none⟩) es.length cap ∧ (es.length ≤ maxLen ∧ es.length ≤ cap ∧ ∀ k : Nat, (es[k]?.getD en0).1.size ≤ maxLen) ∧ OwnRow w b (es.length * 2) (enCell es))
theorem OwnRow.atN {w : World} {b n : Nat} {es : List EN} (h : OwnRow w b (n * 2) (enCell es)) : AtN w (some ⟨b, 0, none⟩) n es := fun k hk =>
  ⟨b, 0, rfl, by rw [Nat.zero_add, h.cell (by omega), enCell_0], by rw [Nat.zero_add, h.cell (by omega), enCell_1]⟩
theorem EntsO.reads {w : World} {v : Value} {es : List EN} {F : Nat → Prop} (h : EntsO w v es F) : Ents w v es := by
  rcases h with ⟨rfl, a, cap, rfl⟩ | ⟨b, cap, _, h1, h2, h3⟩
  · exact Ents.nil w a cap
  · exact ⟨_, cap, h1, h2, h3.atN⟩
theorem EntsO.keep {w w' : World} {v : Value} {es : List EN} {F : Nat → Prop} (h : EntsO w v es F) (e : ∀ b, F b → b < w.heap.size → w'.heap[b]? = w.heap[b]?) : EntsO w' v es F := by
  rcases h with h | ⟨b, cap, hF, h1, h2, h3⟩
  · exact Or.inl h
  · exact Or.inr ⟨b, cap, hF, h1, h2, h3.block (e b hF h3.lt)⟩
theorem EntsO.mono {w : World} {v : Value} {es : List EN} {F G : Nat → Prop} (h : EntsO w v es F) (e : ∀ b, F b → G b) : EntsO w v es G := by
  rcases h with h | ⟨b, cap, hF, h1⟩
  · exact Or.inl h
  · exact Or.inr ⟨b, cap, e b hF, h1⟩
theorem EntsO.bound {w : World} {v : Value} {es : List EN} {F : Nat → Prop} (h : EntsO w v es F) : EntsO w v es (fun b => F b ∧ b < w.heap.size) := by
  rcases h with h | ⟨b, cap, hF, h1, h2, h3⟩
  · exact Or.inl h
  · exact Or.inr ⟨b, cap, ⟨hF, h3.lt⟩, h1, h2, h3⟩
theorem EntsO.later {w w' : World} {v : Value} {es : List EN} {F : Nat → Prop} (h : EntsO w v es F) (hb : Below w.heap.size w w') : EntsO w' v es F := h.keep fun b _ hlt => hb.block b hlt

/-- The marks of n entries, from k on. -/
def marksN (k : Nat) (n : Nat) : List EN := (List.range n).map fun i : Nat => (mkB (109 :: dg (k + 2 * i) []), ((k + 2 * i + 1 : Nat) : Int))
theorem marksN_length (k n : Nat) : (marksN k n).length = n := by simp [marksN]
theorem marksN_get (k : Nat) {n i : Nat} (h : i < n) : (marksN k n)[i]?.getD en0 = (mkB (109 :: dg (k + 2 * i) []), ((k + 2 * i + 1 : Nat) : Int)) := by simp [marksN, h]
def markCell (k c : Nat) : Value := if c % 2 = 0 then mkT (k + c) else .int .i64 ((k + c : Nat) : Int)
theorem enCell_marks (k : Nat) {n c : Nat} (h : c < n * 2) : enCell (marksN k n) c = markCell k c := by
  have h3 : c / 2 < n := by omega
  unfold enCell markCell
  rw [marksN_get k h3]
  by_cases e : c % 2 = 0
  · rw [if_pos e, if_pos e]; unfold mkT; rw [show k + 2 * (c / 2) = k + c by omega]
  · rw [if_neg e, if_neg e]; show Value.int .i64 ((k + 2 * (c / 2) + 1 : Nat) : Int) = _; rw [show k + 2 * (c / 2) + 1 = k + c by omega]
theorem dg_len (k : Nat) : ∀ acc, (dg k acc).length ≤ k + acc.length := by
  induction k using Nat.strongRecOn with
  | ind k ih =>
    intro acc
    unfold dg
    split
    · omega
    · have := ih (k / 10) (by omega) (UInt8.ofNat (48 + k % 10) :: acc)
      simp only [List.length_cons] at this
      omega
theorem marksN_size (k n : Nat) (h : k + 2 * n ≤ 4294967296) (i : Nat) : ((marksN k n)[i]?.getD en0).1.size ≤ maxLen := by
  unfold maxLen
  by_cases e : i < n
  · rw [marksN_get k e]
    show (mkB (109 :: dg (k + 2 * i) [])).size ≤ _
    rw [mkB_size]
    have := dg_len (k + 2 * i) []
    simp only [List.length_cons, List.length_nil] at this ⊢
    omega
  · rw [List.getElem?_eq_none (by rw [marksN_length]; omega)]
    simp [en0, ByteArray.size]

/-- The cells of a row of entries of which the first j stand. -/
def partN (es : List EN) (j c : Nat) : Value := if c < j * 2 then enCell es c else pairCell (.string ⟨#[]⟩) (.int .i64 0) c
theorem partN_next (es : List EN) (j c : Nat) : (if c = j * 2 + 1 then .int .i64 (es[j]?.getD en0).2 else (if c = j * 2 then .string (es[j]?.getD en0).1 else partN es j c)) = partN es (j + 1) c := by
  unfold partN
  by_cases e1 : c = j * 2 + 1
  · subst e1; rw [if_pos rfl, if_pos (by omega), enCell_1]
  · rw [if_neg e1]
    by_cases e0 : c = j * 2
    · subst e0; rw [if_pos rfl, if_pos (by omega), enCell_0]
    · rw [if_neg e0]
      by_cases h : c < j * 2
      · rw [if_pos h, if_pos (by omega)]
      · rw [if_neg h, if_neg (by omega)]
/-- How great a list of entries is. -/
def nlens (es : List EN) : List Nat := es.map fun e => e.1.size
theorem nlens_length (es : List EN) : (nlens es).length = es.length := by simp [nlens]
theorem nlens_get (es : List EN) (i : Nat) : (nlens es)[i]?.getD 0 = (es[i]?.getD en0).1.size := by
  unfold nlens; rw [List.getElem?_map]; cases es[i]? <;> rfl
def sizeN (es : List EN) : Nat := es.length + (nlens es).sum

/-- A slice is no longer than its room. -/
def capOK (v : Value) : Prop := ∃ a n c, v = .slice a n c ∧ n ≤ c
/-- Inodes: kind, links, size, blocks, entries. -/
abbrev ID := Int × Int × Int × List Int × List EN
def InoR (w : World) (v0 v1 v2 vB vE : Value) (d : ID) : Prop := (v0 = .int .i64 d.1 ∧ v1 = .int .i64 d.2.1 ∧ v2 = .int .i64 d.2.2.1 ∧ capOK vB) ∧ Ints w vB d.2.2.2.1 ∧ Ents w vE d.2.2.2.2
theorem InoR.later {w w' : World} {v0 v1 v2 vB vE : Value} {d : ID} (h : InoR w v0 v1 v2 vB vE d) (hb : Below w.heap.size w w') : InoR w' v0 v1 v2 vB vE d := ⟨h.1, h.2.1.later hb, h.2.2.later hb⟩
def InoU (w : World) (v0 v1 v2 vB vE : Value) (d : ID) (F : Nat → Prop) : Prop := (v0 = .int .i64 d.1 ∧ v1 = .int .i64 d.2.1 ∧ v2 = .int .i64 d.2.2.1 ∧ capOK vB) ∧ ∃ F1 G1 : Nat → Prop, IntsO w vB d.2.2.2.1 F1 ∧ EntsO w vE d.2.2.2.2 G1 ∧ (∀ b, F1 b → ¬ G1 b) ∧ ∀ b, F1 b ∨ G1 b → F b
theorem InoU.reads {w : World} {v0 v1 v2 vB vE : Value} {d : ID} {F : Nat → Prop} (h : InoU w v0 v1 v2 vB vE d F) : InoR w v0 v1 v2 vB vE d := by
  obtain ⟨h0, _, _, h1, h2, _⟩ := h
  exact ⟨h0, h1.reads, h2.reads⟩
theorem InoU.keep {w w' : World} {v0 v1 v2 vB vE : Value} {d : ID} {F : Nat → Prop} (h : InoU w v0 v1 v2 vB vE d F) (e : ∀ b, F b → b < w.heap.size → w'.heap[b]? = w.heap[b]?) : InoU w' v0 v1 v2 vB vE d F := by
  obtain ⟨h0, F1, G1, h1, h2, hd, hf⟩ := h
  exact ⟨h0, F1, G1, h1.keep fun b hb => e b (hf b (Or.inl hb)), h2.keep fun b hb => e b (hf b (Or.inr hb)), hd, hf⟩
theorem InoU.later {w w' : World} {v0 v1 v2 vB vE : Value} {d : ID} {F : Nat → Prop} (h : InoU w v0 v1 v2 vB vE d F) (hb : Below w.heap.size w w') : InoU w' v0 v1 v2 vB vE d F := h.keep fun b _ hlt => hb.block b hlt
theorem InoU.mono {w : World} {v0 v1 v2 vB vE : Value} {d : ID} {F G : Nat → Prop} (h : InoU w v0 v1 v2 vB vE d F) (e : ∀ b, F b → G b) : InoU w v0 v1 v2 vB vE d G := by
  obtain ⟨h0, F1, G1, h1, h2, hd, hf⟩ := h
  exact ⟨h0, F1, G1, h1, h2, hd, fun b hb => e b (hf b hb)⟩
theorem InoU.chg {w w' : World} {v0 v1 v2 vB vE : Value} {d : ID} {F G : Nat → Prop} (h : InoU w v0 v1 v2 vB vE d F) (hc : Chg G w w') (hd : ∀ b, F b → ¬ G b) : InoU w' v0 v1 v2 vB vE d F := h.keep fun b hb hlt => hc.block b hlt (hd b hb)
def sizeIno (d : ID) : Nat := d.2.2.2.1.length + sizeN d.2.2.2.2
def spanIno (d : ID) : Nat := d.2.2.2.1.length + 2 * d.2.2.2.2.length
theorem spanIno_le (d : ID) : spanIno d ≤ 2 * sizeIno d := by unfold spanIno sizeIno sizeN; omega
end Go.Proofs.Ytlohgnidbkechaa

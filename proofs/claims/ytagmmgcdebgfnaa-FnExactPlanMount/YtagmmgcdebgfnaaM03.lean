/- Rows that grow by append, of elements of any kind, each with memory of its own. Rows told by the list of their values. The plain mathematics of chapter 1: the codes of words, puts and disks. No program, no world. The walks of the codes of words and disks, the program's and the specification's. The walks of DiskFault, the specification's and the program's. -/
import Derived.Test.YtagmmgcdebgfnaaM01
import Derived.Test.YtagmmgcdebgfnaaM02
import Derived.Test.YtagmmgcdebgfnaaRows
import Derived.Test.YtagmmgcdebgfnaaM00
namespace Go.Proofs.Ytagmmgcdebgfnaa
open Go.RowKit
set_option maxRecDepth 100000

/-- What an element's cells u own (the blocks F) and tell (x) stays as long as these blocks do. -/
def StP {α : Type} (P : World → List Value → α → (Nat → Prop) → Prop) : Prop :=
  ∀ (w w' : World) (u : List Value) (x : α) (F : Nat → Prop), P w u x F → (∀ b, F b → b < w.heap.size → w'.heap[b]? = w.heap[b]?) → P w' u x F
/-- A row of n elements that the call owns; element i is told by its cells u i, which own the blocks G i. -/
structure GRow {α : Type} (P : World → List Value → α → (Nat → Prop) → Prop) (w : World) (base : Nat) (e : TypeId) (size : Nat) (v : Value) (n : Nat) (x : Nat → α) (u : Nat → List Value) (G : Nat → Nat → Prop) : Prop where
  own : w.ownsRow base e size v n ((List.range n).flatMap u)
  len : ∀ i, i < n → (u i).length = size
  lo : ∀ i c, i < n → G i c → base ≤ c ∧ c < w.heap.size
  ne : ∀ i c, i < n → G i c → v.ownBlock ≠ some c
  inj : ∀ i j c, i < n → j < n → i ≠ j → G i c → ¬ G j c
  at' : ∀ i, i < n → P w (u i) (x i) (G i)
section
variable {α : Type} {P : World → List Value → α → (Nat → Prop) → Prop}
theorem GRow.nil (w : World) (base : Nat) (e : TypeId) (size : Nat) (x : Nat → α) : GRow P w base e size (.slice none 0 0) 0 x (fun _ => []) (fun _ _ => False) :=
  ⟨World.ownsRow_nil _ _ _ _, fun i hi => by omega, fun i _ hi => by omega, fun i _ hi => by omega, fun i _ _ hi => by omega, fun i hi => by omega⟩
theorem GRow.lit0 (w : World) (base : Nat) (hb : base ≤ w.heap.size) (e : TypeId) (size : Nat) (x : Nat → α) : GRow P (w.alloc (.cells #[] e)) base e size (.slice (some ⟨w.heap.size, 0, none⟩) 0 0) 0 x (fun _ => []) (fun _ _ => False) :=
  ⟨by simpa using World.ownsRow_lit (e := e) (size := size) w #[] 0 hb (by unfold maxLen; omega) (by simp), fun i hi => by omega, fun i _ hi => by omega, fun i _ hi => by omega, fun i _ _ hi => by omega, fun i hi => by omega⟩
theorem GRow.keep (hP : StP P) {w w' : World} {base : Nat} {e : TypeId} {size : Nat} {v : Value} {n : Nat} {x : Nat → α} {u : Nat → List Value} {G : Nat → Nat → Prop} (h : GRow P w base e size v n x u G) (hs : w.heap.size ≤ w'.heap.size) (k : ∀ c, base ≤ c → c < w.heap.size → w'.heap[c]? = w.heap[c]?) : GRow P w' base e size v n x u G := by
  refine ⟨?_, h.len, fun i c hi hc => ⟨(h.lo i c hi hc).1, Nat.lt_of_lt_of_le (h.lo i c hi hc).2 hs⟩, h.ne, h.inj, fun i hi => hP _ _ _ _ _ (h.at' i hi) fun c hc hlt => k c (h.lo i c hi hc).1 hlt⟩
  obtain ⟨h1, h2⟩ := h.own
  refine ⟨h1, ?_⟩
  rcases h2 with h2 | ⟨g, cap, cur, hv, hg, hh, r⟩
  · exact Or.inl h2
  · exact Or.inr ⟨g, cap, cur, hv, hg, by rw [k g hg (Array.getElem?_eq_some_iff.1 hh).1]; exact hh, r⟩
theorem GRow.later (hP : StP P) {w w' : World} {base : Nat} {e : TypeId} {size : Nat} {v : Value} {n : Nat} {x : Nat → α} {u : Nat → List Value} {G : Nat → Nat → Prop} (h : GRow P w base e size v n x u G) (hb : Below w.heap.size w w') : GRow P w' base e size v n x u G := h.keep hP hb.size fun c _ hlt => hb.block c hlt
theorem GRow.shape {w : World} {base : Nat} {e : TypeId} {size : Nat} {v : Value} {n : Nat} {x : Nat → α} {u : Nat → List Value} {G : Nat → Nat → Prop} (h : GRow P w base e size v n x u G) : ∃ a c, v = .slice a n c := by
  rcases h.own.2 with ⟨rfl, rfl⟩ | ⟨g, c, cur, rfl, _⟩
  · exact ⟨_, _, rfl⟩
  · exact ⟨_, _, rfl⟩
/-- What 'append' of one element comes to. -/
theorem GRow.append (hP : StP P) (w w1 : World) (t ty e : TypeId) (i : TypeInfo) (z : Value) (size bytes : Nat) (ht : Try.prog.underlying t = some (.slice e)) (hi : Try.prog.info? e = some i) (hz : i.zero = some z) (hsize : i.size = size) (hby : i.bytes = bytes) (hzs : z.cells.size = size) (hsz : 0 < size) (hbb : bytes ≤ 1000)
    (base n : Nat) (v : Value) (x : Nat → α) (u : Nat → List Value) (G : Nat → Nat → Prop) (h : GRow P w base e size v n x u G) (hb : base ≤ w.heap.size) (hn : n ≤ 1048600) (hb1 : Below w.heap.size w w1)
    (cs : List Value) (hlen : cs.length = size) (hone : ∀ y ∈ cs, y.oneCell' = true) (F : Nat → Prop) (hF : ∀ c, F c → w.heap.size ≤ c ∧ c < w1.heap.size) (hf : P w1 cs (x n) F) :
    ∃ g cap X u' G', (Builtin.append_ #[t, t] ty #[v, .slice (some ⟨w1.heap.size, 0, none⟩) 1 1]).run Try.prog (w1.alloc (.cells cs.toArray e)) = .ok (.slice (some ⟨g, 0, none⟩) (n + 1) cap) X ∧
      Below base w X ∧ w1.heap.size < X.heap.size ∧ GRow P X base e size (.slice (some ⟨g, 0, none⟩) (n + 1) cap) (n + 1) x u' G' ∧ (∀ b, b < w1.heap.size → v.ownBlock ≠ some b → X.heap[b]? = w1.heap[b]? ∧ g ≠ b) := by
  have hsz1 := hb1.size
  have hbW : Below w.heap.size w (w1.alloc (.cells cs.toArray e)) := hb1.trans ((later1 _ _).mono hb1.size)
  have hW := h.later hP hbW
  obtain ⟨g, cap, X, hr, ho, hg, hat, hgX⟩ := run_append_lies (P := Try.prog) (w1.alloc (.cells cs.toArray e)) t ty base e i z size bytes ht hi hz hsize hby hzs hsz v n _ hW.own ⟨w1.heap.size, 0, none⟩ 1 1 cs (by rw [hlen, Nat.one_mul])
    (fun j y hy => by
      rw [add_plain', Nat.zero_add, new_cell]
      simpa using hy) hone (by decide) (by unfold maxLen; omega) (by have : (n + 1) * bytes ≤ 1048601 * 1000 := Nat.mul_le_mul (by omega) hbb; omega) (by simp; omega) (w1.heap.size + 1) (by simp)
  have hrowb : ∀ g, v.ownBlock = some g → base ≤ g ∧ g < w.heap.size := fun g hg => h.own.lt g hg
  have hXb : ∀ b, b < w1.heap.size → v.ownBlock ≠ some b → X.heap[b]? = w1.heap[b]? := fun b hb' hne => (hg.block b (by simp; omega) (fun e => hne e.symm)).trans ((later1 _ _).block b hb')
  have hne : ∀ b, b ≤ w1.heap.size → v.ownBlock ≠ some b → g ≠ b := by
    intro b hb' hb2 e
    subst e
    rcases hat with h | h
    · exact hb2 h
    · omega
  have old : ∀ b, b < w.heap.size → v.ownBlock ≠ some b → X.heap[b]? = w.heap[b]? := fun b hb' hne => (hXb b (by omega) hne).trans (hb1.block b hb')
  have hXs : w1.heap.size < X.heap.size := by have := hg.size; simp at this; omega
  have hfr : ∀ c, F c → v.ownBlock ≠ some c := fun c hc e => by have := (hrowb c e).2; have := (hF c hc).1; omega
  refine ⟨g, cap, X, fun j => if j = n then cs else u j, fun j c => if j = n then F c else G j c, hr, (hbW.mono hb).trans (below_grown hg (by simp; omega) (fun g hg' => (hrowb g hg').1)), hXs, ⟨?_, fun j hj => ?_, fun j c hj hc => ?_, fun j c hj hc => ?_, fun j j' c hj hj' e hc hc' => ?_, fun j hj => ?_⟩, fun b hb hn => ⟨hXb b hb hn, hne b (Nat.le_of_lt hb) hn⟩⟩
  · rw [List.range_succ, List.flatMap_append]
    have e1 : (List.range n).flatMap (fun i => if i = n then cs else u i) = (List.range n).flatMap u := by
      have e0 : (List.range n).map (fun i => if i = n then cs else u i) = (List.range n).map u := List.map_congr_left fun i hi => by rw [if_neg (by have := List.mem_range.1 hi; omega)]
      rw [List.flatMap_def, List.flatMap_def, e0]
    have e2 : [n].flatMap (fun i => if i = n then cs else u i) = cs := by simp only [List.flatMap_cons, List.flatMap_nil, List.append_nil, if_true]
    rw [e1, e2]
    exact ho
  · by_cases e : j = n
    · simp only [e, if_true]; exact hlen
    · simp only [e, if_false]; exact h.len j (by omega)
  · by_cases e : j = n
    · simp only [e, if_true] at hc
      have := hF c hc
      omega
    · simp only [e, if_false] at hc
      have := h.lo j c (by omega) hc
      omega
  · by_cases e : j = n
    · simp only [e, if_true] at hc
      exact fun e' => hne c (Nat.le_of_lt (hF c hc).2) (hfr c hc) (by simpa [Value.ownBlock] using e')
    · simp only [e, if_false] at hc
      have hl := h.lo j c (by omega) hc
      exact fun e' => hne c (by omega) (h.ne j c (by omega) hc) (by simpa [Value.ownBlock] using e')
  · by_cases e1 : j = n
    · by_cases e2 : j' = n
      · omega
      · simp only [e1, e2, if_true, if_false] at hc hc'
        have := (h.lo j' c (by omega) hc').2
        have := (hF c hc).1
        omega
    · by_cases e2 : j' = n
      · simp only [e1, e2, if_true, if_false] at hc hc'
        have := (h.lo j c (by omega) hc).2
        have := (hF c hc').1
        omega
      · simp only [e1, e2, if_false] at hc hc'
        exact h.inj j j' c (by omega) (by omega) e hc hc'
  · by_cases e : j = n
    · subst e
      simp only [if_true]
      exact hP _ _ _ _ _ hf fun c hc hlt => hXb c hlt (hfr c hc)
    · simp only [e, if_false]
      exact hP _ _ _ _ _ (h.at' j (by omega)) fun c hc hlt => old c hlt (h.ne j c (by omega) hc)
/-- The cells of such a row. -/
def rowCell (u : Nat → List Value) (size c : Nat) : Value := (u (c / size))[c % size]?.getD undef
theorem GRow.cells {w : World} {base : Nat} {e : TypeId} {size : Nat} {v : Value} {n : Nat} {x : Nat → α} {u : Nat → List Value} {G : Nat → Nat → Prop} (h : GRow P w base e size v n x u G) (hsz : 0 < size) (hn : 0 < n) :
    ∃ g cap, v = .slice (some ⟨g, 0, none⟩) n cap ∧ base ≤ g ∧ g < w.heap.size ∧ n ≤ maxLen ∧ n ≤ cap ∧ OwnRow w g (n * size) (rowCell u size) := by
  obtain ⟨hl, h2 | ⟨g, cap, cur, rfl, hb, hh, hnc, hcm, hcs, htake⟩⟩ := h.own
  · omega
  · have hle : n * size ≤ cap * size := Nat.mul_le_mul_right _ hnc
    refine ⟨g, cap, rfl, hb, (Array.getElem?_eq_some_iff.1 hh).1, by omega, hnc, cur, e, hh, by omega, fun c hc => ?_⟩
    have hd : c / size < n := by rw [Nat.div_lt_iff_lt_mul hsz]; exact hc
    have hm : c % size < size := Nat.mod_lt _ hsz
    have hu : ∀ i, (if i < n then u i else List.replicate size undef).length = size := fun i => by
      by_cases hi : i < n
      · rw [if_pos hi]; exact h.len i hi
      · rw [if_neg hi]; simp
    have e0 : (List.range n).flatMap u = (List.range n).flatMap (fun i => if i < n then u i else List.replicate size undef) := by
      have : (List.range n).map u = (List.range n).map (fun i => if i < n then u i else List.replicate size undef) := List.map_congr_left fun i hi => by rw [if_pos (List.mem_range.1 hi)]
      rw [List.flatMap_def, List.flatMap_def, this]
    have hg := flat_get (C := fun i _ => if i < n then u i else List.replicate size undef) hsz (fun _ => undef) hu n (c / size) (c % size) hd hm
    rw [Nat.div_add_mod', ← e0, if_pos hd] at hg
    have h1 : ((List.range n).flatMap u)[c]? = cur[c]? := by rw [← htake, List.getElem?_take, if_pos hc, Array.getElem?_toList]
    rw [h1] at hg
    have hlt : c < cur.size := by omega
    show cur[c]? = some (rowCell u size c)
    unfold rowCell
    rw [← hg, Array.getElem?_eq_getElem hlt]; rfl
end

/-- A put, in two cells. -/
def PutP (w : World) (u : List Value) (p : Int × List Int) (F : Nat → Prop) : Prop := ∃ a c, u = [.int .i64 p.1, .slice a p.2.length c] ∧ IntsO w (.slice a p.2.length c) p.2 F
theorem PutP.steady : StP PutP := fun w w' u x F h k => by
  obtain ⟨a, c, h1, h2⟩ := h
  exact ⟨a, c, h1, h2.keep k⟩
theorem PutsO.reads {w : World} {v : Value} {ps : List (Int × List Int)} {F : Nat → Prop} (h : PutsO w v ps F) : Puts w v ps := h.puts
theorem PutsO.later {w w' : World} {v : Value} {ps : List (Int × List Int)} {F : Nat → Prop} (h : PutsO w v ps F) (hb : Below w.heap.size w w') : PutsO w' v ps F := h.keep fun b _ hlt => hb.block b hlt
theorem PutsO.chg {w w' : World} {v : Value} {ps : List (Int × List Int)} {F G : Nat → Prop} (h : PutsO w v ps F) (hc : Chg G w w') (hd : ∀ b, F b → ¬ G b) : PutsO w' v ps F := h.keep fun b hb hlt => hc.block b hlt (hd b hb)
theorem GRow.puts {w : World} {base : Nat} {e : TypeId} {v : Value} {n : Nat} {u : Nat → List Value} {G : Nat → Nat → Prop} {ps : List (Int × List Int)} (h : GRow PutP w base e 2 v n (fun i => ps[i]?.getD (0, [])) u G) (hn : ps.length = n) (F : Nat → Prop) (hF : ∀ c, base ≤ c → c < w.heap.size → F c) : PutsO w v ps F := by
  subst hn
  by_cases h0 : ps.length = 0
  · obtain ⟨a, c, e⟩ := h.shape
    exact Or.inl ⟨List.eq_nil_of_length_eq_zero h0, a, c, by rw [e, h0]⟩
  · obtain ⟨g, cap, rfl, hb, hg, hl, hc, hr⟩ := h.cells (by decide) (by omega)
    refine Or.inr ⟨g, cap, fun i => (u i)[1]?.getD undef, fun i c => i < ps.length ∧ G i c, hF g hb hg, fun i c hc => ⟨hF c (h.lo i c hc.1 hc.2).1 (h.lo i c hc.1 hc.2).2, fun e => h.ne i c hc.1 hc.2 (by simp [Value.ownBlock, e])⟩, fun i j c e h1 h2 => h.inj i j c h1.1 h2.1 e h1.2 h2.2, rfl, hl, hr.congr fun c hc => ?_, fun i hi => ?_⟩
    · obtain ⟨a, c', e1, _⟩ := h.at' (c / 2) (by omega)
      unfold rowCell putCell
      rw [e1]
      have : c % 2 = 0 ∨ c % 2 = 1 := by omega
      rcases this with e | e <;> simp [e, e1]
    · obtain ⟨a, c', e1, e2⟩ := h.at' i hi
      show IntsO w ((u i)[1]?.getD undef) _ _
      rw [e1]
      exact e2.mono fun c hc => ⟨hi, hc⟩

/-- Answers that are puts, in the one form. -/
def AnsPR (w : World) (r : Int × List (Int × List Int)) (e : Ending) (w' : World) : Prop := ∃ a n c, e = .returned (.agg #[.int .i64 r.1, .slice a n c]) ∧ Below w.heap.size w w' ∧ PutsO w' (.slice a n c) r.2 (fresh w w')
theorem AnsPR.putB {w W : World} {rb : Nat} {r : Int} {zs : List (Int × List Int)} {a : Option Addr} {n c : Nat} (hB : Below w.heap.size w W) (hrb : w.heap.size ≤ rb) (hY : PutsO W (.slice a n c) zs (fun b => rb < b ∧ b < W.heap.size)) (x y : Value) : AnsPR w (r, zs) (.returned (.agg #[.int .i64 r, .slice a n c])) ((W.setCell ⟨rb, 0, none⟩ x).setCell ⟨rb, 1, none⟩ y) := by
  refine ⟨a, n, c, rfl, (hB.setCell hrb _).setCell hrb _, ?_⟩
  refine ((hY.store (fun b hb => by have := hb.1; show b ≠ rb; omega) x).store (fun b hb => by have := hb.1; show b ≠ rb; omega) y).mono fun b hb => ⟨by omega, ?_⟩
  simpa [World.setCell] using hb.2
theorem AnsPR.badB {w W : World} {rb : Nat} (r : Int) (hB : Below w.heap.size w W) (hrb : w.heap.size ≤ rb) (x y : Value) : AnsPR w (r, []) (.returned (.agg #[.int .i64 r, .slice none 0 0])) ((W.setCell ⟨rb, 0, none⟩ x).setCell ⟨rb, 1, none⟩ y) := AnsPR.putB hB hrb (Or.inl ⟨rfl, _, _, rfl⟩) x y
end Go.Proofs.Ytagmmgcdebgfnaa

namespace Go.Proofs.Ytagmmgcdebgfnaa
open Go.RowKit
set_option maxRecDepth 100000

theorem rowVL (w : World) (vs : List Value) (t : TypeId) : OwnRow (w.alloc (.cells vs.toArray t)) w.heap.size vs.length (fun i => vs[i]?.getD (.int .i64 0)) := by
  refine ⟨_, t, Go.Deep.blk_alloc_new _ _, by simp, fun i hi => ?_⟩
  simp [hi]

def cel (vs : List Value) (i : Nat) : Value := vs[i]?.getD (.int .i64 0)
theorem newCel (w : World) (vs : List Value) (t : TypeId) : OwnRow (w.alloc (.cells vs.toArray t)) w.heap.size vs.length (cel vs) := rowVL w vs t
end Go.Proofs.Ytagmmgcdebgfnaa

namespace Go.Proofs.Ytagmmgcdebgfnaa

def okW (z : Int) : Bool := decide (0 ≤ z ∧ z ≤ 65535)
def wordsF (ws : List Int) : Int := if 64 < ws.length then 2 else if ws.all okW then 0 else 3
/-- The first code that is not 0. -/
def firstF : List Int → Int
  | [] => 0
  | c :: cs => if c = 0 then firstF cs else c
def placeB (n : Nat) (x : Int) : Bool := decide (0 ≤ x ∧ x < (n : Int))
def putF (n : Nat) (p : Int × List Int) : Int := if placeB n p.1 = true then wordsF p.2 else 3
def faultF (bs : List (List Int)) (ps : List (Int × List Int)) : Int :=
  if 60 < bs.length ∨ 200 < ps.length then 2 else if firstF (bs.map wordsF) = 0 then firstF (ps.map (putF bs.length)) else firstF (bs.map wordsF)

theorem all_ok {ws : List Int} (h : ∀ i : Nat, i < ws.length → okW (ws[i]?.getD 0) = true) : ws.all okW = true := by
  rw [List.all_eq_true]
  intro x hx
  obtain ⟨i, hi, rfl⟩ := List.getElem_of_mem hx
  have := h i hi
  rwa [List.getElem?_eq_getElem hi, Option.getD_some] at this
theorem not_ok {ws : List Int} {i : Nat} (hi : i < ws.length) (h : okW (ws[i]?.getD 0) = false) : ws.all okW = false := by
  rw [List.getElem?_eq_getElem hi, Option.getD_some] at h
  rw [Bool.eq_false_iff]
  intro ha
  rw [List.all_eq_true] at ha
  have := ha _ (List.getElem_mem hi)
  rw [h] at this; cases this
theorem wordsF_many {ws : List Int} (h : 64 < ws.length) : wordsF ws = 2 := by simp [wordsF, h]
theorem wordsF_ok {ws : List Int} (h : ¬ 64 < ws.length) (ha : ∀ i : Nat, i < ws.length → okW (ws[i]?.getD 0) = true) : wordsF ws = 0 := by simp [wordsF, h, all_ok ha]
theorem wordsF_bad {ws : List Int} {i : Nat} (h : ¬ 64 < ws.length) (hi : i < ws.length) (ha : okW (ws[i]?.getD 0) = false) : wordsF ws = 3 := by simp [wordsF, h, not_ok hi ha]
theorem firstF_zero (l : List Int) : (∀ i : Nat, i < l.length → l[i]?.getD 0 = 0) → firstF l = 0 := by
  induction l with
  | nil => intro _; rfl
  | cons c cs ih =>
    intro h
    have h0 : c = 0 := by simpa using h 0 (by simp)
    have : firstF cs = 0 := ih fun i hi => by have := h (i + 1) (by simpa using hi); simpa using this
    simp [firstF, h0, this]
theorem firstF_at (l : List Int) : ∀ j : Nat, j < l.length → (∀ i : Nat, i < j → l[i]?.getD 0 = 0) → ¬ l[j]?.getD 0 = 0 → firstF l = l[j]?.getD 0 := by
  induction l with
  | nil => intro j hj; simp at hj
  | cons c cs ih =>
    intro j hj hz hn
    cases j with
    | zero => simp at hn; simp [firstF, hn]
    | succ j =>
      have h0 : c = 0 := by simpa using hz 0 (by omega)
      have := ih j (by simpa using hj) (fun i hi => by have := hz (i + 1) (by omega); simpa using this) (by simpa using hn)
      simp [firstF, h0, this]
theorem mapW_get (bs : List (List Int)) {i : Nat} (h : i < bs.length) : (bs.map wordsF)[i]?.getD 0 = wordsF (bs[i]?.getD []) := by
  rw [List.getElem?_map, List.getElem?_eq_getElem h]; rfl
theorem mapP_get (n : Nat) (ps : List (Int × List Int)) {i : Nat} (h : i < ps.length) : (ps.map (putF n))[i]?.getD 0 = putF n (ps[i]?.getD (0, [])) := by
  rw [List.getElem?_map, List.getElem?_eq_getElem h]; rfl
theorem faultF_many {bs : List (List Int)} {ps : List (Int × List Int)} (h : 60 < bs.length ∨ 200 < ps.length) : faultF bs ps = 2 := by simp [faultF, h]
theorem faultF_block {bs : List (List Int)} {ps : List (Int × List Int)} {j : Nat} (h : ¬ (60 < bs.length ∨ 200 < ps.length)) (hj : j < bs.length) (hz : ∀ i : Nat, i < j → wordsF (bs[i]?.getD []) = 0) (hn : ¬ wordsF (bs[j]?.getD []) = 0) : faultF bs ps = wordsF (bs[j]?.getD []) := by
  have e := firstF_at (bs.map wordsF) j (by simpa using hj) (fun i hi => by rw [mapW_get bs (by omega)]; exact hz i hi) (by rw [mapW_get bs hj]; exact hn)
  rw [mapW_get bs hj] at e
  simp [faultF, h, e, hn]
theorem faultF_put {bs : List (List Int)} {ps : List (Int × List Int)} {j : Nat} (h : ¬ (60 < bs.length ∨ 200 < ps.length)) (hb : ∀ i : Nat, i < bs.length → wordsF (bs[i]?.getD []) = 0) (hj : j < ps.length) (hz : ∀ i : Nat, i < j → putF bs.length (ps[i]?.getD (0, [])) = 0) (hn : ¬ putF bs.length (ps[j]?.getD (0, [])) = 0) : faultF bs ps = putF bs.length (ps[j]?.getD (0, [])) := by
  have e0 := firstF_zero (bs.map wordsF) (fun i hi => by rw [List.length_map] at hi; rw [mapW_get bs hi]; exact hb i hi)
  have e := firstF_at (ps.map (putF bs.length)) j (by simpa using hj) (fun i hi => by rw [mapP_get _ ps (by omega)]; exact hz i hi) (by rw [mapP_get _ ps hj]; exact hn)
  rw [mapP_get _ ps hj] at e
  simp [faultF, h, e0, e]
theorem faultF_ok {bs : List (List Int)} {ps : List (Int × List Int)} (h : ¬ (60 < bs.length ∨ 200 < ps.length)) (hb : ∀ i : Nat, i < bs.length → wordsF (bs[i]?.getD []) = 0) (hz : ∀ i : Nat, i < ps.length → putF bs.length (ps[i]?.getD (0, [])) = 0) : faultF bs ps = 0 := by
  have e0 := firstF_zero (bs.map wordsF) (fun i hi => by rw [List.length_map] at hi; rw [mapW_get bs hi]; exact hb i hi)
  have e := firstF_zero (ps.map (putF bs.length)) (fun i hi => by rw [List.length_map] at hi; rw [mapP_get _ ps hi]; exact hz i hi)
  simp [faultF, h, e0, e]

/-- The words that stand at place x while only the first k puts are looked at, the last one first. -/
def atK (bs : List (List Int)) (ps : List (Int × List Int)) (x : Int) : Nat → List Int
  | 0 => bs[x.toNat]?.getD []
  | k + 1 => if (ps[k]?.getD (0, [])).1 = x then (ps[k]?.getD (0, [])).2 else atK bs ps x k
def atF (bs : List (List Int)) (ps : List (Int × List Int)) (x : Int) : List Int := atK bs ps x ps.length
theorem atK_hit {bs : List (List Int)} {ps : List (Int × List Int)} {x : Int} {k : Nat} (h : (ps[k]?.getD (0, [])).1 = x) : atK bs ps x (k + 1) = (ps[k]?.getD (0, [])).2 := by simp [atK, h]
theorem atK_miss {bs : List (List Int)} {ps : List (Int × List Int)} {x : Int} {k : Nat} (h : ¬ (ps[k]?.getD (0, [])).1 = x) : atK bs ps x (k + 1) = atK bs ps x k := by simp [atK, h]
/-- The codes of PutBlock and of BlockAt. -/
def placeF (bs : List (List Int)) (ps : List (Int × List Int)) (x : Int) : Int := if faultF bs ps = 0 then (if placeB bs.length x = true then 0 else 3) else faultF bs ps

end Go.Proofs.Ytagmmgcdebgfnaa

namespace Go.Proofs.Ytagmmgcdebgfnaa
open Go.RowKit
set_option maxRecDepth 100000

theorem l1In_any (w : World) (v low high : Int) :
    Calls Try.prog 46 #[.int .i64 v, .int .i64 low, .int .i64 high] w fun e w' => e = .returned (.bool (decide (low ≤ v ∧ v ≤ high))) ∧ w' = w := by
  by_cases h1 : low ≤ v
  · by_cases h2 : v ≤ high
    · have e1 : decide (low ≤ v ∧ v ≤ high) = true := by simp [h1, h2]
      rw [e1]
      go_enter Try.func46, Try.ntmps46
      go_wp2
      go_ret
      exact ⟨rfl, rfl⟩
    · have e1 : decide (low ≤ v ∧ v ≤ high) = false := by simp [h2]
      rw [e1]
      go_enter Try.func46, Try.ntmps46
      go_wp2
      go_ret
      exact ⟨rfl, rfl⟩
  · have e1 : decide (low ≤ v ∧ v ≤ high) = false := by simp [h1]
    have hd : decide (low ≤ v) = false := by simpa using h1
    rw [e1]
    go_enter Try.func46, Try.ntmps46
    go_wp2
    go_ret
    exact ⟨rfl, rfl⟩

set_option maxHeartbeats 400000 in
theorem l1Words_walk (w : World) (a : Option Addr) (n cap : Nat) (ws : List Int) (hn : ws.length = n) (hm : n ≤ maxLen) (hc : At1 w a n (fun k => .int .i64 (ws[k]?.getD 0))) :
    Calls Try.prog 47 #[.slice a n cap] w fun e w' => e = .returned (.int .i64 (wordsF ws)) ∧ w' = w := by
  have HN : Hid (ws.length = n) := hn
  have HC : Hid (At1 w a n (fun k => .int .i64 (ws[k]?.getD 0))) := hc
  clear hn hc
  unfold maxLen at hm
  by_cases h : 64 < n
  · have h' : (64 : Int) < (n : Int) := by omega
    rw [wordsF_many (by rw [HN.out]; exact h)]
    go_enter Try.func47, Try.ntmps47
    go_wp2
    go_ret
    exact ⟨rfl, rfl⟩
  · have h' : ¬ (64 : Int) < (n : Int) := by omega
    go_enter Try.func47, Try.ntmps47
    go_wp2
    go_loop [3] (fun i => ∃ j : Nat, j ≤ n ∧ i = .int .i64 j ∧ ∀ i : Nat, i < j → okW (ws[i]?.getD 0) = true) (fun i => n - (intOf i).toNat)
    case atStart => exact ⟨0, Nat.zero_le _, rfl, fun i hi => by omega⟩
    case round =>
      obtain ⟨j, hj, rfl, hall⟩ := hrel
      have HA : Hid (∀ i : Nat, i < j → okW (ws[i]?.getD 0) = true) := hall
      clear hall
      by_cases hlt : j < n
      · obtain ⟨b, off, e, c1⟩ := HC.out j hlt
        clear HC
        subst e
        replace c1 : w.cell? ⟨b, off + j, none⟩ = some (.int .i64 (ws[j]?.getD 0)) := c1
        generalize hz : ws[j]?.getD 0 = z at *
        have HZ : Hid (ws[j]?.getD 0 = z) := hz
        clear hz
        cases hok : okW z
        · have HOK : Hid (decide (0 ≤ z ∧ z ≤ 65535) = false) := hok
          clear hok
          go_wp2_with fail
          refine (l1In_any _ _ _ _).mono ?_
          rw [HOK.out]
          rintro e w' ⟨rfl, rfl⟩
          go_wp2
          go_ret
          exact ⟨ret_int (wordsF_bad (by rw [HN.out]; exact h) (by rw [HN.out]; exact hlt) (by rw [HZ.out]; exact HOK.out)).symm, rfl⟩
        · have HOK : Hid (decide (0 ≤ z ∧ z ≤ 65535) = true) := hok
          clear hok
          go_wp2_with fail
          refine (l1In_any _ _ _ _).mono ?_
          rw [HOK.out]
          rintro e w' ⟨rfl, rfl⟩
          go_wp2
          go_round
          case rel =>
            refine ⟨j + 1, by omega, by go_num, fun i hi => ?_⟩
            by_cases e : i = j
            · subst e; rw [HZ.out]; exact HOK.out
            · exact HA.out i (by omega)
          case measure => simp [intOf]; omega
      · go_wp2
        go_ret
        exact ⟨ret_int (wordsF_ok (by rw [HN.out]; exact h) (fun i hi => HA.out i (by rw [HN.out] at hi; omega))).symm, rfl⟩
theorem l1Words_any {w : World} {v : Value} {ws : List Int} (h : Ints w v ws) : Calls Try.prog 47 #[v] w fun e w' => e = .returned (.int .i64 (wordsF ws)) ∧ w' = w := by
  obtain ⟨a, cap, rfl, hm, hc⟩ := h.open'
  exact l1Words_walk w a _ cap ws rfl hm hc

set_option maxHeartbeats 400000 in
theorem words_walk (w : World) (a : Option Addr) (n cap : Nat) (ws : List Int) (hn : ws.length = n) (hm : n ≤ maxLen) (hc : At1 w a n (fun k => .int .i64 (ws[k]?.getD 0))) :
    Calls Try.prog 50 #[.slice a n cap] w fun e w' => e = .returned (.int .i64 (wordsF ws)) ∧ w' = w := by
  have HN : Hid (ws.length = n) := hn
  have HC : Hid (At1 w a n (fun k => .int .i64 (ws[k]?.getD 0))) := hc
  clear hn hc
  unfold maxLen at hm
  by_cases h : 64 < n
  · have h' : (64 : Int) < (n : Int) := by omega
    rw [wordsF_many (by rw [HN.out]; exact h)]
    go_enter Try.func50, Try.ntmps50
    go_wp2
    go_ret
    exact ⟨rfl, rfl⟩
  · have h' : ¬ (64 : Int) < (n : Int) := by omega
    go_enter Try.func50, Try.ntmps50
    go_wp2
    go_loop [10] (fun i => ∃ j : Nat, j ≤ n ∧ i = .int .i64 j ∧ ∀ i : Nat, i < j → okW (ws[i]?.getD 0) = true) (fun i => n - (intOf i).toNat)
    case atStart => exact ⟨0, Nat.zero_le _, rfl, fun i hi => by omega⟩
    case round =>
      obtain ⟨j, hj, rfl, hall⟩ := hrel
      have HA : Hid (∀ i : Nat, i < j → okW (ws[i]?.getD 0) = true) := hall
      clear hall
      by_cases hlt : j < n
      · obtain ⟨b, off, e, c1⟩ := HC.out j hlt
        clear HC
        subst e
        replace c1 : w.cell? ⟨b, off + j, none⟩ = some (.int .i64 (ws[j]?.getD 0)) := c1
        generalize hz : ws[j]?.getD 0 = z at *
        have HZ : Hid (ws[j]?.getD 0 = z) := hz
        clear hz
        by_cases h1 : z < 0
        · go_wp2
          go_ret
          exact ⟨ret_int (wordsF_bad (by rw [HN.out]; exact h) (by rw [HN.out]; exact hlt) (by rw [HZ.out]; simp [okW]; omega)).symm, rfl⟩
        · have hd : decide (z < 0) = false := by simpa using h1
          by_cases h2 : 65535 < z
          · go_wp2
            go_ret
            exact ⟨ret_int (wordsF_bad (by rw [HN.out]; exact h) (by rw [HN.out]; exact hlt) (by rw [HZ.out]; simp [okW]; omega)).symm, rfl⟩
          · have hd2 : decide (65535 < z) = false := by simpa using h2
            go_wp2
            go_round
            case rel =>
              refine ⟨j + 1, by omega, by go_num, fun i hi => ?_⟩
              by_cases e : i = j
              · subst e; rw [HZ.out]; simp [okW]; omega
              · exact HA.out i (by omega)
            case measure => simp [intOf]; omega
      · go_wp2
        go_ret
        exact ⟨ret_int (wordsF_ok (by rw [HN.out]; exact h) (fun i hi => HA.out i (by rw [HN.out] at hi; omega))).symm, rfl⟩
theorem words_any {w : World} {v : Value} {ws : List Int} (h : Ints w v ws) : Calls Try.prog 50 #[v] w fun e w' => e = .returned (.int .i64 (wordsF ws)) ∧ w' = w := by
  obtain ⟨a, cap, rfl, hm, hc⟩ := h.open'
  exact words_walk w a _ cap ws rfl hm hc

theorem l1In_is {w : World} {v low high : Int} {r : Bool} (h : decide (low ≤ v ∧ v ≤ high) = r) :
    Calls Try.prog 46 #[.int .i64 v, .int .i64 low, .int .i64 high] w fun e w' => e = .returned (.bool r) ∧ w' = w := by
  subst h; exact l1In_any w v low high

theorem place_l1 (n : Nat) (x : Int) : decide (0 ≤ x ∧ x ≤ (n : Int) - 1) = placeB n x := by
  unfold placeB
  by_cases h : 0 ≤ x ∧ x < (n : Int)
  · simp [h]; omega
  · simp [h]; omega

theorem l1Fault_many (w : World) (bd : Nat) (aB aC : Option Addr) (nB cB nC cC : Nat) (h0 : w.cell? ⟨bd, 0, none⟩ = some (.slice aB nB cB)) (h1 : w.cell? ⟨bd, 1, none⟩ = some (.slice aC nC cC)) (h : 60 < nB ∨ 200 < nC) :
    Calls Try.prog 58 #[.pointer (some ⟨bd, 0, none⟩)] w fun e w' => e = .returned (.int .i64 2) ∧ w' = w := by
  by_cases g : 60 < nB
  · have g' : (60 : Int) < (nB : Int) := by omega
    clear h
    go_enter Try.func58, Try.ntmps58
    go_wp2
    go_ret
    exact ⟨rfl, rfl⟩
  · have hd : decide ((60 : Int) < (nB : Int)) = false := by simp; omega
    have g' : (200 : Int) < (nC : Int) := by omega
    clear h
    go_enter Try.func58, Try.ntmps58
    go_wp2
    go_ret
    exact ⟨rfl, rfl⟩

set_option maxHeartbeats 1600000 in
theorem l1Fault_walk (w : World) (bd : Nat) (aB aC : Option Addr) (nB cB nC cC : Nat) (bs : List (List Int)) (ps : List (Int × List Int)) (hbl : bs.length = nB) (hpl : ps.length = nC) (h0 : w.cell? ⟨bd, 0, none⟩ = some (.slice aB nB cB)) (h1 : w.cell? ⟨bd, 1, none⟩ = some (.slice aC nC cC))
    (g1 : nB ≤ 60) (g2 : nC ≤ 200) (hB : AtS w aB nB bs) (hP : AtP w aC nC ps) :
    Calls Try.prog 58 #[.pointer (some ⟨bd, 0, none⟩)] w fun e w' => e = .returned (.int .i64 (faultF bs ps)) ∧ ∃ m, w' = w.drewN m := by
  have HBL : Hid (bs.length = nB) := hbl
  have HPL : Hid (ps.length = nC) := hpl
  have HB : Hid (AtS w aB nB bs) := hB
  have HP : Hid (AtP w aC nC ps) := hP
  have HM : Hid (¬ (60 < bs.length ∨ 200 < ps.length)) := by unfold Hid; omega
  clear hbl hpl hB hP
  have hd : decide ((60 : Int) < (nB : Int)) = false := by simp; omega
  have hd2 : decide ((200 : Int) < (nC : Int)) = false := by simp; omega
  go_enter Try.func58, Try.ntmps58
  go_wp2
  go_loop [3] (fun i => ∃ j : Nat, j ≤ nB ∧ i = .int .i64 j ∧ ∀ i : Nat, i < j → wordsF (bs[i]?.getD []) = 0) (fun i => nB - (intOf i).toNat)
  case atStart => exact ⟨0, Nat.zero_le _, rfl, fun i hi => by omega⟩
  case round =>
    obtain ⟨j, hj, rfl, hall⟩ := hrel
    have HA : Hid (∀ i : Nat, i < j → wordsF (bs[i]?.getD []) = 0) := hall
    clear hall
    by_cases hlt : j < nB
    · obtain ⟨b, off, ua, ucap, e, c1, i1⟩ := HB.out j hlt
      clear HB
      subst e
      have HI : Hid (Ints w (.slice ua (bs[j]?.getD []).length ucap) (bs[j]?.getD [])) := i1
      clear i1
      generalize hc : wordsF (bs[j]?.getD []) = c
      have HC : Hid (wordsF (bs[j]?.getD []) = c) := hc
      clear hc
      by_cases hz : c = 0
      · subst hz
        go_wp2_with fail
        refine (l1Words_any HI.out).mono ?_
        rw [HC.out]
        rintro e w' ⟨rfl, rfl⟩
        go_wp2
        go_round
        case rel =>
          refine ⟨j + 1, by omega, by go_num, fun i hi => ?_⟩
          by_cases e : i = j
          · subst e; exact HC.out
          · exact HA.out i (by omega)
        case measure => simp [intOf]; omega
      · have hne : (c != 0) = true := by simpa using hz
        go_wp2_with fail
        refine (l1Words_any HI.out).mono ?_
        rw [HC.out]
        rintro e w' ⟨rfl, rfl⟩
        go_wp2
        go_ret
        exact ⟨ret_int (by rw [faultF_block HM.out (by rw [HBL.out]; exact hlt) HA.out (by rw [HC.out]; exact hz), HC.out]), 0, rfl⟩
    · have HA' : Hid (∀ i : Nat, i < bs.length → wordsF (bs[i]?.getD []) = 0) := fun i hi => HA.out i (by rw [HBL.out] at hi; omega)
      clear HA HB
      go_wp2
      go_loopw [5] (fun i wr => ∃ j m : Nat, j ≤ nC ∧ i = .int .i64 j ∧ wr = w.drewN m ∧ ∀ i : Nat, i < j → putF bs.length (ps[i]?.getD (0, [])) = 0) (fun i _ => nC - (intOf i).toNat)
      case atStart => exact ⟨0, 0, Nat.zero_le _, rfl, rfl, fun i hi => by omega⟩
      case round =>
        obtain ⟨k, m, hk, rfl, rfl, hall⟩ := hrel
        have HA : Hid (∀ i : Nat, i < k → putF bs.length (ps[i]?.getD (0, [])) = 0) := hall
        clear hall
        by_cases hlt2 : k < nC
        · obtain ⟨b, off, ua, ucap, e, c1, c2, i1⟩ := HP.out k hlt2
          clear HP
          subst e
          have HI : Hid (Ints w (.slice ua (ps[k]?.getD (0, [])).2.length ucap) (ps[k]?.getD (0, [])).2) := i1
          clear i1
          have hPF : putF bs.length (ps[k]?.getD (0, [])) = if placeB nB (ps[k]?.getD (0, [])).1 = true then wordsF (ps[k]?.getD (0, [])).2 else 3 := by rw [HBL.out]; rfl
          have HPF : Hid (putF bs.length (ps[k]?.getD (0, [])) = if placeB nB (ps[k]?.getD (0, [])).1 = true then wordsF (ps[k]?.getD (0, [])).2 else 3) := hPF
          clear hPF
          cases hpl : placeB nB (ps[k]?.getD (0, [])).1
          · have HQ : Hid (decide (0 ≤ (ps[k]?.getD (0, [])).1 ∧ (ps[k]?.getD (0, [])).1 ≤ (nB : Int) - 1) = false) := by unfold Hid; rw [place_l1]; exact hpl
            have HF : Hid (putF bs.length (ps[k]?.getD (0, [])) = 3) := by unfold Hid; rw [HPF.out, hpl]; rfl
            clear hpl
            go_wp2_with fail
            go_quiet ((go_at_call 46; refine quiet_same2 (l1In_is (r := false) ?_); exact HQ.out))
            go_wp2
            go_ret
            exact ⟨ret_int (by rw [faultF_put HM.out HA'.out (by rw [HPL.out]; exact hlt2) HA.out (by rw [HF.out]; decide), HF.out]), m + nq, by rw [World.drewN_drewN]⟩
          · have HQ : Hid (decide (0 ≤ (ps[k]?.getD (0, [])).1 ∧ (ps[k]?.getD (0, [])).1 ≤ (nB : Int) - 1) = true) := by unfold Hid; rw [place_l1]; exact hpl
            have HF : Hid (putF bs.length (ps[k]?.getD (0, [])) = wordsF (ps[k]?.getD (0, [])).2) := by unfold Hid; rw [HPF.out, hpl]; rfl
            clear hpl
            generalize hc : wordsF (ps[k]?.getD (0, [])).2 = c at *
            have HC : Hid (wordsF (ps[k]?.getD (0, [])).2 = c) := hc
            clear hc
            go_wp2_with fail
            go_quiet ((go_at_call 46; refine quiet_same2 (l1In_is (r := true) ?_); exact HQ.out))
            by_cases hz : c = 0
            · subst hz
              go_wp2_with fail
              refine (l1Words_any (HI.out.drewN _)).mono ?_
              rw [HC.out]
              rintro e w' ⟨rfl, rfl⟩
              go_wp2
              go_roundw
              case rel =>
                refine ⟨k + 1, m + nq, by omega, by go_num, by first | rfl | rw [World.drewN_drewN], fun i hi => ?_⟩
                by_cases e : i = k
                · subst e; exact HF.out
                · exact HA.out i (by omega)
              case measure => simp [intOf]; omega
            · have hne : (c != 0) = true := by simpa using hz
              go_wp2_with fail
              refine (l1Words_any (HI.out.drewN _)).mono ?_
              rw [HC.out]
              rintro e w' ⟨rfl, rfl⟩
              go_wp2
              go_ret
              exact ⟨ret_int (by rw [faultF_put HM.out HA'.out (by rw [HPL.out]; exact hlt2) HA.out (by rw [HF.out]; exact hz), HF.out]), m + nq, by first | rfl | rw [World.drewN_drewN]⟩
        · go_wp2
          go_ret
          exact ⟨ret_int (by rw [faultF_ok HM.out HA'.out (fun i hi => HA.out i (by rw [HPL.out] at hi; omega))]), m, rfl⟩
end Go.Proofs.Ytagmmgcdebgfnaa

namespace Go.Proofs.Ytagmmgcdebgfnaa
open Go.RowKit
set_option maxRecDepth 100000

theorem l1Fault_any {w : World} {bd : Nat} {vB vC : Value} {bs : List (List Int)} {ps : List (Int × List Int)} (h0 : w.cell? ⟨bd, 0, none⟩ = some vB) (h1 : w.cell? ⟨bd, 1, none⟩ = some vC) (hB : IntsS w vB bs) (hP : Puts w vC ps) :
    Calls Try.prog 58 #[.pointer (some ⟨bd, 0, none⟩)] w fun e w' => e = .returned (.int .i64 (faultF bs ps)) ∧ ∃ m, w' = w.drewN m := by
  obtain ⟨aB, cB, rfl, _, aS⟩ := hB.open'
  obtain ⟨aC, cC, rfl, _, aP⟩ := hP.open'
  by_cases h : 60 < bs.length ∨ 200 < ps.length
  · exact (l1Fault_many w bd aB aC _ cB _ cC h0 h1 h).mono fun e w' ⟨he, hw⟩ => ⟨he.trans (ret_int (faultF_many h).symm), 0, hw⟩
  · exact l1Fault_walk w bd aB aC _ cB _ cC bs ps rfl rfl h0 h1 (by omega) (by omega) aS aP

theorem isPlace_any (w : World) (a : Option Addr) (n cap : Nat) (vC : Value) (x : Int) :
    Calls Try.prog 104 #[.agg #[.slice a n cap, vC], .int .i64 x] w fun e w' => e = .returned (.bool (placeB n x)) ∧ Below w.heap.size w w' := by
  by_cases h1 : 0 ≤ x
  · by_cases h2 : x < (n : Int)
    · have e1 : placeB n x = true := by simp [placeB, h1, h2]
      rw [e1]
      go_enter Try.func104, Try.ntmps104
      go_wp2
      go_ret
      exact ⟨rfl, later1 _ _⟩
    · have e1 : placeB n x = false := by simp [placeB, h2]
      rw [e1]
      go_enter Try.func104, Try.ntmps104
      go_wp2
      go_ret
      exact ⟨rfl, later1 _ _⟩
  · have e1 : placeB n x = false := by simp [placeB, h1]
    have hd : decide (0 ≤ x) = false := by simpa using h1
    rw [e1]
    go_enter Try.func104, Try.ntmps104
    go_wp2
    go_ret
    exact ⟨rfl, later1 _ _⟩

theorem putFault_any (w : World) (a : Option Addr) (n cap : Nat) (vC : Value) (x : Int) (ua : Option Addr) (un uc : Nat) (ws : List Int) (hw : Ints w (.slice ua un uc) ws) :
    Calls Try.prog 105 #[.agg #[.slice a n cap, vC], .agg #[.int .i64 x, .slice ua un uc]] w fun e w' => e = .returned (.int .i64 (putF n (x, ws))) ∧ Below w.heap.size w w' := by
  have HW : Hid (Ints w (.slice ua un uc) ws) := hw
  clear hw
  cases hp : placeB n x
  · have HP : Hid (placeB n x = false) := hp
    have e1 : putF n (x, ws) = 3 := by simp [putF, hp]
    rw [e1]
    clear hp e1
    go_enter Try.func105, Try.ntmps105
    go_wp2_with fail
    refine (isPlace_any _ _ _ _ _ _).mono ?_
    rw [HP.out]
    rintro e w1 ⟨rfl, hb⟩
    have HB : Hid (Below w.heap.size w w1) := (later2 _ _ _).trans (hb.mono (by simp; omega))
    clear hb
    go_wp2
    go_ret
    exact ⟨rfl, HB.out⟩
  · have HP : Hid (placeB n x = true) := hp
    have e1 : putF n (x, ws) = wordsF ws := by simp [putF, hp]
    rw [e1]
    clear hp e1
    go_enter Try.func105, Try.ntmps105
    go_wp2_with fail
    refine (isPlace_any _ _ _ _ _ _).mono ?_
    rw [HP.out]
    rintro e w1 ⟨rfl, hb⟩
    have c1 : w1.cell? ⟨w.heap.size + 1, 1, none⟩ = some (.slice ua un uc) := by
      rw [hb.cell (by simp)]
      simp
    have HB : Hid (Below w.heap.size w w1) := (later2 _ _ _).trans (hb.mono (by simp; omega))
    clear hb
    go_wp2_with fail
    refine (words_any (HW.out.later HB.out)).mono ?_
    rintro e w2 ⟨rfl, rfl⟩
    go_wp2
    go_ret
    exact ⟨rfl, HB.out⟩

theorem fault_many (w : World) (aB aC : Option Addr) (nB cB nC cC : Nat) (h : 60 < nB ∨ 200 < nC) :
    Calls Try.prog 90 #[.agg #[.slice aB nB cB, .slice aC nC cC]] w fun e w' => e = .returned (.int .i64 2) ∧ Below w.heap.size w w' := by
  by_cases g : 60 < nB
  · have g' : (60 : Int) < (nB : Int) := by omega
    clear h
    go_enter Try.func90, Try.ntmps90
    go_wp2
    go_ret
    exact ⟨rfl, later1 _ _⟩
  · have hd : decide ((60 : Int) < (nB : Int)) = false := by simp; omega
    have g' : (200 : Int) < (nC : Int) := by omega
    clear h
    go_enter Try.func90, Try.ntmps90
    go_wp2
    go_ret
    exact ⟨rfl, later1 _ _⟩

set_option maxHeartbeats 1600000 in
theorem fault_walk (w : World) (aB aC : Option Addr) (nB cB nC cC : Nat) (bs : List (List Int)) (ps : List (Int × List Int)) (hbl : bs.length = nB) (hpl : ps.length = nC)
    (g1 : nB ≤ 60) (g2 : nC ≤ 200) (hB : AtS w aB nB bs) (hP : AtP w aC nC ps) :
    Calls Try.prog 90 #[.agg #[.slice aB nB cB, .slice aC nC cC]] w fun e w' => e = .returned (.int .i64 (faultF bs ps)) ∧ Below w.heap.size w w' := by
  have HBL : Hid (bs.length = nB) := hbl
  have HPL : Hid (ps.length = nC) := hpl
  have HB : Hid (AtS w aB nB bs) := hB
  have HP : Hid (AtP w aC nC ps) := hP
  have HM : Hid (¬ (60 < bs.length ∨ 200 < ps.length)) := by unfold Hid; omega
  clear hbl hpl hB hP
  have hd : decide ((60 : Int) < (nB : Int)) = false := by simp; omega
  have hd2 : decide ((200 : Int) < (nC : Int)) = false := by simp; omega
  go_enter Try.func90, Try.ntmps90
  go_wp2
  go_loop [22] (fun i => ∃ j : Nat, j ≤ nB ∧ i = .int .i64 j ∧ ∀ i : Nat, i < j → wordsF (bs[i]?.getD []) = 0) (fun i => nB - (intOf i).toNat)
  case atStart => exact ⟨0, Nat.zero_le _, rfl, fun i hi => by omega⟩
  case round =>
    obtain ⟨j, hj, rfl, hall⟩ := hrel
    have HA : Hid (∀ i : Nat, i < j → wordsF (bs[i]?.getD []) = 0) := hall
    clear hall
    by_cases hlt : j < nB
    · obtain ⟨b, off, ua, ucap, e, c1, i1⟩ := HB.out j hlt
      clear HB
      have HI : Hid (Ints w (.slice ua (bs[j]?.getD []).length ucap) (bs[j]?.getD [])) := i1
      replace c1 := cell_later (later1 w (Obj.cells #[.slice aB nB cB, .slice aC nC cC] 49)) c1
      subst e
      clear i1
      generalize hc : wordsF (bs[j]?.getD []) = c
      have HC : Hid (wordsF (bs[j]?.getD []) = c) := hc
      clear hc
      by_cases hz : c = 0
      · subst hz
        go_wp2_with fail
        refine (words_any (HI.out.later (later1 _ _))).mono ?_
        rw [HC.out]
        rintro e w' ⟨rfl, rfl⟩
        go_wp2
        go_round
        case rel =>
          refine ⟨j + 1, by omega, by go_num, fun i hi => ?_⟩
          by_cases e : i = j
          · subst e; exact HC.out
          · exact HA.out i (by omega)
        case measure => simp [intOf]; omega
      · have hne : (c != 0) = true := by simpa using hz
        go_wp2_with fail
        refine (words_any (HI.out.later (later1 _ _))).mono ?_
        rw [HC.out]
        rintro e w' ⟨rfl, rfl⟩
        go_wp2
        go_ret
        exact ⟨ret_int (by rw [faultF_block HM.out (by rw [HBL.out]; exact hlt) HA.out (by rw [HC.out]; exact hz), HC.out]), later1 _ _⟩
    · have HA' : Hid (∀ i : Nat, i < bs.length → wordsF (bs[i]?.getD []) = 0) := fun i hi => HA.out i (by rw [HBL.out] at hi; omega)
      clear HA HB
      go_wp2
      go_loopw [35] (fun i wr => ∃ j : Nat, j ≤ nC ∧ i = .int .i64 j ∧ Below w.heap.size w wr ∧ wr.cell? ⟨w.heap.size, 0, none⟩ = some (.slice aB nB cB) ∧ wr.cell? ⟨w.heap.size, 1, none⟩ = some (.slice aC nC cC) ∧ ∀ i : Nat, i < j → putF bs.length (ps[i]?.getD (0, [])) = 0) (fun i _ => nC - (intOf i).toNat)
      case atStart => exact ⟨0, Nat.zero_le _, rfl, later1 _ _, by rw [new_cell]; rfl, by rw [new_cell]; rfl, fun i hi => by omega⟩
      case round =>
        obtain ⟨k, hk, rfl, hbl, p0, p1, hall⟩ := hrel
        have HA : Hid (∀ i : Nat, i < k → putF bs.length (ps[i]?.getD (0, [])) = 0) := hall
        clear hall
        by_cases hlt2 : k < nC
        · obtain ⟨b, off, ua, ucap, e, c1, c2, i1⟩ := HP.out k hlt2
          clear HP
          replace c1 := cell_later hbl c1
          replace c2 := cell_later hbl c2
          have HI : Hid (Ints wr (.slice ua (ps[k]?.getD (0, [])).2.length ucap) (ps[k]?.getD (0, [])).2) := i1.later hbl
          have HBEL : Hid (Below w.heap.size w wr) := hbl
          have hsz : w.heap.size < wr.heap.size := World.block_lt_of_cell? _ _ p0
          clear i1 hbl
          subst e
          generalize hc : putF nB (ps[k]?.getD (0, [])) = c
          have HC : Hid (putF nB ((ps[k]?.getD (0, [])).1, (ps[k]?.getD (0, [])).2) = c) := hc
          clear hc
          by_cases hz : c = 0
          · subst hz
            go_wp2_with fail
            refine (putFault_any _ _ _ _ _ _ _ _ _ (ps[k]?.getD (0, [])).2 (HI.out.later (later1 _ _))).mono ?_
            rw [HC.out]
            rintro e w1 ⟨rfl, hb1⟩
            have HB1 : Hid (Below wr.heap.size wr w1) := (later1 _ _).trans (hb1.mono (by simp))
            clear hb1
            go_wp2
            go_roundw
            case rel =>
              refine ⟨k + 1, by omega, by go_num, HBEL.out.trans (HB1.out.mono HBEL.out.size), cell_later HB1.out p0, cell_later HB1.out p1, fun i hi => ?_⟩
              by_cases e : i = k
              · subst e; rw [HBL.out]; exact HC.out
              · exact HA.out i (by omega)
            case measure => simp [intOf]; omega
          · have hne : (c != 0) = true := by simpa using hz
            go_wp2_with fail
            refine (putFault_any _ _ _ _ _ _ _ _ _ (ps[k]?.getD (0, [])).2 (HI.out.later (later1 _ _))).mono ?_
            rw [HC.out]
            rintro e w1 ⟨rfl, hb1⟩
            have HB1 : Hid (Below wr.heap.size wr w1) := (later1 _ _).trans (hb1.mono (by simp))
            clear hb1
            go_wp2
            go_ret
            have hF : putF bs.length (ps[k]?.getD (0, [])) = c := by rw [HBL.out]; exact HC.out
            exact ⟨ret_int (by rw [faultF_put HM.out HA'.out (by rw [HPL.out]; exact hlt2) HA.out (by rw [hF]; exact hz), hF]), HBEL.out.trans (HB1.out.mono HBEL.out.size)⟩
        · go_wp2
          go_ret
          exact ⟨ret_int (by rw [faultF_ok HM.out HA'.out (fun i hi => HA.out i (by rw [HPL.out] at hi; omega))]), hbl⟩

theorem fault_any (w : World) (vB vC : Value) (bs : List (List Int)) (ps : List (Int × List Int)) (hB : IntsS w vB bs) (hP : Puts w vC ps) :
    Calls Try.prog 90 #[.agg #[vB, vC]] w fun e w' => e = .returned (.int .i64 (faultF bs ps)) ∧ Below w.heap.size w w' := by
  obtain ⟨aB, cB, rfl, _, aS⟩ := hB.open'
  obtain ⟨aC, cC, rfl, _, aP⟩ := hP.open'
  by_cases h : 60 < bs.length ∨ 200 < ps.length
  · exact (fault_many w aB aC _ cB _ cC h).mono fun e w' ⟨he, hw⟩ => ⟨he.trans (ret_int (faultF_many h).symm), hw⟩
  · exact fault_walk w aB aC _ cB _ cC bs ps rfl rfl (by omega) (by omega) aS aP
end Go.Proofs.Ytagmmgcdebgfnaa

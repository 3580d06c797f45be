
/- Memory that a call made itself, block by block: which blocks a list lies in, what a store turns, what marks are. No program is named here. -/
import Derived.Test.YtagmmgcdebgfnaaBase
import Derived.Deep.OwnRows
namespace Go.Proofs.Ytagmmgcdebgfnaa
open Go.RowKit
set_option maxRecDepth 100000

/-- Block b is not frozen, and its first n cells hold f. -/
def OwnRow (w : World) (b n : Nat) (f : Nat → Value) : Prop :=
  ∃ c t, w.heap[b]? = some (.cells c t (0, 0)) ∧ n ≤ c.size ∧ ∀ i, i < n → c[i]? = some (f i)

theorem OwnRow.cell {w : World} {b n : Nat} {f : Nat → Value} (h : OwnRow w b n f) {i : Nat} (hi : i < n) : w.cell? ⟨b, i, none⟩ = some (f i) := by
  obtain ⟨c, t, hb, _, hc⟩ := h
  simp [World.cell?, hb, hc i hi]
theorem OwnRow.frozen {w : World} {b n : Nat} {f : Nat → Value} (h : OwnRow w b n f) (i : Nat) : w.frozen? ⟨b, i, none⟩ = false := by
  obtain ⟨c, t, hb, _, _⟩ := h
  simp [World.frozen?, hb]
theorem OwnRow.lt {w : World} {b n : Nat} {f : Nat → Value} (h : OwnRow w b n f) : b < w.heap.size := by
  obtain ⟨c, t, hb, _, _⟩ := h
  exact (Array.getElem?_eq_some_iff.1 hb).1
theorem OwnRow.congr {w : World} {b n : Nat} {f g : Nat → Value} (h : OwnRow w b n f) (e : ∀ i, i < n → f i = g i) : OwnRow w b n g := by
  obtain ⟨c, t, hb, hn, hc⟩ := h
  exact ⟨c, t, hb, hn, fun i hi => by rw [hc i hi, e i hi]⟩
theorem OwnRow.block {w w' : World} {b n : Nat} {f : Nat → Value} (h : OwnRow w b n f) (e : w'.heap[b]? = w.heap[b]?) : OwnRow w' b n f := by
  obtain ⟨c, t, hb, hn, hc⟩ := h
  exact ⟨c, t, e.trans hb, hn, hc⟩
theorem OwnRow.set {w : World} {b n : Nat} {f : Nat → Value} (h : OwnRow w b n f) (i : Nat) (v : Value) : OwnRow (w.setCell ⟨b, i, none⟩ v) b n (fun j => if j = i then v else f j) := by
  obtain ⟨c, t, hb, hn, hc⟩ := h
  refine ⟨c.setIfInBounds i v, t, ?_, by simpa using hn, fun j hj => ?_⟩
  · simp [World.setCell, Array.getElem?_modify, hb]
  · rw [Array.getElem?_setIfInBounds]
    by_cases e : i = j
    · subst e
      simp [show i < c.size by omega]
    · rw [if_neg e]
      show c[j]? = some (if j = i then v else f j)
      rw [if_neg (fun h : j = i => e h.symm)]
      exact hc j hj

theorem OwnRow.store {w : World} {b n : Nat} {f : Nat → Value} (h : OwnRow w b n f) {p : Addr} (hp : b ≠ p.block) (u : Value) : OwnRow (w.setCell p u) b n f := h.block (Below.heap_setCell _ _ _ _ hp)

/-- From w to w' only blocks of F, and new ones, have turned. -/
structure Chg (F : Nat → Prop) (w w' : World) : Prop where
  os : w'.os = w.os
  tape : w'.tape = w.tape
  output : w'.output = w.output
  size : w.heap.size ≤ w'.heap.size
  block : ∀ b, b < w.heap.size → ¬ F b → w'.heap[b]? = w.heap[b]?
theorem Chg.refl (F : Nat → Prop) (w : World) : Chg F w w := ⟨rfl, rfl, rfl, Nat.le_refl _, fun _ _ _ => rfl⟩
theorem Chg.trans {F : Nat → Prop} {a b c : World} (h : Chg F a b) (k : Chg F b c) : Chg F a c :=
  ⟨k.os.trans h.os, k.tape.trans h.tape, k.output.trans h.output, Nat.le_trans h.size k.size, fun i hi hf => (k.block i (Nat.lt_of_lt_of_le hi h.size) hf).trans (h.block i hi hf)⟩
theorem Chg.mono {F G : Nat → Prop} {w w' : World} (h : Chg F w w') (hFG : ∀ b, F b → G b) : Chg G w w' := ⟨h.os, h.tape, h.output, h.size, fun b hb hg => h.block b hb (fun hf => hg (hFG b hf))⟩
theorem Chg.of_below {F : Nat → Prop} {w w' : World} (h : Below w.heap.size w w') : Chg F w w' := ⟨h.os, h.tape, h.output, h.size, fun b hb _ => h.block b hb⟩
theorem Chg.below {F : Nat → Prop} {w w' : World} {B : Nat} (h : Chg F w w') (hB : B ≤ w.heap.size) (hF : ∀ b, F b → B ≤ b) : Below B w w' :=
  ⟨h.os, h.tape, h.output, h.size, fun b hb => h.block b (by omega) (fun hf => by have := hF b hf; omega)⟩
theorem Chg.set {F : Nat → Prop} {w wr : World} (h : Chg F w wr) {b : Nat} (hF : F b) (i : Nat) (v : Value) : Chg F w (wr.setCell ⟨b, i, none⟩ v) :=
  h.trans ⟨rfl, rfl, rfl, by simp [World.setCell], fun k _ hf => Below.heap_setCell _ _ _ _ (fun e => hf (e ▸ hF))⟩

/-- The slice v holds zs, in one block of F, or is empty. -/
def IntsO (w : World) (v : Value) (zs : List Int) (F : Nat → Prop) : Prop :=
  (zs = [] ∧ ∃ a cap, v = .slice a 0 cap) ∨
  (∃ b cap, F b ∧ v = .slice (some ⟨b, 0, none⟩) zs.length cap ∧ zs.length ≤ maxLen ∧ OwnRow w b zs.length (fun i => .int .i64 (zs[i]?.getD 0)))
theorem IntsO.ints {w : World} {v : Value} {zs : List Int} {F : Nat → Prop} (h : IntsO w v zs F) : Ints w v zs := by
  rcases h with h | ⟨b, cap, _, h1, h2, h3⟩
  · exact Or.inl h
  · exact Or.inr ⟨b, 0, cap, h1, h2, fun k hk => by rw [Nat.zero_add]; exact h3.cell hk⟩
theorem IntsO.keep {w w' : World} {v : Value} {zs : List Int} {F : Nat → Prop} (h : IntsO w v zs F) (e : ∀ b, F b → b < w.heap.size → w'.heap[b]? = w.heap[b]?) : IntsO w' v zs F := by
  rcases h with h | ⟨b, cap, hF, h1, h2, h3⟩
  · exact Or.inl h
  · exact Or.inr ⟨b, cap, hF, h1, h2, h3.block (e b hF h3.lt)⟩
theorem IntsO.mono {w : World} {v : Value} {zs : List Int} {F G : Nat → Prop} (h : IntsO w v zs F) (e : ∀ b, F b → G b) : IntsO w v zs G := by
  rcases h with h | ⟨b, cap, hF, h1⟩
  · exact Or.inl h
  · exact Or.inr ⟨b, cap, e b hF, h1⟩

theorem IntsO.store {w : World} {v : Value} {zs : List Int} {F : Nat → Prop} (h : IntsO w v zs F) {p : Addr} (hp : ∀ b, F b → b ≠ p.block) (x : Value) : IntsO (w.setCell p x) v zs F := h.keep fun b hb _ => Below.heap_setCell _ _ _ _ (hp b hb)

/-- The slice v holds the lists zss; no two of them, nor the outer one, lie in one block. -/
def IntsSO (w : World) (v : Value) (zss : List (List Int)) (F : Nat → Prop) : Prop :=
  (zss = [] ∧ ∃ a cap, v = .slice a 0 cap) ∨
  (∃ b cap, ∃ u : Nat → Value, ∃ G : Nat → Nat → Prop, F b ∧ (∀ i c, G i c → F c ∧ c ≠ b) ∧ (∀ i j c, i ≠ j → G i c → ¬ G j c) ∧
    v = .slice (some ⟨b, 0, none⟩) zss.length cap ∧ zss.length ≤ maxLen ∧ OwnRow w b zss.length u ∧ ∀ i, i < zss.length → IntsO w (u i) (zss[i]?.getD []) (G i))
theorem IntsSO.ints {w : World} {v : Value} {zss : List (List Int)} {F : Nat → Prop} (h : IntsSO w v zss F) : IntsS w v zss := by
  rcases h with h | ⟨b, cap, u, G, _, _, _, h1, h2, h3, h4⟩
  · exact Or.inl h
  · exact Or.inr ⟨b, 0, cap, u, h1, h2, fun k hk => ⟨by rw [Nat.zero_add]; exact h3.cell hk, (h4 k hk).ints⟩⟩
theorem IntsSO.keep {w w' : World} {v : Value} {zss : List (List Int)} {F : Nat → Prop} (h : IntsSO w v zss F) (e : ∀ b, F b → b < w.heap.size → w'.heap[b]? = w.heap[b]?) : IntsSO w' v zss F := by
  rcases h with h | ⟨b, cap, u, G, hF, hG, hGG, h1, h2, h3, h4⟩
  · exact Or.inl h
  · exact Or.inr ⟨b, cap, u, G, hF, hG, hGG, h1, h2, h3.block (e b hF h3.lt), fun i hi => (h4 i hi).keep fun c hc => e c (hG i c hc).1⟩
theorem IntsSO.mono {w : World} {v : Value} {zss : List (List Int)} {F F' : Nat → Prop} (h : IntsSO w v zss F) (e : ∀ b, F b → F' b) : IntsSO w v zss F' := by
  rcases h with h | ⟨b, cap, u, G, hF, hG, h1⟩
  · exact Or.inl h
  · exact Or.inr ⟨b, cap, u, G, e b hF, fun i c hc => ⟨e c (hG i c hc).1, (hG i c hc).2⟩, h1⟩

theorem IntsSO.store {w : World} {v : Value} {zss : List (List Int)} {F : Nat → Prop} (h : IntsSO w v zss F) {p : Addr} (hp : ∀ b, F b → b ≠ p.block) (x : Value) : IntsSO (w.setCell p x) v zss F := h.keep fun b hb _ => Below.heap_setCell _ _ _ _ (hp b hb)

/-- The cells of a row of puts. -/
def putCell (ps : List (Int × List Int)) (u : Nat → Value) (j : Nat) : Value := if j % 2 = 0 then .int .i64 (ps[j / 2]?.getD (0, [])).1 else u (j / 2)
theorem putCell_at (ps : List (Int × List Int)) (u : Nat → Value) (k : Nat) : putCell ps u (k * 2) = .int .i64 (ps[k]?.getD (0, [])).1 := by
  unfold putCell; rw [if_pos (by omega), show k * 2 / 2 = k by omega]
theorem putCell_words (ps : List (Int × List Int)) (u : Nat → Value) (k : Nat) : putCell ps u (k * 2 + 1) = u k := by
  unfold putCell; rw [if_neg (by omega), show (k * 2 + 1) / 2 = k by omega]
/-- The slice v holds the puts ps; no two of their lists, nor the outer one, lie in one block. -/
def PutsO (w : World) (v : Value) (ps : List (Int × List Int)) (F : Nat → Prop) : Prop :=
  (ps = [] ∧ ∃ a cap, v = .slice a 0 cap) ∨
  (∃ b cap, ∃ u : Nat → Value, ∃ G : Nat → Nat → Prop, F b ∧ (∀ i c, G i c → F c ∧ c ≠ b) ∧ (∀ i j c, i ≠ j → G i c → ¬ G j c) ∧
    v = .slice (some ⟨b, 0, none⟩) ps.length cap ∧ ps.length ≤ maxLen ∧ OwnRow w b (ps.length * 2) (putCell ps u) ∧ ∀ i, i < ps.length → IntsO w (u i) (ps[i]?.getD (0, [])).2 (G i))
theorem PutsO.puts {w : World} {v : Value} {ps : List (Int × List Int)} {F : Nat → Prop} (h : PutsO w v ps F) : Puts w v ps := by
  rcases h with h | ⟨b, cap, u, G, _, _, _, h1, h2, h3, h4⟩
  · exact Or.inl h
  · refine Or.inr ⟨b, 0, cap, u, h1, h2, fun k hk => ⟨?_, ?_, (h4 k hk).ints⟩⟩
    · rw [Nat.zero_add, h3.cell (by omega), putCell_at]
    · rw [Nat.zero_add, h3.cell (by omega), putCell_words]
theorem PutsO.keep {w w' : World} {v : Value} {ps : List (Int × List Int)} {F : Nat → Prop} (h : PutsO w v ps F) (e : ∀ b, F b → b < w.heap.size → w'.heap[b]? = w.heap[b]?) : PutsO w' v ps F := by
  rcases h with h | ⟨b, cap, u, G, hF, hG, hGG, h1, h2, h3, h4⟩
  · exact Or.inl h
  · exact Or.inr ⟨b, cap, u, G, hF, hG, hGG, h1, h2, h3.block (e b hF h3.lt), fun i hi => (h4 i hi).keep fun c hc => e c (hG i c hc).1⟩
theorem PutsO.mono {w : World} {v : Value} {ps : List (Int × List Int)} {F F' : Nat → Prop} (h : PutsO w v ps F) (e : ∀ b, F b → F' b) : PutsO w v ps F' := by
  rcases h with h | ⟨b, cap, u, G, hF, hG, h1⟩
  · exact Or.inl h
  · exact Or.inr ⟨b, cap, u, G, e b hF, fun i c hc => ⟨e c (hG i c hc).1, (hG i c hc).2⟩, h1⟩

theorem PutsO.store {w : World} {v : Value} {ps : List (Int × List Int)} {F : Nat → Prop} (h : PutsO w v ps F) {p : Addr} (hp : ∀ b, F b → b ≠ p.block) (x : Value) : PutsO (w.setCell p x) v ps F := h.keep fun b hb _ => Below.heap_setCell _ _ _ _ (hp b hb)
theorem IntsO.bound {w : World} {v : Value} {zs : List Int} {F : Nat → Prop} (h : IntsO w v zs F) : IntsO w v zs (fun b => F b ∧ b < w.heap.size) := by
  rcases h with h | ⟨b, cap, hF, h1, h2, h3⟩
  · exact Or.inl h
  · exact Or.inr ⟨b, cap, ⟨hF, h3.lt⟩, h1, h2, h3⟩
theorem IntsSO.bound {w : World} {v : Value} {zss : List (List Int)} {F : Nat → Prop} (h : IntsSO w v zss F) : IntsSO w v zss (fun b => F b ∧ b < w.heap.size) := by
  rcases h with h | ⟨b, cap, u, G, hF, hG, hGG, h1, h2, h3, h4⟩
  · exact Or.inl h
  · exact Or.inr ⟨b, cap, u, fun i c => G i c ∧ c < w.heap.size, ⟨hF, h3.lt⟩, fun i c hc => ⟨⟨(hG i c hc.1).1, hc.2⟩, (hG i c hc.1).2⟩, fun i j c e hc hc' => hGG i j c e hc.1 hc'.1, h1, h2, h3, fun i hi => (h4 i hi).bound⟩
theorem PutsO.bound {w : World} {v : Value} {ps : List (Int × List Int)} {F : Nat → Prop} (h : PutsO w v ps F) : PutsO w v ps (fun b => F b ∧ b < w.heap.size) := by
  rcases h with h | ⟨b, cap, u, G, hF, hG, hGG, h1, h2, h3, h4⟩
  · exact Or.inl h
  · exact Or.inr ⟨b, cap, u, fun i c => G i c ∧ c < w.heap.size, ⟨hF, h3.lt⟩, fun i c hc => ⟨⟨(hG i c hc.1).1, hc.2⟩, (hG i c hc.1).2⟩, fun i j c e hc hc' => hGG i j c e hc.1 hc'.1, h1, h2, h3, fun i hi => (h4 i hi).bound⟩
theorem new_cell (w : World) (c : Array Value) (t : TypeId) (i : Nat) : (w.alloc (.cells c t)).cell? ⟨w.heap.size, i, none⟩ = c[i]? := by
  have h : (w.alloc (.cells c t)).heap[w.heap.size]? = some (.cells c t) := Go.Deep.blk_alloc_new _ _
  simp only [World.cell?, h]
  rfl
theorem box_later {w w' : World} {F : Nat → Prop} {o : Obj} (h : Chg F (w.alloc o) w') (hF : ∀ b, F b → b < w.heap.size) : w'.heap[w.heap.size]? = (w.alloc o).heap[w.heap.size]? :=
  h.block _ (by simp) (fun hf => by have := hF _ hf; omega)

/-- The marks: k, k + 1, .. -/
def marks (k : Int) (n : Nat) : List Int := (List.range n).map fun i : Nat => k + (i : Int)
theorem marks_length (k : Int) (n : Nat) : (marks k n).length = n := by simp [marks]
theorem marks_get (k : Int) {n i : Nat} (h : i < n) : (marks k n)[i]?.getD 0 = k + (i : Int) := by simp [marks, h]
def marksS : Int → List Nat → List (List Int)
  | _, [] => []
  | k, n :: ns => marks k n :: marksS (k + n) ns
def marksP : Int → List Nat → List (Int × List Int)
  | _, [] => []
  | k, n :: ns => (k, marks (k + 1) n) :: marksP (k + 1 + n) ns
theorem marksS_length (ns : List Nat) : ∀ k, (marksS k ns).length = ns.length := by
  induction ns with
  | nil => intro k; rfl
  | cons n ns ih => intro k; simp [marksS, ih]
theorem marksP_length (ns : List Nat) : ∀ k, (marksP k ns).length = ns.length := by
  induction ns with
  | nil => intro k; rfl
  | cons n ns ih => intro k; simp [marksP, ih]
/-- How many values stand in the first j lists. -/
def upto (ns : List Nat) (j : Nat) : Nat := (ns.take j).sum
theorem upto_zero (ns : List Nat) : upto ns 0 = 0 := by simp [upto]
theorem upto_cons (n : Nat) (ns : List Nat) (j : Nat) : upto (n :: ns) (j + 1) = n + upto ns j := by simp [upto]
theorem upto_succ (ns : List Nat) : ∀ j, j < ns.length → upto ns (j + 1) = upto ns j + ns[j]?.getD 0 := by
  induction ns with
  | nil => intro j h; simp at h
  | cons n ns ih =>
    intro j h
    cases j with
    | zero => simp [upto]
    | succ j => rw [upto_cons, upto_cons, ih j (by simpa using h)]; simp; omega
theorem upto_le (ns : List Nat) : ∀ j, upto ns j ≤ ns.sum := by
  induction ns with
  | nil => intro j; simp [upto]
  | cons n ns ih =>
    intro j
    cases j with
    | zero => simp [upto]
    | succ j => rw [upto_cons]; have := ih j; simp; omega
theorem upto_all (ns : List Nat) : upto ns ns.length = ns.sum := by simp [upto]
theorem marksS_get (ns : List Nat) : ∀ k i, i < ns.length → (marksS k ns)[i]?.getD [] = marks (k + (upto ns i : Nat)) (ns[i]?.getD 0) := by
  induction ns with
  | nil => intro k i h; simp at h
  | cons n ns ih =>
    intro k i h
    cases i with
    | zero => simp [marksS, upto]
    | succ i =>
      have := ih (k + n) i (by simpa using h)
      simp only [marksS, List.getElem?_cons_succ, upto_cons]
      rw [this]; congr 1; omega
theorem marksP_get (ns : List Nat) : ∀ k i, i < ns.length → (marksP k ns)[i]?.getD (0, []) = (k + i + (upto ns i : Nat), marks (k + i + (upto ns i : Nat) + 1) (ns[i]?.getD 0)) := by
  induction ns with
  | nil => intro k i h; simp at h
  | cons n ns ih =>
    intro k i h
    cases i with
    | zero => simp [marksP, upto]
    | succ i =>
      have := ih (k + 1 + n) i (by simpa using h)
      simp only [marksP, List.getElem?_cons_succ, upto_cons]
      rw [this, Prod.mk.injEq]
      refine ⟨by omega, ?_⟩
      congr 1; omega


theorem lens_get (zss : List (List Int)) (i : Nat) : (zss.map List.length)[i]?.getD 0 = (zss[i]?.getD []).length := by
  rw [List.getElem?_map]; cases zss[i]? <;> simp
/-- The lengths of the words of puts. -/
def wlens (ps : List (Int × List Int)) : List Nat := ps.map fun p => p.2.length
theorem wlens_get (ps : List (Int × List Int)) (i : Nat) : (wlens ps)[i]?.getD 0 = (ps[i]?.getD (0, [])).2.length := by
  unfold wlens; rw [List.getElem?_map]; cases ps[i]? <;> simp
theorem wlens_length (ps : List (Int × List Int)) : (wlens ps).length = ps.length := by simp [wlens]
/-- How far a disk is marked. -/
def dspan (bs : List (List Int)) (ps : List (Int × List Int)) : Nat := (bs.map List.length).sum + ps.length + (wlens ps).sum

/-- A disk in memory of its own, all of it in blocks of F. -/
def DiskO (w : World) (vB vC : Value) (bs : List (List Int)) (ps : List (Int × List Int)) (F : Nat → Prop) : Prop :=
  ∃ F1 G1 : Nat → Prop, IntsSO w vB bs F1 ∧ PutsO w vC ps G1 ∧ (∀ b, F1 b → ¬ G1 b) ∧ ∀ b, F1 b ∨ G1 b → F b
theorem DiskO.ints {w : World} {vB vC : Value} {bs : List (List Int)} {ps : List (Int × List Int)} {F : Nat → Prop} (h : DiskO w vB vC bs ps F) : IntsS w vB bs := by
  obtain ⟨_, _, h1, _⟩ := h; exact h1.ints
theorem DiskO.puts {w : World} {vB vC : Value} {bs : List (List Int)} {ps : List (Int × List Int)} {F : Nat → Prop} (h : DiskO w vB vC bs ps F) : Puts w vC ps := by
  obtain ⟨_, _, _, h1, _⟩ := h; exact h1.puts
theorem DiskO.keep {w w' : World} {vB vC : Value} {bs : List (List Int)} {ps : List (Int × List Int)} {F : Nat → Prop} (h : DiskO w vB vC bs ps F) (e : ∀ b, F b → b < w.heap.size → w'.heap[b]? = w.heap[b]?) : DiskO w' vB vC bs ps F := by
  obtain ⟨F1, G1, h1, h2, hd, hf⟩ := h
  exact ⟨F1, G1, h1.keep fun b hb => e b (hf b (Or.inl hb)), h2.keep fun b hb => e b (hf b (Or.inr hb)), hd, hf⟩
theorem DiskO.later {w w' : World} {vB vC : Value} {bs : List (List Int)} {ps : List (Int × List Int)} {F : Nat → Prop} (h : DiskO w vB vC bs ps F) (hb : Below w.heap.size w w') : DiskO w' vB vC bs ps F := h.keep fun b _ hlt => hb.block b hlt
theorem DiskO.mono {w : World} {vB vC : Value} {bs : List (List Int)} {ps : List (Int × List Int)} {F G : Nat → Prop} (h : DiskO w vB vC bs ps F) (e : ∀ b, F b → G b) : DiskO w vB vC bs ps G := by
  obtain ⟨F1, G1, h1, h2, hd, hf⟩ := h
  exact ⟨F1, G1, h1, h2, hd, fun b hb => e b (hf b hb)⟩
theorem DiskO.bound {w : World} {vB vC : Value} {bs : List (List Int)} {ps : List (Int × List Int)} {F : Nat → Prop} (h : DiskO w vB vC bs ps F) : DiskO w vB vC bs ps (fun b => F b ∧ b < w.heap.size) := by
  obtain ⟨F1, G1, h1, h2, hd, hf⟩ := h
  exact ⟨_, _, h1.bound, h2.bound, fun b hb hb' => hd b hb.1 hb'.1, fun b hb => hb.elim (fun h => ⟨hf b (Or.inl h.1), h.2⟩) (fun h => ⟨hf b (Or.inr h.1), h.2⟩)⟩
theorem DiskO.chg {w w' : World} {vB vC : Value} {bs : List (List Int)} {ps : List (Int × List Int)} {F G : Nat → Prop} (h : DiskO w vB vC bs ps F) (hc : Chg G w w') (hd : ∀ b, F b → ¬ G b) : DiskO w' vB vC bs ps F := h.keep fun b hb hlt => hc.block b hlt (hd b hb)

/-- Three cells in block b: a code and two lists. -/
def Box3 (w : World) (b : Nat) (c : Int) (x y : Value) : Prop := w.cell? ⟨b, 0, none⟩ = some (.int .i64 c) ∧ w.cell? ⟨b, 1, none⟩ = some x ∧ w.cell? ⟨b, 2, none⟩ = some y
theorem Box3.new (w : World) (c : Int) (x y : Value) (t : TypeId) : Box3 (w.alloc (.cells #[.int .i64 c, x, y] t)) w.heap.size c x y := ⟨by rw [new_cell]; rfl, by rw [new_cell]; rfl, by rw [new_cell]; rfl⟩
theorem Box3.later {w w' : World} {b : Nat} {c : Int} {x y : Value} (h : Box3 w b c x y) (hb : Below w.heap.size w w') : Box3 w' b c x y := ⟨cell_later hb h.1, cell_later hb h.2.1, cell_later hb h.2.2⟩
theorem Box3.lt {w : World} {b : Nat} {c : Int} {x y : Value} (h : Box3 w b c x y) : b < w.heap.size := World.block_lt_of_cell? _ _ h.1
theorem Chg.cell {F : Nat → Prop} {w w' : World} (h : Chg F w w') {a : Addr} (hl : a.block < w.heap.size) (hf : ¬ F a.block) : w'.cell? a = w.cell? a := World.cell?_of_block (w := w) (h.block a.block hl hf)
theorem Box3.chg {w w' : World} {b : Nat} {c : Int} {x y : Value} {F : Nat → Prop} (h : Box3 w b c x y) (hc : Chg F w w') (hf : ¬ F b) : Box3 w' b c x y :=
  ⟨(hc.cell h.lt hf).trans h.1, (hc.cell h.lt hf).trans h.2.1, (hc.cell h.lt hf).trans h.2.2⟩

/-- Two cells in block b: two lists. -/
def Box2 (w : World) (b : Nat) (x y : Value) : Prop := w.cell? ⟨b, 0, none⟩ = some x ∧ w.cell? ⟨b, 1, none⟩ = some y
theorem Box2.new (w : World) (x y : Value) (t : TypeId) : Box2 (w.alloc (.cells #[x, y] t)) w.heap.size x y := ⟨by rw [new_cell]; rfl, by rw [new_cell]; rfl⟩
theorem Box2.later {w w' : World} {b : Nat} {x y : Value} (h : Box2 w b x y) (hb : Below w.heap.size w w') : Box2 w' b x y := ⟨cell_later hb h.1, cell_later hb h.2⟩
theorem Box2.lt {w : World} {b : Nat} {x y : Value} (h : Box2 w b x y) : b < w.heap.size := World.block_lt_of_cell? _ _ h.1

end Go.Proofs.Ytagmmgcdebgfnaa

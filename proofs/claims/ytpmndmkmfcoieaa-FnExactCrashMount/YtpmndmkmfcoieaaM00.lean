/- What the walks of this seat share: how slices of integers, of slices and of puts read in a world. No program is named here. Memory that a call made itself, block by block: which blocks a list lies in, what a store turns, what marks are. No program is named here. Lists that a loop makes one behind the other, each in memory of its own. No program is named here. The plain mathematics of chapter 1: the codes of words, puts and disks. No program, no world. A list of a row of lists is put in the place of another: what the row is behind it. What a flush or a crash keeps. No program is named here. -/
import Derived.WalkKit
import Derived.WalkSpells
import Derived.WalkLawsBesides
import Derived.Deep.QuietTactic
import Derived.BigQuiet
import Derived.Deep.OwnRows
namespace Go.Proofs.Ytpmndmkmfcoieaa
open Go.RowKit
set_option maxRecDepth 100000

/-- The slice v reads as the integers zs. -/
def Ints (w : World) (v : Value) (zs : List Int) : Prop :=
  (zs = [] ∧ ∃ a cap, v = .slice a 0 cap) ∨
  (∃ b off cap, v = .slice (some ⟨b, off, none⟩) zs.length cap ∧ zs.length ≤ maxLen ∧ ∀ k, k < zs.length → w.cell? ⟨b, off + k, none⟩ = some (.int .i64 (zs[k]?.getD 0)))

/-- The slice v reads as the lists of integers zss. -/
def IntsS (w : World) (v : Value) (zss : List (List Int)) : Prop :=
  (zss = [] ∧ ∃ a cap, v = .slice a 0 cap) ∨
  (∃ b off cap, ∃ u : Nat → Value, v = .slice (some ⟨b, off, none⟩) zss.length cap ∧ zss.length ≤ maxLen ∧ ∀ k, k < zss.length → w.cell? ⟨b, off + k, none⟩ = some (u k) ∧ Ints w (u k) (zss[k]?.getD []))

/-- The slice v reads as the puts ps. -/
def Puts (w : World) (v : Value) (ps : List (Int × List Int)) : Prop :=
  (ps = [] ∧ ∃ a cap, v = .slice a 0 cap) ∨
  (∃ b off cap, ∃ u : Nat → Value, v = .slice (some ⟨b, off, none⟩) ps.length cap ∧ ps.length ≤ maxLen ∧ ∀ k, k < ps.length →
    w.cell? ⟨b, off + k * 2, none⟩ = some (.int .i64 (ps[k]?.getD (0, [])).1) ∧ w.cell? ⟨b, off + k * 2 + 1, none⟩ = some (u k) ∧ Ints w (u k) (ps[k]?.getD (0, [])).2)

theorem ret_bool {a b : Bool} (h : a = b) : Ending.returned (.bool a) = Ending.returned (.bool b) := by rw [h]
theorem ret_int {k : IntKind} {a b : Int} (h : a = b) : Ending.returned (.int k a) = Ending.returned (.int k b) := by rw [h]

theorem beq_takes {α : Type} [BEq α] [LawfulBEq α] {xs ys : List α} {n k : Nat} (hx : xs.length = n) (hy : ys.length = n) (hk : n ≤ k) (h : xs.take k = ys.take k) : true = (xs == ys) := by
  rw [List.take_of_length_le (by omega), List.take_of_length_le (by omega)] at h
  simp [h]
theorem take_more {α : Type} {xs ys : List α} {n k : Nat} (z : α) (hx : xs.length = n) (hy : ys.length = n) (hk : k < n) (h : xs.take k = ys.take k) (he : xs[k]?.getD z = ys[k]?.getD z) : xs.take (k + 1) = ys.take (k + 1) := by
  have e1 : xs.take (k + 1) = xs.take k ++ [xs[k]] := List.take_succ_eq_append_getElem (by omega)
  have e2 : ys.take (k + 1) = ys.take k ++ [ys[k]] := List.take_succ_eq_append_getElem (by omega)
  rw [List.getElem?_eq_getElem (by omega), List.getElem?_eq_getElem (by omega)] at he
  simp only [Option.getD_some] at he
  rw [e1, e2, h, he]
theorem beq_at {α : Type} [BEq α] [LawfulBEq α] {xs ys : List α} {k : Nat} (z : α) (he : ¬ xs[k]?.getD z = ys[k]?.getD z) : false = (xs == ys) := by
  symm
  rw [Bool.eq_false_iff]; intro h; exact he (by rw [eq_of_beq h])
theorem beq_len {α : Type} [BEq α] [LawfulBEq α] {xs ys : List α} (he : ¬ xs.length = ys.length) : false = (xs == ys) := by
  symm
  rw [Bool.eq_false_iff]; intro h; exact he (by rw [eq_of_beq h])

/-- A callee's contract met inside a region behind earlier draws: the draws add up. -/
theorem quiet_of2 {P : Program} {f : FuncId} {args : Array Value} {w : World} {m x : Nat} {v : Value}
    (h : Calls P f args (w.drewN (m + x)) fun e w' => e = .returned v ∧ ∃ j, w' = (w.drewN (m + x)).drewN j) : Calls P f args (w.drewN (m + x)) fun e w'' => e = .returned v ∧ ∃ n, w'' = w.drewN (m + n) :=
  h.mono fun _ _ ⟨he, j, hj⟩ => ⟨he, x + j, by rw [hj, World.drewN_drewN, Nat.add_assoc]⟩

theorem quiet_same2 {P : Program} {f : FuncId} {args : Array Value} {w : World} {m x : Nat} {v : Value}
    (h : Calls P f args (w.drewN (m + x)) fun e w' => e = .returned v ∧ w' = w.drewN (m + x)) : Calls P f args (w.drewN (m + x)) fun e w'' => e = .returned v ∧ ∃ n, w'' = w.drewN (m + n) :=
  h.mono fun _ _ ⟨he, hj⟩ => ⟨he, x, hj⟩

/-- What reads so reads so behind draws. -/
theorem Ints.drewN {w : World} {v : Value} {zs : List Int} (h : Ints w v zs) (m : Nat) : Ints (w.drewN m) v zs := h
theorem IntsS.drewN {w : World} {v : Value} {zs : List (List Int)} (h : IntsS w v zs) (m : Nat) : IntsS (w.drewN m) v zs := h
theorem Puts.drewN {w : World} {v : Value} {zs : List (Int × List Int)} (h : Puts w v zs) (m : Nat) : Puts (w.drewN m) v zs := h

/-- .. and behind whatever turned nothing that was there. -/
theorem Ints.later {w wx : World} {v : Value} {zs : List Int} (h : Ints w v zs) (hb : Below w.heap.size w wx) : Ints wx v zs := by
  rcases h with h | ⟨b, off, cap, h1, h2, h3⟩
  · exact Or.inl h
  · exact Or.inr ⟨b, off, cap, h1, h2, fun k hk => cell_later hb (h3 k hk)⟩
theorem IntsS.later {w wx : World} {v : Value} {zs : List (List Int)} (h : IntsS w v zs) (hb : Below w.heap.size w wx) : IntsS wx v zs := by
  rcases h with h | ⟨b, off, cap, u, h1, h2, h3⟩
  · exact Or.inl h
  · exact Or.inr ⟨b, off, cap, u, h1, h2, fun k hk => ⟨cell_later hb (h3 k hk).1, (h3 k hk).2.later hb⟩⟩
theorem Puts.later {w wx : World} {v : Value} {zs : List (Int × List Int)} (h : Puts w v zs) (hb : Below w.heap.size w wx) : Puts wx v zs := by
  rcases h with h | ⟨b, off, cap, u, h1, h2, h3⟩
  · exact Or.inl h
  · exact Or.inr ⟨b, off, cap, u, h1, h2, fun k hk => ⟨cell_later hb (h3 k hk).1, cell_later hb (h3 k hk).2.1, (h3 k hk).2.2.later hb⟩⟩
theorem later1 (w : World) (o : Obj) : Below w.heap.size w (w.alloc o) := (Below.refl _ _).alloc (Nat.le_refl _) _
theorem later2 (w : World) (o o' : Obj) : Below w.heap.size w ((w.alloc o).alloc o') := (later1 w o).alloc (by simp) _

theorem Ints.shape {w : World} {v : Value} {zs : List Int} (h : Ints w v zs) : ∃ a cap, v = .slice a zs.length cap ∧ zs.length ≤ maxLen := by
  rcases h with ⟨rfl, a, cap, rfl⟩ | ⟨b, off, cap, rfl, hl, _⟩
  · exact ⟨a, cap, rfl, by simp⟩
  · exact ⟨_, cap, rfl, hl⟩

/-- How an address and cells of a list of integers are known: only where there is an element. -/
def At1 (w : World) (a : Option Addr) (n : Nat) (f : Nat → Value) : Prop := ∀ k, k < n → ∃ b off, a = some ⟨b, off, none⟩ ∧ w.cell? ⟨b, off + k, none⟩ = some (f k)
theorem Ints.open' {w : World} {v : Value} {zs : List Int} (h : Ints w v zs) : ∃ a cap, v = .slice a zs.length cap ∧ zs.length ≤ maxLen ∧ At1 w a zs.length (fun k => .int .i64 (zs[k]?.getD 0)) := by
  rcases h with ⟨rfl, a, cap, rfl⟩ | ⟨b, off, cap, rfl, hl, hc⟩
  · exact ⟨a, cap, rfl, by simp, fun k hk => by simp at hk⟩
  · exact ⟨_, cap, rfl, hl, fun k hk => ⟨b, off, rfl, hc k hk⟩⟩

/-- How a list of lists is known where there is an element. -/
def AtS (w : World) (a : Option Addr) (n : Nat) (zss : List (List Int)) : Prop :=
  ∀ k, k < n → ∃ b off ua ucap, a = some ⟨b, off, none⟩ ∧ w.cell? ⟨b, off + k, none⟩ = some (.slice ua (zss[k]?.getD []).length ucap) ∧ Ints w (.slice ua (zss[k]?.getD []).length ucap) (zss[k]?.getD [])
theorem IntsS.open' {w : World} {v : Value} {zss : List (List Int)} (h : IntsS w v zss) : ∃ a cap, v = .slice a zss.length cap ∧ zss.length ≤ maxLen ∧ AtS w a zss.length zss := by
  rcases h with ⟨rfl, a, cap, rfl⟩ | ⟨b, off, cap, u, rfl, hl, hc⟩
  · exact ⟨a, cap, rfl, by simp, fun k hk => by simp at hk⟩
  · refine ⟨_, cap, rfl, hl, fun k hk => ?_⟩
    obtain ⟨h1, h2⟩ := hc k hk
    obtain ⟨ua, ucap, hu, _⟩ := h2.shape
    rw [hu] at h1 h2
    exact ⟨b, off, ua, ucap, rfl, h1, h2⟩
theorem AtS.later {w w' : World} {a : Option Addr} {n : Nat} {zss : List (List Int)} (h : AtS w a n zss) (hb : Below w.heap.size w w') : AtS w' a n zss := by
  intro k hk
  obtain ⟨b, off, ua, ucap, h1, h2, h3⟩ := h k hk
  exact ⟨b, off, ua, ucap, h1, cell_later hb h2, h3.later hb⟩
/-- How a list of puts is known where there is an element. -/
def AtP (w : World) (a : Option Addr) (n : Nat) (ps : List (Int × List Int)) : Prop :=
  ∀ k, k < n → ∃ b off ua ucap, a = some ⟨b, off, none⟩ ∧ w.cell? ⟨b, off + k * 2, none⟩ = some (.int .i64 (ps[k]?.getD (0, [])).1) ∧ w.cell? ⟨b, off + k * 2 + 1, none⟩ = some (.slice ua (ps[k]?.getD (0, [])).2.length ucap) ∧ Ints w (.slice ua (ps[k]?.getD (0, [])).2.length ucap) (ps[k]?.getD (0, [])).2
theorem Puts.open' {w : World} {v : Value} {ps : List (Int × List Int)} (h : Puts w v ps) : ∃ a cap, v = .slice a ps.length cap ∧ ps.length ≤ maxLen ∧ AtP w a ps.length ps := by
  rcases h with ⟨rfl, a, cap, rfl⟩ | ⟨b, off, cap, u, rfl, hl, hc⟩
  · exact ⟨a, cap, rfl, by simp, fun k hk => by simp at hk⟩
  · refine ⟨_, cap, rfl, hl, fun k hk => ?_⟩
    obtain ⟨h1, h1', h2⟩ := hc k hk
    obtain ⟨ua, ucap, hu, _⟩ := h2.shape
    rw [hu] at h1' h2
    exact ⟨b, off, ua, ucap, rfl, h1, h1', h2⟩
theorem AtP.later {w w' : World} {a : Option Addr} {n : Nat} {ps : List (Int × List Int)} (h : AtP w a n ps) (hb : Below w.heap.size w w') : AtP w' a n ps := by
  intro k hk
  obtain ⟨b, off, ua, ucap, h1, h2, h2', h3⟩ := h k hk
  exact ⟨b, off, ua, ucap, h1, cell_later hb h2, cell_later hb h2', h3.later hb⟩

end Go.Proofs.Ytpmndmkmfcoieaa

namespace Go.Proofs.Ytpmndmkmfcoieaa
open Go.RowKit
set_option maxRecDepth 100000

/-- Block b is not frozen, and its first n cells hold f. -/
def OwnRow (w : World) (b n : Nat) (f : Nat → Value) : Prop :=
  ∃ c t, w.heap[b]? = some (.cells c t (0, 0)) ∧ n ≤ c.size ∧ ∀ i, i < n → c[i]? = some (f i)

theorem OwnRow.cell {w : World} {b n : Nat} {f : Nat → Value} (h : OwnRow w b n f) {i : Nat} (hi : i < n) : w.cell? ⟨b, i, none⟩ = some (f i) := by
  obtain ⟨c, t, hb, _, hc⟩ := h
  simp [World.cell?, hb, hc i hi]
theorem OwnRow.frozen {w : World} {b n : Nat} {f : Nat → Value} (h : OwnRow w b n f) (i : Nat) : w.frozen? ⟨b, i, none⟩ = false := by
  obtain ⟨c, t, hb, _, _⟩ := h
  simp [World.frozen?, hb]
theorem OwnRow.lt {w : World} {b n : Nat} {f : Nat → Value} (h : OwnRow w b n f) : b < w.heap.size := by
  obtain ⟨c, t, hb, _, _⟩ := h
  exact (Array.getElem?_eq_some_iff.1 hb).1
theorem OwnRow.congr {w : World} {b n : Nat} {f g : Nat → Value} (h : OwnRow w b n f) (e : ∀ i, i < n → f i = g i) : OwnRow w b n g := by
  obtain ⟨c, t, hb, hn, hc⟩ := h
  exact ⟨c, t, hb, hn, fun i hi => by rw [hc i hi, e i hi]⟩
theorem OwnRow.block {w w' : World} {b n : Nat} {f : Nat → Value} (h : OwnRow w b n f) (e : w'.heap[b]? = w.heap[b]?) : OwnRow w' b n f := by
  obtain ⟨c, t, hb, hn, hc⟩ := h
  exact ⟨c, t, e.trans hb, hn, hc⟩
theorem OwnRow.set {w : World} {b n : Nat} {f : Nat → Value} (h : OwnRow w b n f) (i : Nat) (v : Value) : OwnRow (w.setCell ⟨b, i, none⟩ v) b n (fun j => if j = i then v else f j) := by
  obtain ⟨c, t, hb, hn, hc⟩ := h
  refine ⟨c.setIfInBounds i v, t, ?_, by simpa using hn, fun j hj => ?_⟩
  · simp [World.setCell, Array.getElem?_modify, hb]
  · rw [Array.getElem?_setIfInBounds]
    by_cases e : i = j
    · subst e
      simp [show i < c.size by omega]
    · rw [if_neg e]
      show c[j]? = some (if j = i then v else f j)
      rw [if_neg (fun h : j = i => e h.symm)]
      exact hc j hj

theorem OwnRow.store {w : World} {b n : Nat} {f : Nat → Value} (h : OwnRow w b n f) {p : Addr} (hp : b ≠ p.block) (u : Value) : OwnRow (w.setCell p u) b n f := h.block (Below.heap_setCell _ _ _ _ hp)

/-- From w to w' only blocks of F, and new ones, have turned. -/
structure Chg (F : Nat → Prop) (w w' : World) : Prop where
  os : w'.os = w.os
  tape : w'.tape = w.tape
  output : w'.output = w.output
  size : w.heap.size ≤ w'.heap.size
  block : ∀ b, b < w.heap.size → ¬ F b → w'.heap[b]? = w.heap[b]?
theorem Chg.refl (F : Nat → Prop) (w : World) : Chg F w w := ⟨rfl, rfl, rfl, Nat.le_refl _, fun _ _ _ => rfl⟩
theorem Chg.trans {F : Nat → Prop} {a b c : World} (h : Chg F a b) (k : Chg F b c) : Chg F a c :=
  ⟨k.os.trans h.os, k.tape.trans h.tape, k.output.trans h.output, Nat.le_trans h.size k.size, fun i hi hf => (k.block i (Nat.lt_of_lt_of_le hi h.size) hf).trans (h.block i hi hf)⟩
theorem Chg.mono {F G : Nat → Prop} {w w' : World} (h : Chg F w w') (hFG : ∀ b, F b → G b) : Chg G w w' := ⟨h.os, h.tape, h.output, h.size, fun b hb hg => h.block b hb (fun hf => hg (hFG b hf))⟩
theorem Chg.of_below {F : Nat → Prop} {w w' : World} (h : Below w.heap.size w w') : Chg F w w' := ⟨h.os, h.tape, h.output, h.size, fun b hb _ => h.block b hb⟩
theorem Chg.below {F : Nat → Prop} {w w' : World} {B : Nat} (h : Chg F w w') (hB : B ≤ w.heap.size) (hF : ∀ b, F b → B ≤ b) : Below B w w' :=
  ⟨h.os, h.tape, h.output, h.size, fun b hb => h.block b (by omega) (fun hf => by have := hF b hf; omega)⟩
theorem Chg.set {F : Nat → Prop} {w wr : World} (h : Chg F w wr) {b : Nat} (hF : F b) (i : Nat) (v : Value) : Chg F w (wr.setCell ⟨b, i, none⟩ v) :=
  h.trans ⟨rfl, rfl, rfl, by simp [World.setCell], fun k _ hf => Below.heap_setCell _ _ _ _ (fun e => hf (e ▸ hF))⟩

/-- The slice v holds zs, in one block of F, or is empty. -/
def IntsO (w : World) (v : Value) (zs : List Int) (F : Nat → Prop) : Prop :=
  (zs = [] ∧ ∃ a cap, v = .slice a 0 cap) ∨
  (∃ b cap, F b ∧ v = .slice (some ⟨b, 0, none⟩) zs.length cap ∧ zs.length ≤ maxLen ∧ OwnRow w b zs.length (fun i => .int .i64 (zs[i]?.getD 0)))
theorem IntsO.ints {w : World} {v : Value} {zs : List Int} {F : Nat → Prop} (h : IntsO w v zs F) : Ints w v zs := by
  rcases h with h | ⟨b, cap, _, h1, h2, h3⟩
  · exact Or.inl h
  · exact Or.inr ⟨b, 0, cap, h1, h2, fun k hk => by rw [Nat.zero_add]; exact h3.cell hk⟩
theorem IntsO.keep {w w' : World} {v : Value} {zs : List Int} {F : Nat → Prop} (h : IntsO w v zs F) (e : ∀ b, F b → b < w.heap.size → w'.heap[b]? = w.heap[b]?) : IntsO w' v zs F := by
  rcases h with h | ⟨b, cap, hF, h1, h2, h3⟩
  · exact Or.inl h
  · exact Or.inr ⟨b, cap, hF, h1, h2, h3.block (e b hF h3.lt)⟩
theorem IntsO.mono {w : World} {v : Value} {zs : List Int} {F G : Nat → Prop} (h : IntsO w v zs F) (e : ∀ b, F b → G b) : IntsO w v zs G := by
  rcases h with h | ⟨b, cap, hF, h1⟩
  · exact Or.inl h
  · exact Or.inr ⟨b, cap, e b hF, h1⟩

theorem IntsO.store {w : World} {v : Value} {zs : List Int} {F : Nat → Prop} (h : IntsO w v zs F) {p : Addr} (hp : ∀ b, F b → b ≠ p.block) (x : Value) : IntsO (w.setCell p x) v zs F := h.keep fun b hb _ => Below.heap_setCell _ _ _ _ (hp b hb)

/-- The slice v holds the lists zss; no two of them, nor the outer one, lie in one block. -/
def IntsSO (w : World) (v : Value) (zss : List (List Int)) (F : Nat → Prop) : Prop :=
  (zss = [] ∧ ∃ a cap, v = .slice a 0 cap) ∨
  (∃ b cap, ∃ u : Nat → Value, ∃ G : Nat → Nat → Prop, F b ∧ (∀ i c, G i c → F c ∧ c ≠ b) ∧ (∀ i j c, i ≠ j → G i c → ¬ G j c) ∧
    v = .slice (some ⟨b, 0, none⟩) zss.length cap ∧ zss.length ≤ maxLen ∧ OwnRow w b zss.length u ∧ ∀ i, i < zss.length → IntsO w (u i) (zss[i]?.getD []) (G i))
theorem IntsSO.ints {w : World} {v : Value} {zss : List (List Int)} {F : Nat → Prop} (h : IntsSO w v zss F) : IntsS w v zss := by
  rcases h with h | ⟨b, cap, u, G, _, _, _, h1, h2, h3, h4⟩
  · exact Or.inl h
  · exact Or.inr ⟨b, 0, cap, u, h1, h2, fun k hk => ⟨by rw [Nat.zero_add]; exact h3.cell hk, (h4 k hk).ints⟩⟩
theorem IntsSO.keep {w w' : World} {v : Value} {zss : List (List Int)} {F : Nat → Prop} (h : IntsSO w v zss F) (e : ∀ b, F b → b < w.heap.size → w'.heap[b]? = w.heap[b]?) : IntsSO w' v zss F := by
  rcases h with h | ⟨b, cap, u, G, hF, hG, hGG, h1, h2, h3, h4⟩
  · exact Or.inl h
  · exact Or.inr ⟨b, cap, u, G, hF, hG, hGG, h1, h2, h3.block (e b hF h3.lt), fun i hi => (h4 i hi).keep fun c hc => e c (hG i c hc).1⟩
theorem IntsSO.mono {w : World} {v : Value} {zss : List (List Int)} {F F' : Nat → Prop} (h : IntsSO w v zss F) (e : ∀ b, F b → F' b) : IntsSO w v zss F' := by
  rcases h with h | ⟨b, cap, u, G, hF, hG, h1⟩
  · exact Or.inl h
  · exact Or.inr ⟨b, cap, u, G, e b hF, fun i c hc => ⟨e c (hG i c hc).1, (hG i c hc).2⟩, h1⟩

theorem IntsSO.store {w : World} {v : Value} {zss : List (List Int)} {F : Nat → Prop} (h : IntsSO w v zss F) {p : Addr} (hp : ∀ b, F b → b ≠ p.block) (x : Value) : IntsSO (w.setCell p x) v zss F := h.keep fun b hb _ => Below.heap_setCell _ _ _ _ (hp b hb)

/-- The cells of a row of puts. -/
def putCell (ps : List (Int × List Int)) (u : Nat → Value) (j : Nat) : Value := if j % 2 = 0 then .int .i64 (ps[j / 2]?.getD (0, [])).1 else u (j / 2)
theorem putCell_at (ps : List (Int × List Int)) (u : Nat → Value) (k : Nat) : putCell ps u (k * 2) = .int .i64 (ps[k]?.getD (0, [])).1 := by
  unfold putCell; rw [if_pos (by omega), show k * 2 / 2 = k by omega]
theorem putCell_words (ps : List (Int × List Int)) (u : Nat → Value) (k : Nat) : putCell ps u (k * 2 + 1) = u k := by
  unfold putCell; rw [if_neg (by omega), show (k * 2 + 1) / 2 = k by omega]
/-- The slice v holds the puts ps; no two of their lists, nor the outer one, lie in one block. -/
def PutsO (w : World) (v : Value) (ps : List (Int × List Int)) (F : Nat → Prop) : Prop :=
  (ps = [] ∧ ∃ a cap, v = .slice a 0 cap) ∨
  (∃ b cap, ∃ u : Nat → Value, ∃ G : Nat → Nat → Prop, F b ∧ (∀ i c, G i c → F c ∧ c ≠ b) ∧ (∀ i j c, i ≠ j → G i c → ¬ G j c) ∧
    v = .slice (some ⟨b, 0, none⟩) ps.length cap ∧ ps.length ≤ maxLen ∧ OwnRow w b (ps.length * 2) (putCell ps u) ∧ ∀ i, i < ps.length → IntsO w (u i) (ps[i]?.getD (0, [])).2 (G i))
theorem PutsO.puts {w : World} {v : Value} {ps : List (Int × List Int)} {F : Nat → Prop} (h : PutsO w v ps F) : Puts w v ps := by
  rcases h with h | ⟨b, cap, u, G, _, _, _, h1, h2, h3, h4⟩
  · exact Or.inl h
  · refine Or.inr ⟨b, 0, cap, u, h1, h2, fun k hk => ⟨?_, ?_, (h4 k hk).ints⟩⟩
    · rw [Nat.zero_add, h3.cell (by omega), putCell_at]
    · rw [Nat.zero_add, h3.cell (by omega), putCell_words]
theorem PutsO.keep {w w' : World} {v : Value} {ps : List (Int × List Int)} {F : Nat → Prop} (h : PutsO w v ps F) (e : ∀ b, F b → b < w.heap.size → w'.heap[b]? = w.heap[b]?) : PutsO w' v ps F := by
  rcases h with h | ⟨b, cap, u, G, hF, hG, hGG, h1, h2, h3, h4⟩
  · exact Or.inl h
  · exact Or.inr ⟨b, cap, u, G, hF, hG, hGG, h1, h2, h3.block (e b hF h3.lt), fun i hi => (h4 i hi).keep fun c hc => e c (hG i c hc).1⟩
theorem PutsO.mono {w : World} {v : Value} {ps : List (Int × List Int)} {F F' : Nat → Prop} (h : PutsO w v ps F) (e : ∀ b, F b → F' b) : PutsO w v ps F' := by
  rcases h with h | ⟨b, cap, u, G, hF, hG, h1⟩
  · exact Or.inl h
  · exact Or.inr ⟨b, cap, u, G, e b hF, fun i c hc => ⟨e c (hG i c hc).1, (hG i c hc).2⟩, h1⟩

theorem PutsO.store {w : World} {v : Value} {ps : List (Int × List Int)} {F : Nat → Prop} (h : PutsO w v ps F) {p : Addr} (hp : ∀ b, F b → b ≠ p.block) (x : Value) : PutsO (w.setCell p x) v ps F := h.keep fun b hb _ => Below.heap_setCell _ _ _ _ (hp b hb)
theorem IntsO.bound {w : World} {v : Value} {zs : List Int} {F : Nat → Prop} (h : IntsO w v zs F) : IntsO w v zs (fun b => F b ∧ b < w.heap.size) := by
  rcases h with h | ⟨b, cap, hF, h1, h2, h3⟩
  · exact Or.inl h
  · exact Or.inr ⟨b, cap, ⟨hF, h3.lt⟩, h1, h2, h3⟩
theorem IntsSO.bound {w : World} {v : Value} {zss : List (List Int)} {F : Nat → Prop} (h : IntsSO w v zss F) : IntsSO w v zss (fun b => F b ∧ b < w.heap.size) := by
  rcases h with h | ⟨b, cap, u, G, hF, hG, hGG, h1, h2, h3, h4⟩
  · exact Or.inl h
  · exact Or.inr ⟨b, cap, u, fun i c => G i c ∧ c < w.heap.size, ⟨hF, h3.lt⟩, fun i c hc => ⟨⟨(hG i c hc.1).1, hc.2⟩, (hG i c hc.1).2⟩, fun i j c e hc hc' => hGG i j c e hc.1 hc'.1, h1, h2, h3, fun i hi => (h4 i hi).bound⟩
theorem PutsO.bound {w : World} {v : Value} {ps : List (Int × List Int)} {F : Nat → Prop} (h : PutsO w v ps F) : PutsO w v ps (fun b => F b ∧ b < w.heap.size) := by
  rcases h with h | ⟨b, cap, u, G, hF, hG, hGG, h1, h2, h3, h4⟩
  · exact Or.inl h
  · exact Or.inr ⟨b, cap, u, fun i c => G i c ∧ c < w.heap.size, ⟨hF, h3.lt⟩, fun i c hc => ⟨⟨(hG i c hc.1).1, hc.2⟩, (hG i c hc.1).2⟩, fun i j c e hc hc' => hGG i j c e hc.1 hc'.1, h1, h2, h3, fun i hi => (h4 i hi).bound⟩
theorem new_cell (w : World) (c : Array Value) (t : TypeId) (i : Nat) : (w.alloc (.cells c t)).cell? ⟨w.heap.size, i, none⟩ = c[i]? := by
  have h : (w.alloc (.cells c t)).heap[w.heap.size]? = some (.cells c t) := Go.Deep.blk_alloc_new _ _
  simp only [World.cell?, h]
  rfl
theorem box_later {w w' : World} {F : Nat → Prop} {o : Obj} (h : Chg F (w.alloc o) w') (hF : ∀ b, F b → b < w.heap.size) : w'.heap[w.heap.size]? = (w.alloc o).heap[w.heap.size]? :=
  h.block _ (by simp) (fun hf => by have := hF _ hf; omega)

/-- The marks: k, k + 1, .. -/
def marks (k : Int) (n : Nat) : List Int := (List.range n).map fun i : Nat => k + (i : Int)
theorem marks_length (k : Int) (n : Nat) : (marks k n).length = n := by simp [marks]
theorem marks_get (k : Int) {n i : Nat} (h : i < n) : (marks k n)[i]?.getD 0 = k + (i : Int) := by simp [marks, h]
def marksS : Int → List Nat → List (List Int)
  | _, [] => []
  | k, n :: ns => marks k n :: marksS (k + n) ns
def marksP : Int → List Nat → List (Int × List Int)
  | _, [] => []
  | k, n :: ns => (k, marks (k + 1) n) :: marksP (k + 1 + n) ns
theorem marksS_length (ns : List Nat) : ∀ k, (marksS k ns).length = ns.length := by
  induction ns with
  | nil => intro k; rfl
  | cons n ns ih => intro k; simp [marksS, ih]
theorem marksP_length (ns : List Nat) : ∀ k, (marksP k ns).length = ns.length := by
  induction ns with
  | nil => intro k; rfl
  | cons n ns ih => intro k; simp [marksP, ih]
/-- How many values stand in the first j lists. -/
def upto (ns : List Nat) (j : Nat) : Nat := (ns.take j).sum
theorem upto_zero (ns : List Nat) : upto ns 0 = 0 := by simp [upto]
theorem upto_cons (n : Nat) (ns : List Nat) (j : Nat) : upto (n :: ns) (j + 1) = n + upto ns j := by simp [upto]
theorem upto_succ (ns : List Nat) : ∀ j, j < ns.length → upto ns (j + 1) = upto ns j + ns[j]?.getD 0 := by
  induction ns with
  | nil => intro j h; simp at h
  | cons n ns ih =>
    intro j h
    cases j with
    | zero => simp [upto]
    | succ j => rw [upto_cons, upto_cons, ih j (by simpa using h)]; simp; omega
theorem upto_le (ns : List Nat) : ∀ j, upto ns j ≤ ns.sum := by
  induction ns with
  | nil => intro j; simp [upto]
  | cons n ns ih =>
    intro j
    cases j with
    | zero => simp [upto]
    | succ j => rw [upto_cons]; have := ih j; simp; omega
theorem upto_all (ns : List Nat) : upto ns ns.length = ns.sum := by simp [upto]
theorem marksS_get (ns : List Nat) : ∀ k i, i < ns.length → (marksS k ns)[i]?.getD [] = marks (k + (upto ns i : Nat)) (ns[i]?.getD 0) := by
  induction ns with
  | nil => intro k i h; simp at h
  | cons n ns ih =>
    intro k i h
    cases i with
    | zero => simp [marksS, upto]
    | succ i =>
      have := ih (k + n) i (by simpa using h)
      simp only [marksS, List.getElem?_cons_succ, upto_cons]
      rw [this]; congr 1; omega
theorem marksP_get (ns : List Nat) : ∀ k i, i < ns.length → (marksP k ns)[i]?.getD (0, []) = (k + i + (upto ns i : Nat), marks (k + i + (upto ns i : Nat) + 1) (ns[i]?.getD 0)) := by
  induction ns with
  | nil => intro k i h; simp at h
  | cons n ns ih =>
    intro k i h
    cases i with
    | zero => simp [marksP, upto]
    | succ i =>
      have := ih (k + 1 + n) i (by simpa using h)
      simp only [marksP, List.getElem?_cons_succ, upto_cons]
      rw [this, Prod.mk.injEq]
      refine ⟨by omega, ?_⟩
      congr 1; omega


theorem lens_get (zss : List (List Int)) (i : Nat) : (zss.map List.length)[i]?.getD 0 = (zss[i]?.getD []).length := by
  rw [List.getElem?_map]; cases zss[i]? <;> simp
/-- The lengths of the words of puts. -/
def wlens (ps : List (Int × List Int)) : List Nat := ps.map fun p => p.2.length
theorem wlens_get (ps : List (Int × List Int)) (i : Nat) : (wlens ps)[i]?.getD 0 = (ps[i]?.getD (0, [])).2.length := by
  unfold wlens; rw [List.getElem?_map]; cases ps[i]? <;> simp
theorem wlens_length (ps : List (Int × List Int)) : (wlens ps).length = ps.length := by simp [wlens]
/-- How far a disk is marked. -/
def dspan (bs : List (List Int)) (ps : List (Int × List Int)) : Nat := (bs.map List.length).sum + ps.length + (wlens ps).sum

/-- A disk in memory of its own, all of it in blocks of F. -/
def DiskO (w : World) (vB vC : Value) (bs : List (List Int)) (ps : List (Int × List Int)) (F : Nat → Prop) : Prop :=
  ∃ F1 G1 : Nat → Prop, IntsSO w vB bs F1 ∧ PutsO w vC ps G1 ∧ (∀ b, F1 b → ¬ G1 b) ∧ ∀ b, F1 b ∨ G1 b → F b
theorem DiskO.ints {w : World} {vB vC : Value} {bs : List (List Int)} {ps : List (Int × List Int)} {F : Nat → Prop} (h : DiskO w vB vC bs ps F) : IntsS w vB bs := by
  obtain ⟨_, _, h1, _⟩ := h; exact h1.ints
theorem DiskO.puts {w : World} {vB vC : Value} {bs : List (List Int)} {ps : List (Int × List Int)} {F : Nat → Prop} (h : DiskO w vB vC bs ps F) : Puts w vC ps := by
  obtain ⟨_, _, _, h1, _⟩ := h; exact h1.puts
theorem DiskO.keep {w w' : World} {vB vC : Value} {bs : List (List Int)} {ps : List (Int × List Int)} {F : Nat → Prop} (h : DiskO w vB vC bs ps F) (e : ∀ b, F b → b < w.heap.size → w'.heap[b]? = w.heap[b]?) : DiskO w' vB vC bs ps F := by
  obtain ⟨F1, G1, h1, h2, hd, hf⟩ := h
  exact ⟨F1, G1, h1.keep fun b hb => e b (hf b (Or.inl hb)), h2.keep fun b hb => e b (hf b (Or.inr hb)), hd, hf⟩
theorem DiskO.later {w w' : World} {vB vC : Value} {bs : List (List Int)} {ps : List (Int × List Int)} {F : Nat → Prop} (h : DiskO w vB vC bs ps F) (hb : Below w.heap.size w w') : DiskO w' vB vC bs ps F := h.keep fun b _ hlt => hb.block b hlt
theorem DiskO.mono {w : World} {vB vC : Value} {bs : List (List Int)} {ps : List (Int × List Int)} {F G : Nat → Prop} (h : DiskO w vB vC bs ps F) (e : ∀ b, F b → G b) : DiskO w vB vC bs ps G := by
  obtain ⟨F1, G1, h1, h2, hd, hf⟩ := h
  exact ⟨F1, G1, h1, h2, hd, fun b hb => e b (hf b hb)⟩
theorem DiskO.bound {w : World} {vB vC : Value} {bs : List (List Int)} {ps : List (Int × List Int)} {F : Nat → Prop} (h : DiskO w vB vC bs ps F) : DiskO w vB vC bs ps (fun b => F b ∧ b < w.heap.size) := by
  obtain ⟨F1, G1, h1, h2, hd, hf⟩ := h
  exact ⟨_, _, h1.bound, h2.bound, fun b hb hb' => hd b hb.1 hb'.1, fun b hb => hb.elim (fun h => ⟨hf b (Or.inl h.1), h.2⟩) (fun h => ⟨hf b (Or.inr h.1), h.2⟩)⟩
theorem DiskO.chg {w w' : World} {vB vC : Value} {bs : List (List Int)} {ps : List (Int × List Int)} {F G : Nat → Prop} (h : DiskO w vB vC bs ps F) (hc : Chg G w w') (hd : ∀ b, F b → ¬ G b) : DiskO w' vB vC bs ps F := h.keep fun b hb hlt => hc.block b hlt (hd b hb)

/-- Three cells in block b: a code and two lists. -/
def Box3 (w : World) (b : Nat) (c : Int) (x y : Value) : Prop := w.cell? ⟨b, 0, none⟩ = some (.int .i64 c) ∧ w.cell? ⟨b, 1, none⟩ = some x ∧ w.cell? ⟨b, 2, none⟩ = some y
theorem Box3.new (w : World) (c : Int) (x y : Value) (t : TypeId) : Box3 (w.alloc (.cells #[.int .i64 c, x, y] t)) w.heap.size c x y := ⟨by rw [new_cell]; rfl, by rw [new_cell]; rfl, by rw [new_cell]; rfl⟩
theorem Box3.later {w w' : World} {b : Nat} {c : Int} {x y : Value} (h : Box3 w b c x y) (hb : Below w.heap.size w w') : Box3 w' b c x y := ⟨cell_later hb h.1, cell_later hb h.2.1, cell_later hb h.2.2⟩
theorem Box3.lt {w : World} {b : Nat} {c : Int} {x y : Value} (h : Box3 w b c x y) : b < w.heap.size := World.block_lt_of_cell? _ _ h.1
theorem Chg.cell {F : Nat → Prop} {w w' : World} (h : Chg F w w') {a : Addr} (hl : a.block < w.heap.size) (hf : ¬ F a.block) : w'.cell? a = w.cell? a := World.cell?_of_block (w := w) (h.block a.block hl hf)
theorem Box3.chg {w w' : World} {b : Nat} {c : Int} {x y : Value} {F : Nat → Prop} (h : Box3 w b c x y) (hc : Chg F w w') (hf : ¬ F b) : Box3 w' b c x y :=
  ⟨(hc.cell h.lt hf).trans h.1, (hc.cell h.lt hf).trans h.2.1, (hc.cell h.lt hf).trans h.2.2⟩

/-- Two cells in block b: two lists. -/
def Box2 (w : World) (b : Nat) (x y : Value) : Prop := w.cell? ⟨b, 0, none⟩ = some x ∧ w.cell? ⟨b, 1, none⟩ = some y
theorem Box2.new (w : World) (x y : Value) (t : TypeId) : Box2 (w.alloc (.cells #[x, y] t)) w.heap.size x y := ⟨by rw [new_cell]; rfl, by rw [new_cell]; rfl⟩
theorem Box2.later {w w' : World} {b : Nat} {x y : Value} (h : Box2 w b x y) (hb : Below w.heap.size w w') : Box2 w' b x y := ⟨cell_later hb h.1, cell_later hb h.2⟩
theorem Box2.lt {w : World} {b : Nat} {x y : Value} (h : Box2 w b x y) : b < w.heap.size := World.block_lt_of_cell? _ _ h.1

end Go.Proofs.Ytpmndmkmfcoieaa

namespace Go.Proofs.Ytpmndmkmfcoieaa
open Go.RowKit
set_option maxRecDepth 100000

/-- What came between w and w'. -/
def fresh (w w' : World) (b : Nat) : Prop := w.heap.size ≤ b ∧ b < w'.heap.size

/-- The first j lists stand, list i in the blocks from s i up to s (i + 1), none below lo. -/
structure Built (w : World) (lo j : Nat) (u : Nat → Value) (f : Nat → List Int) (s : Nat → Nat) : Prop where
  lo : lo ≤ s 0
  mono : ∀ i, i < j → s i ≤ s (i + 1)
  hi : s j ≤ w.heap.size
  at' : ∀ i, i < j → IntsO w (u i) (f i) (fun b => s i ≤ b ∧ b < s (i + 1))

theorem Built.nil {w : World} {lo : Nat} (u : Nat → Value) (f : Nat → List Int) (h : lo ≤ w.heap.size) : Built w lo 0 u f (fun _ => w.heap.size) :=
  ⟨h, fun i hi => by omega, Nat.le_refl _, fun i hi => by omega⟩
theorem Built.le {w : World} {lo j : Nat} {u : Nat → Value} {f : Nat → List Int} {s : Nat → Nat} (h : Built w lo j u f s) : ∀ i k, i ≤ k → k ≤ j → s i ≤ s k := by
  intro i k hik
  induction k with
  | zero => intro _; have : i = 0 := by omega
            subst this; exact Nat.le_refl _
  | succ k ih =>
    intro hk
    by_cases e : i = k + 1
    · subst e; exact Nat.le_refl _
    · exact Nat.le_trans (ih (by omega) (by omega)) (h.mono k (by omega))
theorem Built.low {w : World} {lo j : Nat} {u : Nat → Value} {f : Nat → List Int} {s : Nat → Nat} (h : Built w lo j u f s) (i : Nat) (hi : i ≤ j) : lo ≤ s i := Nat.le_trans h.lo (h.le 0 i (Nat.zero_le _) hi)
theorem Built.keep {w w' : World} {lo j : Nat} {u : Nat → Value} {f : Nat → List Int} {s : Nat → Nat} (h : Built w lo j u f s) (hs : w.heap.size ≤ w'.heap.size) (e : ∀ b, lo ≤ b → b < w.heap.size → w'.heap[b]? = w.heap[b]?) : Built w' lo j u f s :=
  ⟨h.lo, h.mono, Nat.le_trans h.hi hs, fun i hi => (h.at' i hi).keep fun b hb hlt => e b (Nat.le_trans (h.low i (by omega)) hb.1) hlt⟩
theorem Built.later {w w' : World} {lo j : Nat} {u : Nat → Value} {f : Nat → List Int} {s : Nat → Nat} (h : Built w lo j u f s) (hb : Below w.heap.size w w') : Built w' lo j u f s := h.keep hb.size fun b _ hlt => hb.block b hlt
theorem Built.store {w : World} {lo j : Nat} {u : Nat → Value} {f : Nat → List Int} {s : Nat → Nat} (h : Built w lo j u f s) {p : Addr} (hp : p.block < lo) (v : Value) : Built (w.setCell p v) lo j u f s :=
  h.keep (by simp [World.setCell]) fun b hb _ => Below.heap_setCell _ _ _ _ (by omega)
theorem Built.next {w w' : World} {lo j : Nat} {u : Nat → Value} {f : Nat → List Int} {s : Nat → Nat} {v : Value} (h : Built w lo j u f s) (hb : Below w.heap.size w w') (hv : IntsO w' v (f j) (fresh w w')) :
    Built w' lo (j + 1) (fun i => if i = j then v else u i) f (fun i => if i ≤ j then s i else w'.heap.size) := by
  have h' := h.later hb
  have en : ∀ i : Nat, ¬ i + 1 ≤ i := fun i => by omega
  refine ⟨by simpa using h.lo, fun i hi => ?_, by simp [en], fun i hi => ?_⟩
  · by_cases e : i = j
    · subst e; simp [en]; exact h'.hi
    · simp [show i ≤ j by omega, show i + 1 ≤ j by omega]; exact h.mono i (by omega)
  · by_cases e : i = j
    · subst e
      simp [en]
      exact hv.mono fun b hb => ⟨Nat.le_trans h.hi hb.1, hb.2⟩
    · simp [e, show i ≤ j by omega, show i + 1 ≤ j by omega]
      exact h'.at' i (by omega)
theorem Built.apart {w : World} {lo n : Nat} {u : Nat → Value} {f : Nat → List Int} {s : Nat → Nat} (h : Built w lo n u f s) (i j c : Nat) (e : i ≠ j) (h1 : i < n ∧ s i ≤ c ∧ c < s (i + 1)) (h2 : j < n ∧ s j ≤ c ∧ c < s (j + 1)) : False := by
  rcases Nat.lt_or_gt_of_ne e with h3 | h3
  · have := h.le (i + 1) j (by omega) (by omega); omega
  · have := h.le (j + 1) i (by omega) (by omega); omega
theorem Built.ints {w : World} {lo n b cap : Nat} {u : Nat → Value} {f : Nat → List Int} {s : Nat → Nat} (h : Built w lo n u f s) (zss : List (List Int)) (hn : zss.length = n) (hf : ∀ i, i < n → f i = zss[i]?.getD []) (hm : n ≤ maxLen) (hb : b < lo) (hr : OwnRow w b n u) (F : Nat → Prop) (hF : F b) (hF' : ∀ c, lo ≤ c → c < w.heap.size → F c) :
    IntsSO w (.slice (some ⟨b, 0, none⟩) n cap) zss F := by
  subst hn
  refine Or.inr ⟨b, cap, u, fun i c => i < zss.length ∧ s i ≤ c ∧ c < s (i + 1), hF, fun i c hc => ?_, fun i j c e h1 h2 => h.apart i j c e h1 h2, rfl, hm, hr, fun i hi => ?_⟩
  · have h1 := h.low i (by omega)
    have h2 := h.le (i + 1) zss.length (by omega) (Nat.le_refl _)
    have h3 := h.hi
    exact ⟨hF' c (by omega) (by omega), by omega⟩
  · rw [← hf i hi]
    exact (h.at' i hi).mono fun c hc => ⟨hi, hc⟩
theorem Built.puts {w : World} {lo n b cap : Nat} {u : Nat → Value} {f : Nat → List Int} {s : Nat → Nat} (h : Built w lo n u f s) (ps : List (Int × List Int)) (hn : ps.length = n) (hf : ∀ i, i < n → f i = (ps[i]?.getD (0, [])).2) (hm : n ≤ maxLen) (hb : b < lo) (hr : OwnRow w b (n * 2) (putCell ps u)) (F : Nat → Prop) (hF : F b) (hF' : ∀ c, lo ≤ c → c < w.heap.size → F c) :
    PutsO w (.slice (some ⟨b, 0, none⟩) n cap) ps F := by
  subst hn
  refine Or.inr ⟨b, cap, u, fun i c => i < ps.length ∧ s i ≤ c ∧ c < s (i + 1), hF, fun i c hc => ?_, fun i j c e h1 h2 => h.apart i j c e h1 h2, rfl, hm, hr, fun i hi => ?_⟩
  · have h1 := h.low i (by omega)
    have h2 := h.le (i + 1) ps.length (by omega) (Nat.le_refl _)
    have h3 := h.hi
    exact ⟨hF' c (by omega) (by omega), by omega⟩
  · rw [← hf i hi]
    exact (h.at' i hi).mono fun c hc => ⟨hi, hc⟩

theorem OwnRow.made (w : World) (z : Value) (n : Nat) (t : TypeId) : OwnRow (w.alloc (.cells (madeCells #[z] n) t)) w.heap.size n (fun _ => z) := by
  obtain ⟨c, h1, h2, h3⟩ := World.rowIs_made w z n t
  exact ⟨c, t, h1, by omega, h3⟩
theorem bcell {W w1 : World} (hb : Below W.heap.size W w1) : (∀ b o, b < W.heap.size → w1.cell? ⟨b, o, none⟩ = W.cell? ⟨b, o, none⟩) ∧ (∀ b o, b < W.heap.size → w1.frozen? ⟨b, o, none⟩ = W.frozen? ⟨b, o, none⟩) :=
  ⟨fun b o h => hb.cell (p := ⟨b, o, none⟩) h, fun b o h => hb.frozen (p := ⟨b, o, none⟩) h⟩
theorem later3 (w : World) (o o' o'' : Obj) : Below w.heap.size w (((w.alloc o).alloc o').alloc o'') := (later2 w o o').alloc (by simp; omega) _

/-- 'make' of n pairs. -/
theorem run_make_pair {P : Program} (t e : TypeId) (x y : Value) (bytes : Nat) (ht : P.underlying t = some (.slice e)) (hinfo : (P.info? e).map (fun i => (i.zero, i.size, i.bytes)) = some (some (.agg #[x, y]), 2, bytes)) (hz : (Value.agg #[x, y]).cells = #[x, y])
    (kl kc : IntKind) (n : Nat) (hbytes : bytes * n ≤ 281474976710656) (h63 : n ≤ 9223372036854775807) (w : World) :
    (Instr.makeSlice t (.int kl (n : Int)) (.int kc (n : Int))).run P w = .ok (.slice (some ⟨w.heap.size, 0, none⟩) n n) (w.alloc (.cells (madeCells #[x, y] (n * 2)) e)) := by
  obtain ⟨i, hi, hzz⟩ := Option.map_eq_some_iff.1 hinfo
  simp only [Prod.mk.injEq] at hzz
  obtain ⟨h1, h2, h3⟩ := hzz
  have hb' : (i.bytes : Int) * (n : Int) ≤ 281474976710656 := by
    have h : ((i.bytes * n : Nat) : Int) ≤ 281474976710656 := by rw [h3]; omega
    rwa [Int.natCast_mul] at h
  have hr := run_make (P := P) w t e i _ ht hi h1 kl kc n n (by omega) (Int.le_refl _) hb' (by omega)
  simp only [Int.toNat_natCast, h2, hz] at hr
  exact hr
def pairCell (x y : Value) (j : Nat) : Value := if j % 2 = 0 then x else y
theorem OwnRow.madePair (w : World) (x y : Value) (n : Nat) (t : TypeId) : OwnRow (w.alloc (.cells (madeCells #[x, y] (n * 2)) t)) w.heap.size (n * 2) (pairCell x y) := by
  refine ⟨_, t, Go.Deep.blk_alloc_new _ _, by rw [size_madeCells]; exact Nat.le_refl _, fun i hi => ?_⟩
  unfold madeCells pairCell
  rw [Array.getElem?_map]
  have h1 : (Array.range (n * 2))[i]? = some i := by simp [hi]
  rw [h1]
  rcases Nat.mod_two_eq_zero_or_one i with h | h
  · simp [h]
  · simp [h]

theorem OwnRow.two (w : World) (x y : Value) (t : TypeId) : OwnRow (w.alloc (.cells #[x, y] t)) w.heap.size 2 (fun i => if i = 0 then x else y) := by
  refine ⟨_, t, Go.Deep.blk_alloc_new _ _, by simp, fun i hi => ?_⟩
  have : i = 0 ∨ i = 1 := by omega
  rcases this with rfl | rfl <;> simp
theorem OwnRow.later {w w' : World} {b n : Nat} {f : Nat → Value} (h : OwnRow w b n f) (hb : Below w.heap.size w w') : OwnRow w' b n f := h.block (hb.block b h.lt)

/-- Nothing but new memory has come, and in it an answer. -/
structure DiskNew (w : World) (bs : List (List Int)) (ps : List (Int × List Int)) (vB vC : Value) (w' : World) : Prop where
  below : Below w.heap.size w w'
  disk : DiskO w' vB vC bs ps (fun b => w.heap.size ≤ b ∧ b < w'.heap.size)

/-- An answer that is a disk: its code, its blocks and its cache, in new memory of its own. -/
def AnsDisk (w : World) (code : Int) (bs : List (List Int)) (ps : List (Int × List Int)) (e : Ending) (w' : World) : Prop :=
  ∃ aB nB cB aC nC cC, e = .returned (.agg #[.int .i64 code, .slice aB nB cB, .slice aC nC cC]) ∧ DiskNew w bs ps (.slice aB nB cB) (.slice aC nC cC) w'

theorem ans_bad {w w' : World} (hb : Below w.heap.size w w') (code : Int) : AnsDisk w code [] [] (.returned (.agg #[.int .i64 code, .slice none 0 0, .slice none 0 0])) w' :=
  ⟨none, 0, 0, none, 0, 0, rfl, hb, fun _ => False, fun _ => False, Or.inl ⟨rfl, none, 0, rfl⟩, Or.inl ⟨rfl, none, 0, rfl⟩, fun _ h => h.elim, fun _ h => h.elim False.elim False.elim⟩

end Go.Proofs.Ytpmndmkmfcoieaa

namespace Go.Proofs.Ytpmndmkmfcoieaa

def okW (z : Int) : Bool := decide (0 ≤ z ∧ z ≤ 65535)
def wordsF (ws : List Int) : Int := if 64 < ws.length then 2 else if ws.all okW then 0 else 3
/-- The first code that is not 0. -/
def firstF : List Int → Int
  | [] => 0
  | c :: cs => if c = 0 then firstF cs else c
def placeB (n : Nat) (x : Int) : Bool := decide (0 ≤ x ∧ x < (n : Int))
def putF (n : Nat) (p : Int × List Int) : Int := if placeB n p.1 = true then wordsF p.2 else 3
def faultF (bs : List (List Int)) (ps : List (Int × List Int)) : Int :=
  if 60 < bs.length ∨ 200 < ps.length then 2 else if firstF (bs.map wordsF) = 0 then firstF (ps.map (putF bs.length)) else firstF (bs.map wordsF)

theorem all_ok {ws : List Int} (h : ∀ i : Nat, i < ws.length → okW (ws[i]?.getD 0) = true) : ws.all okW = true := by
  rw [List.all_eq_true]
  intro x hx
  obtain ⟨i, hi, rfl⟩ := List.getElem_of_mem hx
  have := h i hi
  rwa [List.getElem?_eq_getElem hi, Option.getD_some] at this
theorem not_ok {ws : List Int} {i : Nat} (hi : i < ws.length) (h : okW (ws[i]?.getD 0) = false) : ws.all okW = false := by
  rw [List.getElem?_eq_getElem hi, Option.getD_some] at h
  rw [Bool.eq_false_iff]
  intro ha
  rw [List.all_eq_true] at ha
  have := ha _ (List.getElem_mem hi)
  rw [h] at this; cases this
theorem wordsF_many {ws : List Int} (h : 64 < ws.length) : wordsF ws = 2 := by simp [wordsF, h]
theorem wordsF_ok {ws : List Int} (h : ¬ 64 < ws.length) (ha : ∀ i : Nat, i < ws.length → okW (ws[i]?.getD 0) = true) : wordsF ws = 0 := by simp [wordsF, h, all_ok ha]
theorem wordsF_bad {ws : List Int} {i : Nat} (h : ¬ 64 < ws.length) (hi : i < ws.length) (ha : okW (ws[i]?.getD 0) = false) : wordsF ws = 3 := by simp [wordsF, h, not_ok hi ha]
theorem firstF_zero (l : List Int) : (∀ i : Nat, i < l.length → l[i]?.getD 0 = 0) → firstF l = 0 := by
  induction l with
  | nil => intro _; rfl
  | cons c cs ih =>
    intro h
    have h0 : c = 0 := by simpa using h 0 (by simp)
    have : firstF cs = 0 := ih fun i hi => by have := h (i + 1) (by simpa using hi); simpa using this
    simp [firstF, h0, this]
theorem firstF_at (l : List Int) : ∀ j : Nat, j < l.length → (∀ i : Nat, i < j → l[i]?.getD 0 = 0) → ¬ l[j]?.getD 0 = 0 → firstF l = l[j]?.getD 0 := by
  induction l with
  | nil => intro j hj; simp at hj
  | cons c cs ih =>
    intro j hj hz hn
    cases j with
    | zero => simp at hn; simp [firstF, hn]
    | succ j =>
      have h0 : c = 0 := by simpa using hz 0 (by omega)
      have := ih j (by simpa using hj) (fun i hi => by have := hz (i + 1) (by omega); simpa using this) (by simpa using hn)
      simp [firstF, h0, this]
theorem mapW_get (bs : List (List Int)) {i : Nat} (h : i < bs.length) : (bs.map wordsF)[i]?.getD 0 = wordsF (bs[i]?.getD []) := by
  rw [List.getElem?_map, List.getElem?_eq_getElem h]; rfl
theorem mapP_get (n : Nat) (ps : List (Int × List Int)) {i : Nat} (h : i < ps.length) : (ps.map (putF n))[i]?.getD 0 = putF n (ps[i]?.getD (0, [])) := by
  rw [List.getElem?_map, List.getElem?_eq_getElem h]; rfl
theorem faultF_many {bs : List (List Int)} {ps : List (Int × List Int)} (h : 60 < bs.length ∨ 200 < ps.length) : faultF bs ps = 2 := by simp [faultF, h]
theorem faultF_block {bs : List (List Int)} {ps : List (Int × List Int)} {j : Nat} (h : ¬ (60 < bs.length ∨ 200 < ps.length)) (hj : j < bs.length) (hz : ∀ i : Nat, i < j → wordsF (bs[i]?.getD []) = 0) (hn : ¬ wordsF (bs[j]?.getD []) = 0) : faultF bs ps = wordsF (bs[j]?.getD []) := by
  have e := firstF_at (bs.map wordsF) j (by simpa using hj) (fun i hi => by rw [mapW_get bs (by omega)]; exact hz i hi) (by rw [mapW_get bs hj]; exact hn)
  rw [mapW_get bs hj] at e
  simp [faultF, h, e, hn]
theorem faultF_put {bs : List (List Int)} {ps : List (Int × List Int)} {j : Nat} (h : ¬ (60 < bs.length ∨ 200 < ps.length)) (hb : ∀ i : Nat, i < bs.length → wordsF (bs[i]?.getD []) = 0) (hj : j < ps.length) (hz : ∀ i : Nat, i < j → putF bs.length (ps[i]?.getD (0, [])) = 0) (hn : ¬ putF bs.length (ps[j]?.getD (0, [])) = 0) : faultF bs ps = putF bs.length (ps[j]?.getD (0, [])) := by
  have e0 := firstF_zero (bs.map wordsF) (fun i hi => by rw [List.length_map] at hi; rw [mapW_get bs hi]; exact hb i hi)
  have e := firstF_at (ps.map (putF bs.length)) j (by simpa using hj) (fun i hi => by rw [mapP_get _ ps (by omega)]; exact hz i hi) (by rw [mapP_get _ ps hj]; exact hn)
  rw [mapP_get _ ps hj] at e
  simp [faultF, h, e0, e]
theorem faultF_ok {bs : List (List Int)} {ps : List (Int × List Int)} (h : ¬ (60 < bs.length ∨ 200 < ps.length)) (hb : ∀ i : Nat, i < bs.length → wordsF (bs[i]?.getD []) = 0) (hz : ∀ i : Nat, i < ps.length → putF bs.length (ps[i]?.getD (0, [])) = 0) : faultF bs ps = 0 := by
  have e0 := firstF_zero (bs.map wordsF) (fun i hi => by rw [List.length_map] at hi; rw [mapW_get bs hi]; exact hb i hi)
  have e := firstF_zero (ps.map (putF bs.length)) (fun i hi => by rw [List.length_map] at hi; rw [mapP_get _ ps hi]; exact hz i hi)
  simp [faultF, h, e0, e]

/-- The words that stand at place x while only the first k puts are looked at, the last one first. -/
def atK (bs : List (List Int)) (ps : List (Int × List Int)) (x : Int) : Nat → List Int
  | 0 => bs[x.toNat]?.getD []
  | k + 1 => if (ps[k]?.getD (0, [])).1 = x then (ps[k]?.getD (0, [])).2 else atK bs ps x k
def atF (bs : List (List Int)) (ps : List (Int × List Int)) (x : Int) : List Int := atK bs ps x ps.length
theorem atK_hit {bs : List (List Int)} {ps : List (Int × List Int)} {x : Int} {k : Nat} (h : (ps[k]?.getD (0, [])).1 = x) : atK bs ps x (k + 1) = (ps[k]?.getD (0, [])).2 := by simp [atK, h]
theorem atK_miss {bs : List (List Int)} {ps : List (Int × List Int)} {x : Int} {k : Nat} (h : ¬ (ps[k]?.getD (0, [])).1 = x) : atK bs ps x (k + 1) = atK bs ps x k := by simp [atK, h]
/-- The codes of PutBlock and of BlockAt. -/
def placeF (bs : List (List Int)) (ps : List (Int × List Int)) (x : Int) : Int := if faultF bs ps = 0 then (if placeB bs.length x = true then 0 else 3) else faultF bs ps

end Go.Proofs.Ytpmndmkmfcoieaa

namespace Go.Proofs.Ytpmndmkmfcoieaa
open Go.RowKit
set_option maxRecDepth 100000

theorem IntsSO.set {w X : World} {g n cap : Nat} {v : Value} {zs : List Int} {zss : List (List Int)} {F : Nat → Prop} (h : IntsSO w (.slice (some ⟨g, 0, none⟩) n cap) zss F) {x : Nat} (hx : x < zss.length) (hb : Below w.heap.size w X) (hF : ∀ b, F b → b < w.heap.size) (hv : IntsO X v zs (fresh w X)) :
    IntsSO (X.setCell ⟨g, x, none⟩ v) (.slice (some ⟨g, 0, none⟩) n cap) (zss.set x zs) (fun b => F b ∨ fresh w X b) := by
  rcases h with ⟨h, _⟩ | ⟨b, cap', u, G, hFb, hG, hGG, h1, h2, h3, h4⟩
  · subst h; simp at hx
  · simp only [Value.slice.injEq, Option.some.injEq, Addr.mk.injEq, and_true] at h1
    obtain ⟨rfl, rfl, rfl⟩ := h1
    have hgl := h3.lt
    refine Or.inr ⟨g, cap, fun j => if j = x then v else u j, fun i c => (i = x ∧ fresh w X c) ∨ (i ≠ x ∧ G i c), Or.inl hFb, fun i c hc => ?_, fun i j c e h5 h6 => ?_, by simp, by simpa using h2, by simpa using (h3.block (hb.block g hgl)).set x v, fun i hi => ?_⟩
    · rcases hc with ⟨_, hc⟩ | ⟨_, hc⟩
      · exact ⟨Or.inr hc, fun e => by have := hc.1; omega⟩
      · exact ⟨Or.inl (hG i c hc).1, (hG i c hc).2⟩
    · rcases h5 with ⟨e5, h5⟩ | ⟨e5, h5⟩ <;> rcases h6 with ⟨e6, h6⟩ | ⟨e6, h6⟩
      · omega
      · have := h5.1; have := hF c (hG j c h6).1; omega
      · have := h6.1; have := hF c (hG i c h5).1; omega
      · exact hGG i j c e h5 h6
    · simp only [List.length_set] at hi
      by_cases e : i = x
      · subst e
        have h7 : IntsO X v zs (fun c => (i = i ∧ fresh w X c) ∨ (i ≠ i ∧ G i c)) := hv.mono fun c hc => Or.inl ⟨rfl, hc⟩
        show IntsO _ (if i = i then v else u i) _ (fun c => (i = i ∧ fresh w X c) ∨ (i ≠ i ∧ G i c))
        rw [if_pos rfl, List.getElem?_set_self hx, Option.getD_some]
        refine h7.keep fun c hc _ => Below.heap_setCell _ _ _ _ ?_
        rcases hc with ⟨_, hc⟩ | ⟨hc, _⟩
        · show c ≠ g
          have := hc.1; omega
        · exact absurd rfl hc
      · show IntsO _ (if i = x then v else u i) _ (fun c => (i = x ∧ fresh w X c) ∨ (i ≠ x ∧ G i c))
        rw [if_neg e, List.getElem?_set_ne (fun h => e h.symm)]
        have h7 : IntsO w (u i) (zss[i]?.getD []) (fun c => (i = x ∧ fresh w X c) ∨ (i ≠ x ∧ G i c)) := (h4 i hi).mono fun c hc => Or.inr ⟨e, hc⟩
        refine h7.keep fun c hc hlt => ?_
        rcases hc with ⟨hc, _⟩ | ⟨_, hc⟩
        · exact absurd hc e
        · rw [Below.heap_setCell _ _ _ _ (show c ≠ g from (hG i c hc).2), hb.block c hlt]

theorem Box2.store {w : World} {b : Nat} {x y : Value} (h : Box2 w b x y) {p : Addr} (hp : b ≠ p.block) (v : Value) : Box2 (w.setCell p v) b x y :=
  ⟨(World.cell?_of_block (w := w) (a := ⟨b, 0, none⟩) (Below.heap_setCell _ _ _ _ hp)).trans h.1, (World.cell?_of_block (w := w) (a := ⟨b, 1, none⟩) (Below.heap_setCell _ _ _ _ hp)).trans h.2⟩
theorem IntsSO.cell {w : World} {a : Option Addr} {n cap : Nat} {zss : List (List Int)} {F : Nat → Prop} (h : IntsSO w (.slice a n cap) zss F) {x : Nat} (hx : x < zss.length) :
    ∃ g ua un uc, a = some ⟨g, 0, none⟩ ∧ F g ∧ g < w.heap.size ∧ w.cell? ⟨g, x, none⟩ = some (.slice ua un uc) ∧ w.frozen? ⟨g, x, none⟩ = false := by
  rcases h with ⟨h, _⟩ | ⟨b, cap', u, G, hFb, _, _, h1, _, h3, h4⟩
  · subst h; simp at hx
  · simp only [Value.slice.injEq] at h1
    obtain ⟨rfl, rfl, rfl⟩ := h1
    have hu : ∃ ua un uc, u x = .slice ua un uc := by
      rcases h4 x hx with ⟨_, a, c, e⟩ | ⟨_, _, _, e, _⟩
      · exact ⟨_, _, _, e⟩
      · exact ⟨_, _, _, e⟩
    obtain ⟨ua, un, uc, e⟩ := hu
    exact ⟨b, ua, un, uc, rfl, hFb, h3.lt, by rw [h3.cell hx, e], h3.frozen x⟩

/-- The blocks behind the first k puts of those that are picked. -/
def keepTo (pk : Nat → Bool) (bs : List (List Int)) (ps : List (Int × List Int)) : Nat → List (List Int)
  | 0 => bs
  | k + 1 => if pk k then (keepTo pk bs ps k).set (ps[k]?.getD (0, [])).1.toNat (ps[k]?.getD (0, [])).2 else keepTo pk bs ps k
theorem keepTo_length (pk : Nat → Bool) (bs : List (List Int)) (ps : List (Int × List Int)) (k : Nat) : (keepTo pk bs ps k).length = bs.length := by
  induction k with
  | zero => rfl
  | succ k ih => unfold keepTo; split <;> simp [ih]
theorem keepTo_len (pk : Nat → Bool) (bs : List (List Int)) (ps : List (Int × List Int)) {M : Nat} (hz : ∀ k : Nat, (bs[k]?.getD []).length ≤ M) (hzp : ∀ k : Nat, (ps[k]?.getD (0, [])).2.length ≤ M) (k : Nat) : ∀ i : Nat, ((keepTo pk bs ps k)[i]?.getD []).length ≤ M := by
  induction k with
  | zero => exact hz
  | succ k ih =>
    intro i
    unfold keepTo
    split
    · rw [List.getElem?_set]
      split
      · split
        · exact hzp k
        · simp
      · exact ih i
    · exact ih i
theorem keepTo_step {pk : Nat → Bool} {bs : List (List Int)} {ps : List (Int × List Int)} {k : Nat} (h : pk k = true) : keepTo pk bs ps (k + 1) = (keepTo pk bs ps k).set (ps[k]?.getD (0, [])).1.toNat (ps[k]?.getD (0, [])).2 := by simp [keepTo, h]
theorem keepTo_skip {pk : Nat → Bool} {bs : List (List Int)} {ps : List (Int × List Int)} {k : Nat} (h : pk k = false) : keepTo pk bs ps (k + 1) = keepTo pk bs ps k := by simp [keepTo, h]
end Go.Proofs.Ytpmndmkmfcoieaa

/- What the walks of this seat share: how slices of integers, of slices and of puts read in a world. No program is named here. Memory that a call made itself, block by block: which blocks a list lies in, what a store turns, what marks are. No program is named here. The specification's draws: a number. NameFault, the specification's and the program's: what both come to. Texts as lists of bytes: cut at each slash. No program is named here but for slicing. The library's IndexByte, laid from the shelf. The iterator that tells the names of a path: its contract. Ranges over the names of a path: howMany. The marks of texts. Ranges over the names of a path: namesFault. Contracts of the library, laid from the shelf for this program. What of a path is wrong: the walk of the program's pathFault. SplitPath, the program's. -/
import Derived.WalkKit
import Derived.WalkSpells
import Derived.WalkLawsBesides
import Derived.Deep.QuietTactic
import Derived.BigQuiet
import Derived.Deep.OwnRows
import Derived.Test.YtmjdechoookpmaaRows
import Derived.Lib.Bytealg
import Derived.Shelf.Small.Strs
import Derived.Shelf.Strings.Search1
import Derived.RangeFuncNested
import Derived.RangeFuncBound
import Derived.RangeFuncCalls
import Derived.RangeFuncLeaves
import Derived.RangeFuncFrom
import Derived.Shelf.Abstract
import Derived.Shelf.RegionOpen
import Derived.OwnWalkIn
import Derived.TacticsInMore
import Derived.LoopNIn
import Derived.LoopIn
import Derived.Laws.IdiomStrings
import Derived.Scope
import Derived.Shelf.LaysM
import Derived.Shelf.Strconv.Clone
import Derived.Shelf.Strings.Prefix
import Derived.Shelf.Slices.Equal
import Derived.Shelf.Slices.Empties2
import Derived.RangeFuncWrites
import Derived.RangeFuncBox
import Derived.Maps.AppendAt
namespace Go.Proofs.Ytmjdechoookpmaa
open Go.RowKit
set_option maxRecDepth 100000

/-- The slice v reads as the integers zs. -/
def Ints (w : World) (v : Value) (zs : List Int) : Prop :=
  (zs = [] ∧ ∃ a cap, v = .slice a 0 cap) ∨
  (∃ b off cap, v = .slice (some ⟨b, off, none⟩) zs.length cap ∧ zs.length ≤ maxLen ∧ ∀ k, k < zs.length → w.cell? ⟨b, off + k, none⟩ = some (.int .i64 (zs[k]?.getD 0)))

/-- The slice v reads as the lists of integers zss. -/
def IntsS (w : World) (v : Value) (zss : List (List Int)) : Prop :=
  (zss = [] ∧ ∃ a cap, v = .slice a 0 cap) ∨
  (∃ b off cap, ∃ u : Nat → Value, v = .slice (some ⟨b, off, none⟩) zss.length cap ∧ zss.length ≤ maxLen ∧ ∀ k, k < zss.length → w.cell? ⟨b, off + k, none⟩ = some (u k) ∧ Ints w (u k) (zss[k]?.getD []))

/-- The slice v reads as the puts ps. -/
def Puts (w : World) (v : Value) (ps : List (Int × List Int)) : Prop :=
  (ps = [] ∧ ∃ a cap, v = .slice a 0 cap) ∨
  (∃ b off cap, ∃ u : Nat → Value, v = .slice (some ⟨b, off, none⟩) ps.length cap ∧ ps.length ≤ maxLen ∧ ∀ k, k < ps.length →
    w.cell? ⟨b, off + k * 2, none⟩ = some (.int .i64 (ps[k]?.getD (0, [])).1) ∧ w.cell? ⟨b, off + k * 2 + 1, none⟩ = some (u k) ∧ Ints w (u k) (ps[k]?.getD (0, [])).2)

theorem ret_bool {a b : Bool} (h : a = b) : Ending.returned (.bool a) = Ending.returned (.bool b) := by rw [h]
theorem ret_int {k : IntKind} {a b : Int} (h : a = b) : Ending.returned (.int k a) = Ending.returned (.int k b) := by rw [h]

theorem beq_takes {α : Type} [BEq α] [LawfulBEq α] {xs ys : List α} {n k : Nat} (hx : xs.length = n) (hy : ys.length = n) (hk : n ≤ k) (h : xs.take k = ys.take k) : true = (xs == ys) := by
  rw [List.take_of_length_le (by omega), List.take_of_length_le (by omega)] at h
  simp [h]
theorem take_more {α : Type} {xs ys : List α} {n k : Nat} (z : α) (hx : xs.length = n) (hy : ys.length = n) (hk : k < n) (h : xs.take k = ys.take k) (he : xs[k]?.getD z = ys[k]?.getD z) : xs.take (k + 1) = ys.take (k + 1) := by
  have e1 : xs.take (k + 1) = xs.take k ++ [xs[k]] := List.take_succ_eq_append_getElem (by omega)
  have e2 : ys.take (k + 1) = ys.take k ++ [ys[k]] := List.take_succ_eq_append_getElem (by omega)
  rw [List.getElem?_eq_getElem (by omega), List.getElem?_eq_getElem (by omega)] at he
  simp only [Option.getD_some] at he
  rw [e1, e2, h, he]
theorem beq_at {α : Type} [BEq α] [LawfulBEq α] {xs ys : List α} {k : Nat} (z : α) (he : ¬ xs[k]?.getD z = ys[k]?.getD z) : false = (xs == ys) := by
  symm
  rw [Bool.eq_false_iff]; intro h; exact he (by rw [eq_of_beq h])
theorem beq_len {α : Type} [BEq α] [LawfulBEq α] {xs ys : List α} (he : ¬ xs.length = ys.length) : false = (xs == ys) := by
  symm
  rw [Bool.eq_false_iff]; intro h; exact he (by rw [eq_of_beq h])

/-- A callee's contract met inside a region behind earlier draws: the draws add up. -/
theorem quiet_of2 {P : Program} {f : FuncId} {args : Array Value} {w : World} {m x : Nat} {v : Value}
    (h : Calls P f args (w.drewN (m + x)) fun e w' => e = .returned v ∧ ∃ j, w' = (w.drewN (m + x)).drewN j) : Calls P f args (w.drewN (m + x)) fun e w'' => e = .returned v ∧ ∃ n, w'' = w.drewN (m + n) :=
  h.mono fun _ _ ⟨he, j, hj⟩ => ⟨he, x + j, by rw [hj, World.drewN_drewN, Nat.add_assoc]⟩

theorem quiet_same2 {P : Program} {f : FuncId} {args : Array Value} {w : World} {m x : Nat} {v : Value}
    (h : Calls P f args (w.drewN (m + x)) fun e w' => e = .returned v ∧ w' = w.drewN (m + x)) : Calls P f args (w.drewN (m + x)) fun e w'' => e = .returned v ∧ ∃ n, w'' = w.drewN (m + n) :=
  h.mono fun _ _ ⟨he, hj⟩ => ⟨he, x, hj⟩

/-- What reads so reads so behind draws. -/
theorem Ints.drewN {w : World} {v : Value} {zs : List Int} (h : Ints w v zs) (m : Nat) : Ints (w.drewN m) v zs := h
theorem IntsS.drewN {w : World} {v : Value} {zs : List (List Int)} (h : IntsS w v zs) (m : Nat) : IntsS (w.drewN m) v zs := h
theorem Puts.drewN {w : World} {v : Value} {zs : List (Int × List Int)} (h : Puts w v zs) (m : Nat) : Puts (w.drewN m) v zs := h

/-- .. and behind whatever turned nothing that was there. -/
theorem Ints.later {w wx : World} {v : Value} {zs : List Int} (h : Ints w v zs) (hb : Below w.heap.size w wx) : Ints wx v zs := by
  rcases h with h | ⟨b, off, cap, h1, h2, h3⟩
  · exact Or.inl h
  · exact Or.inr ⟨b, off, cap, h1, h2, fun k hk => cell_later hb (h3 k hk)⟩
theorem IntsS.later {w wx : World} {v : Value} {zs : List (List Int)} (h : IntsS w v zs) (hb : Below w.heap.size w wx) : IntsS wx v zs := by
  rcases h with h | ⟨b, off, cap, u, h1, h2, h3⟩
  · exact Or.inl h
  · exact Or.inr ⟨b, off, cap, u, h1, h2, fun k hk => ⟨cell_later hb (h3 k hk).1, (h3 k hk).2.later hb⟩⟩
theorem Puts.later {w wx : World} {v : Value} {zs : List (Int × List Int)} (h : Puts w v zs) (hb : Below w.heap.size w wx) : Puts wx v zs := by
  rcases h with h | ⟨b, off, cap, u, h1, h2, h3⟩
  · exact Or.inl h
  · exact Or.inr ⟨b, off, cap, u, h1, h2, fun k hk => ⟨cell_later hb (h3 k hk).1, cell_later hb (h3 k hk).2.1, (h3 k hk).2.2.later hb⟩⟩
theorem later1 (w : World) (o : Obj) : Below w.heap.size w (w.alloc o) := (Below.refl _ _).alloc (Nat.le_refl _) _
theorem later2 (w : World) (o o' : Obj) : Below w.heap.size w ((w.alloc o).alloc o') := (later1 w o).alloc (by simp) _

theorem Ints.shape {w : World} {v : Value} {zs : List Int} (h : Ints w v zs) : ∃ a cap, v = .slice a zs.length cap ∧ zs.length ≤ maxLen := by
  rcases h with ⟨rfl, a, cap, rfl⟩ | ⟨b, off, cap, rfl, hl, _⟩
  · exact ⟨a, cap, rfl, by simp⟩
  · exact ⟨_, cap, rfl, hl⟩

/-- How an address and cells of a list of integers are known: only where there is an element. -/
def At1 (w : World) (a : Option Addr) (n : Nat) (f : Nat → Value) : Prop := ∀ k, k < n → ∃ b off, a = some ⟨b, off, none⟩ ∧ w.cell? ⟨b, off + k, none⟩ = some (f k)
theorem Ints.open' {w : World} {v : Value} {zs : List Int} (h : Ints w v zs) : ∃ a cap, v = .slice a zs.length cap ∧ zs.length ≤ maxLen ∧ At1 w a zs.length (fun k => .int .i64 (zs[k]?.getD 0)) := by
  rcases h with ⟨rfl, a, cap, rfl⟩ | ⟨b, off, cap, rfl, hl, hc⟩
  · exact ⟨a, cap, rfl, by simp, fun k hk => by simp at hk⟩
  · exact ⟨_, cap, rfl, hl, fun k hk => ⟨b, off, rfl, hc k hk⟩⟩

/-- How a list of lists is known where there is an element. -/
def AtS (w : World) (a : Option Addr) (n : Nat) (zss : List (List Int)) : Prop :=
  ∀ k, k < n → ∃ b off ua ucap, a = some ⟨b, off, none⟩ ∧ w.cell? ⟨b, off + k, none⟩ = some (.slice ua (zss[k]?.getD []).length ucap) ∧ Ints w (.slice ua (zss[k]?.getD []).length ucap) (zss[k]?.getD [])
theorem IntsS.open' {w : World} {v : Value} {zss : List (List Int)} (h : IntsS w v zss) : ∃ a cap, v = .slice a zss.length cap ∧ zss.length ≤ maxLen ∧ AtS w a zss.length zss := by
  rcases h with ⟨rfl, a, cap, rfl⟩ | ⟨b, off, cap, u, rfl, hl, hc⟩
  · exact ⟨a, cap, rfl, by simp, fun k hk => by simp at hk⟩
  · refine ⟨_, cap, rfl, hl, fun k hk => ?_⟩
    obtain ⟨h1, h2⟩ := hc k hk
    obtain ⟨ua, ucap, hu, _⟩ := h2.shape
    rw [hu] at h1 h2
    exact ⟨b, off, ua, ucap, rfl, h1, h2⟩
theorem AtS.later {w w' : World} {a : Option Addr} {n : Nat} {zss : List (List Int)} (h : AtS w a n zss) (hb : Below w.heap.size w w') : AtS w' a n zss := by
  intro k hk
  obtain ⟨b, off, ua, ucap, h1, h2, h3⟩ := h k hk
  exact ⟨b, off, ua, ucap, h1, cell_later hb h2, h3.later hb⟩
/-- How a list of puts is known where there is an element. -/
def AtP (w : World) (a : Option Addr) (n : Nat) (ps : List (Int × List Int)) : Prop :=
  ∀ k, k < n → ∃ b off ua ucap, a = some ⟨b, off, none⟩ ∧ w.cell? ⟨b, off + k * 2, none⟩ = some (.int .i64 (ps[k]?.getD (0, [])).1) ∧ w.cell? ⟨b, off + k * 2 + 1, none⟩ = some (.slice ua (ps[k]?.getD (0, [])).2.length ucap) ∧ Ints w (.slice ua (ps[k]?.getD (0, [])).2.length ucap) (ps[k]?.getD (0, [])).2
theorem Puts.open' {w : World} {v : Value} {ps : List (Int × List Int)} (h : Puts w v ps) : ∃ a cap, v = .slice a ps.length cap ∧ ps.length ≤ maxLen ∧ AtP w a ps.length ps := by
  rcases h with ⟨rfl, a, cap, rfl⟩ | ⟨b, off, cap, u, rfl, hl, hc⟩
  · exact ⟨a, cap, rfl, by simp, fun k hk => by simp at hk⟩
  · refine ⟨_, cap, rfl, hl, fun k hk => ?_⟩
    obtain ⟨h1, h1', h2⟩ := hc k hk
    obtain ⟨ua, ucap, hu, _⟩ := h2.shape
    rw [hu] at h1' h2
    exact ⟨b, off, ua, ucap, rfl, h1, h1', h2⟩
theorem AtP.later {w w' : World} {a : Option Addr} {n : Nat} {ps : List (Int × List Int)} (h : AtP w a n ps) (hb : Below w.heap.size w w') : AtP w' a n ps := by
  intro k hk
  obtain ⟨b, off, ua, ucap, h1, h2, h2', h3⟩ := h k hk
  exact ⟨b, off, ua, ucap, h1, cell_later hb h2, cell_later hb h2', h3.later hb⟩

end Go.Proofs.Ytmjdechoookpmaa

namespace Go.Proofs.Ytmjdechoookpmaa
open Go.RowKit
set_option maxRecDepth 100000

/-- Block b is not frozen, and its first n cells hold f. -/
def OwnRow (w : World) (b n : Nat) (f : Nat → Value) : Prop :=
  ∃ c t, w.heap[b]? = some (.cells c t (0, 0)) ∧ n ≤ c.size ∧ ∀ i, i < n → c[i]? = some (f i)

theorem OwnRow.cell {w : World} {b n : Nat} {f : Nat → Value} (h : OwnRow w b n f) {i : Nat} (hi : i < n) : w.cell? ⟨b, i, none⟩ = some (f i) := by
  obtain ⟨c, t, hb, _, hc⟩ := h
  simp [World.cell?, hb, hc i hi]
theorem OwnRow.frozen {w : World} {b n : Nat} {f : Nat → Value} (h : OwnRow w b n f) (i : Nat) : w.frozen? ⟨b, i, none⟩ = false := by
  obtain ⟨c, t, hb, _, _⟩ := h
  simp [World.frozen?, hb]
theorem OwnRow.lt {w : World} {b n : Nat} {f : Nat → Value} (h : OwnRow w b n f) : b < w.heap.size := by
  obtain ⟨c, t, hb, _, _⟩ := h
  exact (Array.getElem?_eq_some_iff.1 hb).1
theorem OwnRow.congr {w : World} {b n : Nat} {f g : Nat → Value} (h : OwnRow w b n f) (e : ∀ i, i < n → f i = g i) : OwnRow w b n g := by
  obtain ⟨c, t, hb, hn, hc⟩ := h
  exact ⟨c, t, hb, hn, fun i hi => by rw [hc i hi, e i hi]⟩
theorem OwnRow.block {w w' : World} {b n : Nat} {f : Nat → Value} (h : OwnRow w b n f) (e : w'.heap[b]? = w.heap[b]?) : OwnRow w' b n f := by
  obtain ⟨c, t, hb, hn, hc⟩ := h
  exact ⟨c, t, e.trans hb, hn, hc⟩
theorem OwnRow.set {w : World} {b n : Nat} {f : Nat → Value} (h : OwnRow w b n f) (i : Nat) (v : Value) : OwnRow (w.setCell ⟨b, i, none⟩ v) b n (fun j => if j = i then v else f j) := by
  obtain ⟨c, t, hb, hn, hc⟩ := h
  refine ⟨c.setIfInBounds i v, t, ?_, by simpa using hn, fun j hj => ?_⟩
  · simp [World.setCell, Array.getElem?_modify, hb]
  · rw [Array.getElem?_setIfInBounds]
    by_cases e : i = j
    · subst e
      simp [show i < c.size by omega]
    · rw [if_neg e]
      show c[j]? = some (if j = i then v else f j)
      rw [if_neg (fun h : j = i => e h.symm)]
      exact hc j hj

theorem OwnRow.store {w : World} {b n : Nat} {f : Nat → Value} (h : OwnRow w b n f) {p : Addr} (hp : b ≠ p.block) (u : Value) : OwnRow (w.setCell p u) b n f := h.block (Below.heap_setCell _ _ _ _ hp)

/-- From w to w' only blocks of F, and new ones, have turned. -/
structure Chg (F : Nat → Prop) (w w' : World) : Prop where
  os : w'.os = w.os
  tape : w'.tape = w.tape
  output : w'.output = w.output
  size : w.heap.size ≤ w'.heap.size
  block : ∀ b, b < w.heap.size → ¬ F b → w'.heap[b]? = w.heap[b]?
theorem Chg.refl (F : Nat → Prop) (w : World) : Chg F w w := ⟨rfl, rfl, rfl, Nat.le_refl _, fun _ _ _ => rfl⟩
theorem Chg.trans {F : Nat → Prop} {a b c : World} (h : Chg F a b) (k : Chg F b c) : Chg F a c :=
  ⟨k.os.trans h.os, k.tape.trans h.tape, k.output.trans h.output, Nat.le_trans h.size k.size, fun i hi hf => (k.block i (Nat.lt_of_lt_of_le hi h.size) hf).trans (h.block i hi hf)⟩
theorem Chg.mono {F G : Nat → Prop} {w w' : World} (h : Chg F w w') (hFG : ∀ b, F b → G b) : Chg G w w' := ⟨h.os, h.tape, h.output, h.size, fun b hb hg => h.block b hb (fun hf => hg (hFG b hf))⟩
theorem Chg.of_below {F : Nat → Prop} {w w' : World} (h : Below w.heap.size w w') : Chg F w w' := ⟨h.os, h.tape, h.output, h.size, fun b hb _ => h.block b hb⟩
theorem Chg.below {F : Nat → Prop} {w w' : World} {B : Nat} (h : Chg F w w') (hB : B ≤ w.heap.size) (hF : ∀ b, F b → B ≤ b) : Below B w w' :=
  ⟨h.os, h.tape, h.output, h.size, fun b hb => h.block b (by omega) (fun hf => by have := hF b hf; omega)⟩
theorem Chg.set {F : Nat → Prop} {w wr : World} (h : Chg F w wr) {b : Nat} (hF : F b) (i : Nat) (v : Value) : Chg F w (wr.setCell ⟨b, i, none⟩ v) :=
  h.trans ⟨rfl, rfl, rfl, by simp [World.setCell], fun k _ hf => Below.heap_setCell _ _ _ _ (fun e => hf (e ▸ hF))⟩

/-- The slice v holds zs, in one block of F, or is empty. -/
def IntsO (w : World) (v : Value) (zs : List Int) (F : Nat → Prop) : Prop :=
  (zs = [] ∧ ∃ a cap, v = .slice a 0 cap) ∨
  (∃ b cap, F b ∧ v = .slice (some ⟨b, 0, none⟩) zs.length cap ∧ zs.length ≤ maxLen ∧ OwnRow w b zs.length (fun i => .int .i64 (zs[i]?.getD 0)))
theorem IntsO.ints {w : World} {v : Value} {zs : List Int} {F : Nat → Prop} (h : IntsO w v zs F) : Ints w v zs := by
  rcases h with h | ⟨b, cap, _, h1, h2, h3⟩
  · exact Or.inl h
  · exact Or.inr ⟨b, 0, cap, h1, h2, fun k hk => by rw [Nat.zero_add]; exact h3.cell hk⟩
theorem IntsO.keep {w w' : World} {v : Value} {zs : List Int} {F : Nat → Prop} (h : IntsO w v zs F) (e : ∀ b, F b → b < w.heap.size → w'.heap[b]? = w.heap[b]?) : IntsO w' v zs F := by
  rcases h with h | ⟨b, cap, hF, h1, h2, h3⟩
  · exact Or.inl h
  · exact Or.inr ⟨b, cap, hF, h1, h2, h3.block (e b hF h3.lt)⟩
theorem IntsO.mono {w : World} {v : Value} {zs : List Int} {F G : Nat → Prop} (h : IntsO w v zs F) (e : ∀ b, F b → G b) : IntsO w v zs G := by
  rcases h with h | ⟨b, cap, hF, h1⟩
  · exact Or.inl h
  · exact Or.inr ⟨b, cap, e b hF, h1⟩

theorem IntsO.store {w : World} {v : Value} {zs : List Int} {F : Nat → Prop} (h : IntsO w v zs F) {p : Addr} (hp : ∀ b, F b → b ≠ p.block) (x : Value) : IntsO (w.setCell p x) v zs F := h.keep fun b hb _ => Below.heap_setCell _ _ _ _ (hp b hb)

/-- The slice v holds the lists zss; no two of them, nor the outer one, lie in one block. -/
def IntsSO (w : World) (v : Value) (zss : List (List Int)) (F : Nat → Prop) : Prop :=
  (zss = [] ∧ ∃ a cap, v = .slice a 0 cap) ∨
  (∃ b cap, ∃ u : Nat → Value, ∃ G : Nat → Nat → Prop, F b ∧ (∀ i c, G i c → F c ∧ c ≠ b) ∧ (∀ i j c, i ≠ j → G i c → ¬ G j c) ∧
    v = .slice (some ⟨b, 0, none⟩) zss.length cap ∧ zss.length ≤ maxLen ∧ OwnRow w b zss.length u ∧ ∀ i, i < zss.length → IntsO w (u i) (zss[i]?.getD []) (G i))
theorem IntsSO.ints {w : World} {v : Value} {zss : List (List Int)} {F : Nat → Prop} (h : IntsSO w v zss F) : IntsS w v zss := by
  rcases h with h | ⟨b, cap, u, G, _, _, _, h1, h2, h3, h4⟩
  · exact Or.inl h
  · exact Or.inr ⟨b, 0, cap, u, h1, h2, fun k hk => ⟨by rw [Nat.zero_add]; exact h3.cell hk, (h4 k hk).ints⟩⟩
theorem IntsSO.keep {w w' : World} {v : Value} {zss : List (List Int)} {F : Nat → Prop} (h : IntsSO w v zss F) (e : ∀ b, F b → b < w.heap.size → w'.heap[b]? = w.heap[b]?) : IntsSO w' v zss F := by
  rcases h with h | ⟨b, cap, u, G, hF, hG, hGG, h1, h2, h3, h4⟩
  · exact Or.inl h
  · exact Or.inr ⟨b, cap, u, G, hF, hG, hGG, h1, h2, h3.block (e b hF h3.lt), fun i hi => (h4 i hi).keep fun c hc => e c (hG i c hc).1⟩
theorem IntsSO.mono {w : World} {v : Value} {zss : List (List Int)} {F F' : Nat → Prop} (h : IntsSO w v zss F) (e : ∀ b, F b → F' b) : IntsSO w v zss F' := by
  rcases h with h | ⟨b, cap, u, G, hF, hG, h1⟩
  · exact Or.inl h
  · exact Or.inr ⟨b, cap, u, G, e b hF, fun i c hc => ⟨e c (hG i c hc).1, (hG i c hc).2⟩, h1⟩

theorem IntsSO.store {w : World} {v : Value} {zss : List (List Int)} {F : Nat → Prop} (h : IntsSO w v zss F) {p : Addr} (hp : ∀ b, F b → b ≠ p.block) (x : Value) : IntsSO (w.setCell p x) v zss F := h.keep fun b hb _ => Below.heap_setCell _ _ _ _ (hp b hb)

/-- The cells of a row of puts. -/
def putCell (ps : List (Int × List Int)) (u : Nat → Value) (j : Nat) : Value := if j % 2 = 0 then .int .i64 (ps[j / 2]?.getD (0, [])).1 else u (j / 2)
theorem putCell_at (ps : List (Int × List Int)) (u : Nat → Value) (k : Nat) : putCell ps u (k * 2) = .int .i64 (ps[k]?.getD (0, [])).1 := by
  unfold putCell; rw [if_pos (by omega), show k * 2 / 2 = k by omega]
theorem putCell_words (ps : List (Int × List Int)) (u : Nat → Value) (k : Nat) : putCell ps u (k * 2 + 1) = u k := by
  unfold putCell; rw [if_neg (by omega), show (k * 2 + 1) / 2 = k by omega]
/-- The slice v holds the puts ps; no two of their lists, nor the outer one, lie in one block. -/
def PutsO (w : World) (v : Value) (ps : List (Int × List Int)) (F : Nat → Prop) : Prop :=
  (ps = [] ∧ ∃ a cap, v = .slice a 0 cap) ∨
  (∃ b cap, ∃ u : Nat → Value, ∃ G : Nat → Nat → Prop, F b ∧ (∀ i c, G i c → F c ∧ c ≠ b) ∧ (∀ i j c, i ≠ j → G i c → ¬ G j c) ∧
    v = .slice (some ⟨b, 0, none⟩) ps.length cap ∧ ps.length ≤ maxLen ∧ OwnRow w b (ps.length * 2) (putCell ps u) ∧ ∀ i, i < ps.length → IntsO w (u i) (ps[i]?.getD (0, [])).2 (G i))
theorem PutsO.puts {w : World} {v : Value} {ps : List (Int × List Int)} {F : Nat → Prop} (h : PutsO w v ps F) : Puts w v ps := by
  rcases h with h | ⟨b, cap, u, G, _, _, _, h1, h2, h3, h4⟩
  · exact Or.inl h
  · refine Or.inr ⟨b, 0, cap, u, h1, h2, fun k hk => ⟨?_, ?_, (h4 k hk).ints⟩⟩
    · rw [Nat.zero_add, h3.cell (by omega), putCell_at]
    · rw [Nat.zero_add, h3.cell (by omega), putCell_words]
theorem PutsO.keep {w w' : World} {v : Value} {ps : List (Int × List Int)} {F : Nat → Prop} (h : PutsO w v ps F) (e : ∀ b, F b → b < w.heap.size → w'.heap[b]? = w.heap[b]?) : PutsO w' v ps F := by
  rcases h with h | ⟨b, cap, u, G, hF, hG, hGG, h1, h2, h3, h4⟩
  · exact Or.inl h
  · exact Or.inr ⟨b, cap, u, G, hF, hG, hGG, h1, h2, h3.block (e b hF h3.lt), fun i hi => (h4 i hi).keep fun c hc => e c (hG i c hc).1⟩
theorem PutsO.mono {w : World} {v : Value} {ps : List (Int × List Int)} {F F' : Nat → Prop} (h : PutsO w v ps F) (e : ∀ b, F b → F' b) : PutsO w v ps F' := by
  rcases h with h | ⟨b, cap, u, G, hF, hG, h1⟩
  · exact Or.inl h
  · exact Or.inr ⟨b, cap, u, G, e b hF, fun i c hc => ⟨e c (hG i c hc).1, (hG i c hc).2⟩, h1⟩

theorem PutsO.store {w : World} {v : Value} {ps : List (Int × List Int)} {F : Nat → Prop} (h : PutsO w v ps F) {p : Addr} (hp : ∀ b, F b → b ≠ p.block) (x : Value) : PutsO (w.setCell p x) v ps F := h.keep fun b hb _ => Below.heap_setCell _ _ _ _ (hp b hb)
theorem IntsO.bound {w : World} {v : Value} {zs : List Int} {F : Nat → Prop} (h : IntsO w v zs F) : IntsO w v zs (fun b => F b ∧ b < w.heap.size) := by
  rcases h with h | ⟨b, cap, hF, h1, h2, h3⟩
  · exact Or.inl h
  · exact Or.inr ⟨b, cap, ⟨hF, h3.lt⟩, h1, h2, h3⟩
theorem IntsSO.bound {w : World} {v : Value} {zss : List (List Int)} {F : Nat → Prop} (h : IntsSO w v zss F) : IntsSO w v zss (fun b => F b ∧ b < w.heap.size) := by
  rcases h with h | ⟨b, cap, u, G, hF, hG, hGG, h1, h2, h3, h4⟩
  · exact Or.inl h
  · exact Or.inr ⟨b, cap, u, fun i c => G i c ∧ c < w.heap.size, ⟨hF, h3.lt⟩, fun i c hc => ⟨⟨(hG i c hc.1).1, hc.2⟩, (hG i c hc.1).2⟩, fun i j c e hc hc' => hGG i j c e hc.1 hc'.1, h1, h2, h3, fun i hi => (h4 i hi).bound⟩
theorem PutsO.bound {w : World} {v : Value} {ps : List (Int × List Int)} {F : Nat → Prop} (h : PutsO w v ps F) : PutsO w v ps (fun b => F b ∧ b < w.heap.size) := by
  rcases h with h | ⟨b, cap, u, G, hF, hG, hGG, h1, h2, h3, h4⟩
  · exact Or.inl h
  · exact Or.inr ⟨b, cap, u, fun i c => G i c ∧ c < w.heap.size, ⟨hF, h3.lt⟩, fun i c hc => ⟨⟨(hG i c hc.1).1, hc.2⟩, (hG i c hc.1).2⟩, fun i j c e hc hc' => hGG i j c e hc.1 hc'.1, h1, h2, h3, fun i hi => (h4 i hi).bound⟩
theorem new_cell (w : World) (c : Array Value) (t : TypeId) (i : Nat) : (w.alloc (.cells c t)).cell? ⟨w.heap.size, i, none⟩ = c[i]? := by
  have h : (w.alloc (.cells c t)).heap[w.heap.size]? = some (.cells c t) := Go.Deep.blk_alloc_new _ _
  simp only [World.cell?, h]
  rfl
theorem box_later {w w' : World} {F : Nat → Prop} {o : Obj} (h : Chg F (w.alloc o) w') (hF : ∀ b, F b → b < w.heap.size) : w'.heap[w.heap.size]? = (w.alloc o).heap[w.heap.size]? :=
  h.block _ (by simp) (fun hf => by have := hF _ hf; omega)

/-- The marks: k, k + 1, .. -/
def marks (k : Int) (n : Nat) : List Int := (List.range n).map fun i : Nat => k + (i : Int)
theorem marks_length (k : Int) (n : Nat) : (marks k n).length = n := by simp [marks]
theorem marks_get (k : Int) {n i : Nat} (h : i < n) : (marks k n)[i]?.getD 0 = k + (i : Int) := by simp [marks, h]
def marksS : Int → List Nat → List (List Int)
  | _, [] => []
  | k, n :: ns => marks k n :: marksS (k + n) ns
def marksP : Int → List Nat → List (Int × List Int)
  | _, [] => []
  | k, n :: ns => (k, marks (k + 1) n) :: marksP (k + 1 + n) ns
theorem marksS_length (ns : List Nat) : ∀ k, (marksS k ns).length = ns.length := by
  induction ns with
  | nil => intro k; rfl
  | cons n ns ih => intro k; simp [marksS, ih]
theorem marksP_length (ns : List Nat) : ∀ k, (marksP k ns).length = ns.length := by
  induction ns with
  | nil => intro k; rfl
  | cons n ns ih => intro k; simp [marksP, ih]
/-- How many values stand in the first j lists. -/
def upto (ns : List Nat) (j : Nat) : Nat := (ns.take j).sum
theorem upto_zero (ns : List Nat) : upto ns 0 = 0 := by simp [upto]
theorem upto_cons (n : Nat) (ns : List Nat) (j : Nat) : upto (n :: ns) (j + 1) = n + upto ns j := by simp [upto]
theorem upto_succ (ns : List Nat) : ∀ j, j < ns.length → upto ns (j + 1) = upto ns j + ns[j]?.getD 0 := by
  induction ns with
  | nil => intro j h; simp at h
  | cons n ns ih =>
    intro j h
    cases j with
    | zero => simp [upto]
    | succ j => rw [upto_cons, upto_cons, ih j (by simpa using h)]; simp; omega
theorem upto_le (ns : List Nat) : ∀ j, upto ns j ≤ ns.sum := by
  induction ns with
  | nil => intro j; simp [upto]
  | cons n ns ih =>
    intro j
    cases j with
    | zero => simp [upto]
    | succ j => rw [upto_cons]; have := ih j; simp; omega
theorem upto_all (ns : List Nat) : upto ns ns.length = ns.sum := by simp [upto]
theorem marksS_get (ns : List Nat) : ∀ k i, i < ns.length → (marksS k ns)[i]?.getD [] = marks (k + (upto ns i : Nat)) (ns[i]?.getD 0) := by
  induction ns with
  | nil => intro k i h; simp at h
  | cons n ns ih =>
    intro k i h
    cases i with
    | zero => simp [marksS, upto]
    | succ i =>
      have := ih (k + n) i (by simpa using h)
      simp only [marksS, List.getElem?_cons_succ, upto_cons]
      rw [this]; congr 1; omega
theorem marksP_get (ns : List Nat) : ∀ k i, i < ns.length → (marksP k ns)[i]?.getD (0, []) = (k + i + (upto ns i : Nat), marks (k + i + (upto ns i : Nat) + 1) (ns[i]?.getD 0)) := by
  induction ns with
  | nil => intro k i h; simp at h
  | cons n ns ih =>
    intro k i h
    cases i with
    | zero => simp [marksP, upto]
    | succ i =>
      have := ih (k + 1 + n) i (by simpa using h)
      simp only [marksP, List.getElem?_cons_succ, upto_cons]
      rw [this, Prod.mk.injEq]
      refine ⟨by omega, ?_⟩
      congr 1; omega


theorem lens_get (zss : List (List Int)) (i : Nat) : (zss.map List.length)[i]?.getD 0 = (zss[i]?.getD []).length := by
  rw [List.getElem?_map]; cases zss[i]? <;> simp
/-- The lengths of the words of puts. -/
def wlens (ps : List (Int × List Int)) : List Nat := ps.map fun p => p.2.length
theorem wlens_get (ps : List (Int × List Int)) (i : Nat) : (wlens ps)[i]?.getD 0 = (ps[i]?.getD (0, [])).2.length := by
  unfold wlens; rw [List.getElem?_map]; cases ps[i]? <;> simp
theorem wlens_length (ps : List (Int × List Int)) : (wlens ps).length = ps.length := by simp [wlens]
/-- How far a disk is marked. -/
def dspan (bs : List (List Int)) (ps : List (Int × List Int)) : Nat := (bs.map List.length).sum + ps.length + (wlens ps).sum

/-- A disk in memory of its own, all of it in blocks of F. -/
def DiskO (w : World) (vB vC : Value) (bs : List (List Int)) (ps : List (Int × List Int)) (F : Nat → Prop) : Prop :=
  ∃ F1 G1 : Nat → Prop, IntsSO w vB bs F1 ∧ PutsO w vC ps G1 ∧ (∀ b, F1 b → ¬ G1 b) ∧ ∀ b, F1 b ∨ G1 b → F b
theorem DiskO.ints {w : World} {vB vC : Value} {bs : List (List Int)} {ps : List (Int × List Int)} {F : Nat → Prop} (h : DiskO w vB vC bs ps F) : IntsS w vB bs := by
  obtain ⟨_, _, h1, _⟩ := h; exact h1.ints
theorem DiskO.puts {w : World} {vB vC : Value} {bs : List (List Int)} {ps : List (Int × List Int)} {F : Nat → Prop} (h : DiskO w vB vC bs ps F) : Puts w vC ps := by
  obtain ⟨_, _, _, h1, _⟩ := h; exact h1.puts
theorem DiskO.keep {w w' : World} {vB vC : Value} {bs : List (List Int)} {ps : List (Int × List Int)} {F : Nat → Prop} (h : DiskO w vB vC bs ps F) (e : ∀ b, F b → b < w.heap.size → w'.heap[b]? = w.heap[b]?) : DiskO w' vB vC bs ps F := by
  obtain ⟨F1, G1, h1, h2, hd, hf⟩ := h
  exact ⟨F1, G1, h1.keep fun b hb => e b (hf b (Or.inl hb)), h2.keep fun b hb => e b (hf b (Or.inr hb)), hd, hf⟩
theorem DiskO.later {w w' : World} {vB vC : Value} {bs : List (List Int)} {ps : List (Int × List Int)} {F : Nat → Prop} (h : DiskO w vB vC bs ps F) (hb : Below w.heap.size w w') : DiskO w' vB vC bs ps F := h.keep fun b _ hlt => hb.block b hlt
theorem DiskO.mono {w : World} {vB vC : Value} {bs : List (List Int)} {ps : List (Int × List Int)} {F G : Nat → Prop} (h : DiskO w vB vC bs ps F) (e : ∀ b, F b → G b) : DiskO w vB vC bs ps G := by
  obtain ⟨F1, G1, h1, h2, hd, hf⟩ := h
  exact ⟨F1, G1, h1, h2, hd, fun b hb => e b (hf b hb)⟩
theorem DiskO.bound {w : World} {vB vC : Value} {bs : List (List Int)} {ps : List (Int × List Int)} {F : Nat → Prop} (h : DiskO w vB vC bs ps F) : DiskO w vB vC bs ps (fun b => F b ∧ b < w.heap.size) := by
  obtain ⟨F1, G1, h1, h2, hd, hf⟩ := h
  exact ⟨_, _, h1.bound, h2.bound, fun b hb hb' => hd b hb.1 hb'.1, fun b hb => hb.elim (fun h => ⟨hf b (Or.inl h.1), h.2⟩) (fun h => ⟨hf b (Or.inr h.1), h.2⟩)⟩
theorem DiskO.chg {w w' : World} {vB vC : Value} {bs : List (List Int)} {ps : List (Int × List Int)} {F G : Nat → Prop} (h : DiskO w vB vC bs ps F) (hc : Chg G w w') (hd : ∀ b, F b → ¬ G b) : DiskO w' vB vC bs ps F := h.keep fun b hb hlt => hc.block b hlt (hd b hb)

/-- Three cells in block b: a code and two lists. -/
def Box3 (w : World) (b : Nat) (c : Int) (x y : Value) : Prop := w.cell? ⟨b, 0, none⟩ = some (.int .i64 c) ∧ w.cell? ⟨b, 1, none⟩ = some x ∧ w.cell? ⟨b, 2, none⟩ = some y
theorem Box3.new (w : World) (c : Int) (x y : Value) (t : TypeId) : Box3 (w.alloc (.cells #[.int .i64 c, x, y] t)) w.heap.size c x y := ⟨by rw [new_cell]; rfl, by rw [new_cell]; rfl, by rw [new_cell]; rfl⟩
theorem Box3.later {w w' : World} {b : Nat} {c : Int} {x y : Value} (h : Box3 w b c x y) (hb : Below w.heap.size w w') : Box3 w' b c x y := ⟨cell_later hb h.1, cell_later hb h.2.1, cell_later hb h.2.2⟩
theorem Box3.lt {w : World} {b : Nat} {c : Int} {x y : Value} (h : Box3 w b c x y) : b < w.heap.size := World.block_lt_of_cell? _ _ h.1
theorem Chg.cell {F : Nat → Prop} {w w' : World} (h : Chg F w w') {a : Addr} (hl : a.block < w.heap.size) (hf : ¬ F a.block) : w'.cell? a = w.cell? a := World.cell?_of_block (w := w) (h.block a.block hl hf)
theorem Box3.chg {w w' : World} {b : Nat} {c : Int} {x y : Value} {F : Nat → Prop} (h : Box3 w b c x y) (hc : Chg F w w') (hf : ¬ F b) : Box3 w' b c x y :=
  ⟨(hc.cell h.lt hf).trans h.1, (hc.cell h.lt hf).trans h.2.1, (hc.cell h.lt hf).trans h.2.2⟩

/-- Two cells in block b: two lists. -/
def Box2 (w : World) (b : Nat) (x y : Value) : Prop := w.cell? ⟨b, 0, none⟩ = some x ∧ w.cell? ⟨b, 1, none⟩ = some y
theorem Box2.new (w : World) (x y : Value) (t : TypeId) : Box2 (w.alloc (.cells #[x, y] t)) w.heap.size x y := ⟨by rw [new_cell]; rfl, by rw [new_cell]; rfl⟩
theorem Box2.later {w w' : World} {b : Nat} {x y : Value} (h : Box2 w b x y) (hb : Below w.heap.size w w') : Box2 w' b x y := ⟨cell_later hb h.1, cell_later hb h.2⟩
theorem Box2.lt {w : World} {b : Nat} {x y : Value} (h : Box2 w b x y) : b < w.heap.size := World.block_lt_of_cell? _ _ h.1

end Go.Proofs.Ytmjdechoookpmaa

namespace Go.Proofs.Ytmjdechoookpmaa
open Go.RowKit
set_option maxRecDepth 100000

/-- Bytes that can be read. -/
def AtB (w : World) (a : Option Addr) (n : Nat) : Prop := ∀ k, k < n → ∃ b off, a = some ⟨b, off, none⟩ ∧ ∃ z : Nat, z < 256 ∧ w.cell? ⟨b, off + k, none⟩ = some (.int .u8 (z : Int))
theorem AtB.later {w w' : World} {a : Option Addr} {n : Nat} (h : AtB w a n) (hb : Below w.heap.size w w') : AtB w' a n := fun k hk => by
  obtain ⟨b, off, e, z, hz, hc⟩ := h k hk
  exact ⟨b, off, e, z, hz, cell_later hb hc⟩
/-- A source of draws in block sb. -/
def Src (w : World) (sb : Nat) (a : Option Addr) (n c at' : Nat) : Prop := OwnRow w sb 2 (fun i => if i = 0 then .slice a n c else .int .i64 (at' : Int))
def stepW (w : World) (sb at' : Nat) : World := w.setCell ⟨sb, 1, none⟩ (.int .i64 ((at' : Int) + 1))
theorem Src.step {w : World} {sb : Nat} {a : Option Addr} {n c at' : Nat} (h : Src w sb a n c at') : Src (stepW w sb at') sb a n c (at' + 1) := by
  refine (OwnRow.set h 1 (.int .i64 ((at' : Int) + 1))).congr fun i hi => ?_
  have : i = 0 ∨ i = 1 := by omega
  rcases this with rfl | rfl <;> simp

set_option maxHeartbeats 3200000 in
theorem l1Next_none (w : World) (sb : Nat) (a : Option Addr) (c at' k : Nat) (hs : Src w sb a 0 c at') (hat : at' ≤ 1000000) (hk0 : 1 ≤ k) (hk : k ≤ 200) :
    Calls Try.prog 33 #[.pointer (some ⟨sb, 0, none⟩), .int .i64 (k : Int)] w fun e w' => ∃ r : Nat, e = .returned (.int .i64 (r : Int)) ∧ r < k ∧ ∃ m, w' = (stepW w sb at').drewN m := by
  have HST : Hid (w.setCell ⟨sb, 1, none⟩ (.int .i64 ((at' : Int) + 1)) = stepW w sb at') := rfl
  have c0 := hs.cell (i := 0) (by omega)
  have c1 := hs.cell (i := 1) (by omega)
  have f1 := hs.frozen 1
  simp at c0 c1
  have hk1 : decide ((k : Int) < 1) = false := by simp; omega
  have hk2 : ((k : Int) == 0) = false := by simp; omega
  go_enter Try.func33, Try.ntmps33
  go_wp2
  go_ret
  have h0 : (0 : Int) ≤ (at' : Int) * 7 % (k : Int) := Int.emod_nonneg _ (by omega)
  have h1 : (at' : Int) * 7 % (k : Int) < (k : Int) := Int.emod_lt_of_pos _ (by omega)
  exact ⟨((at' : Int) * 7 % (k : Int)).toNat, ret_int (by omega), by omega, 0, rfl⟩

set_option maxHeartbeats 6400000 in
theorem l1Next_some (w : World) (sb : Nat) (a : Option Addr) (n c at' k : Nat) (hs : Src w sb a n c at') (hn : n ≤ 1048576) (hn0 : 0 < n) (hb : AtB w a n) (hne : ∀ b off, a = some ⟨b, off, none⟩ → b ≠ sb) (hat : at' ≤ 1000000) (hk0 : 1 ≤ k) (hk : k ≤ 200) :
    Calls Try.prog 33 #[.pointer (some ⟨sb, 0, none⟩), .int .i64 (k : Int)] w fun e w' => ∃ r : Nat, e = .returned (.int .i64 (r : Int)) ∧ r < k ∧ ∃ m, w' = (stepW w sb at').drewN m := by
  have c0 := hs.cell (i := 0) (by omega)
  have c1 := hs.cell (i := 1) (by omega)
  have f1 := hs.frozen 1
  simp at c0 c1
  have hq : at' % n < n := Nat.mod_lt _ hn0
  have hd : at' / n ≤ at' := Nat.div_le_self _ _
  have hmod : (at' : Int) % (n : Int) = ((at' % n : Nat) : Int) := by omega
  have hdiv : (at' : Int) / (n : Int) = ((at' / n : Nat) : Int) := by omega
  generalize at' % n = q at *
  generalize at' / n = d at *
  obtain ⟨b, off, rfl, z, hz, hc⟩ := hb q hq
  have hbs : b ≠ sb := hne b off rfl
  have hk1 : decide ((k : Int) < 1) = false := by simp; omega
  have hk2 : ((k : Int) == 0) = false := by simp; omega
  have hn1 : ((n : Int) == 0) = false := by simp; omega
  have hn2 : (n : Int) ≠ 0 := by omega
  have hk3 : decide ((200 : Int) < (k : Int)) = false := by simp; omega
  have d0 : (w.setCell ⟨sb, 1, none⟩ (.int .i64 ((at' : Int) + 1))).cell? ⟨sb, 0, none⟩ = some (.slice (some ⟨b, off, none⟩) n c) := by
    have := hs.step.cell (i := 0) (by omega)
    simpa [stepW] using this
  have dc : (w.setCell ⟨sb, 1, none⟩ (.int .i64 ((at' : Int) + 1))).cell? ⟨b, off + q, none⟩ = some (.int .u8 (z : Int)) := by
    rw [World.cell?_of_block (Below.heap_setCell _ _ _ _ hbs)]; exact hc
  clear hb hne hs hc
  go_enter Try.func33, Try.ntmps33
  go_wp2_with fail
  go_quiet (fail)
  go_wp2
  go_ret
  have h0 : (0 : Int) ≤ ((z : Int) + (d : Int) * 37) % (k : Int) := Int.emod_nonneg _ (by omega)
  have h1 : ((z : Int) + (d : Int) * 37) % (k : Int) < (k : Int) := Int.emod_lt_of_pos _ (by omega)
  exact ⟨(((z : Int) + (d : Int) * 37) % (k : Int)).toNat, ret_int (by omega), by omega, nq, rfl⟩

/-- One draw. -/
theorem l1Next_any (w : World) (sb : Nat) (a : Option Addr) (n c at' k : Nat) (hs : Src w sb a n c at') (hn : n ≤ 1048576) (hb : AtB w a n) (hne : ∀ b off, a = some ⟨b, off, none⟩ → b ≠ sb) (hat : at' ≤ 1000000) (hk0 : 1 ≤ k) (hk : k ≤ 200) :
    Calls Try.prog 33 #[.pointer (some ⟨sb, 0, none⟩), .int .i64 (k : Int)] w fun e w' => ∃ r : Nat, e = .returned (.int .i64 (r : Int)) ∧ r < k ∧ ∃ m, w' = (stepW w sb at').drewN m := by
  by_cases h0 : n = 0
  · subst h0; exact l1Next_none w sb a c at' k hs hat hk0 hk
  · exact l1Next_some w sb a n c at' k hs hn (by omega) hb hne hat hk0 hk
end Go.Proofs.Ytmjdechoookpmaa

namespace Go.Proofs.Ytmjdechoookpmaa
open Go.RowKit
set_option maxRecDepth 100000

def byB (c : UInt8) : Bool := decide (97 ≤ (c.toNat : Int)) && decide ((c.toNat : Int) ≤ 122)
def nameF (s : ByteArray) : Int := if s.size = 0 then 5 else if s.data.toList.all byB = true then (if 4 < s.size then 2 else 0) else 5
theorem nameF_bad {s : ByteArray} {k : Nat} (h : k < s.size) (hb : byB s[k] = false) : nameF s = 5 := by
  unfold nameF
  split
  · rfl
  · rw [if_neg]
    intro ha
    rw [List.all_eq_true] at ha
    have := ha s[k] (by
      have : s[k] = s.data.toList[k]'(by simpa using h) := rfl
      rw [this]; exact List.getElem_mem _)
    rw [hb] at this
    exact absurd this (by simp)
theorem nameF_good {s : ByteArray} (ha : ∀ j (h : j < s.size), byB s[j] = true) : nameF s = if s.size = 0 then 5 else if 4 < s.size then 2 else 0 := by
  unfold nameF
  rw [if_pos (c := s.data.toList.all byB = true)]
  rw [List.all_eq_true]
  intro c hc
  obtain ⟨k, hk, rfl⟩ := List.mem_iff_getElem.1 hc
  exact ha k (by simpa using hk)

theorem toList_size (s : ByteArray) : s.toList.length = s.size := by rw [ByteArray.toList_eq]; rfl
theorem emp_no {s : ByteArray} (h : ¬ s.size = 0) : s.toList.isEmpty = false := by
  cases hs : s.toList with
  | nil => have := toList_size s; rw [hs] at this; exact absurd this.symm h
  | cons a t => rfl
theorem emp_yes {s : ByteArray} (h : s.size = 0) : s.toList.isEmpty = true := by
  cases hs : s.toList with
  | nil => rfl
  | cons a t => have := toList_size s; rw [hs, h] at this; simp at this

end Go.Proofs.Ytmjdechoookpmaa

namespace Go.Proofs.Ytmjdechoookpmaa
open Go.RowKit
set_option maxRecDepth 100000

def mkB (l : List UInt8) : ByteArray := ⟨l.toArray⟩
theorem mkB_data (s : ByteArray) : mkB s.data.toList = s := by cases s; simp [mkB]
theorem mkB_list (l : List UInt8) : (mkB l).data.toList = l := by simp [mkB]
theorem mkB_size (l : List UInt8) : (mkB l).size = l.length := by simp [mkB, ByteArray.size]
theorem mkB_inj {l m : List UInt8} (h : mkB l = mkB m) : l = m := by rw [← mkB_list l, h, mkB_list]
def cutHead (b : UInt8) : List (List UInt8) → List (List UInt8)
  | [] => [[b]]
  | p :: ps => (b :: p) :: ps
/-- A text cut at each slash. -/
def cutB : List UInt8 → List (List UInt8)
  | [] => [[]]
  | b :: l => if b = 47 then [] :: cutB l else cutHead b (cutB l)
def takeTo (l : List UInt8) : List UInt8 := l.takeWhile (· != 47)
def dropTo (l : List UInt8) : List UInt8 := l.dropWhile (· != 47)
/-- What stands behind each slash, the first sign being one. -/
def restN : List UInt8 → List (List UInt8)
  | [] => []
  | _ :: t => cutB t
theorem cut_step (t : List UInt8) : cutB t = takeTo t :: restN (dropTo t) := by
  induction t with
  | nil => rfl
  | cons b l ih =>
    unfold cutB takeTo dropTo
    by_cases h : b = 47
    · rw [if_pos h, List.takeWhile_cons, List.dropWhile_cons, if_neg (by simp [h]), if_neg (by simp [h])]
      rfl
    · rw [if_neg h, ih, List.takeWhile_cons, List.dropWhile_cons, if_pos (by simpa using h), if_pos (by simpa using h)]
      rfl
theorem idx_cases (t : List UInt8) : (Lib.indexByte t 47 = -1 ∧ takeTo t = t ∧ dropTo t = []) ∨ ∃ o : Nat, Lib.indexByte t 47 = (o : Int) ∧ o < t.length ∧ takeTo t = t.take o ∧ dropTo t = t.drop o := by
  induction t with
  | nil => exact Or.inl ⟨rfl, rfl, rfl⟩
  | cons b l ih =>
    unfold Lib.indexByte takeTo dropTo
    by_cases h : b = 47
    · exact Or.inr ⟨0, by simp [h], by simp, by simp [h], by simp [h]⟩
    · have hb : (b == 47) = false := by simpa using h
      rcases ih with ⟨h1, h2, h3⟩ | ⟨o, h1, h2, h3, h4⟩
      · refine Or.inl ⟨by simp [hb, h1], ?_, ?_⟩
        · rw [List.takeWhile_cons, if_pos (by simpa using h)]; unfold takeTo at h2; rw [h2]
        · rw [List.dropWhile_cons, if_pos (by simpa using h)]; unfold dropTo at h3; rw [h3]
      · refine Or.inr ⟨o + 1, ?_, by simp; omega, ?_, ?_⟩
        · have : (Lib.indexByte l 47 == -1) = false := by rw [h1]; simp
          simp [hb, h1]
        · rw [List.takeWhile_cons, if_pos (by simpa using h)]; unfold takeTo at h3; rw [h3]; rfl
        · rw [List.dropWhile_cons, if_pos (by simpa using h)]; unfold dropTo at h4; rw [h4]; rfl
theorem restN_cons (b : UInt8) (t : List UInt8) : restN (b :: t) = takeTo t :: restN (dropTo t) := cut_step t
theorem dropTo_le (t : List UInt8) : (dropTo t).length ≤ t.length := by unfold dropTo; exact (List.dropWhile_sublist _).length_le
theorem takeTo_le (t : List UInt8) : (takeTo t).length ≤ t.length := by unfold takeTo; exact (List.takeWhile_sublist _).length_le
/-- The names that a path tells. -/
def namesL (l : List UInt8) : List (List UInt8) := if l = [47] then [] else restN l

theorem run_from (l : List UInt8) (k : Nat) (hk : k ≤ l.length) (W : World) : (Instr.slice 9 (.string (mkB l)) (some (.int .i64 (k : Int))) none none).run Try.prog W = .ok (.string (mkB (l.drop k))) W := by
  have hs := mkB_size l
  have he : (mkB l).extract k (mkB l).size = mkB (l.drop k) := by
    have h : ((mkB l).extract k (mkB l).size).data.toList = l.drop k := by
      simp only [mkB, ByteArray.size, ByteArray.data_extract, Array.toList_extract, List.size_toArray, List.extract_eq_take_drop]
      exact List.take_of_length_le (by simp)
    rw [← mkB_data ((mkB l).extract k (mkB l).size), h]
  simp [Instr.slice, Instr.sliceBounds, Instr.sliceBound, asIntOf, run_underlying Try.underlying9, hs, hk]
  rw [← hs]
  exact he
theorem run_upto (l : List UInt8) (k : Nat) (hk : k ≤ l.length) (W : World) : (Instr.slice 9 (.string (mkB l)) none (some (.int .i64 (k : Int))) none).run Try.prog W = .ok (.string (mkB (l.take k))) W := by
  have hs := mkB_size l
  have he : (mkB l).extract 0 k = mkB (l.take k) := by
    have h : ((mkB l).extract 0 k).data.toList = l.take k := by simp [mkB]
    rw [← mkB_data ((mkB l).extract 0 k), h]
  simp [Instr.slice, Instr.sliceBounds, Instr.sliceBound, asIntOf, run_underlying Try.underlying9, hs, hk]
  exact he
end Go.Proofs.Ytmjdechoookpmaa

namespace Go.Proofs.Ytmjdechoookpmaa
open Go.RowKit Go.Shelf
set_option maxRecDepth 100000
attribute [local go_sem] Oper.semAt_some

/-- A text that is no longer than a row takes. -/
abbrev BL := { l : List UInt8 // l.length ≤ 1048576 }
/-- A name as it is told. -/
abbrev encB (x : BL) : Array Value := #[.string (mkB x.1)]
abbrev txt (pre : List BL) : List (List UInt8) := pre.map (·.1)
theorem mkB_toList (l : List UInt8) : (mkB l).toList = l := by rw [ByteArray.toList_eq, mkB_list]
def strLen : Value → Nat
  | .string s => s.size
  | _ => 0

end Go.Proofs.Ytmjdechoookpmaa

namespace Go.Proofs.Ytmjdechoookpmaa
open Go.RowKit Go.Shelf
set_option maxRecDepth 100000
attribute [local go_sem] Oper.semAt_some

theorem cutHead_len (b : UInt8) (ps : List (List UInt8)) (h : ps ≠ []) : (cutHead b ps).length = ps.length := by
  cases ps with
  | nil => exact absurd rfl h
  | cons a t => rfl
theorem cutB_ne (l : List UInt8) : cutB l ≠ [] := by rw [cut_step]; simp
theorem cutB_len (l : List UInt8) : (cutB l).length ≤ l.length + 1 := by
  induction l with
  | nil => simp [cutB]
  | cons b t ih =>
    unfold cutB
    split
    · simp only [List.length_cons]; omega
    · rw [cutHead_len b _ (cutB_ne t)]; simp only [List.length_cons]; omega
theorem namesL_len (l : List UInt8) : (namesL l).length ≤ l.length + 1 := by
  unfold namesL
  split
  · simp
  · cases l with
    | nil => simp [restN]
    | cons b t => have := cutB_len t; simp only [restN, List.length_cons]; omega
theorem cell_new_l (W : World) (v : Value) (t : TypeId) : (W.alloc (.cells #[v] t)).cell? ⟨W.heap.size, 0, none⟩ = some v ∧ (W.alloc (.cells #[v] t)).frozen? ⟨W.heap.size, 0, none⟩ = false := by
  have h : (W.alloc (.cells #[v] t)).heap[W.heap.size]? = some (.cells #[v] t (0, 0)) := World.alloc_heap_new W _
  constructor
  · simp only [World.cell?, h]; rfl
  · simp only [World.frozen?, h]; rfl

end Go.Proofs.Ytmjdechoookpmaa

namespace Go.Proofs.Ytmjdechoookpmaa
open Go.RowKit
set_option maxRecDepth 100000

/-- The digits of a number ahead of what stands. -/
def dg (k : Nat) (acc : List UInt8) : List UInt8 := if h : k = 0 then acc else dg (k / 10) (UInt8.ofNat (48 + k % 10) :: acc)
termination_by k
decreasing_by omega

theorem mkB_app (a b : List UInt8) : mkB a ++ mkB b = mkB (a ++ b) := by
  have h : (mkB a ++ mkB b).data.toList = a ++ b := by simp [mkB]
  rw [← mkB_data (mkB a ++ mkB b), h]
theorem conv_one (w : World) (j : Nat) :
    (convert 22 9 (.slice (some ⟨w.heap.size, 0, none⟩) 1 1)).run Try.prog (w.alloc (.cells #[.int .u8 (48 + (j : Int) % 10)] 5)) = .ok (.string (mkB [UInt8.ofNat (48 + j % 10)])) (w.alloc (.cells #[.int .u8 (48 + (j : Int) % 10)] 5)) := by
  refine run_convert_bytes_back _ 22 9 5 ⟨w.heap.size, 0, none⟩ 1 [UInt8.ofNat (48 + j % 10)] Try.underlying22 Try.underlying5 Try.underlying9 (fun i hi => ?_)
  have hi0 : i = 0 := by simpa using hi
  subst hi0
  have h1 : (UInt8.ofNat (48 + j % 10)).toNat = 48 + j % 10 := by rw [UInt8.toNat_ofNat']; omega
  show (w.alloc (.cells #[.int .u8 (48 + (j : Int) % 10)] 5)).cell? ⟨w.heap.size, 0, none⟩ = some (.int .u8 ((UInt8.ofNat (48 + j % 10)).toNat : Int))
  rw [h1, (cell_new_l w _ _).1]
  congr 2

end Go.Proofs.Ytmjdechoookpmaa

namespace Go.Proofs.Ytmjdechoookpmaa
open Go.RowKit Go.Shelf
set_option maxRecDepth 100000
attribute [local go_sem] Oper.semAt_some

/-- The fault of the first name that has one. -/
def namesF : List (List UInt8) → Int
  | [] => 0
  | x :: t => if nameF (mkB x) = 0 then namesF t else nameF (mkB x)
theorem nameF_cases (s : ByteArray) : nameF s = 0 ∨ nameF s = 2 ∨ nameF s = 5 := by
  unfold nameF
  split
  · simp
  · split
    · split <;> simp
    · simp
theorem namesF_app (a b : List (List UInt8)) : namesF (a ++ b) = if namesF a = 0 then namesF b else namesF a := by
  induction a with
  | nil => simp [namesF]
  | cons x t ih =>
    simp only [List.cons_append, namesF]
    split
    · exact ih
    · rfl
theorem namesF_snoc {a : List (List UInt8)} (x : List UInt8) (h : namesF a = 0) : namesF (a ++ [x]) = nameF (mkB x) := by
  rw [namesF_app, if_pos h]
  simp only [namesF]
  split
  · rename_i h; exact h.symm
  · rfl
theorem namesF_prefix {a b : List (List UInt8)} (h : a <+: b) (hn : ¬ namesF a = 0) : namesF b = namesF a := by
  obtain ⟨t, rfl⟩ := h
  rw [namesF_app, if_neg hn]

end Go.Proofs.Ytmjdechoookpmaa

namespace Go.Proofs.Ytmjdechoookpmaa
open Go.RowKit
set_option maxRecDepth 100000

def preB (l : List UInt8) : Bool := l.head? == some 47
def sufB (l : List UInt8) : Bool := l.getLast? == some 47
def topB (l : List UInt8) : Bool := l == [47]
theorem pre_lib (l : List UInt8) : Lib.hasPrefix l [47] = preB l := by
  cases l with
  | nil => rfl
  | cons b t => simp [Lib.hasPrefix, preB, List.isPrefixOf]; exact BEq.comm
theorem suf_lib (l : List UInt8) : Lib.hasSuffix l [47] = sufB l := by
  unfold Lib.hasSuffix sufB
  cases h : l.reverse with
  | nil =>
    have : l = [] := by simpa using h
    subst this; rfl
  | cons b t =>
    have : l = t.reverse ++ [b] := by
      have := congrArg List.reverse h
      simpa using this
    subst this
    simp [List.isSuffixOf, List.isPrefixOf]; exact BEq.comm
def pathF (l : List UInt8) : Int :=
  if 30 < l.length then 2 else if preB l = true then (if sufB l = true ∧ topB l = false then 5 else if 6 < (namesL l).length then 2 else namesF (namesL l)) else 5

end Go.Proofs.Ytmjdechoookpmaa

namespace Go.Proofs.Ytmjdechoookpmaa
open Go.RowKit Go.Shelf
set_option maxRecDepth 100000
attribute [local go_sem] Oper.semAt_some

theorem Try.infoStr : (Try.prog.info? 9).map (fun i => (i.zero, i.size, i.bytes)) = some (some (.string ⟨#[]⟩), 1, 16) := by kernel_rfl
/-- The cells of a list of texts. -/
def strV (l : List UInt8) : Value := .string (mkB l)
/-- The names that SplitPath answers. -/
def splitL (l : List UInt8) : List (List UInt8) := if pathF l = 0 then namesL l else []

theorem ownsRow_later {B : Nat} {e : TypeId} {k : Nat} {v : Value} {n : Nat} {xs : List Value} {w w' : World} (h : w.ownsRow B e k v n xs) (hb : Below w.heap.size w w') : w'.ownsRow B e k v n xs :=
  h.kept (row := none) ⟨hb.os, hb.tape, hb.output, hb.size, fun j hj _ => hb.block j hj⟩ (by cases hv : v.ownBlock <;> simp)
theorem ownsRow_shape {w : World} {B : Nat} {e : TypeId} {k : Nat} {v : Value} {n : Nat} {xs : List Value} (h : w.ownsRow B e k v n xs) : ∃ a c, v = .slice a n c := by
  rcases h.2 with ⟨rfl, rfl⟩ | ⟨g, cap, cur, rfl, _⟩
  · exact ⟨_, _, rfl⟩
  · exact ⟨_, _, rfl⟩
theorem ownsRow_base {w : World} {B B' : Nat} {e : TypeId} {k : Nat} {v : Value} {n : Nat} {xs : List Value} (h : w.ownsRow B e k v n xs) (hb : B' ≤ B) : w.ownsRow B' e k v n xs := by
  obtain ⟨hl, h | ⟨g, cap, cur, h1, h2, r⟩⟩ := h
  · exact ⟨hl, Or.inl h⟩
  · exact ⟨hl, Or.inr ⟨g, cap, cur, h1, Nat.le_trans hb h2, r⟩⟩
theorem ownsRow_store {w : World} {B : Nat} {e : TypeId} {k : Nat} {v : Value} {n : Nat} {xs : List Value} (h : w.ownsRow B e k v n xs) {p : Addr} (hp : p.block < B) (u : Value) : (w.setCell p u).ownsRow B e k v n xs := by
  obtain ⟨hl, h | ⟨g, cap, cur, h1, h2, h3, r⟩⟩ := h
  · exact ⟨hl, Or.inl h⟩
  · exact ⟨hl, Or.inr ⟨g, cap, cur, h1, h2, (Below.heap_setCell _ _ _ _ (by omega)).trans h3, r⟩⟩
theorem keeps_later {w w' : World} (hb : Below w.heap.size w w') : KeepsOthers w w' := ⟨hb.size, fun j _ hj _ => (hb.block j (Array.getElem?_eq_some_iff.1 hj).1).trans hj⟩
theorem OwnRow.newS (w : World) (x y : Value) (t : TypeId) : OwnRow (w.alloc (.cells #[x, y] t)) w.heap.size 2 (fun i => if i = 0 then x else y) := by
  refine ⟨_, t, World.alloc_heap_new w _, by simp, fun i hi => ?_⟩
  have : i = 0 ∨ i = 1 := by omega
  rcases this with rfl | rfl <;> simp

/-- What a builtin append is known to come to, inside a region of a round that draws its order. -/
theorem stepIn_append_run {F : Fence} {n : Nat} {P : Program} {w : World} {ops : Array Oper} {o : Oper} {a : Act} {K : Act → World → Prop} {Q : Exit → Act → World → Prop} {E : Prop} (hgd : o.guard = none) (s x : Operand) (t : TypeId)
    (hop : o.op = .call { callee := .builtin .append, args := #[s, x], argTypes := #[t, t] }) (v y : Value) (hs : a.eval s = v) (hx : a.eval x = y) (v' : Value) (w' : World)
    (hr : (Builtin.append_ #[t, t] o.type #[v, y]).run P w = .ok v' w') (h : K (a.put o.dst v') w') : if Region.wanted o (yielded ops a.tmps) = true then Oper.wpIn F n P o a w K Q else E := by
  have hw : Region.wanted o (yielded ops a.tmps) = true := by simp [Region.wanted, hgd]
  rw [if_pos hw]
  unfold Oper.wpIn
  refine ⟨?_, ?_⟩
  · simp [Oper.about, hop, resolve, Target.leads, Sem.run_pure]
  · rw [Oper.semAt_plain F _ _ (by rw [hop]; intro c hc'; cases hc')]
    simp [execOp, hop, resolve, invoke, builtin, hs, hx, hr, Result.andThen]
    exact h

end Go.Proofs.Ytmjdechoookpmaa

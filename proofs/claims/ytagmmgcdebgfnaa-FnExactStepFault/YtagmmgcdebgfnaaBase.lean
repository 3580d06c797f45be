
/- What the walks of this seat share: how slices of integers, of slices and of puts read in a world. No program is named here. -/
import Derived.WalkKit
import Derived.WalkSpells
import Derived.WalkLawsBesides
import Derived.Deep.QuietTactic
import Derived.BigQuiet
namespace Go.Proofs.Ytagmmgcdebgfnaa
open Go.RowKit
set_option maxRecDepth 100000

/-- The slice v reads as the integers zs. -/
def Ints (w : World) (v : Value) (zs : List Int) : Prop :=
  (zs = [] ∧ ∃ a cap, v = .slice a 0 cap) ∨
  (∃ b off cap, v = .slice (some ⟨b, off, none⟩) zs.length cap ∧ zs.length ≤ maxLen ∧ ∀ k, k < zs.length → w.cell? ⟨b, off + k, none⟩ = some (.int .i64 (zs[k]?.getD 0)))

/-- The slice v reads as the lists of integers zss. -/
def IntsS (w : World) (v : Value) (zss : List (List Int)) : Prop :=
  (zss = [] ∧ ∃ a cap, v = .slice a 0 cap) ∨
  (∃ b off cap, ∃ u : Nat → Value, v = .slice (some ⟨b, off, none⟩) zss.length cap ∧ zss.length ≤ maxLen ∧ ∀ k, k < zss.length → w.cell? ⟨b, off + k, none⟩ = some (u k) ∧ Ints w (u k) (zss[k]?.getD []))

/-- The slice v reads as the puts ps. -/
def Puts (w : World) (v : Value) (ps : List (Int × List Int)) : Prop :=
  (ps = [] ∧ ∃ a cap, v = .slice a 0 cap) ∨
  (∃ b off cap, ∃ u : Nat → Value, v = .slice (some ⟨b, off, none⟩) ps.length cap ∧ ps.length ≤ maxLen ∧ ∀ k, k < ps.length →
    w.cell? ⟨b, off + k * 2, none⟩ = some (.int .i64 (ps[k]?.getD (0, [])).1) ∧ w.cell? ⟨b, off + k * 2 + 1, none⟩ = some (u k) ∧ Ints w (u k) (ps[k]?.getD (0, [])).2)

theorem ret_bool {a b : Bool} (h : a = b) : Ending.returned (.bool a) = Ending.returned (.bool b) := by rw [h]
theorem ret_int {k : IntKind} {a b : Int} (h : a = b) : Ending.returned (.int k a) = Ending.returned (.int k b) := by rw [h]

theorem beq_takes {α : Type} [BEq α] [LawfulBEq α] {xs ys : List α} {n k : Nat} (hx : xs.length = n) (hy : ys.length = n) (hk : n ≤ k) (h : xs.take k = ys.take k) : true = (xs == ys) := by
  rw [List.take_of_length_le (by omega), List.take_of_length_le (by omega)] at h
  simp [h]
theorem take_more {α : Type} {xs ys : List α} {n k : Nat} (z : α) (hx : xs.length = n) (hy : ys.length = n) (hk : k < n) (h : xs.take k = ys.take k) (he : xs[k]?.getD z = ys[k]?.getD z) : xs.take (k + 1) = ys.take (k + 1) := by
  have e1 : xs.take (k + 1) = xs.take k ++ [xs[k]] := List.take_succ_eq_append_getElem (by omega)
  have e2 : ys.take (k + 1) = ys.take k ++ [ys[k]] := List.take_succ_eq_append_getElem (by omega)
  rw [List.getElem?_eq_getElem (by omega), List.getElem?_eq_getElem (by omega)] at he
  simp only [Option.getD_some] at he
  rw [e1, e2, h, he]
theorem beq_at {α : Type} [BEq α] [LawfulBEq α] {xs ys : List α} {k : Nat} (z : α) (he : ¬ xs[k]?.getD z = ys[k]?.getD z) : false = (xs == ys) := by
  symm
  rw [Bool.eq_false_iff]; intro h; exact he (by rw [eq_of_beq h])
theorem beq_len {α : Type} [BEq α] [LawfulBEq α] {xs ys : List α} (he : ¬ xs.length = ys.length) : false = (xs == ys) := by
  symm
  rw [Bool.eq_false_iff]; intro h; exact he (by rw [eq_of_beq h])

/-- A callee's contract met inside a region behind earlier draws: the draws add up. -/
theorem quiet_of2 {P : Program} {f : FuncId} {args : Array Value} {w : World} {m x : Nat} {v : Value}
    (h : Calls P f args (w.drewN (m + x)) fun e w' => e = .returned v ∧ ∃ j, w' = (w.drewN (m + x)).drewN j) : Calls P f args (w.drewN (m + x)) fun e w'' => e = .returned v ∧ ∃ n, w'' = w.drewN (m + n) :=
  h.mono fun _ _ ⟨he, j, hj⟩ => ⟨he, x + j, by rw [hj, World.drewN_drewN, Nat.add_assoc]⟩

theorem quiet_same2 {P : Program} {f : FuncId} {args : Array Value} {w : World} {m x : Nat} {v : Value}
    (h : Calls P f args (w.drewN (m + x)) fun e w' => e = .returned v ∧ w' = w.drewN (m + x)) : Calls P f args (w.drewN (m + x)) fun e w'' => e = .returned v ∧ ∃ n, w'' = w.drewN (m + n) :=
  h.mono fun _ _ ⟨he, hj⟩ => ⟨he, x, hj⟩

/-- What reads so reads so behind draws. -/
theorem Ints.drewN {w : World} {v : Value} {zs : List Int} (h : Ints w v zs) (m : Nat) : Ints (w.drewN m) v zs := h
theorem IntsS.drewN {w : World} {v : Value} {zs : List (List Int)} (h : IntsS w v zs) (m : Nat) : IntsS (w.drewN m) v zs := h
theorem Puts.drewN {w : World} {v : Value} {zs : List (Int × List Int)} (h : Puts w v zs) (m : Nat) : Puts (w.drewN m) v zs := h

/-- .. and behind whatever turned nothing that was there. -/
theorem Ints.later {w wx : World} {v : Value} {zs : List Int} (h : Ints w v zs) (hb : Below w.heap.size w wx) : Ints wx v zs := by
  rcases h with h | ⟨b, off, cap, h1, h2, h3⟩
  · exact Or.inl h
  · exact Or.inr ⟨b, off, cap, h1, h2, fun k hk => cell_later hb (h3 k hk)⟩
theorem IntsS.later {w wx : World} {v : Value} {zs : List (List Int)} (h : IntsS w v zs) (hb : Below w.heap.size w wx) : IntsS wx v zs := by
  rcases h with h | ⟨b, off, cap, u, h1, h2, h3⟩
  · exact Or.inl h
  · exact Or.inr ⟨b, off, cap, u, h1, h2, fun k hk => ⟨cell_later hb (h3 k hk).1, (h3 k hk).2.later hb⟩⟩
theorem Puts.later {w wx : World} {v : Value} {zs : List (Int × List Int)} (h : Puts w v zs) (hb : Below w.heap.size w wx) : Puts wx v zs := by
  rcases h with h | ⟨b, off, cap, u, h1, h2, h3⟩
  · exact Or.inl h
  · exact Or.inr ⟨b, off, cap, u, h1, h2, fun k hk => ⟨cell_later hb (h3 k hk).1, cell_later hb (h3 k hk).2.1, (h3 k hk).2.2.later hb⟩⟩
theorem later1 (w : World) (o : Obj) : Below w.heap.size w (w.alloc o) := (Below.refl _ _).alloc (Nat.le_refl _) _
theorem later2 (w : World) (o o' : Obj) : Below w.heap.size w ((w.alloc o).alloc o') := (later1 w o).alloc (by simp) _

theorem Ints.shape {w : World} {v : Value} {zs : List Int} (h : Ints w v zs) : ∃ a cap, v = .slice a zs.length cap ∧ zs.length ≤ maxLen := by
  rcases h with ⟨rfl, a, cap, rfl⟩ | ⟨b, off, cap, rfl, hl, _⟩
  · exact ⟨a, cap, rfl, by simp⟩
  · exact ⟨_, cap, rfl, hl⟩

/-- How an address and cells of a list of integers are known: only where there is an element. -/
def At1 (w : World) (a : Option Addr) (n : Nat) (f : Nat → Value) : Prop := ∀ k, k < n → ∃ b off, a = some ⟨b, off, none⟩ ∧ w.cell? ⟨b, off + k, none⟩ = some (f k)
theorem Ints.open' {w : World} {v : Value} {zs : List Int} (h : Ints w v zs) : ∃ a cap, v = .slice a zs.length cap ∧ zs.length ≤ maxLen ∧ At1 w a zs.length (fun k => .int .i64 (zs[k]?.getD 0)) := by
  rcases h with ⟨rfl, a, cap, rfl⟩ | ⟨b, off, cap, rfl, hl, hc⟩
  · exact ⟨a, cap, rfl, by simp, fun k hk => by simp at hk⟩
  · exact ⟨_, cap, rfl, hl, fun k hk => ⟨b, off, rfl, hc k hk⟩⟩

/-- How a list of lists is known where there is an element. -/
def AtS (w : World) (a : Option Addr) (n : Nat) (zss : List (List Int)) : Prop :=
  ∀ k, k < n → ∃ b off ua ucap, a = some ⟨b, off, none⟩ ∧ w.cell? ⟨b, off + k, none⟩ = some (.slice ua (zss[k]?.getD []).length ucap) ∧ Ints w (.slice ua (zss[k]?.getD []).length ucap) (zss[k]?.getD [])
theorem IntsS.open' {w : World} {v : Value} {zss : List (List Int)} (h : IntsS w v zss) : ∃ a cap, v = .slice a zss.length cap ∧ zss.length ≤ maxLen ∧ AtS w a zss.length zss := by
  rcases h with ⟨rfl, a, cap, rfl⟩ | ⟨b, off, cap, u, rfl, hl, hc⟩
  · exact ⟨a, cap, rfl, by simp, fun k hk => by simp at hk⟩
  · refine ⟨_, cap, rfl, hl, fun k hk => ?_⟩
    obtain ⟨h1, h2⟩ := hc k hk
    obtain ⟨ua, ucap, hu, _⟩ := h2.shape
    rw [hu] at h1 h2
    exact ⟨b, off, ua, ucap, rfl, h1, h2⟩
theorem AtS.later {w w' : World} {a : Option Addr} {n : Nat} {zss : List (List Int)} (h : AtS w a n zss) (hb : Below w.heap.size w w') : AtS w' a n zss := by
  intro k hk
  obtain ⟨b, off, ua, ucap, h1, h2, h3⟩ := h k hk
  exact ⟨b, off, ua, ucap, h1, cell_later hb h2, h3.later hb⟩
/-- How a list of puts is known where there is an element. -/
def AtP (w : World) (a : Option Addr) (n : Nat) (ps : List (Int × List Int)) : Prop :=
  ∀ k, k < n → ∃ b off ua ucap, a = some ⟨b, off, none⟩ ∧ w.cell? ⟨b, off + k * 2, none⟩ = some (.int .i64 (ps[k]?.getD (0, [])).1) ∧ w.cell? ⟨b, off + k * 2 + 1, none⟩ = some (.slice ua (ps[k]?.getD (0, [])).2.length ucap) ∧ Ints w (.slice ua (ps[k]?.getD (0, [])).2.length ucap) (ps[k]?.getD (0, [])).2
theorem Puts.open' {w : World} {v : Value} {ps : List (Int × List Int)} (h : Puts w v ps) : ∃ a cap, v = .slice a ps.length cap ∧ ps.length ≤ maxLen ∧ AtP w a ps.length ps := by
  rcases h with ⟨rfl, a, cap, rfl⟩ | ⟨b, off, cap, u, rfl, hl, hc⟩
  · exact ⟨a, cap, rfl, by simp, fun k hk => by simp at hk⟩
  · refine ⟨_, cap, rfl, hl, fun k hk => ?_⟩
    obtain ⟨h1, h1', h2⟩ := hc k hk
    obtain ⟨ua, ucap, hu, _⟩ := h2.shape
    rw [hu] at h1' h2
    exact ⟨b, off, ua, ucap, rfl, h1, h1', h2⟩
theorem AtP.later {w w' : World} {a : Option Addr} {n : Nat} {ps : List (Int × List Int)} (h : AtP w a n ps) (hb : Below w.heap.size w w') : AtP w' a n ps := by
  intro k hk
  obtain ⟨b, off, ua, ucap, h1, h2, h2', h3⟩ := h k hk
  exact ⟨b, off, ua, ucap, h1, cell_later hb h2, cell_later hb h2', h3.later hb⟩

end Go.Proofs.Ytagmmgcdebgfnaa

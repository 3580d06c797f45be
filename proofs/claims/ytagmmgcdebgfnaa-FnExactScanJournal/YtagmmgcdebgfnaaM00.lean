/- What the walks of this seat share: how slices of integers, of slices and of puts read in a world. No program is named here. The walks of the comparing functions over slices of integers and of slices. The walks of the comparing functions over puts and disks. Memory that a call made itself, block by block: which blocks a list lies in, what a store turns, what marks are. No program is named here. The walks of the marking and holding functions over slices. -/
import Derived.WalkKit
import Derived.WalkSpells
import Derived.WalkLawsBesides
import Derived.Deep.QuietTactic
import Derived.BigQuiet
import Derived.Test.YtagmmgcdebgfnaaRows
import Derived.Deep.RegionWith
import Derived.Deep.RegionHeld3
import Derived.Deep.OwnRows
namespace Go.Proofs.Ytagmmgcdebgfnaa
open Go.RowKit
set_option maxRecDepth 100000

/-- The slice v reads as the integers zs. -/
def Ints (w : World) (v : Value) (zs : List Int) : Prop :=
  (zs = [] ∧ ∃ a cap, v = .slice a 0 cap) ∨
  (∃ b off cap, v = .slice (some ⟨b, off, none⟩) zs.length cap ∧ zs.length ≤ maxLen ∧ ∀ k, k < zs.length → w.cell? ⟨b, off + k, none⟩ = some (.int .i64 (zs[k]?.getD 0)))

/-- The slice v reads as the lists of integers zss. -/
def IntsS (w : World) (v : Value) (zss : List (List Int)) : Prop :=
  (zss = [] ∧ ∃ a cap, v = .slice a 0 cap) ∨
  (∃ b off cap, ∃ u : Nat → Value, v = .slice (some ⟨b, off, none⟩) zss.length cap ∧ zss.length ≤ maxLen ∧ ∀ k, k < zss.length → w.cell? ⟨b, off + k, none⟩ = some (u k) ∧ Ints w (u k) (zss[k]?.getD []))

/-- The slice v reads as the puts ps. -/
def Puts (w : World) (v : Value) (ps : List (Int × List Int)) : Prop :=
  (ps = [] ∧ ∃ a cap, v = .slice a 0 cap) ∨
  (∃ b off cap, ∃ u : Nat → Value, v = .slice (some ⟨b, off, none⟩) ps.length cap ∧ ps.length ≤ maxLen ∧ ∀ k, k < ps.length →
    w.cell? ⟨b, off + k * 2, none⟩ = some (.int .i64 (ps[k]?.getD (0, [])).1) ∧ w.cell? ⟨b, off + k * 2 + 1, none⟩ = some (u k) ∧ Ints w (u k) (ps[k]?.getD (0, [])).2)

theorem ret_bool {a b : Bool} (h : a = b) : Ending.returned (.bool a) = Ending.returned (.bool b) := by rw [h]
theorem ret_int {k : IntKind} {a b : Int} (h : a = b) : Ending.returned (.int k a) = Ending.returned (.int k b) := by rw [h]

theorem beq_takes {α : Type} [BEq α] [LawfulBEq α] {xs ys : List α} {n k : Nat} (hx : xs.length = n) (hy : ys.length = n) (hk : n ≤ k) (h : xs.take k = ys.take k) : true = (xs == ys) := by
  rw [List.take_of_length_le (by omega), List.take_of_length_le (by omega)] at h
  simp [h]
theorem take_more {α : Type} {xs ys : List α} {n k : Nat} (z : α) (hx : xs.length = n) (hy : ys.length = n) (hk : k < n) (h : xs.take k = ys.take k) (he : xs[k]?.getD z = ys[k]?.getD z) : xs.take (k + 1) = ys.take (k + 1) := by
  have e1 : xs.take (k + 1) = xs.take k ++ [xs[k]] := List.take_succ_eq_append_getElem (by omega)
  have e2 : ys.take (k + 1) = ys.take k ++ [ys[k]] := List.take_succ_eq_append_getElem (by omega)
  rw [List.getElem?_eq_getElem (by omega), List.getElem?_eq_getElem (by omega)] at he
  simp only [Option.getD_some] at he
  rw [e1, e2, h, he]
theorem beq_at {α : Type} [BEq α] [LawfulBEq α] {xs ys : List α} {k : Nat} (z : α) (he : ¬ xs[k]?.getD z = ys[k]?.getD z) : false = (xs == ys) := by
  symm
  rw [Bool.eq_false_iff]; intro h; exact he (by rw [eq_of_beq h])
theorem beq_len {α : Type} [BEq α] [LawfulBEq α] {xs ys : List α} (he : ¬ xs.length = ys.length) : false = (xs == ys) := by
  symm
  rw [Bool.eq_false_iff]; intro h; exact he (by rw [eq_of_beq h])

/-- A callee's contract met inside a region behind earlier draws: the draws add up. -/
theorem quiet_of2 {P : Program} {f : FuncId} {args : Array Value} {w : World} {m x : Nat} {v : Value}
    (h : Calls P f args (w.drewN (m + x)) fun e w' => e = .returned v ∧ ∃ j, w' = (w.drewN (m + x)).drewN j) : Calls P f args (w.drewN (m + x)) fun e w'' => e = .returned v ∧ ∃ n, w'' = w.drewN (m + n) :=
  h.mono fun _ _ ⟨he, j, hj⟩ => ⟨he, x + j, by rw [hj, World.drewN_drewN, Nat.add_assoc]⟩

theorem quiet_same2 {P : Program} {f : FuncId} {args : Array Value} {w : World} {m x : Nat} {v : Value}
    (h : Calls P f args (w.drewN (m + x)) fun e w' => e = .returned v ∧ w' = w.drewN (m + x)) : Calls P f args (w.drewN (m + x)) fun e w'' => e = .returned v ∧ ∃ n, w'' = w.drewN (m + n) :=
  h.mono fun _ _ ⟨he, hj⟩ => ⟨he, x, hj⟩

/-- What reads so reads so behind draws. -/
theorem Ints.drewN {w : World} {v : Value} {zs : List Int} (h : Ints w v zs) (m : Nat) : Ints (w.drewN m) v zs := h
theorem IntsS.drewN {w : World} {v : Value} {zs : List (List Int)} (h : IntsS w v zs) (m : Nat) : IntsS (w.drewN m) v zs := h
theorem Puts.drewN {w : World} {v : Value} {zs : List (Int × List Int)} (h : Puts w v zs) (m : Nat) : Puts (w.drewN m) v zs := h

/-- .. and behind whatever turned nothing that was there. -/
theorem Ints.later {w wx : World} {v : Value} {zs : List Int} (h : Ints w v zs) (hb : Below w.heap.size w wx) : Ints wx v zs := by
  rcases h with h | ⟨b, off, cap, h1, h2, h3⟩
  · exact Or.inl h
  · exact Or.inr ⟨b, off, cap, h1, h2, fun k hk => cell_later hb (h3 k hk)⟩
theorem IntsS.later {w wx : World} {v : Value} {zs : List (List Int)} (h : IntsS w v zs) (hb : Below w.heap.size w wx) : IntsS wx v zs := by
  rcases h with h | ⟨b, off, cap, u, h1, h2, h3⟩
  · exact Or.inl h
  · exact Or.inr ⟨b, off, cap, u, h1, h2, fun k hk => ⟨cell_later hb (h3 k hk).1, (h3 k hk).2.later hb⟩⟩
theorem Puts.later {w wx : World} {v : Value} {zs : List (Int × List Int)} (h : Puts w v zs) (hb : Below w.heap.size w wx) : Puts wx v zs := by
  rcases h with h | ⟨b, off, cap, u, h1, h2, h3⟩
  · exact Or.inl h
  · exact Or.inr ⟨b, off, cap, u, h1, h2, fun k hk => ⟨cell_later hb (h3 k hk).1, cell_later hb (h3 k hk).2.1, (h3 k hk).2.2.later hb⟩⟩
theorem later1 (w : World) (o : Obj) : Below w.heap.size w (w.alloc o) := (Below.refl _ _).alloc (Nat.le_refl _) _
theorem later2 (w : World) (o o' : Obj) : Below w.heap.size w ((w.alloc o).alloc o') := (later1 w o).alloc (by simp) _

theorem Ints.shape {w : World} {v : Value} {zs : List Int} (h : Ints w v zs) : ∃ a cap, v = .slice a zs.length cap ∧ zs.length ≤ maxLen := by
  rcases h with ⟨rfl, a, cap, rfl⟩ | ⟨b, off, cap, rfl, hl, _⟩
  · exact ⟨a, cap, rfl, by simp⟩
  · exact ⟨_, cap, rfl, hl⟩

/-- How an address and cells of a list of integers are known: only where there is an element. -/
def At1 (w : World) (a : Option Addr) (n : Nat) (f : Nat → Value) : Prop := ∀ k, k < n → ∃ b off, a = some ⟨b, off, none⟩ ∧ w.cell? ⟨b, off + k, none⟩ = some (f k)
theorem Ints.open' {w : World} {v : Value} {zs : List Int} (h : Ints w v zs) : ∃ a cap, v = .slice a zs.length cap ∧ zs.length ≤ maxLen ∧ At1 w a zs.length (fun k => .int .i64 (zs[k]?.getD 0)) := by
  rcases h with ⟨rfl, a, cap, rfl⟩ | ⟨b, off, cap, rfl, hl, hc⟩
  · exact ⟨a, cap, rfl, by simp, fun k hk => by simp at hk⟩
  · exact ⟨_, cap, rfl, hl, fun k hk => ⟨b, off, rfl, hc k hk⟩⟩

/-- How a list of lists is known where there is an element. -/
def AtS (w : World) (a : Option Addr) (n : Nat) (zss : List (List Int)) : Prop :=
  ∀ k, k < n → ∃ b off ua ucap, a = some ⟨b, off, none⟩ ∧ w.cell? ⟨b, off + k, none⟩ = some (.slice ua (zss[k]?.getD []).length ucap) ∧ Ints w (.slice ua (zss[k]?.getD []).length ucap) (zss[k]?.getD [])
theorem IntsS.open' {w : World} {v : Value} {zss : List (List Int)} (h : IntsS w v zss) : ∃ a cap, v = .slice a zss.length cap ∧ zss.length ≤ maxLen ∧ AtS w a zss.length zss := by
  rcases h with ⟨rfl, a, cap, rfl⟩ | ⟨b, off, cap, u, rfl, hl, hc⟩
  · exact ⟨a, cap, rfl, by simp, fun k hk => by simp at hk⟩
  · refine ⟨_, cap, rfl, hl, fun k hk => ?_⟩
    obtain ⟨h1, h2⟩ := hc k hk
    obtain ⟨ua, ucap, hu, _⟩ := h2.shape
    rw [hu] at h1 h2
    exact ⟨b, off, ua, ucap, rfl, h1, h2⟩
theorem AtS.later {w w' : World} {a : Option Addr} {n : Nat} {zss : List (List Int)} (h : AtS w a n zss) (hb : Below w.heap.size w w') : AtS w' a n zss := by
  intro k hk
  obtain ⟨b, off, ua, ucap, h1, h2, h3⟩ := h k hk
  exact ⟨b, off, ua, ucap, h1, cell_later hb h2, h3.later hb⟩
/-- How a list of puts is known where there is an element. -/
def AtP (w : World) (a : Option Addr) (n : Nat) (ps : List (Int × List Int)) : Prop :=
  ∀ k, k < n → ∃ b off ua ucap, a = some ⟨b, off, none⟩ ∧ w.cell? ⟨b, off + k * 2, none⟩ = some (.int .i64 (ps[k]?.getD (0, [])).1) ∧ w.cell? ⟨b, off + k * 2 + 1, none⟩ = some (.slice ua (ps[k]?.getD (0, [])).2.length ucap) ∧ Ints w (.slice ua (ps[k]?.getD (0, [])).2.length ucap) (ps[k]?.getD (0, [])).2
theorem Puts.open' {w : World} {v : Value} {ps : List (Int × List Int)} (h : Puts w v ps) : ∃ a cap, v = .slice a ps.length cap ∧ ps.length ≤ maxLen ∧ AtP w a ps.length ps := by
  rcases h with ⟨rfl, a, cap, rfl⟩ | ⟨b, off, cap, u, rfl, hl, hc⟩
  · exact ⟨a, cap, rfl, by simp, fun k hk => by simp at hk⟩
  · refine ⟨_, cap, rfl, hl, fun k hk => ?_⟩
    obtain ⟨h1, h1', h2⟩ := hc k hk
    obtain ⟨ua, ucap, hu, _⟩ := h2.shape
    rw [hu] at h1' h2
    exact ⟨b, off, ua, ucap, rfl, h1, h1', h2⟩
theorem AtP.later {w w' : World} {a : Option Addr} {n : Nat} {ps : List (Int × List Int)} (h : AtP w a n ps) (hb : Below w.heap.size w w') : AtP w' a n ps := by
  intro k hk
  obtain ⟨b, off, ua, ucap, h1, h2, h2', h3⟩ := h k hk
  exact ⟨b, off, ua, ucap, h1, cell_later hb h2, cell_later hb h2', h3.later hb⟩

end Go.Proofs.Ytagmmgcdebgfnaa

namespace Go.Proofs.Ytagmmgcdebgfnaa
open Go.RowKit
set_option maxRecDepth 100000

set_option maxHeartbeats 400000 in
theorem eqInts_len (w : World) (a a' : Option Addr) (cap cap' n n' : Nat) (hn : ¬ n = n') :
    Calls Try.prog 51 #[.slice a n cap, .slice a' n' cap'] w fun e w' => e = .returned (.bool false) ∧ w' = w := by
  have hb : ((n : Int) != (n' : Int)) = true := by simp; omega
  clear hn
  go_enter Try.func51, Try.ntmps51
  go_wp2
  go_ret
  exact ⟨rfl, rfl⟩

set_option maxHeartbeats 400000 in
theorem eqInts_nil (w : World) (a a' : Option Addr) (cap cap' : Nat) :
    Calls Try.prog 51 #[.slice a 0 cap, .slice a' 0 cap'] w fun e w' => e = .returned (.bool true) ∧ w' = w := by
  go_enter Try.func51, Try.ntmps51
  go_wp2
  go_loop [5] (fun i => i = .int .i64 0) (fun _ => 0)
  case atStart => rfl
  case round =>
    obtain rfl := hrel
    go_wp2
    go_ret
    exact ⟨rfl, rfl⟩

set_option maxHeartbeats 400000 in
theorem eqInts_walk (w : World) (b off cap b' off' cap' n : Nat) (xs ys : List Int) (hx : xs.length = n) (hy : ys.length = n) (hn : n ≤ maxLen)
    (cx : ∀ k, k < n → w.cell? ⟨b, off + k, none⟩ = some (.int .i64 (xs[k]?.getD 0)))
    (cy : ∀ k, k < n → w.cell? ⟨b', off' + k, none⟩ = some (.int .i64 (ys[k]?.getD 0))) :
    Calls Try.prog 51 #[.slice (some ⟨b, off, none⟩) n cap, .slice (some ⟨b', off', none⟩) n cap'] w fun e w' => e = .returned (.bool (xs == ys)) ∧ ∃ m, w' = w.drewN m := by
  unfold maxLen at hn
  have HX : Hid (xs.length = n) := hx
  have HY : Hid (ys.length = n) := hy
  clear hx hy
  go_enter Try.func51, Try.ntmps51
  go_wp2
  go_loopw [5] (fun i wr => ∃ k m : Nat, k ≤ n ∧ i = .int .i64 k ∧ wr = w.drewN m ∧ xs.take k = ys.take k) (fun i _ => n - (intOf i).toNat)
  case atStart => exact ⟨0, 0, Nat.zero_le _, rfl, rfl, rfl⟩
  case round =>
    obtain ⟨k, m, hk, rfl, rfl, ht⟩ := hrel
    by_cases hlt : k < n
    · have c1 := cx k hlt
      have c2 := cy k hlt
      clear cx cy
      have HT : Hid (xs.take k = ys.take k) := ht
      clear ht
      by_cases he : xs[k]?.getD 0 = ys[k]?.getD 0
      · have hb : (xs[k]?.getD 0 != ys[k]?.getD 0) = false := by simp [he]
        have HE : Hid (xs[k]?.getD 0 = ys[k]?.getD 0) := he
        clear he
        go_wp2_with fail
        go_quiet (fail)
        go_wp2
        go_roundw
        case rel => exact ⟨k + 1, m + nq, by omega, by go_num, rfl, take_more 0 HX.out HY.out hlt HT.out HE.out⟩
        case measure => simp [intOf]; omega
      · have hb : (xs[k]?.getD 0 != ys[k]?.getD 0) = true := by simp [he]
        go_wp2_with fail
        go_quiet (fail)
        go_wp2
        go_ret
        exact ⟨ret_bool (beq_at 0 he), m + nq, by rw [World.drewN_drewN]⟩
    · go_wp2
      go_ret
      exact ⟨ret_bool (beq_takes HX.out HY.out (by omega) ht), m, rfl⟩

theorem eqInts_any {w : World} {va vb : Value} {xs ys : List Int} (ha : Ints w va xs) (hb : Ints w vb ys) :
    Calls Try.prog 51 #[va, vb] w fun e w' => e = .returned (.bool (xs == ys)) ∧ ∃ m, w' = w.drewN m := by
  have base : ∀ a cap a' cap' (x y : List Int), x.length ≠ y.length ∨ (x = [] ∧ y = []) → Calls Try.prog 51 #[.slice a x.length cap, .slice a' y.length cap'] w fun e w' => e = .returned (.bool (x == y)) ∧ ∃ m, w' = w.drewN m := by
    intro a cap a' cap' x y h
    rcases h with h | ⟨rfl, rfl⟩
    · exact (eqInts_len w a a' cap cap' _ _ h).mono fun e w' ⟨he, hw⟩ => ⟨he.trans (ret_bool (beq_len h)), 0, hw⟩
    · exact (eqInts_nil w a a' cap cap').mono fun e w' ⟨he, hw⟩ => ⟨he, 0, hw⟩
  rcases ha with ⟨rfl, a, cap, rfl⟩ | ⟨b, off, cap, rfl, hl, hc⟩
  · rcases hb with ⟨rfl, a', cap', rfl⟩ | ⟨b', off', cap', rfl, hl', hc'⟩
    · exact base a cap a' cap' [] [] (Or.inr ⟨rfl, rfl⟩)
    · by_cases h : ys = []
      · subst h; exact base a cap _ cap' [] [] (Or.inr ⟨rfl, rfl⟩)
      · exact base a cap _ cap' [] ys (Or.inl (by cases ys <;> simp at h ⊢))
  · rcases hb with ⟨rfl, a', cap', rfl⟩ | ⟨b', off', cap', rfl, hl', hc'⟩
    · by_cases h : xs = []
      · subst h; exact base _ cap a' cap' [] [] (Or.inr ⟨rfl, rfl⟩)
      · exact base _ cap a' cap' xs [] (Or.inl (by cases xs <;> simp at h ⊢))
    · by_cases h : xs.length = ys.length
      · have := eqInts_walk w b off cap b' off' cap' ys.length xs ys h rfl hl' (fun k hk => hc k (by omega)) hc'
        rw [h]; exact this
      · exact base _ cap _ cap' xs ys (Or.inl h)

set_option maxHeartbeats 400000 in
theorem eqIntsS_len (w : World) (a a' : Option Addr) (cap cap' n n' : Nat) (hn : ¬ n = n') :
    Calls Try.prog 66 #[.slice a n cap, .slice a' n' cap'] w fun e w' => e = .returned (.bool false) ∧ w' = w := by
  have hb : ((n : Int) != (n' : Int)) = true := by simp; omega
  clear hn
  go_enter Try.func66, Try.ntmps66
  go_wp2
  go_ret
  exact ⟨rfl, rfl⟩

set_option maxHeartbeats 400000 in
theorem eqIntsS_nil (w : World) (a a' : Option Addr) (cap cap' : Nat) :
    Calls Try.prog 66 #[.slice a 0 cap, .slice a' 0 cap'] w fun e w' => e = .returned (.bool true) ∧ w' = w := by
  go_enter Try.func66, Try.ntmps66
  go_wp2
  go_loop [5] (fun i => i = .int .i64 0) (fun _ => 0)
  case atStart => rfl
  case round =>
    obtain rfl := hrel
    go_wp2
    go_ret
    exact ⟨rfl, rfl⟩

set_option maxHeartbeats 400000 in
theorem eqIntsS_walk (w : World) (b off cap b' off' cap' n : Nat) (xs ys : List (List Int)) (u u' : Nat → Value) (hx : xs.length = n) (hy : ys.length = n) (hn : n ≤ maxLen)
    (cx : ∀ k, k < n → w.cell? ⟨b, off + k, none⟩ = some (u k) ∧ Ints w (u k) (xs[k]?.getD []))
    (cy : ∀ k, k < n → w.cell? ⟨b', off' + k, none⟩ = some (u' k) ∧ Ints w (u' k) (ys[k]?.getD [])) :
    Calls Try.prog 66 #[.slice (some ⟨b, off, none⟩) n cap, .slice (some ⟨b', off', none⟩) n cap'] w fun e w' => e = .returned (.bool (xs == ys)) ∧ ∃ m, w' = w.drewN m := by
  unfold maxLen at hn
  have HX : Hid (xs.length = n) := hx
  have HY : Hid (ys.length = n) := hy
  clear hx hy
  go_enter Try.func66, Try.ntmps66
  go_wp2
  go_loopw [5] (fun i wr => ∃ k m : Nat, k ≤ n ∧ i = .int .i64 k ∧ wr = w.drewN m ∧ xs.take k = ys.take k) (fun i _ => n - (intOf i).toNat)
  case atStart => exact ⟨0, 0, Nat.zero_le _, rfl, rfl, rfl⟩
  case round =>
    obtain ⟨k, m, hk, rfl, rfl, ht⟩ := hrel
    by_cases hlt : k < n
    · obtain ⟨c1, i1⟩ := cx k hlt
      obtain ⟨c2, i2⟩ := cy k hlt
      clear cx cy
      have HT : Hid (xs.take k = ys.take k) := ht
      clear ht
      have I1 : Hid (Ints w (u k) (xs[k]?.getD [])) := i1
      have I2 : Hid (Ints w (u' k) (ys[k]?.getD [])) := i2
      clear i1 i2
      by_cases he : xs[k]?.getD [] = ys[k]?.getD []
      · have hb : (xs[k]?.getD [] == ys[k]?.getD []) = true := by simp [he]
        have HE : Hid (xs[k]?.getD [] = ys[k]?.getD []) := he
        clear he
        go_wp2_with fail
        go_quiet ((go_at_call 51; refine quiet_of2 (eqInts_any (xs := xs[k]?.getD []) (ys := ys[k]?.getD []) ?_ ?_) <;> first | exact I1.out | exact I2.out))
        go_wp2
        go_roundw
        case rel => exact ⟨k + 1, m + nq, by omega, by go_num, rfl, take_more [] HX.out HY.out hlt HT.out HE.out⟩
        case measure => simp [intOf]; omega
      · have hb : (xs[k]?.getD [] == ys[k]?.getD []) = false := by simp [he]
        go_wp2_with fail
        go_quiet ((go_at_call 51; refine quiet_of2 (eqInts_any (xs := xs[k]?.getD []) (ys := ys[k]?.getD []) ?_ ?_) <;> first | exact I1.out | exact I2.out))
        go_wp2
        go_ret
        exact ⟨ret_bool (beq_at [] he), m + nq, by rw [World.drewN_drewN]⟩
    · go_wp2
      go_ret
      exact ⟨ret_bool (beq_takes HX.out HY.out (by omega) ht), m, rfl⟩

theorem eqIntsS_any {w : World} {va vb : Value} {xs ys : List (List Int)} (ha : IntsS w va xs) (hb : IntsS w vb ys) :
    Calls Try.prog 66 #[va, vb] w fun e w' => e = .returned (.bool (xs == ys)) ∧ ∃ m, w' = w.drewN m := by
  have base : ∀ a cap a' cap' (x y : List (List Int)), x.length ≠ y.length ∨ (x = [] ∧ y = []) → Calls Try.prog 66 #[.slice a x.length cap, .slice a' y.length cap'] w fun e w' => e = .returned (.bool (x == y)) ∧ ∃ m, w' = w.drewN m := by
    intro a cap a' cap' x y h
    rcases h with h | ⟨rfl, rfl⟩
    · exact (eqIntsS_len w a a' cap cap' _ _ h).mono fun e w' ⟨he, hw⟩ => ⟨he.trans (ret_bool (beq_len h)), 0, hw⟩
    · exact (eqIntsS_nil w a a' cap cap').mono fun e w' ⟨he, hw⟩ => ⟨he, 0, hw⟩
  rcases ha with ⟨rfl, a, cap, rfl⟩ | ⟨b, off, cap, u, rfl, hl, hc⟩
  · rcases hb with ⟨rfl, a', cap', rfl⟩ | ⟨b', off', cap', u', rfl, hl', hc'⟩
    · exact base a cap a' cap' [] [] (Or.inr ⟨rfl, rfl⟩)
    · by_cases h : ys = []
      · subst h; exact base a cap _ cap' [] [] (Or.inr ⟨rfl, rfl⟩)
      · exact base a cap _ cap' [] ys (Or.inl (by cases ys <;> simp at h ⊢))
  · rcases hb with ⟨rfl, a', cap', rfl⟩ | ⟨b', off', cap', u', rfl, hl', hc'⟩
    · by_cases h : xs = []
      · subst h; exact base _ cap a' cap' [] [] (Or.inr ⟨rfl, rfl⟩)
      · exact base _ cap a' cap' xs [] (Or.inl (by cases xs <;> simp at h ⊢))
    · by_cases h : xs.length = ys.length
      · have := eqIntsS_walk w b off cap b' off' cap' ys.length xs ys u u' h rfl hl' (fun k hk => hc k (by omega)) hc'
        rw [h]; exact this
      · exact base _ cap _ cap' xs ys (Or.inl h)

end Go.Proofs.Ytagmmgcdebgfnaa

namespace Go.Proofs.Ytagmmgcdebgfnaa
open Go.RowKit
set_option maxRecDepth 100000

theorem beq_pair1 {a b : Int} (xs ys : List Int) (h : (a != b) = true) : false = ((a, xs) == (b, ys)) := by
  symm; rw [Bool.eq_false_iff]; intro e; simp at h; have := eq_of_beq e; simp at this; exact h this.1
theorem beq_pair2 {a b : Int} {xs ys : List Int} {r : Bool} (h : (a != b) = false) (hr : (xs == ys) = r) : r = ((a, xs) == (b, ys)) := by
  simp at h; subst h; rw [← hr]
  by_cases e : xs = ys
  · simp [e]
  · have h1 : (xs == ys) = false := by simp [e]
    rw [h1]; symm; rw [Bool.eq_false_iff]; intro h2; have := eq_of_beq h2; simp at this; exact e this

set_option maxHeartbeats 400000 in
theorem eqPut_any (w : World) (va vb : Value) (a b : Int) (xs ys : List Int) (ha : Ints w va xs) (hb : Ints w vb ys) :
    Calls Try.prog 88 #[.agg #[.int .i64 a, va], .agg #[.int .i64 b, vb]] w fun e w' => e = .returned (.bool ((a, xs) == (b, ys))) ∧ Below w.heap.size w w' := by
  have HA : Hid (Ints w va xs) := ha
  have HB : Hid (Ints w vb ys) := hb
  clear ha hb
  generalize hr : (xs == ys) = r
  have HR : Hid ((xs == ys) = r) := hr
  clear hr
  by_cases hab : (a != b) = true
  · go_enter Try.func88, Try.ntmps88
    go_wp2_with fail
    go_ret
    exact ⟨ret_bool (beq_pair1 xs ys hab), later2 _ _ _⟩
  · have hab' : (a != b) = false := by simpa using hab
    clear hab
    go_enter Try.func88, Try.ntmps88
    go_wp2_with fail
    refine (eqInts_any (HA.out.later (later2 _ _ _)) (HB.out.later (later2 _ _ _))).mono ?_
    rw [HR.out]
    rintro e w' ⟨rfl, m, rfl⟩
    cases r
    all_goals
      go_wp2
      go_ret
      exact ⟨ret_bool (beq_pair2 hab' HR.out), below_drewN (later2 _ _ _) m⟩

set_option maxHeartbeats 400000 in
theorem eqPuts_len (w : World) (a a' : Option Addr) (cap cap' n n' : Nat) (hn : ¬ n = n') :
    Calls Try.prog 41 #[.slice a n cap, .slice a' n' cap'] w fun e w' => e = .returned (.bool false) ∧ w' = w := by
  have hb : ((n : Int) != (n' : Int)) = true := by simp; omega
  clear hn
  go_enter Try.func41, Try.ntmps41
  go_wp2
  go_ret
  exact ⟨rfl, rfl⟩

set_option maxHeartbeats 400000 in
theorem eqPuts_nil (w : World) (a a' : Option Addr) (cap cap' : Nat) :
    Calls Try.prog 41 #[.slice a 0 cap, .slice a' 0 cap'] w fun e w' => e = .returned (.bool true) ∧ w' = w := by
  go_enter Try.func41, Try.ntmps41
  go_wp2
  go_loop [5] (fun i => i = .int .i64 0) (fun _ => 0)
  case atStart => rfl
  case round =>
    obtain rfl := hrel
    go_wp2
    go_ret
    exact ⟨rfl, rfl⟩

set_option maxHeartbeats 800000 in
theorem eqPuts_walk (w : World) (b off cap b' off' cap' n : Nat) (xs ys : List (Int × List Int)) (u u' : Nat → Value) (hx : xs.length = n) (hy : ys.length = n) (hn : n ≤ maxLen)
    (cx : ∀ k, k < n → w.cell? ⟨b, off + k * 2, none⟩ = some (.int .i64 (xs[k]?.getD (0, [])).1) ∧ w.cell? ⟨b, off + k * 2 + 1, none⟩ = some (u k) ∧ Ints w (u k) (xs[k]?.getD (0, [])).2)
    (cy : ∀ k, k < n → w.cell? ⟨b', off' + k * 2, none⟩ = some (.int .i64 (ys[k]?.getD (0, [])).1) ∧ w.cell? ⟨b', off' + k * 2 + 1, none⟩ = some (u' k) ∧ Ints w (u' k) (ys[k]?.getD (0, [])).2) :
    Calls Try.prog 41 #[.slice (some ⟨b, off, none⟩) n cap, .slice (some ⟨b', off', none⟩) n cap'] w fun e w' => e = .returned (.bool (xs == ys)) ∧ Below w.heap.size w w' := by
  unfold maxLen at hn
  have HX : Hid (xs.length = n) := hx
  have HY : Hid (ys.length = n) := hy
  clear hx hy
  go_enter Try.func41, Try.ntmps41
  go_wp2
  go_loopw [5] (fun i wr => ∃ k : Nat, k ≤ n ∧ i = .int .i64 k ∧ Below w.heap.size w wr ∧ xs.take k = ys.take k) (fun i _ => n - (intOf i).toNat)
  case atStart => exact ⟨0, Nat.zero_le _, rfl, Below.refl _ _, rfl⟩
  case round =>
    obtain ⟨k, hk, rfl, hbl, ht⟩ := hrel
    by_cases hlt : k < n
    · obtain ⟨c1, c2, i1⟩ := cx k hlt
      obtain ⟨d1, d2, i2⟩ := cy k hlt
      clear cx cy
      have HT : Hid (xs.take k = ys.take k) := ht
      clear ht
      replace c1 := cell_later hbl c1
      replace c2 := cell_later hbl c2
      replace d1 := cell_later hbl d1
      replace d2 := cell_later hbl d2
      replace i1 := i1.later hbl
      replace i2 := i2.later hbl
      have HBL : Hid (Below w.heap.size w wr) := hbl
      clear hbl
      have HI1 : Hid (Ints wr (u k) (xs[k]?.getD (0, [])).2) := i1
      have HI2 : Hid (Ints wr (u' k) (ys[k]?.getD (0, [])).2) := i2
      clear i1 i2
      by_cases he : xs[k]?.getD (0, []) = ys[k]?.getD (0, [])
      · have HE : Hid (xs[k]?.getD (0, []) = ys[k]?.getD (0, [])) := he
        have HB : Hid (((xs[k]?.getD (0, [])) == (ys[k]?.getD (0, []))) = true) := by simp [he, Hid]
        clear he
        go_wp2_with fail
        go_region_with ((go_at_call 88; refine (eqPut_any _ _ _ _ _ (xs[k]?.getD (0, [])).2 (ys[k]?.getD (0, [])).2 ?_ ?_).mono ?_; exact HI1.out; exact HI2.out; rw [show (((xs[k]?.getD (0, [])).1, (xs[k]?.getD (0, [])).2) == ((ys[k]?.getD (0, [])).1, (ys[k]?.getD (0, [])).2)) = true from HB.out]; rintro e w' ⟨rfl, hb2⟩))
        all_goals
          go_wp2
          go_roundw
          case rel => exact ⟨k + 1, by omega, by go_num, (HBL.out.drew).trans (hb2.mono HBL.out.size), take_more (0, []) HX.out HY.out hlt HT.out HE.out⟩
          case measure => simp [intOf]; omega
      · have HB : Hid (((xs[k]?.getD (0, [])) == (ys[k]?.getD (0, []))) = false) := by unfold Hid; rw [Bool.eq_false_iff]; intro h; exact he (eq_of_beq h)
        have HE : Hid (¬ xs[k]?.getD (0, []) = ys[k]?.getD (0, [])) := he
        clear he
        go_wp2_with fail
        go_region_with ((go_at_call 88; refine (eqPut_any _ _ _ _ _ (xs[k]?.getD (0, [])).2 (ys[k]?.getD (0, [])).2 ?_ ?_).mono ?_; exact HI1.out; exact HI2.out; rw [show (((xs[k]?.getD (0, [])).1, (xs[k]?.getD (0, [])).2) == ((ys[k]?.getD (0, [])).1, (ys[k]?.getD (0, [])).2)) = false from HB.out]; rintro e w' ⟨rfl, hb2⟩))
        all_goals
          go_wp2
          go_ret
          exact ⟨ret_bool (beq_at (0, []) HE.out), (HBL.out.drew).trans (hb2.mono HBL.out.size)⟩
    · go_wp2
      go_ret
      exact ⟨ret_bool (beq_takes HX.out HY.out (by omega) ht), hbl⟩

theorem eqPuts_any {w : World} {va vb : Value} {xs ys : List (Int × List Int)} (ha : Puts w va xs) (hb : Puts w vb ys) :
    Calls Try.prog 41 #[va, vb] w fun e w' => e = .returned (.bool (xs == ys)) ∧ Below w.heap.size w w' := by
  have base : ∀ a cap a' cap' (x y : List (Int × List Int)), x.length ≠ y.length ∨ (x = [] ∧ y = []) → Calls Try.prog 41 #[.slice a x.length cap, .slice a' y.length cap'] w fun e w' => e = .returned (.bool (x == y)) ∧ Below w.heap.size w w' := by
    intro a cap a' cap' x y h
    rcases h with h | ⟨rfl, rfl⟩
    · exact (eqPuts_len w a a' cap cap' _ _ h).mono fun e w' ⟨he, hw⟩ => ⟨he.trans (ret_bool (beq_len h)), hw ▸ Below.refl _ _⟩
    · exact (eqPuts_nil w a a' cap cap').mono fun e w' ⟨he, hw⟩ => ⟨he, hw ▸ Below.refl _ _⟩
  rcases ha with ⟨rfl, a, cap, rfl⟩ | ⟨b, off, cap, u, rfl, hl, hc⟩
  · rcases hb with ⟨rfl, a', cap', rfl⟩ | ⟨b', off', cap', u', rfl, hl', hc'⟩
    · exact base a cap a' cap' [] [] (Or.inr ⟨rfl, rfl⟩)
    · by_cases h : ys = []
      · subst h; exact base a cap _ cap' [] [] (Or.inr ⟨rfl, rfl⟩)
      · exact base a cap _ cap' [] ys (Or.inl (by cases ys <;> simp at h ⊢))
  · rcases hb with ⟨rfl, a', cap', rfl⟩ | ⟨b', off', cap', u', rfl, hl', hc'⟩
    · by_cases h : xs = []
      · subst h; exact base _ cap a' cap' [] [] (Or.inr ⟨rfl, rfl⟩)
      · exact base _ cap a' cap' xs [] (Or.inl (by cases xs <;> simp at h ⊢))
    · by_cases h : xs.length = ys.length
      · have := eqPuts_walk w b off cap b' off' cap' ys.length xs ys u u' h rfl hl' (fun k hk => hc k (by omega)) hc'
        rw [h]; exact this
      · exact base _ cap _ cap' xs ys (Or.inl h)

/-- Of two disks that read alike eqDisk tells true. -/
theorem eqDisk_true (w : World) (va vc va' vc' : Value) (bs : List (List Int)) (ps : List (Int × List Int)) (h1 : IntsS w va bs) (h2 : Puts w vc ps) (h3 : IntsS w va' bs) (h4 : Puts w vc' ps) :
    Calls Try.prog 24 #[.agg #[va, vc], .agg #[va', vc']] w fun e w' => e = .returned (.bool true) ∧ Below w.heap.size w w' := by
  have H1 : Hid (IntsS w va bs) := h1
  have H2 : Hid (Puts w vc ps) := h2
  have H3 : Hid (IntsS w va' bs) := h3
  have H4 : Hid (Puts w vc' ps) := h4
  clear h1 h2 h3 h4
  go_enter Try.func24, Try.ntmps24
  go_wp2_with fail
  refine (eqIntsS_any (H1.out.later (later2 _ _ _)) (H3.out.later (later2 _ _ _))).mono ?_
  rw [beq_self_eq_true]
  rintro e w' ⟨rfl, m, rfl⟩
  go_wp2_with fail
  refine (eqPuts_any ((H2.out.later (later2 _ _ _)).drewN m) ((H4.out.later (later2 _ _ _)).drewN m)).mono ?_
  rw [beq_self_eq_true]
  rintro e w' ⟨rfl, hb⟩
  go_wp2
  go_ret
  exact ⟨rfl, (below_drewN (later2 _ _ _) m).trans (hb.mono (by simp [World.drewN]; omega))⟩

end Go.Proofs.Ytagmmgcdebgfnaa

namespace Go.Proofs.Ytagmmgcdebgfnaa
open Go.RowKit
set_option maxRecDepth 100000

/-- Block b is not frozen, and its first n cells hold f. -/
def OwnRow (w : World) (b n : Nat) (f : Nat → Value) : Prop :=
  ∃ c t, w.heap[b]? = some (.cells c t (0, 0)) ∧ n ≤ c.size ∧ ∀ i, i < n → c[i]? = some (f i)

theorem OwnRow.cell {w : World} {b n : Nat} {f : Nat → Value} (h : OwnRow w b n f) {i : Nat} (hi : i < n) : w.cell? ⟨b, i, none⟩ = some (f i) := by
  obtain ⟨c, t, hb, _, hc⟩ := h
  simp [World.cell?, hb, hc i hi]
theorem OwnRow.frozen {w : World} {b n : Nat} {f : Nat → Value} (h : OwnRow w b n f) (i : Nat) : w.frozen? ⟨b, i, none⟩ = false := by
  obtain ⟨c, t, hb, _, _⟩ := h
  simp [World.frozen?, hb]
theorem OwnRow.lt {w : World} {b n : Nat} {f : Nat → Value} (h : OwnRow w b n f) : b < w.heap.size := by
  obtain ⟨c, t, hb, _, _⟩ := h
  exact (Array.getElem?_eq_some_iff.1 hb).1
theorem OwnRow.congr {w : World} {b n : Nat} {f g : Nat → Value} (h : OwnRow w b n f) (e : ∀ i, i < n → f i = g i) : OwnRow w b n g := by
  obtain ⟨c, t, hb, hn, hc⟩ := h
  exact ⟨c, t, hb, hn, fun i hi => by rw [hc i hi, e i hi]⟩
theorem OwnRow.block {w w' : World} {b n : Nat} {f : Nat → Value} (h : OwnRow w b n f) (e : w'.heap[b]? = w.heap[b]?) : OwnRow w' b n f := by
  obtain ⟨c, t, hb, hn, hc⟩ := h
  exact ⟨c, t, e.trans hb, hn, hc⟩
theorem OwnRow.set {w : World} {b n : Nat} {f : Nat → Value} (h : OwnRow w b n f) (i : Nat) (v : Value) : OwnRow (w.setCell ⟨b, i, none⟩ v) b n (fun j => if j = i then v else f j) := by
  obtain ⟨c, t, hb, hn, hc⟩ := h
  refine ⟨c.setIfInBounds i v, t, ?_, by simpa using hn, fun j hj => ?_⟩
  · simp [World.setCell, Array.getElem?_modify, hb]
  · rw [Array.getElem?_setIfInBounds]
    by_cases e : i = j
    · subst e
      simp [show i < c.size by omega]
    · rw [if_neg e]
      show c[j]? = some (if j = i then v else f j)
      rw [if_neg (fun h : j = i => e h.symm)]
      exact hc j hj

theorem OwnRow.store {w : World} {b n : Nat} {f : Nat → Value} (h : OwnRow w b n f) {p : Addr} (hp : b ≠ p.block) (u : Value) : OwnRow (w.setCell p u) b n f := h.block (Below.heap_setCell _ _ _ _ hp)

/-- From w to w' only blocks of F, and new ones, have turned. -/
structure Chg (F : Nat → Prop) (w w' : World) : Prop where
  os : w'.os = w.os
  tape : w'.tape = w.tape
  output : w'.output = w.output
  size : w.heap.size ≤ w'.heap.size
  block : ∀ b, b < w.heap.size → ¬ F b → w'.heap[b]? = w.heap[b]?
theorem Chg.refl (F : Nat → Prop) (w : World) : Chg F w w := ⟨rfl, rfl, rfl, Nat.le_refl _, fun _ _ _ => rfl⟩
theorem Chg.trans {F : Nat → Prop} {a b c : World} (h : Chg F a b) (k : Chg F b c) : Chg F a c :=
  ⟨k.os.trans h.os, k.tape.trans h.tape, k.output.trans h.output, Nat.le_trans h.size k.size, fun i hi hf => (k.block i (Nat.lt_of_lt_of_le hi h.size) hf).trans (h.block i hi hf)⟩
theorem Chg.mono {F G : Nat → Prop} {w w' : World} (h : Chg F w w') (hFG : ∀ b, F b → G b) : Chg G w w' := ⟨h.os, h.tape, h.output, h.size, fun b hb hg => h.block b hb (fun hf => hg (hFG b hf))⟩
theorem Chg.of_below {F : Nat → Prop} {w w' : World} (h : Below w.heap.size w w') : Chg F w w' := ⟨h.os, h.tape, h.output, h.size, fun b hb _ => h.block b hb⟩
theorem Chg.below {F : Nat → Prop} {w w' : World} {B : Nat} (h : Chg F w w') (hB : B ≤ w.heap.size) (hF : ∀ b, F b → B ≤ b) : Below B w w' :=
  ⟨h.os, h.tape, h.output, h.size, fun b hb => h.block b (by omega) (fun hf => by have := hF b hf; omega)⟩
theorem Chg.set {F : Nat → Prop} {w wr : World} (h : Chg F w wr) {b : Nat} (hF : F b) (i : Nat) (v : Value) : Chg F w (wr.setCell ⟨b, i, none⟩ v) :=
  h.trans ⟨rfl, rfl, rfl, by simp [World.setCell], fun k _ hf => Below.heap_setCell _ _ _ _ (fun e => hf (e ▸ hF))⟩

/-- The slice v holds zs, in one block of F, or is empty. -/
def IntsO (w : World) (v : Value) (zs : List Int) (F : Nat → Prop) : Prop :=
  (zs = [] ∧ ∃ a cap, v = .slice a 0 cap) ∨
  (∃ b cap, F b ∧ v = .slice (some ⟨b, 0, none⟩) zs.length cap ∧ zs.length ≤ maxLen ∧ OwnRow w b zs.length (fun i => .int .i64 (zs[i]?.getD 0)))
theorem IntsO.ints {w : World} {v : Value} {zs : List Int} {F : Nat → Prop} (h : IntsO w v zs F) : Ints w v zs := by
  rcases h with h | ⟨b, cap, _, h1, h2, h3⟩
  · exact Or.inl h
  · exact Or.inr ⟨b, 0, cap, h1, h2, fun k hk => by rw [Nat.zero_add]; exact h3.cell hk⟩
theorem IntsO.keep {w w' : World} {v : Value} {zs : List Int} {F : Nat → Prop} (h : IntsO w v zs F) (e : ∀ b, F b → b < w.heap.size → w'.heap[b]? = w.heap[b]?) : IntsO w' v zs F := by
  rcases h with h | ⟨b, cap, hF, h1, h2, h3⟩
  · exact Or.inl h
  · exact Or.inr ⟨b, cap, hF, h1, h2, h3.block (e b hF h3.lt)⟩
theorem IntsO.mono {w : World} {v : Value} {zs : List Int} {F G : Nat → Prop} (h : IntsO w v zs F) (e : ∀ b, F b → G b) : IntsO w v zs G := by
  rcases h with h | ⟨b, cap, hF, h1⟩
  · exact Or.inl h
  · exact Or.inr ⟨b, cap, e b hF, h1⟩

theorem IntsO.store {w : World} {v : Value} {zs : List Int} {F : Nat → Prop} (h : IntsO w v zs F) {p : Addr} (hp : ∀ b, F b → b ≠ p.block) (x : Value) : IntsO (w.setCell p x) v zs F := h.keep fun b hb _ => Below.heap_setCell _ _ _ _ (hp b hb)

/-- The slice v holds the lists zss; no two of them, nor the outer one, lie in one block. -/
def IntsSO (w : World) (v : Value) (zss : List (List Int)) (F : Nat → Prop) : Prop :=
  (zss = [] ∧ ∃ a cap, v = .slice a 0 cap) ∨
  (∃ b cap, ∃ u : Nat → Value, ∃ G : Nat → Nat → Prop, F b ∧ (∀ i c, G i c → F c ∧ c ≠ b) ∧ (∀ i j c, i ≠ j → G i c → ¬ G j c) ∧
    v = .slice (some ⟨b, 0, none⟩) zss.length cap ∧ zss.length ≤ maxLen ∧ OwnRow w b zss.length u ∧ ∀ i, i < zss.length → IntsO w (u i) (zss[i]?.getD []) (G i))
theorem IntsSO.ints {w : World} {v : Value} {zss : List (List Int)} {F : Nat → Prop} (h : IntsSO w v zss F) : IntsS w v zss := by
  rcases h with h | ⟨b, cap, u, G, _, _, _, h1, h2, h3, h4⟩
  · exact Or.inl h
  · exact Or.inr ⟨b, 0, cap, u, h1, h2, fun k hk => ⟨by rw [Nat.zero_add]; exact h3.cell hk, (h4 k hk).ints⟩⟩
theorem IntsSO.keep {w w' : World} {v : Value} {zss : List (List Int)} {F : Nat → Prop} (h : IntsSO w v zss F) (e : ∀ b, F b → b < w.heap.size → w'.heap[b]? = w.heap[b]?) : IntsSO w' v zss F := by
  rcases h with h | ⟨b, cap, u, G, hF, hG, hGG, h1, h2, h3, h4⟩
  · exact Or.inl h
  · exact Or.inr ⟨b, cap, u, G, hF, hG, hGG, h1, h2, h3.block (e b hF h3.lt), fun i hi => (h4 i hi).keep fun c hc => e c (hG i c hc).1⟩
theorem IntsSO.mono {w : World} {v : Value} {zss : List (List Int)} {F F' : Nat → Prop} (h : IntsSO w v zss F) (e : ∀ b, F b → F' b) : IntsSO w v zss F' := by
  rcases h with h | ⟨b, cap, u, G, hF, hG, h1⟩
  · exact Or.inl h
  · exact Or.inr ⟨b, cap, u, G, e b hF, fun i c hc => ⟨e c (hG i c hc).1, (hG i c hc).2⟩, h1⟩

theorem IntsSO.store {w : World} {v : Value} {zss : List (List Int)} {F : Nat → Prop} (h : IntsSO w v zss F) {p : Addr} (hp : ∀ b, F b → b ≠ p.block) (x : Value) : IntsSO (w.setCell p x) v zss F := h.keep fun b hb _ => Below.heap_setCell _ _ _ _ (hp b hb)

/-- The cells of a row of puts. -/
def putCell (ps : List (Int × List Int)) (u : Nat → Value) (j : Nat) : Value := if j % 2 = 0 then .int .i64 (ps[j / 2]?.getD (0, [])).1 else u (j / 2)
theorem putCell_at (ps : List (Int × List Int)) (u : Nat → Value) (k : Nat) : putCell ps u (k * 2) = .int .i64 (ps[k]?.getD (0, [])).1 := by
  unfold putCell; rw [if_pos (by omega), show k * 2 / 2 = k by omega]
theorem putCell_words (ps : List (Int × List Int)) (u : Nat → Value) (k : Nat) : putCell ps u (k * 2 + 1) = u k := by
  unfold putCell; rw [if_neg (by omega), show (k * 2 + 1) / 2 = k by omega]
/-- The slice v holds the puts ps; no two of their lists, nor the outer one, lie in one block. -/
def PutsO (w : World) (v : Value) (ps : List (Int × List Int)) (F : Nat → Prop) : Prop :=
  (ps = [] ∧ ∃ a cap, v = .slice a 0 cap) ∨
  (∃ b cap, ∃ u : Nat → Value, ∃ G : Nat → Nat → Prop, F b ∧ (∀ i c, G i c → F c ∧ c ≠ b) ∧ (∀ i j c, i ≠ j → G i c → ¬ G j c) ∧
    v = .slice (some ⟨b, 0, none⟩) ps.length cap ∧ ps.length ≤ maxLen ∧ OwnRow w b (ps.length * 2) (putCell ps u) ∧ ∀ i, i < ps.length → IntsO w (u i) (ps[i]?.getD (0, [])).2 (G i))
theorem PutsO.puts {w : World} {v : Value} {ps : List (Int × List Int)} {F : Nat → Prop} (h : PutsO w v ps F) : Puts w v ps := by
  rcases h with h | ⟨b, cap, u, G, _, _, _, h1, h2, h3, h4⟩
  · exact Or.inl h
  · refine Or.inr ⟨b, 0, cap, u, h1, h2, fun k hk => ⟨?_, ?_, (h4 k hk).ints⟩⟩
    · rw [Nat.zero_add, h3.cell (by omega), putCell_at]
    · rw [Nat.zero_add, h3.cell (by omega), putCell_words]
theorem PutsO.keep {w w' : World} {v : Value} {ps : List (Int × List Int)} {F : Nat → Prop} (h : PutsO w v ps F) (e : ∀ b, F b → b < w.heap.size → w'.heap[b]? = w.heap[b]?) : PutsO w' v ps F := by
  rcases h with h | ⟨b, cap, u, G, hF, hG, hGG, h1, h2, h3, h4⟩
  · exact Or.inl h
  · exact Or.inr ⟨b, cap, u, G, hF, hG, hGG, h1, h2, h3.block (e b hF h3.lt), fun i hi => (h4 i hi).keep fun c hc => e c (hG i c hc).1⟩
theorem PutsO.mono {w : World} {v : Value} {ps : List (Int × List Int)} {F F' : Nat → Prop} (h : PutsO w v ps F) (e : ∀ b, F b → F' b) : PutsO w v ps F' := by
  rcases h with h | ⟨b, cap, u, G, hF, hG, h1⟩
  · exact Or.inl h
  · exact Or.inr ⟨b, cap, u, G, e b hF, fun i c hc => ⟨e c (hG i c hc).1, (hG i c hc).2⟩, h1⟩

theorem PutsO.store {w : World} {v : Value} {ps : List (Int × List Int)} {F : Nat → Prop} (h : PutsO w v ps F) {p : Addr} (hp : ∀ b, F b → b ≠ p.block) (x : Value) : PutsO (w.setCell p x) v ps F := h.keep fun b hb _ => Below.heap_setCell _ _ _ _ (hp b hb)
theorem IntsO.bound {w : World} {v : Value} {zs : List Int} {F : Nat → Prop} (h : IntsO w v zs F) : IntsO w v zs (fun b => F b ∧ b < w.heap.size) := by
  rcases h with h | ⟨b, cap, hF, h1, h2, h3⟩
  · exact Or.inl h
  · exact Or.inr ⟨b, cap, ⟨hF, h3.lt⟩, h1, h2, h3⟩
theorem IntsSO.bound {w : World} {v : Value} {zss : List (List Int)} {F : Nat → Prop} (h : IntsSO w v zss F) : IntsSO w v zss (fun b => F b ∧ b < w.heap.size) := by
  rcases h with h | ⟨b, cap, u, G, hF, hG, hGG, h1, h2, h3, h4⟩
  · exact Or.inl h
  · exact Or.inr ⟨b, cap, u, fun i c => G i c ∧ c < w.heap.size, ⟨hF, h3.lt⟩, fun i c hc => ⟨⟨(hG i c hc.1).1, hc.2⟩, (hG i c hc.1).2⟩, fun i j c e hc hc' => hGG i j c e hc.1 hc'.1, h1, h2, h3, fun i hi => (h4 i hi).bound⟩
theorem PutsO.bound {w : World} {v : Value} {ps : List (Int × List Int)} {F : Nat → Prop} (h : PutsO w v ps F) : PutsO w v ps (fun b => F b ∧ b < w.heap.size) := by
  rcases h with h | ⟨b, cap, u, G, hF, hG, hGG, h1, h2, h3, h4⟩
  · exact Or.inl h
  · exact Or.inr ⟨b, cap, u, fun i c => G i c ∧ c < w.heap.size, ⟨hF, h3.lt⟩, fun i c hc => ⟨⟨(hG i c hc.1).1, hc.2⟩, (hG i c hc.1).2⟩, fun i j c e hc hc' => hGG i j c e hc.1 hc'.1, h1, h2, h3, fun i hi => (h4 i hi).bound⟩
theorem new_cell (w : World) (c : Array Value) (t : TypeId) (i : Nat) : (w.alloc (.cells c t)).cell? ⟨w.heap.size, i, none⟩ = c[i]? := by
  have h : (w.alloc (.cells c t)).heap[w.heap.size]? = some (.cells c t) := Go.Deep.blk_alloc_new _ _
  simp only [World.cell?, h]
  rfl
theorem box_later {w w' : World} {F : Nat → Prop} {o : Obj} (h : Chg F (w.alloc o) w') (hF : ∀ b, F b → b < w.heap.size) : w'.heap[w.heap.size]? = (w.alloc o).heap[w.heap.size]? :=
  h.block _ (by simp) (fun hf => by have := hF _ hf; omega)

/-- The marks: k, k + 1, .. -/
def marks (k : Int) (n : Nat) : List Int := (List.range n).map fun i : Nat => k + (i : Int)
theorem marks_length (k : Int) (n : Nat) : (marks k n).length = n := by simp [marks]
theorem marks_get (k : Int) {n i : Nat} (h : i < n) : (marks k n)[i]?.getD 0 = k + (i : Int) := by simp [marks, h]
def marksS : Int → List Nat → List (List Int)
  | _, [] => []
  | k, n :: ns => marks k n :: marksS (k + n) ns
def marksP : Int → List Nat → List (Int × List Int)
  | _, [] => []
  | k, n :: ns => (k, marks (k + 1) n) :: marksP (k + 1 + n) ns
theorem marksS_length (ns : List Nat) : ∀ k, (marksS k ns).length = ns.length := by
  induction ns with
  | nil => intro k; rfl
  | cons n ns ih => intro k; simp [marksS, ih]
theorem marksP_length (ns : List Nat) : ∀ k, (marksP k ns).length = ns.length := by
  induction ns with
  | nil => intro k; rfl
  | cons n ns ih => intro k; simp [marksP, ih]
/-- How many values stand in the first j lists. -/
def upto (ns : List Nat) (j : Nat) : Nat := (ns.take j).sum
theorem upto_zero (ns : List Nat) : upto ns 0 = 0 := by simp [upto]
theorem upto_cons (n : Nat) (ns : List Nat) (j : Nat) : upto (n :: ns) (j + 1) = n + upto ns j := by simp [upto]
theorem upto_succ (ns : List Nat) : ∀ j, j < ns.length → upto ns (j + 1) = upto ns j + ns[j]?.getD 0 := by
  induction ns with
  | nil => intro j h; simp at h
  | cons n ns ih =>
    intro j h
    cases j with
    | zero => simp [upto]
    | succ j => rw [upto_cons, upto_cons, ih j (by simpa using h)]; simp; omega
theorem upto_le (ns : List Nat) : ∀ j, upto ns j ≤ ns.sum := by
  induction ns with
  | nil => intro j; simp [upto]
  | cons n ns ih =>
    intro j
    cases j with
    | zero => simp [upto]
    | succ j => rw [upto_cons]; have := ih j; simp; omega
theorem upto_all (ns : List Nat) : upto ns ns.length = ns.sum := by simp [upto]
theorem marksS_get (ns : List Nat) : ∀ k i, i < ns.length → (marksS k ns)[i]?.getD [] = marks (k + (upto ns i : Nat)) (ns[i]?.getD 0) := by
  induction ns with
  | nil => intro k i h; simp at h
  | cons n ns ih =>
    intro k i h
    cases i with
    | zero => simp [marksS, upto]
    | succ i =>
      have := ih (k + n) i (by simpa using h)
      simp only [marksS, List.getElem?_cons_succ, upto_cons]
      rw [this]; congr 1; omega
theorem marksP_get (ns : List Nat) : ∀ k i, i < ns.length → (marksP k ns)[i]?.getD (0, []) = (k + i + (upto ns i : Nat), marks (k + i + (upto ns i : Nat) + 1) (ns[i]?.getD 0)) := by
  induction ns with
  | nil => intro k i h; simp at h
  | cons n ns ih =>
    intro k i h
    cases i with
    | zero => simp [marksP, upto]
    | succ i =>
      have := ih (k + 1 + n) i (by simpa using h)
      simp only [marksP, List.getElem?_cons_succ, upto_cons]
      rw [this, Prod.mk.injEq]
      refine ⟨by omega, ?_⟩
      congr 1; omega


theorem lens_get (zss : List (List Int)) (i : Nat) : (zss.map List.length)[i]?.getD 0 = (zss[i]?.getD []).length := by
  rw [List.getElem?_map]; cases zss[i]? <;> simp
/-- The lengths of the words of puts. -/
def wlens (ps : List (Int × List Int)) : List Nat := ps.map fun p => p.2.length
theorem wlens_get (ps : List (Int × List Int)) (i : Nat) : (wlens ps)[i]?.getD 0 = (ps[i]?.getD (0, [])).2.length := by
  unfold wlens; rw [List.getElem?_map]; cases ps[i]? <;> simp
theorem wlens_length (ps : List (Int × List Int)) : (wlens ps).length = ps.length := by simp [wlens]
/-- How far a disk is marked. -/
def dspan (bs : List (List Int)) (ps : List (Int × List Int)) : Nat := (bs.map List.length).sum + ps.length + (wlens ps).sum

/-- A disk in memory of its own, all of it in blocks of F. -/
def DiskO (w : World) (vB vC : Value) (bs : List (List Int)) (ps : List (Int × List Int)) (F : Nat → Prop) : Prop :=
  ∃ F1 G1 : Nat → Prop, IntsSO w vB bs F1 ∧ PutsO w vC ps G1 ∧ (∀ b, F1 b → ¬ G1 b) ∧ ∀ b, F1 b ∨ G1 b → F b
theorem DiskO.ints {w : World} {vB vC : Value} {bs : List (List Int)} {ps : List (Int × List Int)} {F : Nat → Prop} (h : DiskO w vB vC bs ps F) : IntsS w vB bs := by
  obtain ⟨_, _, h1, _⟩ := h; exact h1.ints
theorem DiskO.puts {w : World} {vB vC : Value} {bs : List (List Int)} {ps : List (Int × List Int)} {F : Nat → Prop} (h : DiskO w vB vC bs ps F) : Puts w vC ps := by
  obtain ⟨_, _, _, h1, _⟩ := h; exact h1.puts
theorem DiskO.keep {w w' : World} {vB vC : Value} {bs : List (List Int)} {ps : List (Int × List Int)} {F : Nat → Prop} (h : DiskO w vB vC bs ps F) (e : ∀ b, F b → b < w.heap.size → w'.heap[b]? = w.heap[b]?) : DiskO w' vB vC bs ps F := by
  obtain ⟨F1, G1, h1, h2, hd, hf⟩ := h
  exact ⟨F1, G1, h1.keep fun b hb => e b (hf b (Or.inl hb)), h2.keep fun b hb => e b (hf b (Or.inr hb)), hd, hf⟩
theorem DiskO.later {w w' : World} {vB vC : Value} {bs : List (List Int)} {ps : List (Int × List Int)} {F : Nat → Prop} (h : DiskO w vB vC bs ps F) (hb : Below w.heap.size w w') : DiskO w' vB vC bs ps F := h.keep fun b _ hlt => hb.block b hlt
theorem DiskO.mono {w : World} {vB vC : Value} {bs : List (List Int)} {ps : List (Int × List Int)} {F G : Nat → Prop} (h : DiskO w vB vC bs ps F) (e : ∀ b, F b → G b) : DiskO w vB vC bs ps G := by
  obtain ⟨F1, G1, h1, h2, hd, hf⟩ := h
  exact ⟨F1, G1, h1, h2, hd, fun b hb => e b (hf b hb)⟩
theorem DiskO.bound {w : World} {vB vC : Value} {bs : List (List Int)} {ps : List (Int × List Int)} {F : Nat → Prop} (h : DiskO w vB vC bs ps F) : DiskO w vB vC bs ps (fun b => F b ∧ b < w.heap.size) := by
  obtain ⟨F1, G1, h1, h2, hd, hf⟩ := h
  exact ⟨_, _, h1.bound, h2.bound, fun b hb hb' => hd b hb.1 hb'.1, fun b hb => hb.elim (fun h => ⟨hf b (Or.inl h.1), h.2⟩) (fun h => ⟨hf b (Or.inr h.1), h.2⟩)⟩
theorem DiskO.chg {w w' : World} {vB vC : Value} {bs : List (List Int)} {ps : List (Int × List Int)} {F G : Nat → Prop} (h : DiskO w vB vC bs ps F) (hc : Chg G w w') (hd : ∀ b, F b → ¬ G b) : DiskO w' vB vC bs ps F := h.keep fun b hb hlt => hc.block b hlt (hd b hb)

/-- Three cells in block b: a code and two lists. -/
def Box3 (w : World) (b : Nat) (c : Int) (x y : Value) : Prop := w.cell? ⟨b, 0, none⟩ = some (.int .i64 c) ∧ w.cell? ⟨b, 1, none⟩ = some x ∧ w.cell? ⟨b, 2, none⟩ = some y
theorem Box3.new (w : World) (c : Int) (x y : Value) (t : TypeId) : Box3 (w.alloc (.cells #[.int .i64 c, x, y] t)) w.heap.size c x y := ⟨by rw [new_cell]; rfl, by rw [new_cell]; rfl, by rw [new_cell]; rfl⟩
theorem Box3.later {w w' : World} {b : Nat} {c : Int} {x y : Value} (h : Box3 w b c x y) (hb : Below w.heap.size w w') : Box3 w' b c x y := ⟨cell_later hb h.1, cell_later hb h.2.1, cell_later hb h.2.2⟩
theorem Box3.lt {w : World} {b : Nat} {c : Int} {x y : Value} (h : Box3 w b c x y) : b < w.heap.size := World.block_lt_of_cell? _ _ h.1
theorem Chg.cell {F : Nat → Prop} {w w' : World} (h : Chg F w w') {a : Addr} (hl : a.block < w.heap.size) (hf : ¬ F a.block) : w'.cell? a = w.cell? a := World.cell?_of_block (w := w) (h.block a.block hl hf)
theorem Box3.chg {w w' : World} {b : Nat} {c : Int} {x y : Value} {F : Nat → Prop} (h : Box3 w b c x y) (hc : Chg F w w') (hf : ¬ F b) : Box3 w' b c x y :=
  ⟨(hc.cell h.lt hf).trans h.1, (hc.cell h.lt hf).trans h.2.1, (hc.cell h.lt hf).trans h.2.2⟩

/-- Two cells in block b: two lists. -/
def Box2 (w : World) (b : Nat) (x y : Value) : Prop := w.cell? ⟨b, 0, none⟩ = some x ∧ w.cell? ⟨b, 1, none⟩ = some y
theorem Box2.new (w : World) (x y : Value) (t : TypeId) : Box2 (w.alloc (.cells #[x, y] t)) w.heap.size x y := ⟨by rw [new_cell]; rfl, by rw [new_cell]; rfl⟩
theorem Box2.later {w w' : World} {b : Nat} {x y : Value} (h : Box2 w b x y) (hb : Below w.heap.size w w') : Box2 w' b x y := ⟨cell_later hb h.1, cell_later hb h.2⟩
theorem Box2.lt {w : World} {b : Nat} {x y : Value} (h : Box2 w b x y) : b < w.heap.size := World.block_lt_of_cell? _ _ h.1

end Go.Proofs.Ytagmmgcdebgfnaa

namespace Go.Proofs.Ytagmmgcdebgfnaa
open Go.RowKit
set_option maxRecDepth 100000

set_option maxHeartbeats 400000 in
theorem markInts_nil (w : World) (a : Option Addr) (cap : Nat) (k : Int) :
    Calls Try.prog 89 #[.slice a 0 cap, .int .i64 k] w fun e w' => e = .returned (.int .i64 k) ∧ w' = w := by
  go_enter Try.func89, Try.ntmps89
  go_wp2
  go_loop [1, 5] (fun q i => i = .int .i64 0 ∧ q = .int .i64 k) (fun _ _ => 0)
  case atStart => exact ⟨rfl, rfl⟩
  case round =>
    obtain ⟨rfl, rfl⟩ := hrel
    go_wp2
    go_ret
    exact ⟨rfl, rfl⟩

set_option maxHeartbeats 400000 in
theorem markInts_walk (w : World) (b cap n : Nat) (k : Int) (F : Nat → Prop) (f : Nat → Value) (hF : F b) (hk0 : 0 ≤ k) (hk : k + (n : Int) ≤ 4611686018427387904) (hr : OwnRow w b n f) :
    Calls Try.prog 89 #[.slice (some ⟨b, 0, none⟩) n cap, .int .i64 k] w fun e w' => e = .returned (.int .i64 (k + (n : Int))) ∧ OwnRow w' b n (fun i => .int .i64 (k + (i : Int))) ∧ Chg F w w' := by
  have HR : Hid (OwnRow w b n f) := hr
  have HF : Hid (F b) := hF
  clear hr hF
  go_enter Try.func89, Try.ntmps89
  go_wp2
  go_loopw [1, 5] (fun q i wr => ∃ j : Nat, j ≤ n ∧ i = .int .i64 j ∧ q = .int .i64 (k + (j : Int)) ∧ OwnRow wr b n (fun i => if i < j then .int .i64 (k + (i : Int)) else f i) ∧ Chg F w wr) (fun _ i _ => n - (intOf i).toNat)
  case atStart => exact ⟨0, Nat.zero_le _, rfl, by simp, HR.out.congr fun i _ => by simp, Chg.refl _ _⟩
  case round =>
    obtain ⟨j, hj, rfl, rfl, hrow, hch⟩ := hrel
    by_cases hlt : j < n
    · have c1 := hrow.cell hlt
      have c2 := hrow.frozen j
      have HROW : Hid (OwnRow wr b n (fun i => if i < j then .int .i64 (k + (i : Int)) else f i)) := hrow
      have HCH : Hid (Chg F w wr) := hch
      clear hrow hch
      simp only [Nat.lt_irrefl, if_false] at c1
      go_wp2
      go_roundw
      case rel =>
        refine ⟨j + 1, by omega, by go_num, by go_num, (HROW.out.set j _).congr fun i hi => ?_, HCH.out.set HF.out _ _⟩
        by_cases e : i = j
        · subst e; simp
        · by_cases e2 : i < j
          · simp [e, e2, show i < j + 1 by omega]
          · simp [e, e2, show ¬ i < j + 1 by omega]
      case measure => simp [intOf]; omega
    · go_wp2
      go_ret
      have e : j = n := by omega
      subst e
      exact ⟨rfl, hrow.congr fun i hi => by simp [hi], hch⟩

theorem markInts_any {w : World} {v : Value} {zs : List Int} {F : Nat → Prop} (k : Int) (h : IntsO w v zs F) (hk0 : 0 ≤ k) (hk : k + (zs.length : Int) ≤ 4611686018427387904) :
    Calls Try.prog 89 #[v, .int .i64 k] w fun e w' => e = .returned (.int .i64 (k + (zs.length : Int))) ∧ IntsO w' v (marks k zs.length) F ∧ Chg F w w' := by
  rcases h with ⟨rfl, a, cap, rfl⟩ | ⟨b, cap, hF, rfl, hl, hr⟩
  · exact (markInts_nil w a cap k).mono fun e w' ⟨he, hw⟩ => ⟨by rw [he]; simp, Or.inl ⟨by simp [marks], a, cap, rfl⟩, hw ▸ Chg.refl _ _⟩
  · refine (markInts_walk w b cap zs.length k F _ hF hk0 hk hr).mono fun e w' ⟨he, hrow, hch⟩ => ⟨he, Or.inr ⟨b, cap, hF, by rw [marks_length], by rw [marks_length]; exact hl, ?_⟩, hch⟩
    rw [marks_length]
    exact hrow.congr fun i hi => by rw [marks_get k hi]

set_option maxHeartbeats 400000 in
theorem heldInts_nil (w : World) (a : Option Addr) (cap : Nat) (k : Int) :
    Calls Try.prog 97 #[.slice a 0 cap, .int .i64 k] w fun e w' => e = .returned (.int .i64 k) ∧ w' = w := by
  go_enter Try.func97, Try.ntmps97
  go_wp2
  go_loop [1, 5] (fun q i => i = .int .i64 0 ∧ q = .int .i64 k) (fun _ _ => 0)
  case atStart => exact ⟨rfl, rfl⟩
  case round =>
    obtain ⟨rfl, rfl⟩ := hrel
    go_wp2
    go_ret
    exact ⟨rfl, rfl⟩

set_option maxHeartbeats 400000 in
theorem heldInts_walk (w : World) (b off cap n : Nat) (k : Int) (hk0 : 0 ≤ k) (hk : k + (n : Int) ≤ 4611686018427387904) (hc : ∀ i : Nat, i < n → w.cell? ⟨b, off + i, none⟩ = some (.int .i64 (k + (i : Int)))) :
    Calls Try.prog 97 #[.slice (some ⟨b, off, none⟩) n cap, .int .i64 k] w fun e w' => e = .returned (.int .i64 (k + (n : Int))) ∧ w' = w := by
  go_enter Try.func97, Try.ntmps97
  go_wp2
  go_loop [1, 5] (fun q i => ∃ j : Nat, j ≤ n ∧ i = .int .i64 j ∧ q = .int .i64 (k + (j : Int))) (fun _ i => n - (intOf i).toNat)
  case atStart => exact ⟨0, Nat.zero_le _, rfl, by simp⟩
  case round =>
    obtain ⟨j, hj, rfl, rfl⟩ := hrel
    by_cases hlt : j < n
    · have c1 := hc j hlt
      have hne : ((k + (j : Int)) != (k + (j : Int))) = false := by simp
      clear hc
      go_wp2
      go_round
      case rel => exact ⟨j + 1, by omega, by go_num, by go_num⟩
      case measure => simp [intOf]; omega
    · go_wp2
      go_ret
      have e : j = n := by omega
      subst e
      exact ⟨rfl, rfl⟩

theorem heldInts_any {w : World} {v : Value} (k : Int) (n : Nat) (h : Ints w v (marks k n)) (hk0 : 0 ≤ k) (hk : k + (n : Int) ≤ 4611686018427387904) :
    Calls Try.prog 97 #[v, .int .i64 k] w fun e w' => e = .returned (.int .i64 (k + (n : Int))) ∧ w' = w := by
  rcases h with ⟨h0, a, cap, rfl⟩ | ⟨b, off, cap, hv, hl, hr⟩
  · have : n = 0 := by have := marks_length k n; rw [h0] at this; simpa using this.symm
    subst this
    exact (heldInts_nil w a cap k).mono fun e w' ⟨he, hw⟩ => ⟨by rw [he]; simp, hw⟩
  · rw [marks_length] at hv hr
    subst hv
    exact heldInts_walk w b off cap n k hk0 hk fun i hi => by rw [hr i hi, marks_get k hi]

set_option maxHeartbeats 400000 in
theorem markIntsS_nil (w : World) (a : Option Addr) (cap : Nat) (k : Int) :
    Calls Try.prog 73 #[.slice a 0 cap, .int .i64 k] w fun e w' => e = .returned (.int .i64 k) ∧ w' = w := by
  go_enter Try.func73, Try.ntmps73
  go_wp2
  go_loop [1, 5] (fun q i => i = .int .i64 0 ∧ q = .int .i64 k) (fun _ _ => 0)
  case atStart => exact ⟨rfl, rfl⟩
  case round =>
    obtain ⟨rfl, rfl⟩ := hrel
    go_wp2
    go_ret
    exact ⟨rfl, rfl⟩

/-- What stands in the inner list i while the first j are marked. -/
def half (k : Int) (zss : List (List Int)) (j i : Nat) : List Int := if i < j then marks (k + (upto (zss.map List.length) i : Nat)) (zss[i]?.getD []).length else zss[i]?.getD []

set_option maxHeartbeats 400000 in
theorem markIntsS_walk (w : World) (b cap n : Nat) (k : Int) (F : Nat → Prop) (zss : List (List Int)) (u : Nat → Value) (G : Nat → Nat → Prop) (hG : ∀ i c, G i c → F c ∧ c ≠ b) (hGG : ∀ i j c, i ≠ j → G i c → ¬ G j c)
    (hn : zss.length = n) (hk0 : 0 ≤ k) (hk : k + ((zss.map List.length).sum : Nat) ≤ 4611686018427387904) (hn2 : n ≤ 9223372036854775807) (hr : OwnRow w b n u) (hu : ∀ i, i < n → IntsO w (u i) (zss[i]?.getD []) (G i)) :
    Calls Try.prog 73 #[.slice (some ⟨b, 0, none⟩) n cap, .int .i64 k] w fun e w' => e = .returned (.int .i64 (k + ((zss.map List.length).sum : Nat))) ∧ OwnRow w' b n u ∧ (∀ i, i < n → IntsO w' (u i) (half k zss n i) (G i)) ∧ Chg F w w' := by
  have HR : Hid (OwnRow w b n u) := hr
  have HU : Hid (∀ i, i < n → IntsO w (u i) (zss[i]?.getD []) (G i)) := hu
  have HG : Hid (∀ i c, G i c → F c ∧ c ≠ b) := hG
  have HGG : Hid (∀ i j c, i ≠ j → G i c → ¬ G j c) := hGG
  have HN : Hid (zss.length = n) := hn
  clear hr hu hG hGG hn
  go_enter Try.func73, Try.ntmps73
  go_wp2
  go_loopw [1, 5] (fun q i wr => ∃ j : Nat, j ≤ n ∧ i = .int .i64 j ∧ q = .int .i64 (k + (upto (zss.map List.length) j : Nat)) ∧ OwnRow wr b n u ∧ (∀ i, i < n → IntsO wr (u i) (half k zss j i) (G i)) ∧ Chg F w wr) (fun _ i _ => n - (intOf i).toNat)
  case atStart => exact ⟨0, Nat.zero_le _, rfl, by simp [upto_zero], HR.out, fun i hi => by simpa [half] using HU.out i hi, Chg.refl _ _⟩
  case round =>
    obtain ⟨j, hj, rfl, rfl, hrow, hin, hch⟩ := hrel
    by_cases hlt : j < n
    · have c1 := hrow.cell hlt
      have HROW : Hid (OwnRow wr b n u) := hrow
      have HIN : Hid (∀ i, i < n → IntsO wr (u i) (half k zss j i) (G i)) := hin
      have HCH : Hid (Chg F w wr) := hch
      clear hrow hin hch
      have hs := upto_succ (zss.map List.length) j (by rw [List.length_map, HN.out]; exact hlt)
      rw [lens_get] at hs
      have hle := upto_le (zss.map List.length) (j + 1)
      have HS : Hid (upto (zss.map List.length) (j + 1) = upto (zss.map List.length) j + (zss[j]?.getD []).length) := hs
      clear hs
      generalize hU : upto (zss.map List.length) j = U at *
      have hij : IntsO wr (u j) (zss[j]?.getD []) (G j) := by have := HIN.out j hlt; simpa [half] using this
      have HIJ : Hid (IntsO wr (u j) (zss[j]?.getD []) (G j)) := hij
      clear hij
      go_wp2_with fail
      refine (markInts_any (k + (U : Int)) HIJ.out (by omega) (by have := HS.out; omega)).mono ?_
      rintro e w' ⟨rfl, hm, hc⟩
      have HM : Hid (IntsO w' (u j) (marks (k + (U : Int)) (zss[j]?.getD []).length) (G j)) := hm
      have HC : Hid (Chg (G j) wr w') := hc
      clear hm hc
      go_wp2
      go_roundw
      case rel =>
        refine ⟨j + 1, by omega, by go_num, by rw [HS.out]; go_num, HROW.out.block (HC.out.block b HROW.out.lt (fun h => (HG.out j b h).2 rfl)), fun i hi => ?_, HCH.out.trans (HC.out.mono fun c hc => (HG.out j c hc).1)⟩
        by_cases e : i = j
        · subst e
          have := HM.out
          rw [← hU] at this
          simpa [half] using this
        · have h1 := (HIN.out i hi).keep (w' := w') fun c hc hlt => HC.out.block c hlt (HGG.out i j c e hc)
          have h2 : half k zss (j + 1) i = half k zss j i := by
            unfold half
            by_cases e2 : i < j
            · rw [if_pos e2, if_pos (by omega)]
            · rw [if_neg e2, if_neg (by omega)]
          rw [h2]; exact h1
      case measure => simp [intOf]; omega
    · go_wp2
      go_ret
      have e : j = n := by omega
      subst e
      exact ⟨ret_int (by rw [← HN.out, ← upto_all, List.length_map]), hrow, hin, hch⟩

theorem markIntsS_any {w : World} {v : Value} {zss : List (List Int)} {F : Nat → Prop} (k : Int) (h : IntsSO w v zss F) (hk0 : 0 ≤ k) (hk : k + ((zss.map List.length).sum : Nat) ≤ 4611686018427387904) :
    Calls Try.prog 73 #[v, .int .i64 k] w fun e w' => e = .returned (.int .i64 (k + ((zss.map List.length).sum : Nat))) ∧ IntsSO w' v (marksS k (zss.map List.length)) F ∧ Chg F w w' := by
  rcases h with ⟨rfl, a, cap, rfl⟩ | ⟨b, cap, u, G, hF, hG, hGG, rfl, hl, hr, hu⟩
  · exact (markIntsS_nil w a cap k).mono fun e w' ⟨he, hw⟩ => ⟨by rw [he]; simp, Or.inl ⟨rfl, a, cap, rfl⟩, hw ▸ Chg.refl _ _⟩
  · refine (markIntsS_walk w b cap zss.length k F zss u G hG hGG rfl hk0 hk (by unfold maxLen at hl; omega) hr hu).mono fun e w' ⟨he, hrow, hin, hch⟩ => ⟨he, Or.inr ⟨b, cap, u, G, hF, hG, hGG, ?_, ?_, ?_, ?_⟩, hch⟩
    · rw [marksS_length, List.length_map]
    · rw [marksS_length, List.length_map]; exact hl
    · rw [marksS_length, List.length_map]; exact hrow
    · intro i hi
      rw [marksS_length, List.length_map] at hi
      have := hin i hi
      rw [marksS_get _ _ _ (by rw [List.length_map]; exact hi), lens_get]
      simpa [half, hi] using this

end Go.Proofs.Ytagmmgcdebgfnaa

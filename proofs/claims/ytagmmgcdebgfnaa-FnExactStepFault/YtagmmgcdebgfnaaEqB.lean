
/- The walks of the comparing functions over puts and disks. -/
import Derived.Test.YtagmmgcdebgfnaaEqA
import Derived.Deep.RegionWith
import Derived.Deep.RegionHeld3
namespace Go.Proofs.Ytagmmgcdebgfnaa
open Go.RowKit
set_option maxRecDepth 100000

theorem beq_pair1 {a b : Int} (xs ys : List Int) (h : (a != b) = true) : false = ((a, xs) == (b, ys)) := by
  symm; rw [Bool.eq_false_iff]; intro e; simp at h; have := eq_of_beq e; simp at this; exact h this.1
theorem beq_pair2 {a b : Int} {xs ys : List Int} {r : Bool} (h : (a != b) = false) (hr : (xs == ys) = r) : r = ((a, xs) == (b, ys)) := by
  simp at h; subst h; rw [← hr]
  by_cases e : xs = ys
  · simp [e]
  · have h1 : (xs == ys) = false := by simp [e]
    rw [h1]; symm; rw [Bool.eq_false_iff]; intro h2; have := eq_of_beq h2; simp at this; exact e this

set_option maxHeartbeats 400000 in
theorem eqPut_any (w : World) (va vb : Value) (a b : Int) (xs ys : List Int) (ha : Ints w va xs) (hb : Ints w vb ys) :
    Calls Try.prog 88 #[.agg #[.int .i64 a, va], .agg #[.int .i64 b, vb]] w fun e w' => e = .returned (.bool ((a, xs) == (b, ys))) ∧ Below w.heap.size w w' := by
  have HA : Hid (Ints w va xs) := ha
  have HB : Hid (Ints w vb ys) := hb
  clear ha hb
  generalize hr : (xs == ys) = r
  have HR : Hid ((xs == ys) = r) := hr
  clear hr
  by_cases hab : (a != b) = true
  · go_enter Try.func88, Try.ntmps88
    go_wp2_with fail
    go_ret
    exact ⟨ret_bool (beq_pair1 xs ys hab), later2 _ _ _⟩
  · have hab' : (a != b) = false := by simpa using hab
    clear hab
    go_enter Try.func88, Try.ntmps88
    go_wp2_with fail
    refine (eqInts_any (HA.out.later (later2 _ _ _)) (HB.out.later (later2 _ _ _))).mono ?_
    rw [HR.out]
    rintro e w' ⟨rfl, m, rfl⟩
    cases r
    all_goals
      go_wp2
      go_ret
      exact ⟨ret_bool (beq_pair2 hab' HR.out), below_drewN (later2 _ _ _) m⟩

set_option maxHeartbeats 400000 in
theorem eqPuts_len (w : World) (a a' : Option Addr) (cap cap' n n' : Nat) (hn : ¬ n = n') :
    Calls Try.prog 41 #[.slice a n cap, .slice a' n' cap'] w fun e w' => e = .returned (.bool false) ∧ w' = w := by
  have hb : ((n : Int) != (n' : Int)) = true := by simp; omega
  clear hn
  go_enter Try.func41, Try.ntmps41
  go_wp2
  go_ret
  exact ⟨rfl, rfl⟩

set_option maxHeartbeats 400000 in
theorem eqPuts_nil (w : World) (a a' : Option Addr) (cap cap' : Nat) :
    Calls Try.prog 41 #[.slice a 0 cap, .slice a' 0 cap'] w fun e w' => e = .returned (.bool true) ∧ w' = w := by
  go_enter Try.func41, Try.ntmps41
  go_wp2
  go_loop [5] (fun i => i = .int .i64 0) (fun _ => 0)
  case atStart => rfl
  case round =>
    obtain rfl := hrel
    go_wp2
    go_ret
    exact ⟨rfl, rfl⟩

set_option maxHeartbeats 800000 in
theorem eqPuts_walk (w : World) (b off cap b' off' cap' n : Nat) (xs ys : List (Int × List Int)) (u u' : Nat → Value) (hx : xs.length = n) (hy : ys.length = n) (hn : n ≤ maxLen)
    (cx : ∀ k, k < n → w.cell? ⟨b, off + k * 2, none⟩ = some (.int .i64 (xs[k]?.getD (0, [])).1) ∧ w.cell? ⟨b, off + k * 2 + 1, none⟩ = some (u k) ∧ Ints w (u k) (xs[k]?.getD (0, [])).2)
    (cy : ∀ k, k < n → w.cell? ⟨b', off' + k * 2, none⟩ = some (.int .i64 (ys[k]?.getD (0, [])).1) ∧ w.cell? ⟨b', off' + k * 2 + 1, none⟩ = some (u' k) ∧ Ints w (u' k) (ys[k]?.getD (0, [])).2) :
    Calls Try.prog 41 #[.slice (some ⟨b, off, none⟩) n cap, .slice (some ⟨b', off', none⟩) n cap'] w fun e w' => e = .returned (.bool (xs == ys)) ∧ Below w.heap.size w w' := by
  unfold maxLen at hn
  have HX : Hid (xs.length = n) := hx
  have HY : Hid (ys.length = n) := hy
  clear hx hy
  go_enter Try.func41, Try.ntmps41
  go_wp2
  go_loopw [5] (fun i wr => ∃ k : Nat, k ≤ n ∧ i = .int .i64 k ∧ Below w.heap.size w wr ∧ xs.take k = ys.take k) (fun i _ => n - (intOf i).toNat)
  case atStart => exact ⟨0, Nat.zero_le _, rfl, Below.refl _ _, rfl⟩
  case round =>
    obtain ⟨k, hk, rfl, hbl, ht⟩ := hrel
    by_cases hlt : k < n
    · obtain ⟨c1, c2, i1⟩ := cx k hlt
      obtain ⟨d1, d2, i2⟩ := cy k hlt
      clear cx cy
      have HT : Hid (xs.take k = ys.take k) := ht
      clear ht
      replace c1 := cell_later hbl c1
      replace c2 := cell_later hbl c2
      replace d1 := cell_later hbl d1
      replace d2 := cell_later hbl d2
      replace i1 := i1.later hbl
      replace i2 := i2.later hbl
      have HBL : Hid (Below w.heap.size w wr) := hbl
      clear hbl
      have HI1 : Hid (Ints wr (u k) (xs[k]?.getD (0, [])).2) := i1
      have HI2 : Hid (Ints wr (u' k) (ys[k]?.getD (0, [])).2) := i2
      clear i1 i2
      by_cases he : xs[k]?.getD (0, []) = ys[k]?.getD (0, [])
      · have HE : Hid (xs[k]?.getD (0, []) = ys[k]?.getD (0, [])) := he
        have HB : Hid (((xs[k]?.getD (0, [])) == (ys[k]?.getD (0, []))) = true) := by simp [he, Hid]
        clear he
        go_wp2_with fail
        go_region_with ((go_at_call 88; refine (eqPut_any _ _ _ _ _ (xs[k]?.getD (0, [])).2 (ys[k]?.getD (0, [])).2 ?_ ?_).mono ?_; exact HI1.out; exact HI2.out; rw [show (((xs[k]?.getD (0, [])).1, (xs[k]?.getD (0, [])).2) == ((ys[k]?.getD (0, [])).1, (ys[k]?.getD (0, [])).2)) = true from HB.out]; rintro e w' ⟨rfl, hb2⟩))
        all_goals
          go_wp2
          go_roundw
          case rel => exact ⟨k + 1, by omega, by go_num, (HBL.out.drew).trans (hb2.mono HBL.out.size), take_more (0, []) HX.out HY.out hlt HT.out HE.out⟩
          case measure => simp [intOf]; omega
      · have HB : Hid (((xs[k]?.getD (0, [])) == (ys[k]?.getD (0, []))) = false) := by unfold Hid; rw [Bool.eq_false_iff]; intro h; exact he (eq_of_beq h)
        have HE : Hid (¬ xs[k]?.getD (0, []) = ys[k]?.getD (0, [])) := he
        clear he
        go_wp2_with fail
        go_region_with ((go_at_call 88; refine (eqPut_any _ _ _ _ _ (xs[k]?.getD (0, [])).2 (ys[k]?.getD (0, [])).2 ?_ ?_).mono ?_; exact HI1.out; exact HI2.out; rw [show (((xs[k]?.getD (0, [])).1, (xs[k]?.getD (0, [])).2) == ((ys[k]?.getD (0, [])).1, (ys[k]?.getD (0, [])).2)) = false from HB.out]; rintro e w' ⟨rfl, hb2⟩))
        all_goals
          go_wp2
          go_ret
          exact ⟨ret_bool (beq_at (0, []) HE.out), (HBL.out.drew).trans (hb2.mono HBL.out.size)⟩
    · go_wp2
      go_ret
      exact ⟨ret_bool (beq_takes HX.out HY.out (by omega) ht), hbl⟩

theorem eqPuts_any {w : World} {va vb : Value} {xs ys : List (Int × List Int)} (ha : Puts w va xs) (hb : Puts w vb ys) :
    Calls Try.prog 41 #[va, vb] w fun e w' => e = .returned (.bool (xs == ys)) ∧ Below w.heap.size w w' := by
  have base : ∀ a cap a' cap' (x y : List (Int × List Int)), x.length ≠ y.length ∨ (x = [] ∧ y = []) → Calls Try.prog 41 #[.slice a x.length cap, .slice a' y.length cap'] w fun e w' => e = .returned (.bool (x == y)) ∧ Below w.heap.size w w' := by
    intro a cap a' cap' x y h
    rcases h with h | ⟨rfl, rfl⟩
    · exact (eqPuts_len w a a' cap cap' _ _ h).mono fun e w' ⟨he, hw⟩ => ⟨he.trans (ret_bool (beq_len h)), hw ▸ Below.refl _ _⟩
    · exact (eqPuts_nil w a a' cap cap').mono fun e w' ⟨he, hw⟩ => ⟨he, hw ▸ Below.refl _ _⟩
  rcases ha with ⟨rfl, a, cap, rfl⟩ | ⟨b, off, cap, u, rfl, hl, hc⟩
  · rcases hb with ⟨rfl, a', cap', rfl⟩ | ⟨b', off', cap', u', rfl, hl', hc'⟩
    · exact base a cap a' cap' [] [] (Or.inr ⟨rfl, rfl⟩)
    · by_cases h : ys = []
      · subst h; exact base a cap _ cap' [] [] (Or.inr ⟨rfl, rfl⟩)
      · exact base a cap _ cap' [] ys (Or.inl (by cases ys <;> simp at h ⊢))
  · rcases hb with ⟨rfl, a', cap', rfl⟩ | ⟨b', off', cap', u', rfl, hl', hc'⟩
    · by_cases h : xs = []
      · subst h; exact base _ cap a' cap' [] [] (Or.inr ⟨rfl, rfl⟩)
      · exact base _ cap a' cap' xs [] (Or.inl (by cases xs <;> simp at h ⊢))
    · by_cases h : xs.length = ys.length
      · have := eqPuts_walk w b off cap b' off' cap' ys.length xs ys u u' h rfl hl' (fun k hk => hc k (by omega)) hc'
        rw [h]; exact this
      · exact base _ cap _ cap' xs ys (Or.inl h)

/-- Of two disks that read alike eqDisk tells true. -/
theorem eqDisk_true (w : World) (va vc va' vc' : Value) (bs : List (List Int)) (ps : List (Int × List Int)) (h1 : IntsS w va bs) (h2 : Puts w vc ps) (h3 : IntsS w va' bs) (h4 : Puts w vc' ps) :
    Calls Try.prog 24 #[.agg #[va, vc], .agg #[va', vc']] w fun e w' => e = .returned (.bool true) ∧ Below w.heap.size w w' := by
  have H1 : Hid (IntsS w va bs) := h1
  have H2 : Hid (Puts w vc ps) := h2
  have H3 : Hid (IntsS w va' bs) := h3
  have H4 : Hid (Puts w vc' ps) := h4
  clear h1 h2 h3 h4
  go_enter Try.func24, Try.ntmps24
  go_wp2_with fail
  refine (eqIntsS_any (H1.out.later (later2 _ _ _)) (H3.out.later (later2 _ _ _))).mono ?_
  rw [beq_self_eq_true]
  rintro e w' ⟨rfl, m, rfl⟩
  go_wp2_with fail
  refine (eqPuts_any ((H2.out.later (later2 _ _ _)).drewN m) ((H4.out.later (later2 _ _ _)).drewN m)).mono ?_
  rw [beq_self_eq_true]
  rintro e w' ⟨rfl, hb⟩
  go_wp2
  go_ret
  exact ⟨rfl, (below_drewN (later2 _ _ _) m).trans (hb.mono (by simp [World.drewN]; omega))⟩

end Go.Proofs.Ytagmmgcdebgfnaa

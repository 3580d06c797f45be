
/- The walks of the laws' functions over lists of extents. -/
import Derived.Test.YtojegkekafampahRows
import Derived.Test.YtojegkekafampahExtA
import Derived.Test.YtojegkekafampahSz
import Derived.Deep.RegionWith
import Derived.Deep.RegionHeld3
namespace Go.Proofs.Ytojegkekafampah
open Go.RowKit
set_option maxRecDepth 100000

theorem Try.infoExt : (Try.prog.info? 70).map (fun i => (i.zero, i.size, i.bytes)) = some (some (.agg #[.int .i64 0, .int .i64 0, .int .i64 0]), 3, 24) := by kernel_rfl

theorem szExts_any {w : World} {v : Value} {es : List E3} (h : Exts w v es) (left : Int) (h0 : 0 ≤ left) (h1 : left ≤ 1048576) :
    Calls Try.prog 33 #[v, .int .i64 left] w fun e w' => e = .returned (.int .i64 (szf left es.length)) ∧ w' = w := by
  obtain ⟨a, cap, rfl, hn, _⟩ := h.open'
  unfold maxLen at hn
  generalize es.length = n at *
  by_cases h : left < (n : Int)
  · rw [szf_no h]
    have h' : left - (n : Int) < 0 := by omega
    go_enter Try.func33, Try.ntmps33
    go_wp2
    go_ret
    exact ⟨rfl, rfl⟩
  · rw [szf_yes h]
    have h' : ¬ left - (n : Int) < 0 := by omega
    go_enter Try.func33, Try.ntmps33
    go_wp2
    go_ret
    exact ⟨rfl, rfl⟩

theorem toExt_any (w : World) (x y z : Int) :
    Calls Try.prog 72 #[.agg #[.int .i64 x, .int .i64 y, .int .i64 z]] w fun e w' => e = .returned (.agg #[.int .i64 x, .int .i64 y, .int .i64 z]) ∧ Below w.heap.size w w' := by
  go_enter Try.func72, Try.ntmps72
  go_wp2
  exact bodyPost_ret (v := .agg #[.int .i64 x, .int .i64 y, .int .i64 z]) (by simp [results, Try.results72, go_sem]) rfl ⟨rfl, later3 _ _ _ _⟩

set_option maxHeartbeats 800000 in
theorem toExts_walk (w : World) (a : Option Addr) (cap n : Nat) (es : List E3) (hn : n ≤ 1048576) (hc : AtE w a n es) :
    Calls Try.prog 36 #[.slice a n cap] w fun e w' => e = .returned (.slice (some ⟨w.heap.size, 0, none⟩) n n) ∧ Below w.heap.size w w' ∧ OwnRow w' w.heap.size (n * 3) (exCell es) := by
  have hmk := fun w => run_make_trip (P := Try.prog) 34 70 (.int .i64 0) (.int .i64 0) (.int .i64 0) 24 Try.underlying34 Try.infoExt rfl .i64 .i64 n (by omega) (by omega) w
  have HC : Hid (AtE w a n es) := hc
  clear hc
  go_enter Try.func36, Try.ntmps36
  go_wp2
  clear hmk
  go_loopw [4] (fun i wr => ∃ j : Nat, j ≤ n ∧ i = .int .i64 j ∧ Below w.heap.size w wr ∧ OwnRow wr w.heap.size (n * 3) (partE es j)) (fun i _ => n - (intOf i).toNat)
  case atStart => exact ⟨0, Nat.zero_le _, rfl, later1 _ _, (OwnRow.madeTrip w n 70).congr fun i _ => by simp [partE]⟩
  case round =>
    obtain ⟨j, hj, rfl, hbl, hrow⟩ := hrel
    by_cases hlt : j < n
    · obtain ⟨b, off, rfl, c0, c1, c2⟩ := HC.out j hlt
      replace c0 := cell_later hbl c0
      replace c1 := cell_later hbl c1
      replace c2 := cell_later hbl c2
      have HBL : Hid (Below w.heap.size w wr) := hbl
      have HROW : Hid (OwnRow wr w.heap.size (n * 3) (partE es j)) := hrow
      have NX : ∀ c, (if c = j * 3 + 2 then .int .i64 (es[j]?.getD (0, 0, 0)).2.2 else (if c = j * 3 + 1 then .int .i64 (es[j]?.getD (0, 0, 0)).2.1 else (if c = j * 3 then .int .i64 (es[j]?.getD (0, 0, 0)).1 else partE es j c))) = partE es (j + 1) c := partE_next es j
      generalize (es[j]?.getD (0, 0, 0)).1 = x at c0 NX
      generalize (es[j]?.getD (0, 0, 0)).2.1 = y at c1 NX
      generalize (es[j]?.getD (0, 0, 0)).2.2 = z at c2 NX
      have HNX : Hid (∀ c, (if c = j * 3 + 2 then .int .i64 z else (if c = j * 3 + 1 then .int .i64 y else (if c = j * 3 then .int .i64 x else partE es j c))) = partE es (j + 1) c) := NX
      clear hbl hrow NX
      go_wp2_with fail
      refine (toExt_any _ x y z).mono ?_
      rintro e w1 ⟨rfl, hb1⟩
      have HB1 : Hid (Below wr.heap.size wr w1) := hb1
      have HROW1 : Hid (OwnRow w1 w.heap.size (n * 3) (partE es j)) := HROW.out.block (hb1.block _ HROW.out.lt)
      have d0 : w1.cell? ⟨w.heap.size, j * 3, none⟩ = some (.int .i64 0) := by rw [HROW1.out.cell (by omega)]; simp [partE]
      have d1 : w1.cell? ⟨w.heap.size, j * 3 + 1, none⟩ = some (.int .i64 0) := by rw [HROW1.out.cell (by omega)]; unfold partE; rw [if_neg (by omega)]
      have d2 : w1.cell? ⟨w.heap.size, j * 3 + 2, none⟩ = some (.int .i64 0) := by rw [HROW1.out.cell (by omega)]; unfold partE; rw [if_neg (by omega)]
      have f0 := HROW1.out.frozen (j * 3)
      have f1 := HROW1.out.frozen (j * 3 + 1)
      have f2 := HROW1.out.frozen (j * 3 + 2)
      clear hb1
      go_wp2
      go_roundw
      case rel =>
        refine ⟨j + 1, by omega, by go_num, (((HBL.out.trans (HB1.out.mono HBL.out.size)).setCell (Nat.le_refl _) _).setCell (Nat.le_refl _) _).setCell (Nat.le_refl _) _, (((HROW1.out.set (j * 3) _).set (j * 3 + 1) _).set (j * 3 + 2) _).congr fun c _ => HNX.out c⟩
      case measure => simp [intOf]; omega
    · go_wp2
      go_ret
      have e : j = n := by omega
      subst e
      exact ⟨rfl, hbl, hrow.congr fun i hi => by simp [partE, hi]⟩
theorem toExtsU {w : World} {v : Value} {es : List E3} (h : Exts w v es) (hn : es.length ≤ 1048576) :
    Calls Try.prog 36 #[v] w fun e w' => ∃ a n c, e = .returned (.slice a n c) ∧ Below w.heap.size w w' ∧ ExtsO w' (.slice a n c) es (fresh w w') := by
  obtain ⟨a, cap, rfl, hm, hc⟩ := h.open'
  exact (toExts_walk w a cap es.length es hn hc).mono fun e w' ⟨he, hb, hr⟩ => ⟨_, _, _, he, hb, Or.inr ⟨w.heap.size, _, ⟨Nat.le_refl _, hr.lt⟩, rfl, ⟨hm, Nat.le_refl _⟩, hr⟩⟩

theorem eqExt_true (w : World) (x y z : Int) :
    Calls Try.prog 78 #[.agg #[.int .i64 x, .int .i64 y, .int .i64 z], .agg #[.int .i64 x, .int .i64 y, .int .i64 z]] w fun e w' => e = .returned (.bool true) ∧ Below w.heap.size w w' := by
  have h0 : (x != x) = false := by simp
  have h1 : (y != y) = false := by simp
  have h2 : (z != z) = false := by simp
  go_enter Try.func78, Try.ntmps78
  go_wp2
  go_ret
  exact ⟨rfl, later2 _ _ _⟩

set_option maxHeartbeats 800000 in
theorem eqExts_walk (w : World) (a a' : Option Addr) (cap cap' n : Nat) (es : List E3) (hn : n ≤ maxLen) (hc : AtE w a n es) (hc' : AtE w a' n es) :
    Calls Try.prog 41 #[.slice a n cap, .slice a' n cap'] w fun e w' => e = .returned (.bool true) ∧ Below w.heap.size w w' := by
  unfold maxLen at hn
  have HC : Hid (AtE w a n es) := hc
  have HC' : Hid (AtE w a' n es) := hc'
  clear hc hc'
  go_enter Try.func41, Try.ntmps41
  go_wp2
  go_loopw [5] (fun i wr => ∃ k : Nat, k ≤ n ∧ i = .int .i64 k ∧ Below w.heap.size w wr) (fun i _ => n - (intOf i).toNat)
  case atStart => exact ⟨0, Nat.zero_le _, rfl, Below.refl _ _⟩
  case round =>
    obtain ⟨j, hj, rfl, hbl⟩ := hrel
    by_cases hlt : j < n
    · obtain ⟨b, off, rfl, c0, c1, c2⟩ := HC.out j hlt
      obtain ⟨b', off', rfl, d0, d1, d2⟩ := HC'.out j hlt
      replace c0 := cell_later hbl c0
      replace c1 := cell_later hbl c1
      replace c2 := cell_later hbl c2
      replace d0 := cell_later hbl d0
      replace d1 := cell_later hbl d1
      replace d2 := cell_later hbl d2
      generalize (es[j]?.getD (0, 0, 0)).1 = x at c0 d0
      generalize (es[j]?.getD (0, 0, 0)).2.1 = y at c1 d1
      generalize (es[j]?.getD (0, 0, 0)).2.2 = z at c2 d2
      have HBL : Hid (Below w.heap.size w wr) := hbl
      clear hbl
      go_wp2_with fail
      go_region_with ((go_at_call 78; refine (eqExt_true _ x y z).mono ?_; rintro e w' ⟨rfl, hb2⟩))
      all_goals
        go_wp2
        go_roundw
        case rel => exact ⟨j + 1, by omega, by go_num, (HBL.out.drew).trans (hb2.mono HBL.out.size)⟩
        case measure => simp [intOf]; omega
    · go_wp2
      go_ret
      exact ⟨rfl, hbl⟩
theorem eqExtsU {w : World} {v v' : Value} {es : List E3} (h : Exts w v es) (h' : Exts w v' es) : Calls Try.prog 41 #[v, v'] w fun e w' => e = .returned (.bool true) ∧ Below w.heap.size w w' := by
  obtain ⟨a, cap, rfl, hm, hc⟩ := h.open'
  obtain ⟨a', cap', rfl, _, hc'⟩ := h'
  exact eqExts_walk w a a' cap cap' es.length es hm hc hc'

set_option maxHeartbeats 400000 in
theorem markExts_nil (w : World) (a : Option Addr) (cap : Nat) (k : Int) :
    Calls Try.prog 53 #[.slice a 0 cap, .int .i64 k] w fun e w' => e = .returned (.int .i64 k) ∧ w' = w := by
  go_enter Try.func53, Try.ntmps53
  go_wp2
  go_loop [1, 5] (fun q i => i = .int .i64 0 ∧ q = .int .i64 k) (fun _ _ => 0)
  case atStart => exact ⟨rfl, rfl⟩
  case round =>
    obtain ⟨rfl, rfl⟩ := hrel
    go_wp2
    go_ret
    exact ⟨rfl, rfl⟩

set_option maxHeartbeats 1600000 in
theorem markExts_walk (w : World) (b cap n : Nat) (k : Int) (es : List E3) (hk0 : 0 ≤ k) (hk : k + 3 * (n : Int) ≤ 4611686018427387904) (hr : OwnRow w b (n * 3) (exCell es)) :
    Calls Try.prog 53 #[.slice (some ⟨b, 0, none⟩) n cap, .int .i64 k] w fun e w' => e = .returned (.int .i64 (k + 3 * (n : Int))) ∧ OwnRow w' b (n * 3) (fun c => .int .i64 (k + (c : Int))) ∧ Chg (fun c => c = b) w w' := by
  have HR : Hid (OwnRow w b (n * 3) (exCell es)) := hr
  clear hr
  go_enter Try.func53, Try.ntmps53
  go_wp2
  go_loopw [1, 5] (fun q i wr => ∃ j : Nat, j ≤ n ∧ i = .int .i64 j ∧ q = .int .i64 (k + 3 * (j : Int)) ∧ OwnRow wr b (n * 3) (fun c => if c < j * 3 then .int .i64 (k + (c : Int)) else exCell es c) ∧ Chg (fun c => c = b) w wr) (fun _ i _ => n - (intOf i).toNat)
  case atStart => exact ⟨0, Nat.zero_le _, rfl, by simp, HR.out.congr fun i _ => by simp, Chg.refl _ _⟩
  case round =>
    obtain ⟨j, hj, rfl, rfl, hrow, hch⟩ := hrel
    by_cases hlt : j < n
    · have d0 := hrow.cell (i := j * 3) (by omega)
      have d1 := hrow.cell (i := j * 3 + 1) (by omega)
      have d2 := hrow.cell (i := j * 3 + 2) (by omega)
      rw [if_neg (by omega), exCell_0] at d0
      rw [if_neg (by omega), exCell_1] at d1
      rw [if_neg (by omega), exCell_2] at d2
      have f0 := hrow.frozen (j * 3)
      have f1 := hrow.frozen (j * 3 + 1)
      have f2 := hrow.frozen (j * 3 + 2)
      generalize (es[j]?.getD (0, 0, 0)).1 = x at d0
      generalize (es[j]?.getD (0, 0, 0)).2.1 = y at d1
      generalize (es[j]?.getD (0, 0, 0)).2.2 = z at d2
      have HROW : Hid (OwnRow wr b (n * 3) (fun c => if c < j * 3 then .int .i64 (k + (c : Int)) else exCell es c)) := hrow
      have HCH : Hid (Chg (fun c => c = b) w wr) := hch
      have hU0 : 0 ≤ k + 3 * (j : Int) := by omega
      have hU1 : k + 3 * (j : Int) + 3 ≤ 4611686018427387904 := by omega
      have HU : Hid (k + 3 * ((j + 1 : Nat) : Int) = k + 3 * (j : Int) + 3) := by unfold Hid; omega
      have HV : Hid (∀ c : Nat, c < n * 3 → (if c = j * 3 + 2 then Value.int .i64 (k + 3 * (j : Int) + 2) else if c = j * 3 + 1 then .int .i64 (k + 3 * (j : Int) + 1) else if c = j * 3 then .int .i64 (k + 3 * (j : Int)) else if c < j * 3 then .int .i64 (k + (c : Int)) else exCell es c) = if c < (j + 1) * 3 then .int .i64 (k + (c : Int)) else exCell es c) := by
        intro c hc
        by_cases e2 : c = j * 3 + 2
        · subst e2; rw [if_pos rfl, if_pos (by omega)]; congr 1; omega
        · rw [if_neg e2]
          by_cases e1 : c = j * 3 + 1
          · subst e1; rw [if_pos rfl, if_pos (by omega)]; congr 1; omega
          · rw [if_neg e1]
            by_cases e0 : c = j * 3
            · subst e0; rw [if_pos rfl, if_pos (by omega)]; congr 1; omega
            · rw [if_neg e0]
              by_cases h : c < j * 3
              · rw [if_pos h, if_pos (by omega)]
              · rw [if_neg h, if_neg (by omega)]
      clear hrow hch
      generalize k + 3 * (j : Int) = U at *
      have hU2 : U + 1 + 1 = U + 2 := by omega
      have hU3 : U + 1 + 1 + 1 = U + 3 := by omega
      go_wp2
      go_roundw
      case rel =>
        refine ⟨j + 1, by omega, by go_num, by rw [HU.out]; go_num, (((HROW.out.set (j * 3) _).set (j * 3 + 1) _).set (j * 3 + 2) _).congr fun c hc => ?_, ((HCH.out.set rfl _ _).set rfl _ _).set rfl _ _⟩
        rw [← HV.out c hc]
      case measure => simp [intOf]; omega
    · go_wp2
      go_ret
      have e : j = n := by omega
      subst e
      exact ⟨rfl, hrow.congr fun i hi => by simp [hi], hch⟩
theorem markExtsU {w : World} {v : Value} {es : List E3} {F : Nat → Prop} (k : Int) (h : ExtsO w v es F) (hk0 : 0 ≤ k) (hk : k + 3 * (es.length : Int) ≤ 4611686018427387904) :
    Calls Try.prog 53 #[v, .int .i64 k] w fun e w' => e = .returned (.int .i64 (k + 3 * (es.length : Int))) ∧ ExtsO w' v (marksE k es.length) F ∧ Chg F w w' := by
  rcases h with ⟨rfl, a, cap, rfl⟩ | ⟨b, cap, hF, rfl, hl, hr⟩
  · exact (markExts_nil w a cap k).mono fun e w' ⟨he, hw⟩ => ⟨by rw [he]; simp, Or.inl ⟨rfl, a, cap, rfl⟩, hw ▸ Chg.refl _ _⟩
  · refine (markExts_walk w b cap es.length k es hk0 hk hr).mono fun e w' ⟨he, hrow, hc⟩ => ⟨he, Or.inr ⟨b, cap, hF, by rw [marksE_length], by rw [marksE_length]; exact hl, ?_⟩, hc.mono fun c hc => hc ▸ hF⟩
    rw [marksE_length]
    exact hrow.congr fun c hc => (exCell_marks k hc).symm

set_option maxHeartbeats 1600000 in
theorem heldExts_walk (w : World) (a : Option Addr) (cap n : Nat) (k : Int) (hk0 : 0 ≤ k) (hk : k + 3 * (n : Int) ≤ 4611686018427387904) (hn : n ≤ maxLen) (hc : AtE w a n (marksE k n)) :
    Calls Try.prog 84 #[.slice a n cap, .int .i64 k] w fun e w' => e = .returned (.int .i64 (k + 3 * (n : Int))) ∧ w' = w := by
  have HC : Hid (AtE w a n (marksE k n)) := hc
  unfold maxLen at hn
  clear hc
  go_enter Try.func84, Try.ntmps84
  go_wp2
  go_loop [1, 5] (fun q i => ∃ j : Nat, j ≤ n ∧ i = .int .i64 j ∧ q = .int .i64 (k + 3 * (j : Int))) (fun _ i => n - (intOf i).toNat)
  case atStart => exact ⟨0, Nat.zero_le _, rfl, by simp⟩
  case round =>
    obtain ⟨j, hj, rfl, rfl⟩ := hrel
    by_cases hlt : j < n
    · obtain ⟨b, off, rfl, c0, c1, c2⟩ := HC.out j hlt
      rw [marksE_get k hlt] at c0 c1 c2
      dsimp only at c0 c1 c2
      have hU0 : 0 ≤ k + 3 * (j : Int) := by omega
      have hU1 : k + 3 * (j : Int) + 3 ≤ 4611686018427387904 := by omega
      have HU : Hid (k + 3 * ((j + 1 : Nat) : Int) = k + 3 * (j : Int) + 3) := by unfold Hid; omega
      generalize k + 3 * (j : Int) = U at *
      have hU2 : U + 1 + 1 = U + 2 := by omega
      have h0 : (U != U) = false := by simp
      have h1 : (U + 1 != U + 1) = false := by simp
      have h2 : (U + 2 != U + 1 + 1) = false := by rw [hU2]; simp
      have h3 : (U + 2 != U + 2) = false := by simp
      go_wp2
      go_round
      case rel => exact ⟨j + 1, by omega, by go_num, by rw [HU.out]; go_num⟩
      case measure => simp [intOf]; omega
    · go_wp2
      go_ret
      have e : j = n := by omega
      subst e
      exact ⟨rfl, rfl⟩
theorem heldExtsU {w : World} {v : Value} (k : Int) (n : Nat) (h : Exts w v (marksE k n)) (hk0 : 0 ≤ k) (hk : k + 3 * (n : Int) ≤ 4611686018427387904) :
    Calls Try.prog 84 #[v, .int .i64 k] w fun e w' => e = .returned (.int .i64 (k + 3 * (n : Int))) ∧ w' = w := by
  obtain ⟨a, cap, rfl, hm, hc⟩ := h.open'
  rw [marksE_length] at hm hc ⊢
  exact heldExts_walk w a cap n k hk0 hk hm hc
end Go.Proofs.Ytojegkekafampah

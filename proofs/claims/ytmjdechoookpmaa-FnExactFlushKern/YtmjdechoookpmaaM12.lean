/- The walks of the laws' functions over lists of extents. Kerns: how they read, what they own, and the walks of the laws' functions over them. The walks of the specification's KernFault. -/
import Derived.Test.YtmjdechoookpmaaRows
import Derived.Test.YtmjdechoookpmaaM11
import Derived.Test.YtmjdechoookpmaaM03
import Derived.Deep.RegionWith
import Derived.Deep.RegionHeld3
import Derived.Test.YtmjdechoookpmaaM08
namespace Go.Proofs.Ytmjdechoookpmaa
open Go.RowKit
set_option maxRecDepth 100000

theorem Try.infoExt : (Try.prog.info? 102).map (fun i => (i.zero, i.size, i.bytes)) = some (some (.agg #[.int .i64 0, .int .i64 0, .int .i64 0]), 3, 24) := by kernel_rfl

theorem szExts_any {w : World} {v : Value} {es : List E3} (h : Exts w v es) (left : Int) (h0 : 0 ≤ left) (h1 : left ≤ 1048576) :
    Calls Try.prog 47 #[v, .int .i64 left] w fun e w' => e = .returned (.int .i64 (szf left es.length)) ∧ w' = w := by
  obtain ⟨a, cap, rfl, hn, _⟩ := h.open'
  unfold maxLen at hn
  generalize es.length = n at *
  by_cases h : left < (n : Int)
  · rw [szf_no h]
    have h' : left - (n : Int) < 0 := by omega
    go_enter Try.func47, Try.ntmps47
    go_wp2
    go_ret
    exact ⟨rfl, rfl⟩
  · rw [szf_yes h]
    have h' : ¬ left - (n : Int) < 0 := by omega
    go_enter Try.func47, Try.ntmps47
    go_wp2
    go_ret
    exact ⟨rfl, rfl⟩

theorem toExt_any (w : World) (x y z : Int) :
    Calls Try.prog 86 #[.agg #[.int .i64 x, .int .i64 y, .int .i64 z]] w fun e w' => e = .returned (.agg #[.int .i64 x, .int .i64 y, .int .i64 z]) ∧ Below w.heap.size w w' := by
  go_enter Try.func86, Try.ntmps86
  go_wp2
  exact bodyPost_ret (v := .agg #[.int .i64 x, .int .i64 y, .int .i64 z]) (by simp [results, Try.results86, go_sem]) rfl ⟨rfl, later3 _ _ _ _⟩

set_option maxHeartbeats 800000 in
theorem toExts_walk (w : World) (a : Option Addr) (cap n : Nat) (es : List E3) (hn : n ≤ 1048576) (hc : AtE w a n es) :
    Calls Try.prog 53 #[.slice a n cap] w fun e w' => e = .returned (.slice (some ⟨w.heap.size, 0, none⟩) n n) ∧ Below w.heap.size w w' ∧ OwnRow w' w.heap.size (n * 3) (exCell es) := by
  have hmk := fun w => run_make_trip (P := Try.prog) 52 102 (.int .i64 0) (.int .i64 0) (.int .i64 0) 24 Try.underlying52 Try.infoExt rfl .i64 .i64 n (by omega) (by omega) w
  have HC : Hid (AtE w a n es) := hc
  clear hc
  go_enter Try.func53, Try.ntmps53
  go_wp2
  clear hmk
  go_loopw [4] (fun i wr => ∃ j : Nat, j ≤ n ∧ i = .int .i64 j ∧ Below w.heap.size w wr ∧ OwnRow wr w.heap.size (n * 3) (partE es j)) (fun i _ => n - (intOf i).toNat)
  case atStart => exact ⟨0, Nat.zero_le _, rfl, later1 _ _, (OwnRow.madeTrip w n 102).congr fun i _ => by simp [partE]⟩
  case round =>
    obtain ⟨j, hj, rfl, hbl, hrow⟩ := hrel
    by_cases hlt : j < n
    · obtain ⟨b, off, rfl, c0, c1, c2⟩ := HC.out j hlt
      replace c0 := cell_later hbl c0
      replace c1 := cell_later hbl c1
      replace c2 := cell_later hbl c2
      have HBL : Hid (Below w.heap.size w wr) := hbl
      have HROW : Hid (OwnRow wr w.heap.size (n * 3) (partE es j)) := hrow
      have NX : ∀ c, (if c = j * 3 + 2 then .int .i64 (es[j]?.getD (0, 0, 0)).2.2 else (if c = j * 3 + 1 then .int .i64 (es[j]?.getD (0, 0, 0)).2.1 else (if c = j * 3 then .int .i64 (es[j]?.getD (0, 0, 0)).1 else partE es j c))) = partE es (j + 1) c := partE_next es j
      generalize (es[j]?.getD (0, 0, 0)).1 = x at c0 NX
      generalize (es[j]?.getD (0, 0, 0)).2.1 = y at c1 NX
      generalize (es[j]?.getD (0, 0, 0)).2.2 = z at c2 NX
      have HNX : Hid (∀ c, (if c = j * 3 + 2 then .int .i64 z else (if c = j * 3 + 1 then .int .i64 y else (if c = j * 3 then .int .i64 x else partE es j c))) = partE es (j + 1) c) := NX
      clear hbl hrow NX
      go_wp2_with fail
      refine (toExt_any _ x y z).mono ?_
      rintro e w1 ⟨rfl, hb1⟩
      have HB1 : Hid (Below wr.heap.size wr w1) := hb1
      have HROW1 : Hid (OwnRow w1 w.heap.size (n * 3) (partE es j)) := HROW.out.block (hb1.block _ HROW.out.lt)
      have d0 : w1.cell? ⟨w.heap.size, j * 3, none⟩ = some (.int .i64 0) := by rw [HROW1.out.cell (by omega)]; simp [partE]
      have d1 : w1.cell? ⟨w.heap.size, j * 3 + 1, none⟩ = some (.int .i64 0) := by rw [HROW1.out.cell (by omega)]; unfold partE; rw [if_neg (by omega)]
      have d2 : w1.cell? ⟨w.heap.size, j * 3 + 2, none⟩ = some (.int .i64 0) := by rw [HROW1.out.cell (by omega)]; unfold partE; rw [if_neg (by omega)]
      have f0 := HROW1.out.frozen (j * 3)
      have f1 := HROW1.out.frozen (j * 3 + 1)
      have f2 := HROW1.out.frozen (j * 3 + 2)
      clear hb1
      go_wp2
      go_roundw
      case rel =>
        refine ⟨j + 1, by omega, by go_num, (((HBL.out.trans (HB1.out.mono HBL.out.size)).setCell (Nat.le_refl _) _).setCell (Nat.le_refl _) _).setCell (Nat.le_refl _) _, (((HROW1.out.set (j * 3) _).set (j * 3 + 1) _).set (j * 3 + 2) _).congr fun c _ => HNX.out c⟩
      case measure => simp [intOf]; omega
    · go_wp2
      go_ret
      have e : j = n := by omega
      subst e
      exact ⟨rfl, hbl, hrow.congr fun i hi => by simp [partE, hi]⟩
theorem toExtsU {w : World} {v : Value} {es : List E3} (h : Exts w v es) (hn : es.length ≤ 1048576) :
    Calls Try.prog 53 #[v] w fun e w' => ∃ a n c, e = .returned (.slice a n c) ∧ Below w.heap.size w w' ∧ ExtsO w' (.slice a n c) es (fresh w w') := by
  obtain ⟨a, cap, rfl, hm, hc⟩ := h.open'
  exact (toExts_walk w a cap es.length es hn hc).mono fun e w' ⟨he, hb, hr⟩ => ⟨_, _, _, he, hb, Or.inr ⟨w.heap.size, _, ⟨Nat.le_refl _, hr.lt⟩, rfl, ⟨hm, Nat.le_refl _⟩, hr⟩⟩

theorem eqExt_true (w : World) (x y z : Int) :
    Calls Try.prog 92 #[.agg #[.int .i64 x, .int .i64 y, .int .i64 z], .agg #[.int .i64 x, .int .i64 y, .int .i64 z]] w fun e w' => e = .returned (.bool true) ∧ Below w.heap.size w w' := by
  have h0 : (x != x) = false := by simp
  have h1 : (y != y) = false := by simp
  have h2 : (z != z) = false := by simp
  go_enter Try.func92, Try.ntmps92
  go_wp2
  go_ret
  exact ⟨rfl, later2 _ _ _⟩

set_option maxHeartbeats 800000 in
theorem eqExts_walk (w : World) (a a' : Option Addr) (cap cap' n : Nat) (es : List E3) (hn : n ≤ maxLen) (hc : AtE w a n es) (hc' : AtE w a' n es) :
    Calls Try.prog 57 #[.slice a n cap, .slice a' n cap'] w fun e w' => e = .returned (.bool true) ∧ Below w.heap.size w w' := by
  unfold maxLen at hn
  have HC : Hid (AtE w a n es) := hc
  have HC' : Hid (AtE w a' n es) := hc'
  clear hc hc'
  go_enter Try.func57, Try.ntmps57
  go_wp2
  go_loopw [5] (fun i wr => ∃ k : Nat, k ≤ n ∧ i = .int .i64 k ∧ Below w.heap.size w wr) (fun i _ => n - (intOf i).toNat)
  case atStart => exact ⟨0, Nat.zero_le _, rfl, Below.refl _ _⟩
  case round =>
    obtain ⟨j, hj, rfl, hbl⟩ := hrel
    by_cases hlt : j < n
    · obtain ⟨b, off, rfl, c0, c1, c2⟩ := HC.out j hlt
      obtain ⟨b', off', rfl, d0, d1, d2⟩ := HC'.out j hlt
      replace c0 := cell_later hbl c0
      replace c1 := cell_later hbl c1
      replace c2 := cell_later hbl c2
      replace d0 := cell_later hbl d0
      replace d1 := cell_later hbl d1
      replace d2 := cell_later hbl d2
      generalize (es[j]?.getD (0, 0, 0)).1 = x at c0 d0
      generalize (es[j]?.getD (0, 0, 0)).2.1 = y at c1 d1
      generalize (es[j]?.getD (0, 0, 0)).2.2 = z at c2 d2
      have HBL : Hid (Below w.heap.size w wr) := hbl
      clear hbl
      go_wp2_with fail
      go_region_with ((go_at_call 92; refine (eqExt_true _ x y z).mono ?_; rintro e w' ⟨rfl, hb2⟩))
      all_goals
        go_wp2
        go_roundw
        case rel => exact ⟨j + 1, by omega, by go_num, (HBL.out.drew).trans (hb2.mono HBL.out.size)⟩
        case measure => simp [intOf]; omega
    · go_wp2
      go_ret
      exact ⟨rfl, hbl⟩
theorem eqExtsU {w : World} {v v' : Value} {es : List E3} (h : Exts w v es) (h' : Exts w v' es) : Calls Try.prog 57 #[v, v'] w fun e w' => e = .returned (.bool true) ∧ Below w.heap.size w w' := by
  obtain ⟨a, cap, rfl, hm, hc⟩ := h.open'
  obtain ⟨a', cap', rfl, _, hc'⟩ := h'
  exact eqExts_walk w a a' cap cap' es.length es hm hc hc'

set_option maxHeartbeats 400000 in
theorem markExts_nil (w : World) (a : Option Addr) (cap : Nat) (k : Int) :
    Calls Try.prog 59 #[.slice a 0 cap, .int .i64 k] w fun e w' => e = .returned (.int .i64 k) ∧ w' = w := by
  go_enter Try.func59, Try.ntmps59
  go_wp2
  go_loop [1, 5] (fun q i => i = .int .i64 0 ∧ q = .int .i64 k) (fun _ _ => 0)
  case atStart => exact ⟨rfl, rfl⟩
  case round =>
    obtain ⟨rfl, rfl⟩ := hrel
    go_wp2
    go_ret
    exact ⟨rfl, rfl⟩

set_option maxHeartbeats 1600000 in
theorem markExts_walk (w : World) (b cap n : Nat) (k : Int) (es : List E3) (hk0 : 0 ≤ k) (hk : k + 3 * (n : Int) ≤ 4611686018427387904) (hr : OwnRow w b (n * 3) (exCell es)) :
    Calls Try.prog 59 #[.slice (some ⟨b, 0, none⟩) n cap, .int .i64 k] w fun e w' => e = .returned (.int .i64 (k + 3 * (n : Int))) ∧ OwnRow w' b (n * 3) (fun c => .int .i64 (k + (c : Int))) ∧ Chg (fun c => c = b) w w' := by
  have HR : Hid (OwnRow w b (n * 3) (exCell es)) := hr
  clear hr
  go_enter Try.func59, Try.ntmps59
  go_wp2
  go_loopw [1, 5] (fun q i wr => ∃ j : Nat, j ≤ n ∧ i = .int .i64 j ∧ q = .int .i64 (k + 3 * (j : Int)) ∧ OwnRow wr b (n * 3) (fun c => if c < j * 3 then .int .i64 (k + (c : Int)) else exCell es c) ∧ Chg (fun c => c = b) w wr) (fun _ i _ => n - (intOf i).toNat)
  case atStart => exact ⟨0, Nat.zero_le _, rfl, by simp, HR.out.congr fun i _ => by simp, Chg.refl _ _⟩
  case round =>
    obtain ⟨j, hj, rfl, rfl, hrow, hch⟩ := hrel
    by_cases hlt : j < n
    · have d0 := hrow.cell (i := j * 3) (by omega)
      have d1 := hrow.cell (i := j * 3 + 1) (by omega)
      have d2 := hrow.cell (i := j * 3 + 2) (by omega)
      rw [if_neg (by omega), exCell_0] at d0
      rw [if_neg (by omega), exCell_1] at d1
      rw [if_neg (by omega), exCell_2] at d2
      have f0 := hrow.frozen (j * 3)
      have f1 := hrow.frozen (j * 3 + 1)
      have f2 := hrow.frozen (j * 3 + 2)
      generalize (es[j]?.getD (0, 0, 0)).1 = x at d0
      generalize (es[j]?.getD (0, 0, 0)).2.1 = y at d1
      generalize (es[j]?.getD (0, 0, 0)).2.2 = z at d2
      have HROW : Hid (OwnRow wr b (n * 3) (fun c => if c < j * 3 then .int .i64 (k + (c : Int)) else exCell es c)) := hrow
      have HCH : Hid (Chg (fun c => c = b) w wr) := hch
      have hU0 : 0 ≤ k + 3 * (j : Int) := by omega
      have hU1 : k + 3 * (j : Int) + 3 ≤ 4611686018427387904 := by omega
      have HU : Hid (k + 3 * ((j + 1 : Nat) : Int) = k + 3 * (j : Int) + 3) := by unfold Hid; omega
      have HV : Hid (∀ c : Nat, c < n * 3 → (if c = j * 3 + 2 then Value.int .i64 (k + 3 * (j : Int) + 2) else if c = j * 3 + 1 then .int .i64 (k + 3 * (j : Int) + 1) else if c = j * 3 then .int .i64 (k + 3 * (j : Int)) else if c < j * 3 then .int .i64 (k + (c : Int)) else exCell es c) = if c < (j + 1) * 3 then .int .i64 (k + (c : Int)) else exCell es c) := by
        intro c hc
        by_cases e2 : c = j * 3 + 2
        · subst e2; rw [if_pos rfl, if_pos (by omega)]; congr 1; omega
        · rw [if_neg e2]
          by_cases e1 : c = j * 3 + 1
          · subst e1; rw [if_pos rfl, if_pos (by omega)]; congr 1; omega
          · rw [if_neg e1]
            by_cases e0 : c = j * 3
            · subst e0; rw [if_pos rfl, if_pos (by omega)]; congr 1; omega
            · rw [if_neg e0]
              by_cases h : c < j * 3
              · rw [if_pos h, if_pos (by omega)]
              · rw [if_neg h, if_neg (by omega)]
      clear hrow hch
      generalize k + 3 * (j : Int) = U at *
      have hU2 : U + 1 + 1 = U + 2 := by omega
      have hU3 : U + 1 + 1 + 1 = U + 3 := by omega
      go_wp2
      go_roundw
      case rel =>
        refine ⟨j + 1, by omega, by go_num, by rw [HU.out]; go_num, (((HROW.out.set (j * 3) _).set (j * 3 + 1) _).set (j * 3 + 2) _).congr fun c hc => ?_, ((HCH.out.set rfl _ _).set rfl _ _).set rfl _ _⟩
        rw [← HV.out c hc]
      case measure => simp [intOf]; omega
    · go_wp2
      go_ret
      have e : j = n := by omega
      subst e
      exact ⟨rfl, hrow.congr fun i hi => by simp [hi], hch⟩
theorem markExtsU {w : World} {v : Value} {es : List E3} {F : Nat → Prop} (k : Int) (h : ExtsO w v es F) (hk0 : 0 ≤ k) (hk : k + 3 * (es.length : Int) ≤ 4611686018427387904) :
    Calls Try.prog 59 #[v, .int .i64 k] w fun e w' => e = .returned (.int .i64 (k + 3 * (es.length : Int))) ∧ ExtsO w' v (marksE k es.length) F ∧ Chg F w w' := by
  rcases h with ⟨rfl, a, cap, rfl⟩ | ⟨b, cap, hF, rfl, hl, hr⟩
  · exact (markExts_nil w a cap k).mono fun e w' ⟨he, hw⟩ => ⟨by rw [he]; simp, Or.inl ⟨rfl, a, cap, rfl⟩, hw ▸ Chg.refl _ _⟩
  · refine (markExts_walk w b cap es.length k es hk0 hk hr).mono fun e w' ⟨he, hrow, hc⟩ => ⟨he, Or.inr ⟨b, cap, hF, by rw [marksE_length], by rw [marksE_length]; exact hl, ?_⟩, hc.mono fun c hc => hc ▸ hF⟩
    rw [marksE_length]
    exact hrow.congr fun c hc => (exCell_marks k hc).symm

set_option maxHeartbeats 1600000 in
theorem heldExts_walk (w : World) (a : Option Addr) (cap n : Nat) (k : Int) (hk0 : 0 ≤ k) (hk : k + 3 * (n : Int) ≤ 4611686018427387904) (hn : n ≤ maxLen) (hc : AtE w a n (marksE k n)) :
    Calls Try.prog 96 #[.slice a n cap, .int .i64 k] w fun e w' => e = .returned (.int .i64 (k + 3 * (n : Int))) ∧ w' = w := by
  have HC : Hid (AtE w a n (marksE k n)) := hc
  unfold maxLen at hn
  clear hc
  go_enter Try.func96, Try.ntmps96
  go_wp2
  go_loop [1, 5] (fun q i => ∃ j : Nat, j ≤ n ∧ i = .int .i64 j ∧ q = .int .i64 (k + 3 * (j : Int))) (fun _ i => n - (intOf i).toNat)
  case atStart => exact ⟨0, Nat.zero_le _, rfl, by simp⟩
  case round =>
    obtain ⟨j, hj, rfl, rfl⟩ := hrel
    by_cases hlt : j < n
    · obtain ⟨b, off, rfl, c0, c1, c2⟩ := HC.out j hlt
      rw [marksE_get k hlt] at c0 c1 c2
      dsimp only at c0 c1 c2
      have hU0 : 0 ≤ k + 3 * (j : Int) := by omega
      have hU1 : k + 3 * (j : Int) + 3 ≤ 4611686018427387904 := by omega
      have HU : Hid (k + 3 * ((j + 1 : Nat) : Int) = k + 3 * (j : Int) + 3) := by unfold Hid; omega
      generalize k + 3 * (j : Int) = U at *
      have hU2 : U + 1 + 1 = U + 2 := by omega
      have h0 : (U != U) = false := by simp
      have h1 : (U + 1 != U + 1) = false := by simp
      have h2 : (U + 2 != U + 1 + 1) = false := by rw [hU2]; simp
      have h3 : (U + 2 != U + 2) = false := by simp
      go_wp2
      go_round
      case rel => exact ⟨j + 1, by omega, by go_num, by rw [HU.out]; go_num⟩
      case measure => simp [intOf]; omega
    · go_wp2
      go_ret
      have e : j = n := by omega
      subst e
      exact ⟨rfl, rfl⟩
theorem heldExtsU {w : World} {v : Value} (k : Int) (n : Nat) (h : Exts w v (marksE k n)) (hk0 : 0 ≤ k) (hk : k + 3 * (n : Int) ≤ 4611686018427387904) :
    Calls Try.prog 96 #[v, .int .i64 k] w fun e w' => e = .returned (.int .i64 (k + 3 * (n : Int))) ∧ w' = w := by
  obtain ⟨a, cap, rfl, hm, hc⟩ := h.open'
  rw [marksE_length] at hm hc ⊢
  exact heldExts_walk w a cap n k hk0 hk hm hc
end Go.Proofs.Ytmjdechoookpmaa

namespace Go.Proofs.Ytmjdechoookpmaa
open Go.RowKit
set_option maxRecDepth 100000

abbrev KD := DK × List E3
def KernR (w : World) (vB vC vE : Value) (d : KD) : Prop := DiskR w vB vC d.1 ∧ Exts w vE d.2
theorem KernR.later {w w' : World} {vB vC vE : Value} {d : KD} (h : KernR w vB vC vE d) (hb : Below w.heap.size w w') : KernR w' vB vC vE d := ⟨h.1.later hb, h.2.later hb⟩
def KernU (w : World) (vB vC vE : Value) (d : KD) (F : Nat → Prop) : Prop := ∃ F1 G1 : Nat → Prop, DiskU w vB vC d.1 F1 ∧ ExtsO w vE d.2 G1 ∧ (∀ b, F1 b → ¬ G1 b) ∧ ∀ b, F1 b ∨ G1 b → F b
theorem DiskU.keep {w w' : World} {vB vC : Value} {d : DK} {F : Nat → Prop} (h : DiskU w vB vC d F) (e : ∀ b, F b → b < w.heap.size → w'.heap[b]? = w.heap[b]?) : DiskU w' vB vC d F := DiskO.keep h e
theorem KernU.reads {w : World} {vB vC vE : Value} {d : KD} {F : Nat → Prop} (h : KernU w vB vC vE d F) : KernR w vB vC vE d := by
  obtain ⟨_, _, h1, h2, _⟩ := h
  exact ⟨h1.reads, h2.reads⟩
theorem KernU.keep {w w' : World} {vB vC vE : Value} {d : KD} {F : Nat → Prop} (h : KernU w vB vC vE d F) (e : ∀ b, F b → b < w.heap.size → w'.heap[b]? = w.heap[b]?) : KernU w' vB vC vE d F := by
  obtain ⟨F1, G1, h1, h2, hd, hf⟩ := h
  exact ⟨F1, G1, h1.keep fun b hb => e b (hf b (Or.inl hb)), h2.keep fun b hb => e b (hf b (Or.inr hb)), hd, hf⟩
theorem KernU.later {w w' : World} {vB vC vE : Value} {d : KD} {F : Nat → Prop} (h : KernU w vB vC vE d F) (hb : Below w.heap.size w w') : KernU w' vB vC vE d F := h.keep fun b _ hlt => hb.block b hlt
theorem KernU.mono {w : World} {vB vC vE : Value} {d : KD} {F G : Nat → Prop} (h : KernU w vB vC vE d F) (e : ∀ b, F b → G b) : KernU w vB vC vE d G := by
  obtain ⟨F1, G1, h1, h2, hd, hf⟩ := h
  exact ⟨F1, G1, h1, h2, hd, fun b hb => e b (hf b hb)⟩
theorem KernU.chg {w w' : World} {vB vC vE : Value} {d : KD} {F G : Nat → Prop} (h : KernU w vB vC vE d F) (hc : Chg G w w') (hd : ∀ b, F b → ¬ G b) : KernU w' vB vC vE d F := h.keep fun b hb hlt => hc.block b hlt (hd b hb)
theorem DiskU.bound {w : World} {vB vC : Value} {d : DK} {F : Nat → Prop} (h : DiskU w vB vC d F) : DiskU w vB vC d (fun b => F b ∧ b < w.heap.size) := DiskO.bound h
theorem KernU.bound {w : World} {vB vC vE : Value} {d : KD} {F : Nat → Prop} (h : KernU w vB vC vE d F) : KernU w vB vC vE d (fun b => F b ∧ b < w.heap.size) := by
  obtain ⟨F1, G1, h1, h2, hd, hf⟩ := h
  exact ⟨_, _, h1.bound, h2.bound, fun b hb hb' => hd b hb.1 hb'.1, fun b hb => hb.elim (fun h => ⟨hf b (Or.inl h.1), h.2⟩) (fun h => ⟨hf b (Or.inr h.1), h.2⟩)⟩
def sizeKern (d : KD) : Nat := sizeDisk d.1 + d.2.length

set_option maxHeartbeats 800000 in
theorem szKernU (w : World) (aB : Option Addr) (nB cB : Nat) (aC : Option Addr) (nC cC : Nat) (aE : Option Addr) (nE cE : Nat) (d : KD) (h : KernR w (.slice aB nB cB) (.slice aC nC cC) (.slice aE nE cE) d) (left : Int) (l0 : 0 ≤ left) (l1 : left ≤ 1048576) :
    Calls Try.prog 16 #[.agg #[.slice aB nB cB, .slice aC nC cC, .slice aE nE cE], .int .i64 left] w fun e w' => e = .returned (.int .i64 (szf left (sizeKern d))) ∧ Below w.heap.size w w' := by
  have H1 : Hid (DiskR w (.slice aB nB cB) (.slice aC nC cC) d.1) := h.1
  have H2 : Hid (Exts w (.slice aE nE cE) d.2) := h.2
  clear h
  by_cases hm : left < ((sizeDisk d.1 : Nat) : Int)
  · have HR : Hid (szf left (sizeDisk d.1) = -1) := szf_no hm
    have HM : Hid (szf left (sizeKern d) = -1) := szf_no (by unfold sizeKern; omega)
    rw [HM.out]
    go_enter Try.func16, Try.ntmps16
    go_wp2_with fail
    refine (szDiskU _ _ _ _ _ _ _ d.1 (H1.out.later (later1 _ _)) _ l0 l1).mono ?_
    rw [HR.out]
    rintro e w1 ⟨rfl, hb1⟩
    have HB1 : Hid (Below w.heap.size w w1) := (later1 _ _).trans (hb1.mono (by simp))
    clear hb1
    go_wp2
    go_ret
    exact ⟨rfl, HB1.out⟩
  · have HR : Hid (szf left (sizeDisk d.1) = left - (sizeDisk d.1 : Nat)) := szf_yes hm
    have hpos : ¬ left - ((sizeDisk d.1 : Nat) : Int) < 0 := by omega
    have HD : Hid (szf (left - ((sizeDisk d.1 : Nat) : Int)) d.2.length = szf left (sizeKern d)) := by
      unfold Hid szf sizeKern
      split <;> split <;> omega
    have hx0 : (0 : Int) ≤ ((sizeDisk d.1 : Nat) : Int) := by omega
    generalize ((sizeDisk d.1 : Nat) : Int) = X at *
    have hrr : szf left (sizeKern d) = -1 ∨ 0 ≤ szf left (sizeKern d) := by unfold szf; split <;> omega
    generalize hr : szf left (sizeKern d) = r at *
    have HRR : Hid (szf left (sizeKern d) = r) := hr
    clear hr
    have step : ∀ (P : Prop), (r = -1 → P) → (0 ≤ r → P) → P := fun P h1 h2 => hrr.elim h1 h2
    apply step
    · intro hneg
      subst hneg
      clear step hrr
      go_enter Try.func16, Try.ntmps16
      go_wp2_with fail
      refine (szDiskU _ _ _ _ _ _ _ d.1 (H1.out.later (later1 _ _)) _ l0 l1).mono ?_
      rw [HR.out]
      rintro e w1 ⟨rfl, hb1⟩
      have HB1 : Hid (Below w.heap.size w w1) := (later1 _ _).trans (hb1.mono (by simp))
      have x2 : w1.cell? ⟨w.heap.size, 2, none⟩ = some (.slice aE nE cE) := by rw [hb1.cell (by simp), new_cell]; rfl
      clear hb1
      go_wp2_with fail
      refine (szExts_any (H2.out.later HB1.out) _ (by omega) (by omega)).mono ?_
      rw [HD.out]
      rintro e w2 ⟨rfl, rfl⟩
      go_wp2
      go_ret
      exact ⟨rfl, HB1.out⟩
    · intro hge
      have hnn : ¬ r < 0 := by omega
      clear step hrr
      go_enter Try.func16, Try.ntmps16
      go_wp2_with fail
      refine (szDiskU _ _ _ _ _ _ _ d.1 (H1.out.later (later1 _ _)) _ l0 l1).mono ?_
      rw [HR.out]
      rintro e w1 ⟨rfl, hb1⟩
      have HB1 : Hid (Below w.heap.size w w1) := (later1 _ _).trans (hb1.mono (by simp))
      have x2 : w1.cell? ⟨w.heap.size, 2, none⟩ = some (.slice aE nE cE) := by rw [hb1.cell (by simp), new_cell]; rfl
      clear hb1
      go_wp2_with fail
      refine (szExts_any (H2.out.later HB1.out) _ (by omega) (by omega)).mono ?_
      rw [HD.out]
      rintro e w2 ⟨rfl, rfl⟩
      go_wp2
      go_ret
      exact ⟨rfl, HB1.out⟩

theorem OwnRow.new3 (w : World) (x y z : Value) (t : TypeId) : OwnRow (w.alloc (.cells #[x, y, z] t)) w.heap.size 3 (fun i => if i = 0 then x else if i = 1 then y else z) := by
  refine ⟨_, t, Go.Deep.blk_alloc_new _ _, by simp, fun i hi => ?_⟩
  have : i = 0 ∨ i = 1 ∨ i = 2 := by omega
  rcases this with rfl | rfl | rfl <;> simp

set_option maxHeartbeats 1600000 in
theorem toKernU (w : World) (aB : Option Addr) (nB cB : Nat) (aC : Option Addr) (nC cC : Nat) (aE : Option Addr) (nE cE : Nat) (d : KD) (h : KernR w (.slice aB nB cB) (.slice aC nC cC) (.slice aE nE cE) d) (hs : sizeKern d ≤ 1048576) :
    Calls Try.prog 18 #[.agg #[.slice aB nB cB, .slice aC nC cC, .slice aE nE cE]] w fun e w' => ∃ dB eB fB dC eC fC dE eE fE, e = .returned (.agg #[.slice dB eB fB, .slice dC eC fC, .slice dE eE fE]) ∧ Below w.heap.size w w' ∧ KernU w' (.slice dB eB fB) (.slice dC eC fC) (.slice dE eE fE) d (fresh w w') := by
  have H1 : Hid (DiskR w (.slice aB nB cB) (.slice aC nC cC) d.1) := h.1
  have H2 : Hid (Exts w (.slice aE nE cE) d.2) := h.2
  have L1 : Hid (sizeDisk d.1 ≤ 1048576) := by unfold sizeKern at hs; unfold Hid; omega
  have L2 : Hid (d.2.length ≤ 1048576) := by unfold sizeKern at hs; unfold Hid; omega
  clear h hs
  go_enter Try.func18, Try.ntmps18
  go_wp2_with fail
  refine (toDiskU _ _ _ _ _ _ _ d.1 (H1.out.later (later3 _ _ _ _)) L1.out).mono ?_
  rintro e w1 ⟨dB, eB, fB, dC, eC, fC, rfl, hb1, ho1⟩
  have HB1 : Hid (Below w.heap.size w w1) := (later3 _ _ _ _).trans (hb1.mono (by simp; omega))
  have O2 : OwnRow w1 (w.heap.size + 1 + 1) 3 (fun i => if i = 0 then .slice none 0 0 else if i = 1 then .slice none 0 0 else .slice none 0 0) := by
    have := (OwnRow.new3 ((w.alloc (Obj.cells #[Value.slice aB nB cB, Value.slice aC nC cC, Value.slice aE nE cE] 50)).alloc (Obj.cells #[Value.slice none 0 0, Value.slice none 0 0, Value.slice none 0 0] 54)) (.slice none 0 0) (.slice none 0 0) (.slice none 0 0) 54).later hb1
    simpa using this
  have O1 : OwnRow w1 (w.heap.size + 1) 3 (fun i => if i = 0 then .slice none 0 0 else if i = 1 then .slice none 0 0 else .slice none 0 0) := by
    have := ((OwnRow.new3 (w.alloc (Obj.cells #[Value.slice aB nB cB, Value.slice aC nC cC, Value.slice aE nE cE] 50)) (.slice none 0 0) (.slice none 0 0) (.slice none 0 0) 54).later (later1 _ (Obj.cells #[Value.slice none 0 0, Value.slice none 0 0, Value.slice none 0 0] 54))).later hb1
    simpa using this
  have P0 : w1.cell? ⟨w.heap.size, 2, none⟩ = some (.slice aE nE cE) := by
    rw [hb1.cell (by simp; omega)]
    have h := (OwnRow.new3 w (.slice aB nB cB) (.slice aC nC cC) (.slice aE nE cE) 50)
    exact ((h.later (later1 _ _)).later (later1 _ _)).cell (i := 2) (by omega)
  have HO1 : Hid (DiskU w1 (.slice dB eB fB) (.slice dC eC fC) d.1 (fun b => w.heap.size + 3 ≤ b ∧ b < w1.heap.size)) := ho1.mono fun b hb => ⟨by have := hb.1; simp at this; omega, hb.2⟩
  clear hb1 ho1
  have d0 := O2.cell (i := 0) (by omega)
  have d1 := O2.cell (i := 1) (by omega)
  have f0 := O2.frozen 0
  have f1 := O2.frozen 1
  simp at d0 d1
  have HO2 : Hid (OwnRow w1 (w.heap.size + 1 + 1) 3 (fun i => if i = 0 then .slice none 0 0 else if i = 1 then .slice none 0 0 else .slice none 0 0)) := O2
  have HR1 : Hid (OwnRow w1 (w.heap.size + 1) 3 (fun i => if i = 0 then .slice none 0 0 else if i = 1 then .slice none 0 0 else .slice none 0 0)) := O1
  have hz1 : w.heap.size + 1 + 1 < w1.heap.size := O2.lt
  clear O1 O2
  go_wp2_with fail
  clear d0 d1 f0 f1 P0
  have HBX : Hid (Below w.heap.size w ((w1.setCell ⟨w.heap.size + 1 + 1, 0, none⟩ (.slice dB eB fB)).setCell ⟨w.heap.size + 1 + 1, 1, none⟩ (.slice dC eC fC))) := (HB1.out.setCell (by simp; omega) _).setCell (by simp; omega) _
  refine (toExtsU (H2.out.later HBX.out) L2.out).mono ?_
  rintro e w2 ⟨dE, eE, fE, rfl, hb2, ho2⟩
  have HOX := ((HO2.out.set 0 (.slice dB eB fB)).set 1 (.slice dC eC fC)).later hb2
  have HRX := ((HR1.out.store (p := ⟨w.heap.size + 1 + 1, 0, none⟩) (by simp) (.slice dB eB fB)).store (p := ⟨w.heap.size + 1 + 1, 1, none⟩) (by simp) (.slice dC eC fC)).later hb2
  have e1 : ((w1.setCell ⟨w.heap.size + 1 + 1, 0, none⟩ (.slice dB eB fB)).setCell ⟨w.heap.size + 1 + 1, 1, none⟩ (.slice dC eC fC)).heap.size = w1.heap.size := by simp [World.setCell]
  have HIX : Hid (DiskU w2 (.slice dB eB fB) (.slice dC eC fC) d.1 (fun b => w.heap.size + 3 ≤ b ∧ b < w1.heap.size)) := HO1.out.keep fun b hb hlt => by
    rw [hb2.block b (by rw [e1]; exact hlt), Below.heap_setCell _ _ _ _ (by simp; omega), Below.heap_setCell _ _ _ _ (by simp; omega)]
  have HPX : Hid (ExtsO w2 (.slice dE eE fE) d.2 (fun b => w1.heap.size ≤ b ∧ b < w2.heap.size)) := by
    unfold fresh at ho2
    rw [e1] at ho2
    exact ho2
  have HB2 : Hid (Below w.heap.size w w2) := HBX.out.trans (hb2.mono HBX.out.size)
  have e2 : w1.heap.size ≤ w2.heap.size := by have := hb2.size; rwa [e1] at this
  have q0 := HOX.cell (i := 0) (by omega)
  have q1 := HOX.cell (i := 1) (by omega)
  have q2 := HOX.cell (i := 2) (by omega)
  have q3 := HOX.frozen 2
  have t0 := HRX.cell (i := 0) (by omega)
  have t1 := HRX.cell (i := 1) (by omega)
  have t2 := HRX.cell (i := 2) (by omega)
  have s0 := HRX.frozen 0
  have s1 := HRX.frozen 1
  have s2 := HRX.frozen 2
  simp at q0 q1 q2 t0 t1 t2
  clear HOX HRX hb2 ho2
  go_wp2
  refine bodyPost_ret (v := .agg #[.slice dB eB fB, .slice dC eC fC, .slice dE eE fE]) (by simp [results, Try.results18, go_sem, t0, t1, t2]) rfl ⟨_, _, _, _, _, _, _, _, _, rfl, ?_, ?_⟩
  · exact (((HB2.out.setCell (by simp; omega) _).setCell (by simp) _).setCell (by simp) _).setCell (by simp) _
  · refine ⟨fun b => w.heap.size + 3 ≤ b ∧ b < w1.heap.size, fun b => w1.heap.size ≤ b ∧ b < w2.heap.size, HIX.out.keep fun b hb hlt => ?_, HPX.out.keep fun b hb hlt => ?_, fun b hb hb' => by omega, fun b hb => ?_⟩
    · rw [Below.heap_setCell _ _ _ _ (by simp; omega), Below.heap_setCell _ _ _ _ (by simp; omega), Below.heap_setCell _ _ _ _ (by simp; omega), Below.heap_setCell _ _ _ _ (by simp; omega)]
    · rw [Below.heap_setCell _ _ _ _ (by simp; omega), Below.heap_setCell _ _ _ _ (by simp; omega), Below.heap_setCell _ _ _ _ (by simp; omega), Below.heap_setCell _ _ _ _ (by simp; omega)]
    · unfold fresh
      simp only [World.setCell, Array.size_modify]
      rcases hb with hb | hb <;> omega

theorem eqKernU (w : World) (vB vC vE vB' vC' vE' : Value) (d : KD) (h : KernR w vB vC vE d) (h' : KernR w vB' vC' vE' d) :
    Calls Try.prog 22 #[.agg #[vB, vC, vE], .agg #[vB', vC', vE']] w fun e w' => e = .returned (.bool true) ∧ Below w.heap.size w w' := by
  obtain ⟨a1, c1, rfl, _⟩ := h.1.1.open'
  obtain ⟨a2, c2, rfl, _⟩ := h.1.2.open'
  obtain ⟨a3, c3, rfl, _⟩ := h.2.open'
  obtain ⟨b1, k1, rfl, _⟩ := h'.1.1.open'
  obtain ⟨b2, k2, rfl, _⟩ := h'.1.2.open'
  obtain ⟨b3, k3, rfl, _⟩ := h'.2.open'
  have H : Hid (KernR w _ _ _ d) := h
  have H' : Hid (KernR w _ _ _ d) := h'
  clear h h'
  generalize d.1.1.length = m1 at *
  generalize d.1.2.length = m2 at *
  generalize d.2.length = m3 at *
  go_enter Try.func22, Try.ntmps22
  go_wp2_with fail
  refine (eqDiskU _ _ _ _ _ d.1 (H.out.1.later (later2 _ _ _)) (H'.out.1.later (later2 _ _ _))).mono ?_
  rintro e w1 ⟨rfl, hb1⟩
  have HB1 : Hid (Below w.heap.size w w1) := (later2 _ _ _).trans (hb1.mono (by simp; omega))
  have x2 : w1.cell? ⟨w.heap.size, 2, none⟩ = some (.slice a3 m3 c3) := by rw [hb1.cell (by simp; omega)]; exact ((OwnRow.new3 w _ _ _ 54).later (later1 _ _)).cell (i := 2) (by omega)
  have y2 : w1.cell? ⟨w.heap.size + 1, 2, none⟩ = some (.slice b3 m3 k3) := by
    rw [hb1.cell (by simp)]
    have := (OwnRow.new3 (w.alloc (.cells #[.slice a1 m1 c1, .slice a2 m2 c2, .slice a3 m3 c3] 54)) (.slice b1 m1 k1) (.slice b2 m2 k2) (.slice b3 m3 k3) 54).cell (i := 2) (by omega)
    rw [World.size_alloc] at this
    exact this
  clear hb1
  go_wp2_with fail
  refine (eqExtsU (H.out.2.later HB1.out) (H'.out.2.later HB1.out)).mono ?_
  rintro e w2 ⟨rfl, hb2⟩
  have HB2 : Hid (Below w.heap.size w w2) := HB1.out.trans (hb2.mono HB1.out.size)
  clear hb2
  go_wp2
  go_ret
  exact ⟨rfl, HB2.out⟩

def spanKern (d : KD) : Nat := spanDisk d.1 + 3 * d.2.length
theorem spanKern_le (d : KD) : spanKern d ≤ 3 * sizeKern d := by have := spanDisk_le d.1; unfold spanKern sizeKern; omega
def mkKern (k : Int) (d : KD) : KD := (mkDisk k d.1, marksE (k + (spanDisk d.1 : Nat)) d.2.length)
theorem markDskU (w : World) (vB vC : Value) (d : DK) (F : Nat → Prop) (k : Int) (h : DiskU w vB vC d F) (hk0 : 0 ≤ k) (hk : k + (spanDisk d : Nat) ≤ 4611686018427387904) :
    Calls Try.prog 58 #[.agg #[vB, vC], .int .i64 k] w fun e w' => e = .returned (.int .i64 (k + (spanDisk d : Nat))) ∧ DiskU w' vB vC (mkDisk k d) F ∧ Chg F w w' := by
  obtain ⟨F1, G1, h1, h2, hd, hf⟩ := h
  exact (markDisk_any w vB vC d.1 d.2 F1 G1 k h1 h2 hd hk0 hk).mono fun e w' ⟨he, i1, i2, hc⟩ => ⟨he, ⟨F1, G1, i1, i2, hd, hf⟩, hc.mono hf⟩

set_option maxHeartbeats 800000 in
theorem markKernM (w : World) (vB vC vE : Value) (d : KD) (F : Nat → Prop) (k : Int) (h : KernU w vB vC vE d F) (hk0 : 0 ≤ k) (hk : k + (spanKern d : Nat) ≤ 4611686018427387904) :
    Calls Try.prog 24 #[.agg #[vB, vC, vE], .int .i64 k] w fun e w' => e = .returned (.int .i64 (k + (spanKern d : Nat))) ∧ KernU w' vB vC vE (mkKern k d) F ∧ Chg F w w' := by
  obtain ⟨a1, c1, rfl, _⟩ := h.reads.1.1.open'
  obtain ⟨a2, c2, rfl, _⟩ := h.reads.1.2.open'
  obtain ⟨a3, c3, rfl, _⟩ := h.reads.2.open'
  obtain ⟨F1, G1, h1, h2, hd, hf⟩ := h
  have H1 : Hid (DiskU w (.slice a1 d.1.1.length c1) (.slice a2 d.1.2.length c2) d.1 F1) := h1
  have H2 : Hid (ExtsO w (.slice a3 d.2.length c3) d.2 G1) := h2
  have HD : Hid (∀ b, F1 b → ¬ G1 b) := hd
  have HF : Hid (∀ b, F1 b ∨ G1 b → F b) := hf
  have HKD : Hid (mkKern k d = (mkDisk k d.1, marksE (k + (spanDisk d.1 : Nat)) d.2.length)) := rfl
  clear h1 h2 hd hf
  have hq : k + (spanDisk d.1 : Nat) + 3 * (d.2.length : Int) ≤ 4611686018427387904 := by unfold spanKern at hk; omega
  have HE : Hid (k + ((spanKern d : Nat) : Int) = k + (spanDisk d.1 : Nat) + 3 * (d.2.length : Int)) := by unfold Hid spanKern; omega
  rw [HE.out, HKD.out]
  clear hk
  have hU0 : (0 : Int) ≤ ((spanDisk d.1 : Nat) : Int) := by omega
  go_enter Try.func24, Try.ntmps24
  go_wp2_with fail
  refine (markDskU _ _ _ d.1 (fun b => F1 b ∧ b < w.heap.size) k (H1.out.bound.keep fun b hb hlt => (later1 _ _).block b hlt) hk0 (by omega)).mono ?_
  rintro e w1 ⟨rfl, hm, hc⟩
  have x2 : w1.cell? ⟨w.heap.size, 2, none⟩ = some (.slice a3 d.2.length c3) := by
    rw [World.cell?_of_block (w := w.alloc (.cells #[.slice a1 d.1.1.length c1, .slice a2 d.1.2.length c2, .slice a3 d.2.length c3] 54)) (box_later hc fun b hb => hb.2), new_cell]; rfl
  have HM : Hid (DiskU w1 _ _ (mkDisk k d.1) (fun b => F1 b ∧ b < w.heap.size)) := hm
  have HC : Hid (Chg (fun b => F1 b ∧ b < w.heap.size) (w.alloc (.cells #[.slice a1 d.1.1.length c1, .slice a2 d.1.2.length c2, .slice a3 d.2.length c3] 54)) w1) := hc
  have H2' : Hid (ExtsO w1 (.slice a3 d.2.length c3) d.2 (fun b => G1 b ∧ b < w.heap.size)) := H2.out.bound.keep fun b hb hlt => (HC.out.block b (by simp; omega) (fun h => HD.out b h.1 hb.1)).trans ((later1 _ _).block b hlt)
  clear hm hc
  go_wp2_with fail
  refine (markExtsU _ H2'.out (by omega) hq).mono ?_
  rintro e w2 ⟨rfl, hm2, hc2⟩
  have HM2 : Hid (ExtsO w2 (.slice a3 d.2.length c3) (marksE (k + (spanDisk d.1 : Nat)) d.2.length) (fun b => G1 b ∧ b < w.heap.size)) := hm2
  have HC2 : Hid (Chg (fun b => G1 b ∧ b < w.heap.size) w1 w2) := hc2
  clear hm2 hc2
  go_wp2
  go_ret
  refine ⟨rfl, ⟨fun b => F1 b ∧ b < w.heap.size, fun b => G1 b ∧ b < w.heap.size, HM.out.keep fun b hb hlt => HC2.out.block b hlt (fun h => HD.out b hb.1 h.1), HM2.out, fun b h h' => HD.out b h.1 h'.1, fun b hb => HF.out b (hb.elim (fun h => Or.inl h.1) (fun h => Or.inr h.1))⟩, ?_⟩
  exact (Chg.of_below (later1 _ _)).trans ((HC.out.mono fun b hb => HF.out b (Or.inl hb.1)).trans (HC2.out.mono fun b hb => HF.out b (Or.inr hb.1)))
theorem markKernU (w : World) (vB vC vE : Value) (d : KD) (F : Nat → Prop) (k : Int) (h : KernU w vB vC vE d F) (hk0 : 0 ≤ k) (hk : k + (spanKern d : Nat) ≤ 4611686018427387904) :
    Calls Try.prog 24 #[.agg #[vB, vC, vE], .int .i64 k] w fun e w' => e = .returned (.int .i64 (k + (spanKern d : Nat))) ∧ Chg F w w' := (markKernM w vB vC vE d F k h hk0 hk).mono fun _ _ ⟨h1, _, h2⟩ => ⟨h1, h2⟩

theorem heldDskU (w : World) (vB vC : Value) (d : DK) (k : Int) (h : DiskR w vB vC (mkDisk k d)) (hk0 : 0 ≤ k) (hk : k + (spanDisk d : Nat) ≤ 4611686018427387904) :
    Calls Try.prog 95 #[.agg #[vB, vC], .int .i64 k] w fun e w' => e = .returned (.int .i64 (k + (spanDisk d : Nat))) ∧ Below w.heap.size w w' := by
  unfold spanDisk dspan at hk ⊢
  refine (heldDisk_any w vB vC _ (wlens d.2) k h.1 h.2 hk0 (by rw [wlens_length]; omega)).mono fun e w' ⟨he, hb⟩ => ⟨he.trans (ret_int ?_), hb⟩
  rw [wlens_length]
  omega

theorem mkDisk_len1 (k : Int) (d : DK) : (mkDisk k d).1.length = d.1.length := by simp [mkDisk, marksS_length]
theorem mkDisk_len2 (k : Int) (d : DK) : (mkDisk k d).2.length = d.2.length := by simp [mkDisk, marksP_length, wlens]

set_option maxHeartbeats 800000 in
theorem heldKernM (w : World) (vB vC vE : Value) (d : KD) (k : Int) (h : KernR w vB vC vE (mkKern k d)) (hk0 : 0 ≤ k) (hk : k + (spanKern d : Nat) ≤ 4611686018427387904) :
    Calls Try.prog 61 #[.agg #[vB, vC, vE], .int .i64 k] w fun e w' => e = .returned (.int .i64 (k + (spanKern d : Nat))) ∧ Below w.heap.size w w' := by
  obtain ⟨a1, c1, rfl, _⟩ := h.1.1.open'
  obtain ⟨a2, c2, rfl, _⟩ := h.1.2.open'
  obtain ⟨a3, c3, rfl, _⟩ := h.2.open'
  have H1 : Hid (DiskR w _ _ (mkDisk k d.1)) := h.1
  have H2 : Hid (Exts w _ (marksE (k + (spanDisk d.1 : Nat)) d.2.length)) := h.2
  clear h
  have hq : k + (spanDisk d.1 : Nat) + 3 * (d.2.length : Int) ≤ 4611686018427387904 := by unfold spanKern at hk; omega
  have HE : Hid (k + ((spanKern d : Nat) : Int) = k + (spanDisk d.1 : Nat) + 3 * (d.2.length : Int)) := by unfold Hid spanKern; omega
  rw [HE.out]
  clear hk
  generalize (mkKern k d).1.1.length = m1 at *
  generalize (mkKern k d).1.2.length = m2 at *
  generalize (mkKern k d).2.length = m3 at *
  have l1 : ¬ (k + ((spanDisk d.1 : Nat) : Int) < 0) := by omega
  have l2 : ¬ (k + ((spanDisk d.1 : Nat) : Int) + 3 * (d.2.length : Int) < 0) := by omega
  go_enter Try.func61, Try.ntmps61
  go_wp2_with fail
  refine (heldDskU _ _ _ d.1 k (H1.out.later (later1 _ _)) hk0 (by omega)).mono ?_
  rintro e w1 ⟨rfl, hb1⟩
  have HB1 : Hid (Below w.heap.size w w1) := (later1 _ _).trans (hb1.mono (by simp))
  have x2 : w1.cell? ⟨w.heap.size, 2, none⟩ = some (.slice a3 m3 c3) := by rw [hb1.cell (by simp), new_cell]; rfl
  clear hb1
  go_wp2_with fail
  refine (heldExtsU _ d.2.length (H2.out.later HB1.out) (by omega) hq).mono ?_
  rintro e w2 ⟨rfl, rfl⟩
  go_wp2
  go_ret
  exact ⟨rfl, HB1.out⟩
end Go.Proofs.Ytmjdechoookpmaa

namespace Go.Proofs.Ytmjdechoookpmaa
open Go.RowKit
set_option maxRecDepth 100000

theorem l2Right_any (w : World) (x y z : Int) (n : Nat) (hn : n ≤ 60) :
    Calls Try.prog 97 #[.agg #[.int .i64 x, .int .i64 y, .int .i64 z], .int .i64 (n : Int)] w fun e w' => e = .returned (.bool (rightB (x, y, z) n)) ∧ Below w.heap.size w w' := by
  cases h1 : decide (1 ≤ z ∧ z ≤ 9999)
  · have HR : Hid (rightB (x, y, z) n = false) := by unfold Hid rightB; rw [h1]; rfl
    have H1 : Hid (decide (1 ≤ z ∧ z ≤ 9999) = false) := h1
    clear h1
    rw [HR.out]
    go_enter Try.func97, Try.ntmps97
    go_wp2_with fail
    refine (l1In_any _ _ _ _).mono ?_
    rw [H1.out]
    rintro e w' ⟨rfl, rfl⟩
    go_wp2
    go_ret
    exact ⟨rfl, later1 _ _⟩
  · have H1 : Hid (decide (1 ≤ z ∧ z ≤ 9999) = true) := h1
    cases h2 : decide (0 ≤ x ∧ x ≤ (n : Int))
    · have HR : Hid (rightB (x, y, z) n = false) := by unfold Hid rightB; rw [h1, h2]; rfl
      have H2 : Hid (decide (0 ≤ x ∧ x ≤ (n : Int)) = false) := h2
      clear h1 h2
      rw [HR.out]
      go_enter Try.func97, Try.ntmps97
      go_wp2_with fail
      refine (l1In_any _ _ _ _).mono ?_
      rw [H1.out]
      rintro e w' ⟨rfl, rfl⟩
      go_wp2_with fail
      refine (l1In_any _ _ _ _).mono ?_
      rw [H2.out]
      rintro e w' ⟨rfl, rfl⟩
      go_wp2
      go_ret
      exact ⟨rfl, later1 _ _⟩
    · have H2 : Hid (decide (0 ≤ x ∧ x ≤ (n : Int)) = true) := h2
      cases h3 : decide (1 ≤ y ∧ y ≤ (n : Int))
      · have HR : Hid (rightB (x, y, z) n = false) := by unfold Hid rightB; rw [h1, h2, h3]; rfl
        have H3 : Hid (decide (1 ≤ y ∧ y ≤ (n : Int)) = false) := h3
        clear h1 h2 h3
        rw [HR.out]
        go_enter Try.func97, Try.ntmps97
        go_wp2_with fail
        refine (l1In_any _ _ _ _).mono ?_
        rw [H1.out]
        rintro e w' ⟨rfl, rfl⟩
        go_wp2_with fail
        refine (l1In_any _ _ _ _).mono ?_
        rw [H2.out]
        rintro e w' ⟨rfl, rfl⟩
        go_wp2_with fail
        refine (l1In_any _ _ _ _).mono ?_
        rw [H3.out]
        rintro e w' ⟨rfl, rfl⟩
        go_wp2
        go_ret
        exact ⟨rfl, later1 _ _⟩
      · have H3 : Hid (decide (1 ≤ y ∧ y ≤ (n : Int)) = true) := h3
        have HR : Hid (rightB (x, y, z) n = decide (x + y ≤ (n : Int))) := by unfold Hid rightB; rw [h1, h2, h3]; rfl
        have hx : 0 ≤ x ∧ x ≤ 60 := by simp at h2; omega
        have hy : 1 ≤ y ∧ y ≤ 60 := by simp at h3; omega
        have hx0 := hx.1
        have hx1 := hx.2
        have hy0 := hy.1
        have hy1 := hy.2
        clear h1 h2 h3 hx hy
        rw [HR.out]
        go_enter Try.func97, Try.ntmps97
        go_wp2_with fail
        refine (l1In_any _ _ _ _).mono ?_
        rw [H1.out]
        rintro e w' ⟨rfl, rfl⟩
        go_wp2_with fail
        refine (l1In_any _ _ _ _).mono ?_
        rw [H2.out]
        rintro e w' ⟨rfl, rfl⟩
        go_wp2_with fail
        refine (l1In_any _ _ _ _).mono ?_
        rw [H3.out]
        rintro e w' ⟨rfl, rfl⟩
        go_wp2
        go_ret
        exact ⟨rfl, later1 _ _⟩

set_option maxHeartbeats 800000 in
theorem l2Fault_disk (w : World) (bk : Nat) (aB aC aE : Option Addr) (nB cB nC cC nE cE : Nat) (d : KD) (h0 : w.cell? ⟨bk, 0, none⟩ = some (.slice aB nB cB)) (h1 : w.cell? ⟨bk, 1, none⟩ = some (.slice aC nC cC)) (_h2 : w.cell? ⟨bk, 2, none⟩ = some (.slice aE nE cE)) (hD : DiskR w (.slice aB nB cB) (.slice aC nC cC) d.1) (hf : ¬ faultF d.1.1 d.1.2 = 0) :
    Calls Try.prog 62 #[.pointer (some ⟨bk, 0, none⟩)] w fun e w' => e = .returned (.int .i64 (faultF d.1.1 d.1.2)) ∧ Below w.heap.size w w' := by
  have HD : Hid (DiskR w (.slice aB nB cB) (.slice aC nC cC) d.1) := hD
  have X0 : Hid (w.cell? ⟨bk, 0, none⟩ = some (.slice aB nB cB)) := h0
  have X1 : Hid (w.cell? ⟨bk, 1, none⟩ = some (.slice aC nC cC)) := h1
  generalize hc : faultF d.1.1 d.1.2 = c at *
  have HC : Hid (faultF d.1.1 d.1.2 = c) := hc
  have hne : (c != 0) = true := by simpa using hf
  clear hD hf hc
  go_enter Try.func62, Try.ntmps62
  go_wp2_with fail
  refine (l1Fault_any X0.out X1.out HD.out.1 HD.out.2).mono ?_
  rw [HC.out]
  rintro e w1 ⟨rfl, m, rfl⟩
  go_wp2
  go_ret
  exact ⟨rfl, below_drewN (Below.refl _ _) m⟩

set_option maxHeartbeats 800000 in
theorem l2Fault_many (w : World) (bk : Nat) (aB aC aE : Option Addr) (nB cB nC cC nE cE : Nat) (d : KD) (h0 : w.cell? ⟨bk, 0, none⟩ = some (.slice aB nB cB)) (h1 : w.cell? ⟨bk, 1, none⟩ = some (.slice aC nC cC)) (h2 : w.cell? ⟨bk, 2, none⟩ = some (.slice aE nE cE)) (hD : DiskR w (.slice aB nB cB) (.slice aC nC cC) d.1) (hf : faultF d.1.1 d.1.2 = 0) (h8 : 8 < nE) :
    Calls Try.prog 62 #[.pointer (some ⟨bk, 0, none⟩)] w fun e w' => e = .returned (.int .i64 2) ∧ Below w.heap.size w w' := by
  have HD : Hid (DiskR w (.slice aB nB cB) (.slice aC nC cC) d.1) := hD
  have X0 : Hid (w.cell? ⟨bk, 0, none⟩ = some (.slice aB nB cB)) := h0
  have X1 : Hid (w.cell? ⟨bk, 1, none⟩ = some (.slice aC nC cC)) := h1
  have HC : Hid (faultF d.1.1 d.1.2 = 0) := hf
  have h8' : (8 : Int) < (nE : Int) := by omega
  clear hD hf
  go_enter Try.func62, Try.ntmps62
  go_wp2_with fail
  refine (l1Fault_any X0.out X1.out HD.out.1 HD.out.2).mono ?_
  rw [HC.out]
  rintro e w1 ⟨rfl, m, rfl⟩
  go_wp2
  go_ret
  exact ⟨rfl, below_drewN (Below.refl _ _) m⟩

set_option maxHeartbeats 3200000 in
theorem l2Fault_walk (w : World) (bk : Nat) (aB aC aE : Option Addr) (nB cB nC cC nE cE : Nat) (d : KD) (h0 : w.cell? ⟨bk, 0, none⟩ = some (.slice aB nB cB)) (h1 : w.cell? ⟨bk, 1, none⟩ = some (.slice aC nC cC)) (h2 : w.cell? ⟨bk, 2, none⟩ = some (.slice aE nE cE)) (hD : DiskR w (.slice aB nB cB) (.slice aC nC cC) d.1) (hE : AtE w aE nE d.2) (hf : faultF d.1.1 d.1.2 = 0) (h8 : nE ≤ 8) (h60 : nB ≤ 60) :
    Calls Try.prog 62 #[.pointer (some ⟨bk, 0, none⟩)] w fun e w' => e = .returned (.int .i64 (firstNZ (extOne d.2 nB) nE)) ∧ Below w.heap.size w w' := by
  have HD : Hid (DiskR w (.slice aB nB cB) (.slice aC nC cC) d.1) := hD
  have X0 : Hid (w.cell? ⟨bk, 0, none⟩ = some (.slice aB nB cB)) := h0
  have X1 : Hid (w.cell? ⟨bk, 1, none⟩ = some (.slice aC nC cC)) := h1
  have X2 : Hid (w.cell? ⟨bk, 2, none⟩ = some (.slice aE nE cE)) := h2
  have HC : Hid (faultF d.1.1 d.1.2 = 0) := hf
  have HE : Hid (AtE w aE nE d.2) := hE
  have h8' : decide ((8 : Int) < (nE : Int)) = false := by simp; omega
  clear hD hf hE
  go_enter Try.func62, Try.ntmps62
  go_wp2_with fail
  refine (l1Fault_any X0.out X1.out HD.out.1 HD.out.2).mono ?_
  rw [HC.out]
  rintro e w1 ⟨rfl, m, rfl⟩
  go_wp2
  go_loopw [4] (fun i wr => ∃ j : Nat, j ≤ nE ∧ i = .int .i64 j ∧ Below w.heap.size w wr ∧ ∀ i : Nat, i < j → extOne d.2 nB i = 0) (fun i _ => nE - (intOf i).toNat)
  case atStart => exact ⟨0, Nat.zero_le _, rfl, below_drewN (Below.refl _ _) m, fun i hi => by omega⟩
  case round =>
    obtain ⟨j, hj, rfl, hbl, hall⟩ := hrel
    clear h0 h1 h2
    have HA : Hid (∀ i : Nat, i < j → extOne d.2 nB i = 0) := hall
    have HBL : Hid (Below w.heap.size w wr) := hbl
    have x0 := cell_later hbl X0.out
    have x1 := cell_later hbl X1.out
    have x2 := cell_later hbl X2.out
    clear hall hbl
    by_cases hlt : j < nE
    · obtain ⟨b, off, rfl, c0, c1, c2⟩ := HE.out j hlt
      replace c0 := cell_later HBL.out c0
      replace c1 := cell_later HBL.out c1
      replace c2 := cell_later HBL.out c2
      have HX : Hid (extAt d.2 j = ((d.2[j]?.getD (0, 0, 0)).1, (d.2[j]?.getD (0, 0, 0)).2.1, (d.2[j]?.getD (0, 0, 0)).2.2)) := rfl
      generalize (d.2[j]?.getD (0, 0, 0)).1 = x at *
      generalize (d.2[j]?.getD (0, 0, 0)).2.1 = y at *
      generalize (d.2[j]?.getD (0, 0, 0)).2.2 = z at *
      cases hr : rightB (x, y, z) nB
      · have HR : Hid (rightB (x, y, z) nB = false) := hr
        have HO : Hid (extOne d.2 nB j = 3) := by unfold Hid extOne; rw [HX.out, hr]; rfl
        clear hr
        go_wp2_with fail
        go_region_held3 (fun W => W.cell? ⟨bk, 0, none⟩ = some (.slice aB nB cB) ∧ W.cell? ⟨bk, 2, none⟩ = some (.slice (some ⟨b, off, none⟩) nE cE) ∧ W.cell? ⟨b, off + j * 3, none⟩ = some (.int .i64 x) ∧ W.cell? ⟨b, off + j * 3 + 1, none⟩ = some (.int .i64 y) ∧ W.cell? ⟨b, off + j * 3 + 2, none⟩ = some (.int .i64 z)) (go_keep) (first | (go_at_call 97; refine (l2Right_any _ x y z nB h60).mono ?_; rw [HR.out]; rintro e w2 ⟨rfl, hb2⟩; have HB2 : Hid (Below wr.heap.size wr w2) := (Below.refl _ _).drew.trans hb2; have k0 := cell_later hb2 x0; have k2 := cell_later hb2 x2; have l0 := cell_later hb2 c0; have l1 := cell_later hb2 c1; have l2 := cell_later hb2 c2; clear hb2))
        all_goals
          go_wp2
          go_ret
          exact ⟨ret_int (by rw [firstNZ_at HA.out hlt (by rw [HO.out]; decide), HO.out]), HBL.out.trans (HB2.out.mono HBL.out.size)⟩
      · have HR : Hid (rightB (x, y, z) nB = true) := hr
        have hrr := rightB_iff.1 hr
        clear hr
        by_cases hj0 : j = 0
        · have HO : Hid (extOne d.2 nB j = 0) := by unfold Hid extOne; rw [HX.out, HR.out]; simp [hj0]
          have HJ0 : Hid (j = 0) := hj0
          have hpj : decide ((0 : Int) < (j : Int)) = false := by simp; omega
          have hpj2 : decide (0 < j) = false := by simp; omega
          have hpj3 : ¬ 0 < j := by omega
          clear hrr hj0
          go_wp2_with fail
          go_region_held3 (fun W => W.cell? ⟨bk, 0, none⟩ = some (.slice aB nB cB) ∧ W.cell? ⟨bk, 2, none⟩ = some (.slice (some ⟨b, off, none⟩) nE cE) ∧ W.cell? ⟨b, off + j * 3, none⟩ = some (.int .i64 x) ∧ W.cell? ⟨b, off + j * 3 + 1, none⟩ = some (.int .i64 y) ∧ W.cell? ⟨b, off + j * 3 + 2, none⟩ = some (.int .i64 z)) (go_keep) (first | (go_at_call 97; refine (l2Right_any _ x y z nB h60).mono ?_; rw [HR.out]; rintro e w2 ⟨rfl, hb2⟩; have HB2 : Hid (Below wr.heap.size wr w2) := (Below.refl _ _).drew.trans hb2; have k0 := cell_later hb2 x0; have k2 := cell_later hb2 x2; have l0 := cell_later hb2 c0; have l1 := cell_later hb2 c1; have l2 := cell_later hb2 c2; clear hb2))
          all_goals
            go_wp2_with fail
            go_quiet (fail)
            go_wp2
            go_roundw
            case rel =>
              refine ⟨j + 1, by omega, by go_num, below_drewN (HBL.out.trans (HB2.out.mono HBL.out.size)) _, fun i hi => ?_⟩
              have : i = j := by have := HJ0.out; omega
              subst this; exact HO.out
            case measure => simp [intOf]; omega
        · obtain ⟨p, hjp⟩ : ∃ p, j = p + 1 := ⟨j - 1, by omega⟩
          have HJP : Hid (j = p + 1) := hjp
          have hjm : (j : Int) - 1 = (p : Int) := by omega
          have hj1 : 0 < j := by omega
          have hp8 : p ≤ 8 := by omega
          have hwr : IntKind.i64.wrap (p : Int) = (p : Int) := by rw [IntKind.wrap_i64]; omega
          clear hj0
          obtain ⟨b', off', e', p0, p1, p2⟩ := HE.out p (by omega)
          simp only [Option.some.injEq, Addr.mk.injEq, and_true] at e'
          obtain ⟨rfl, rfl⟩ := e'
          have hp := HA.out p (by omega)
          have hpr : rightB (extAt d.2 p) nB = true := by
            unfold extOne at hp
            by_cases h : rightB (extAt d.2 p) nB = true
            · exact h
            · rw [if_neg h] at hp; omega
          have hq := rightB_iff.1 hpr
          have HY : Hid (extAt d.2 p = ((d.2[p]?.getD (0, 0, 0)).1, (d.2[p]?.getD (0, 0, 0)).2.1, (d.2[p]?.getD (0, 0, 0)).2.2)) := rfl
          rw [HY.out] at hq
          dsimp only at hq
          generalize (d.2[p]?.getD (0, 0, 0)).1 = x' at *
          generalize (d.2[p]?.getD (0, 0, 0)).2.1 = y' at *
          generalize (d.2[p]?.getD (0, 0, 0)).2.2 = z' at *
          have hx'0 : 0 ≤ x' := by omega
          have hx'1 : x' ≤ 60 := by omega
          have hy'0 : 0 ≤ y' := by omega
          have hy'1 : y' ≤ 60 := by omega
          have hpn : p < nE := by omega
          clear hp hpr hq hrr hjp
          have HO : Hid (extOne d.2 nB j = if x < x' + y' then 1 else 0) := by
            unfold Hid extOne
            rw [HX.out, HR.out, if_pos rfl, show j - 1 = p by have := HJP.out; omega, HY.out]
            by_cases h : x < x' + y' <;> simp [h, hj1]
          by_cases hlq : x < x' + y'
          · have hld : decide (x < x' + y') = true := by simpa using hlq
            have HO1 : Hid (extOne d.2 nB j = 1) := by unfold Hid; rw [HO.out, if_pos hlq]
            go_wp2_with fail
            go_region_held3 (fun W => W.cell? ⟨bk, 0, none⟩ = some (.slice aB nB cB) ∧ W.cell? ⟨bk, 2, none⟩ = some (.slice (some ⟨b, off, none⟩) nE cE) ∧ W.cell? ⟨b, off + j * 3, none⟩ = some (.int .i64 x) ∧ W.cell? ⟨b, off + j * 3 + 1, none⟩ = some (.int .i64 y) ∧ W.cell? ⟨b, off + j * 3 + 2, none⟩ = some (.int .i64 z)) (go_keep) (first | (go_at_call 97; refine (l2Right_any _ x y z nB h60).mono ?_; rw [HR.out]; rintro e w2 ⟨rfl, hb2⟩; have HB2 : Hid (Below wr.heap.size wr w2) := (Below.refl _ _).drew.trans hb2; have k0 := cell_later hb2 x0; have k2 := cell_later hb2 x2; have l0 := cell_later hb2 c0; have l1 := cell_later hb2 c1; have l2 := cell_later hb2 c2; have m0 := cell_later (HBL.out.trans (HB2.out.mono HBL.out.size)) p0; have m1 := cell_later (HBL.out.trans (HB2.out.mono HBL.out.size)) p1; clear hb2))
            all_goals
              go_wp2_with fail
              go_quiet (fail)
              go_wp2
              go_ret
              exact ⟨ret_int (by rw [firstNZ_at HA.out hlt (by rw [HO1.out]; decide), HO1.out]), below_drewN (HBL.out.trans (HB2.out.mono HBL.out.size)) _⟩
          · have hld : decide (x < x' + y') = false := by simpa using hlq
            have HO1 : Hid (extOne d.2 nB j = 0) := by unfold Hid; rw [HO.out, if_neg hlq]
            go_wp2_with fail
            go_region_held3 (fun W => W.cell? ⟨bk, 0, none⟩ = some (.slice aB nB cB) ∧ W.cell? ⟨bk, 2, none⟩ = some (.slice (some ⟨b, off, none⟩) nE cE) ∧ W.cell? ⟨b, off + j * 3, none⟩ = some (.int .i64 x) ∧ W.cell? ⟨b, off + j * 3 + 1, none⟩ = some (.int .i64 y) ∧ W.cell? ⟨b, off + j * 3 + 2, none⟩ = some (.int .i64 z)) (go_keep) (first | (go_at_call 97; refine (l2Right_any _ x y z nB h60).mono ?_; rw [HR.out]; rintro e w2 ⟨rfl, hb2⟩; have HB2 : Hid (Below wr.heap.size wr w2) := (Below.refl _ _).drew.trans hb2; have k0 := cell_later hb2 x0; have k2 := cell_later hb2 x2; have l0 := cell_later hb2 c0; have l1 := cell_later hb2 c1; have l2 := cell_later hb2 c2; have m0 := cell_later (HBL.out.trans (HB2.out.mono HBL.out.size)) p0; have m1 := cell_later (HBL.out.trans (HB2.out.mono HBL.out.size)) p1; clear hb2))
            all_goals
              go_wp2_with fail
              go_quiet (fail)
              go_wp2
              go_roundw
              case rel =>
                refine ⟨j + 1, by omega, by go_num, below_drewN (HBL.out.trans (HB2.out.mono HBL.out.size)) _, fun i hi => ?_⟩
                by_cases e : i = j
                · subst e; exact HO1.out
                · exact HA.out i (by omega)
              case measure => simp [intOf]; omega
    · have e : j = nE := by omega
      subst e
      go_wp2
      go_ret
      exact ⟨ret_int (firstNZ_zero HA.out).symm, HBL.out⟩

theorem l2Fault_any {w : World} {bk : Nat} {vB vC vE : Value} {d : KD} (h0 : w.cell? ⟨bk, 0, none⟩ = some vB) (h1 : w.cell? ⟨bk, 1, none⟩ = some vC) (h2 : w.cell? ⟨bk, 2, none⟩ = some vE) (h : KernR w vB vC vE d) :
    Calls Try.prog 62 #[.pointer (some ⟨bk, 0, none⟩)] w fun e w' => e = .returned (.int .i64 (kernF d)) ∧ Below w.heap.size w w' := by
  obtain ⟨a1, c1, rfl, _⟩ := h.1.1.open'
  obtain ⟨a2, c2, rfl, _⟩ := h.1.2.open'
  obtain ⟨a3, c3, rfl, _, hE⟩ := h.2.open'
  by_cases hf : faultF d.1.1 d.1.2 = 0
  · by_cases h8 : 8 < d.2.length
    · rw [kernF_many hf h8]
      exact l2Fault_many w bk _ _ _ _ _ _ _ _ _ d h0 h1 h2 h.1 hf h8
    · rw [kernF_few hf h8]
      exact l2Fault_walk w bk _ _ _ _ _ _ _ _ _ d h0 h1 h2 h.1 hE hf (by omega) (faultF_lens hf).1
  · rw [kernF_disk hf]
    exact l2Fault_disk w bk _ _ _ _ _ _ _ _ _ d h0 h1 h2 h.1 hf

end Go.Proofs.Ytmjdechoookpmaa

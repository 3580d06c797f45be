
/- Lists of texts: marking, holding, comparing. -/
import Derived.Test.YtcmkfapgpolglaiMrkT
import Derived.Test.YtcmkfapgpolglaiCutB
import Derived.Deep.RegionHeld3
namespace Go.Proofs.Ytcmkfapgpolglai
open Go.RowKit
set_option maxRecDepth 100000

def mkT (k : Nat) : Value := .string (mkB (109 :: dg k []))

set_option maxHeartbeats 1600000 in
theorem markS_walk (w : World) (b cap n k : Nat) (f : Nat → Value) (hk0 : 1 ≤ k) (hk : k + n ≤ 4294967296) (hr : OwnRow w b n f) :
    Calls Try.prog 66 #[.slice (some ⟨b, 0, none⟩) n cap, .int .i64 (k : Int)] w fun e w' => e = .returned (.int .i64 ((k + n : Nat) : Int)) ∧ OwnRow w' b n (fun i => mkT (k + i)) ∧ Chg (fun c => c = b) w w' := by
  have HR : Hid (OwnRow w b n f) := hr
  clear hr
  go_enter Try.func66, Try.ntmps66
  go_wp2
  go_loopw [1, 5] (fun q i wr => ∃ j : Nat, j ≤ n ∧ i = .int .i64 j ∧ q = .int .i64 ((k + j : Nat) : Int) ∧ OwnRow wr b n (fun i => if i < j then mkT (k + i) else f i) ∧ Chg (fun c => c = b) w wr) (fun _ i _ => n - (intOf i).toNat)
  case atStart => exact ⟨0, Nat.zero_le _, rfl, by simp, HR.out.congr fun i _ => by simp, Chg.refl _ _⟩
  case round =>
    obtain ⟨j, hj, rfl, rfl, hrow, hch⟩ := hrel
    have HROW : Hid (OwnRow wr b n (fun i => if i < j then mkT (k + i) else f i)) := hrow
    have HCH : Hid (Chg (fun c => c = b) w wr) := hch
    clear hch
    by_cases hlt : j < n
    · have c1 := hrow.cell hlt
      have c2 := hrow.frozen j
      have c3 := hrow.lt
      clear hrow
      simp only [Nat.lt_irrefl, if_false] at c1
      have hkk : k + j ≤ 4294967296 := by omega
      have hk1 : 1 ≤ k + j := by omega
      generalize hq : k + j = q at *
      have HQQ : Hid (k + j = q) := hq
      clear hq
      go_wp2_with fail
      refine (markText_any _ q hk1 (by omega)).mono ?_
      rintro e w1 ⟨rfl, hb1⟩
      have HCH1 : Hid (Chg (fun c => c = b) w w1) := HCH.out.trans (Chg.of_below hb1)
      have hrow1 := HROW.out.block (hb1.block b c3)
      have HROW1 : Hid (OwnRow w1 b n (fun i => if i < j then mkT (k + i) else f i)) := hrow1
      have c1 := hrow1.cell hlt
      have c2 := hrow1.frozen j
      simp only [Nat.lt_irrefl, if_false] at c1
      generalize hv : mkB (109 :: dg q []) = v
      have HV : Hid (mkT (k + j) = .string v) := by unfold Hid; rw [HQQ.out]; unfold mkT; rw [hv]
      clear hb1 hrow1 HROW HCH hv
      go_wp2
      go_roundw
      case rel =>
        refine ⟨j + 1, by omega, by go_num, by rw [show k + (j + 1) = q + 1 by have := HQQ.out; omega]; go_num, (HROW1.out.set j _).congr fun i hi => ?_, HCH1.out.set rfl _ _⟩
        by_cases e : i = j
        · subst e; simp [HV.out]
        · by_cases e2 : i < j
          · simp [e, e2, show i < j + 1 by omega]
          · simp [e, e2, show ¬ i < j + 1 by omega]
      case measure => simp [intOf]; omega
    · have hjn : j = n := by omega
      clear hrow
      go_wp2
      go_ret
      subst hjn
      exact ⟨rfl, HROW.out.congr fun i hi => by simp [hi], HCH.out⟩

set_option maxHeartbeats 1600000 in
theorem markS_nil (w : World) (a : Option Addr) (cap k : Nat) :
    Calls Try.prog 66 #[.slice a 0 cap, .int .i64 (k : Int)] w fun e w' => e = .returned (.int .i64 (k : Int)) ∧ w' = w := by
  go_enter Try.func66, Try.ntmps66
  go_wp2
  go_loop [1, 5] (fun q i => i = .int .i64 0 ∧ q = .int .i64 (k : Int)) (fun _ _ => 0)
  case atStart => exact ⟨rfl, rfl⟩
  case round =>
    obtain ⟨rfl, rfl⟩ := hrel
    go_wp2
    go_ret
    exact ⟨rfl, rfl⟩

set_option maxHeartbeats 1600000 in
theorem heldS_nil (w : World) (a : Option Addr) (cap k : Nat) :
    Calls Try.prog 67 #[.slice a 0 cap, .int .i64 (k : Int)] w fun e w' => e = .returned (.int .i64 (k : Int)) ∧ w' = w := by
  go_enter Try.func67, Try.ntmps67
  go_wp2
  go_loop [1, 5] (fun q i => i = .int .i64 0 ∧ q = .int .i64 (k : Int)) (fun _ _ => 0)
  case atStart => exact ⟨rfl, rfl⟩
  case round =>
    obtain ⟨rfl, rfl⟩ := hrel
    go_wp2
    go_ret
    exact ⟨rfl, rfl⟩

set_option maxHeartbeats 3200000 in
theorem heldS_walk (w : World) (b cap n k : Nat) (hk0 : 1 ≤ k) (hk : k + n ≤ 4294967296) (hr : OwnRow w b n (fun i => mkT (k + i))) :
    Calls Try.prog 67 #[.slice (some ⟨b, 0, none⟩) n cap, .int .i64 (k : Int)] w fun e w' => e = .returned (.int .i64 ((k + n : Nat) : Int)) ∧ Below w.heap.size w w' := by
  have HR : Hid (OwnRow w b n (fun i => mkT (k + i))) := hr
  clear hr
  go_enter Try.func67, Try.ntmps67
  go_wp2
  go_loopw [1, 5] (fun q i wr => ∃ j : Nat, j ≤ n ∧ i = .int .i64 j ∧ q = .int .i64 ((k + j : Nat) : Int) ∧ Below w.heap.size w wr) (fun _ i _ => n - (intOf i).toNat)
  case atStart => exact ⟨0, Nat.zero_le _, rfl, by simp, Below.refl _ _⟩
  case round =>
    obtain ⟨j, hj, rfl, rfl, hbl⟩ := hrel
    have HBL : Hid (Below w.heap.size w wr) := hbl
    clear hbl
    by_cases hlt : j < n
    · have hrow := HR.out.block (HBL.out.block b HR.out.lt)
      have c1 := hrow.cell hlt
      have hkk : k + j ≤ 4294967296 := by omega
      have hk1 : 1 ≤ k + j := by omega
      generalize hq : k + j = q at *
      have HQQ : Hid (k + j = q) := hq
      unfold mkT at c1
      have HMT : Hid (∀ W, Calls Try.prog 112 #[.int .i64 (q : Int)] W fun e w' => e = .returned (.string (mkB (109 :: dg q []))) ∧ Below W.heap.size W w') := fun W => markText_any W q hk1 (by omega)
      generalize mkB (109 :: dg q []) = v at *
      clear hq hrow
      have hne : (v.toList != v.toList) = false := by simp
      go_wp2_with fail
      go_region_held3 (fun W => W.cell? ⟨b, j, none⟩ = some (.string v)) (go_keep) (first | (go_at_call 112; refine (HMT.out _).mono ?_; rintro e w2 ⟨rfl, hb2⟩; have HB2 : Hid (Below wr.heap.size wr w2) := (Below.refl _ _).drew.trans hb2; have k0 := cell_later hb2 c1; clear hb2))
      all_goals
        go_wp2
        go_roundw
        case rel => exact ⟨j + 1, by omega, by go_num, by rw [show k + (j + 1) = q + 1 by have := HQQ.out; omega]; go_num, HBL.out.trans (HB2.out.mono HBL.out.size)⟩
        case measure => simp [intOf]; omega
    · have hjn : j = n := by omega
      go_wp2
      go_ret
      subst hjn
      exact ⟨rfl, HBL.out⟩

set_option maxHeartbeats 3200000 in
theorem eqS_walk (w : World) (a b : Option Addr) (n c d : Nat) (xs : List (List UInt8)) (hn : n ≤ 1048577) (h1 : AtT w a n xs) (h2 : AtT w b n xs) :
    Calls Try.prog 32 #[.slice a n c, .slice b n d] w fun e w' => e = .returned (.bool true) ∧ ∃ m, w' = w.drewN m := by
  have HA2 : Hid (AtT w a n xs) := h1
  have HB2 : Hid (AtT w b n xs) := h2
  have hnn : ((n : Int) != (n : Int)) = false := by simp
  clear h1 h2
  go_enter Try.func32, Try.ntmps32
  go_wp2
  go_loopw [5] (fun i wr => ∃ j q : Nat, j ≤ n ∧ i = .int .i64 j ∧ wr = w.drewN q) (fun i _ => n - (intOf i).toNat)
  case atStart => exact ⟨0, 0, Nat.zero_le _, rfl, rfl⟩
  case round =>
    obtain ⟨j, q, hj, rfl, rfl⟩ := hrel
    by_cases hlt : j < n
    · obtain ⟨b1, o1, rfl, e1⟩ := HA2.out j hlt
      obtain ⟨b2, o2, rfl, e2⟩ := HB2.out j hlt
      generalize xs[j]?.getD [] = y at e1 e2
      go_wp2_with fail
      go_quiet (fail)
      go_wp2
      go_roundw
      case rel => exact ⟨j + 1, q + nq, by omega, by go_num, rfl⟩
      case measure => simp [intOf]; omega
    · have hx' : decide ((j : Int) < (n : Int)) = false := by simp; omega
      have hx2 : decide (j < n) = false := by simp; omega
      go_wp2
      go_ret
      exact ⟨rfl, q, rfl⟩
end Go.Proofs.Ytcmkfapgpolglai


/- The law of SameInodes: at every argument the program answers as the specification, leaves its arguments as they were, and its answer owns its memory. -/
import Derived.Test.YtcmkfapgpolglakSamB
namespace Go.Proofs.Ytcmkfapgpolglak
open Go.RowKit

set_option maxHeartbeats 1600000 in
theorem lawSameInodes_big0 (w : World) (z0x0 : Int) (z1x0 : Int) (z2x0 : Int) (a3x0 : Option Addr) (n3x0 c3x0 : Nat) (a4x0 : Option Addr) (n4x0 c4x0 : Nat) (dx0 : ID) (z0x1 : Int) (z1x1 : Int) (z2x1 : Int) (a3x1 : Option Addr) (n3x1 c3x1 : Nat) (a4x1 : Option Addr) (n4x1 c4x1 : Nat) (hx0 : InoR w (.int .i64 z0x0) (.int .i64 z1x0) (.int .i64 z2x0) (.slice a3x0 n3x0 c3x0) (.slice a4x0 n4x0 c4x0) dx0) (hsz : 1048576 < sizeIno dx0) :
    Calls Try.prog 3 #[.agg #[.int .i64 z0x0, .int .i64 z1x0, .int .i64 z2x0, .slice a3x0 n3x0 c3x0, .slice a4x0 n4x0 c4x0], .agg #[.int .i64 z0x1, .int .i64 z1x1, .int .i64 z2x1, .slice a3x1 n3x1 c3x1, .slice a4x1 n4x1 c4x1]] w fun e w' => e = .returned (.bool true) ∧ Below w.heap.size w w' := by
  have Hx0 : Hid (InoR w (.int .i64 z0x0) (.int .i64 z1x0) (.int .i64 z2x0) (.slice a3x0 n3x0 c3x0) (.slice a4x0 n4x0 c4x0) dx0) := hx0
  have HS : Hid (szf 1048576 (sizeIno dx0) = -1) := szf_no (by omega)
  clear hx0 hsz
  go_enter Try.func3, Try.ntmps3
  go_wp2_with fail
  refine (szInodeU _ _ _ _ _ _ _ _ _ _ dx0 (Hx0.out.later (later2 _ _ _)) 1048576 (by omega) (by omega)).mono ?_
  rw [HS.out]
  rintro e w1 ⟨rfl, hb1⟩
  have HBw1 : Hid (Below w.heap.size w w1) := (later2 _ _ _).trans (hb1.mono (by simp; omega))
  clear hb1
  go_wp2
  go_ret
  exact ⟨rfl, HBw1.out⟩

set_option maxHeartbeats 1600000 in
theorem lawSameInodes_big1 (w : World) (z0x0 : Int) (z1x0 : Int) (z2x0 : Int) (a3x0 : Option Addr) (n3x0 c3x0 : Nat) (a4x0 : Option Addr) (n4x0 c4x0 : Nat) (dx0 : ID) (z0x1 : Int) (z1x1 : Int) (z2x1 : Int) (a3x1 : Option Addr) (n3x1 c3x1 : Nat) (a4x1 : Option Addr) (n4x1 c4x1 : Nat) (dx1 : ID) (hx0 : InoR w (.int .i64 z0x0) (.int .i64 z1x0) (.int .i64 z2x0) (.slice a3x0 n3x0 c3x0) (.slice a4x0 n4x0 c4x0) dx0) (hps : sizeIno dx0 ≤ 1048576) (hx1 : InoR w (.int .i64 z0x1) (.int .i64 z1x1) (.int .i64 z2x1) (.slice a3x1 n3x1 c3x1) (.slice a4x1 n4x1 c4x1) dx1) (hsz : 1048576 < sizeIno dx0 + sizeIno dx1) :
    Calls Try.prog 3 #[.agg #[.int .i64 z0x0, .int .i64 z1x0, .int .i64 z2x0, .slice a3x0 n3x0 c3x0, .slice a4x0 n4x0 c4x0], .agg #[.int .i64 z0x1, .int .i64 z1x1, .int .i64 z2x1, .slice a3x1 n3x1 c3x1, .slice a4x1 n4x1 c4x1]] w fun e w' => e = .returned (.bool true) ∧ Below w.heap.size w w' := by
  have Hx0 : Hid (InoR w (.int .i64 z0x0) (.int .i64 z1x0) (.int .i64 z2x0) (.slice a3x0 n3x0 c3x0) (.slice a4x0 n4x0 c4x0) dx0) := hx0
  have Hx1 : Hid (InoR w (.int .i64 z0x1) (.int .i64 z1x1) (.int .i64 z2x1) (.slice a3x1 n3x1 c3x1) (.slice a4x1 n4x1 c4x1) dx1) := hx1
  have HSx0 : Hid (szf 1048576 (sizeIno dx0) = 1048576 - ((sizeIno dx0 : Nat) : Int)) := szf_yes (by omega)
  have hposx0 : ¬ (1048576 - ((sizeIno dx0 : Nat) : Int) < 0) := by omega
  have hlex0 : 1048576 - ((sizeIno dx0 : Nat) : Int) ≤ 1048576 := by omega
  have HS : Hid (szf (1048576 - ((sizeIno dx0 : Nat) : Int)) (sizeIno dx1) = -1) := szf_no (by omega)
  clear hx0 hx1 hsz hps
  go_enter Try.func3, Try.ntmps3
  go_wp2_with fail
  refine (szInodeU _ _ _ _ _ _ _ _ _ _ dx0 (Hx0.out.later (later2 _ _ _)) 1048576 (by omega) (by omega)).mono ?_
  rw [HSx0.out]
  rintro e w1 ⟨rfl, hb1⟩
  have HBw1 : Hid (Below w.heap.size w w1) := (later2 _ _ _).trans (hb1.mono (by simp; omega))
  have HQx1 : Hid (Bx w1 (w.heap.size + 1) [.int .i64 z0x1, .int .i64 z1x1, .int .i64 z2x1, .slice a3x1 n3x1 c3x1, .slice a4x1 n4x1 c4x1]) := by
    have := Bx.new (w.alloc (.cells #[.int .i64 z0x0, .int .i64 z1x0, .int .i64 z2x0, .slice a3x0 n3x0 c3x0, .slice a4x0 n4x0 c4x0] 25)) [.int .i64 z0x1, .int .i64 z1x1, .int .i64 z2x1, .slice a3x1 n3x1 c3x1, .slice a4x1 n4x1 c4x1] 25
    rw [World.size_alloc] at this
    exact this.later hb1
  clear hb1
  have qx10 := HQx1.out 0 _ rfl
  have qx11 := HQx1.out 1 _ rfl
  have qx12 := HQx1.out 2 _ rfl
  have qx13 := HQx1.out 3 _ rfl
  have qx14 := HQx1.out 4 _ rfl
  have tqx1 := HQx1.out.lt
  go_wp2_with fail
  refine (szInodeU _ _ _ _ _ _ _ _ _ _ dx1 (Hx1.out.later HBw1.out) (1048576 - ((sizeIno dx0 : Nat) : Int)) (by omega) (by omega)).mono ?_
  rw [HS.out]
  rintro e w2 ⟨rfl, hb1⟩
  have HBw2 : Hid (Below w.heap.size w w2) := HBw1.out.trans (hb1.mono HBw1.out.size)
  clear hb1
  go_wp2
  go_ret
  exact ⟨rfl, HBw2.out⟩

set_option maxHeartbeats 12800000 in
theorem lawSameInodes_small (w : World) (z0x0 : Int) (z1x0 : Int) (z2x0 : Int) (a3x0 : Option Addr) (n3x0 c3x0 : Nat) (a4x0 : Option Addr) (n4x0 c4x0 : Nat) (dx0 : ID) (z0x1 : Int) (z1x1 : Int) (z2x1 : Int) (a3x1 : Option Addr) (n3x1 c3x1 : Nat) (a4x1 : Option Addr) (n4x1 c4x1 : Nat) (dx1 : ID) (hx0 : InoR w (.int .i64 z0x0) (.int .i64 z1x0) (.int .i64 z2x0) (.slice a3x0 n3x0 c3x0) (.slice a4x0 n4x0 c4x0) dx0) (hx1 : InoR w (.int .i64 z0x1) (.int .i64 z1x1) (.int .i64 z2x1) (.slice a3x1 n3x1 c3x1) (.slice a4x1 n4x1 c4x1) dx1) (stot : sizeIno dx0 + sizeIno dx1 ≤ 1048576) :
    Calls Try.prog 3 #[.agg #[.int .i64 z0x0, .int .i64 z1x0, .int .i64 z2x0, .slice a3x0 n3x0 c3x0, .slice a4x0 n4x0 c4x0], .agg #[.int .i64 z0x1, .int .i64 z1x1, .int .i64 z2x1, .slice a3x1 n3x1 c3x1, .slice a4x1 n4x1 c4x1]] w fun e w' => e = .returned (.bool true) ∧ Below w.heap.size w w' := by
  have Hx0 : Hid (InoR w (.int .i64 z0x0) (.int .i64 z1x0) (.int .i64 z2x0) (.slice a3x0 n3x0 c3x0) (.slice a4x0 n4x0 c4x0) dx0) := hx0
  have Hx1 : Hid (InoR w (.int .i64 z0x1) (.int .i64 z1x1) (.int .i64 z2x1) (.slice a3x1 n3x1 c3x1) (.slice a4x1 n4x1 c4x1) dx1) := hx1
  have Sx0 : Hid (sizeIno dx0 ≤ 1048576) := by unfold Hid; omega
  have HSx0 : Hid (szf 1048576 (sizeIno dx0) = 1048576 - (sizeIno dx0 : Nat)) := szf_yes (by omega)
  have hposx0 : ¬ (1048576 - ((sizeIno dx0 : Nat) : Int) < 0) := by omega
  have hlex0 : 1048576 - ((sizeIno dx0 : Nat) : Int) ≤ 1048576 := by omega
  have hspx0 : ((spanIno dx0 : Nat) : Int) ≤ 4194304 := by have := spanIno_le dx0; omega
  have Sx1 : Hid (sizeIno dx1 ≤ 1048576) := by unfold Hid; omega
  have HSx1 : Hid (szf (1048576 - ((sizeIno dx0 : Nat) : Int)) (sizeIno dx1) = (1048576 - ((sizeIno dx0 : Nat) : Int)) - (sizeIno dx1 : Nat)) := szf_yes (by omega)
  have hposx1 : ¬ ((1048576 - ((sizeIno dx0 : Nat) : Int)) - ((sizeIno dx1 : Nat) : Int) < 0) := by omega
  have hlex1 : (1048576 - ((sizeIno dx0 : Nat) : Int)) - ((sizeIno dx1 : Nat) : Int) ≤ 1048576 := by omega
  have hspx1 : ((spanIno dx1 : Nat) : Int) ≤ 4194304 := by have := spanIno_le dx1; omega
  generalize hr : sameB dx0 dx1 = r at *
  have HR : Hid (sameB dx0 dx1 = r) := hr
  have hrr : (r != r) = false := by simp
  clear hr hx0 hx1 stot
  go_enter Try.func3, Try.ntmps3
  go_wp2_with fail
  refine (szInodeU _ _ _ _ _ _ _ _ _ _ dx0 (Hx0.out.later (later2 _ _ _)) 1048576 (by omega) (by omega)).mono ?_
  rw [HSx0.out]
  rintro e w1 ⟨rfl, hb⟩
  have HL_w1 : Hid (Below w.heap.size w w1) := (later2 _ _ _).trans (hb.mono (by simp; omega))
  have HB_w1 : Hid (Below w.heap.size w w1) := HL_w1.out
  have z_w1 : w.heap.size ≤ w1.heap.size := HL_w1.out.size
  have Bx0_w1 : Hid (Bx w1 w.heap.size [.int .i64 z0x0, .int .i64 z1x0, .int .i64 z2x0, .slice a3x0 n3x0 c3x0, .slice a4x0 n4x0 c4x0]) := ((Bx.new w [.int .i64 z0x0, .int .i64 z1x0, .int .i64 z2x0, .slice a3x0 n3x0 c3x0, .slice a4x0 n4x0 c4x0] 25).later (later1 _ _)).later hb
  have y_Bx0 : w.heap.size < w1.heap.size := Bx0_w1.out.lt
  have Bx1_w1 : Hid (Bx w1 (w.heap.size + 1) [.int .i64 z0x1, .int .i64 z1x1, .int .i64 z2x1, .slice a3x1 n3x1 c3x1, .slice a4x1 n4x1 c4x1]) := (show Bx ((w.alloc (.cells #[.int .i64 z0x0, .int .i64 z1x0, .int .i64 z2x0, .slice a3x0 n3x0 c3x0, .slice a4x0 n4x0 c4x0] 25)).alloc (.cells #[.int .i64 z0x1, .int .i64 z1x1, .int .i64 z2x1, .slice a3x1 n3x1 c3x1, .slice a4x1 n4x1 c4x1] 25)) (w.heap.size + 1) [.int .i64 z0x1, .int .i64 z1x1, .int .i64 z2x1, .slice a3x1 n3x1 c3x1, .slice a4x1 n4x1 c4x1] from by have := Bx.new (w.alloc (.cells #[.int .i64 z0x0, .int .i64 z1x0, .int .i64 z2x0, .slice a3x0 n3x0 c3x0, .slice a4x0 n4x0 c4x0] 25)) [.int .i64 z0x1, .int .i64 z1x1, .int .i64 z2x1, .slice a3x1 n3x1 c3x1, .slice a4x1 n4x1 c4x1] 25; rw [World.size_alloc] at this; exact this).later hb
  have y_Bx1 : (w.heap.size + 1) < w1.heap.size := Bx1_w1.out.lt
  clear HL_w1
  clear hb
  have qBx00 := Bx0_w1.out 0 _ rfl
  have qBx01 := Bx0_w1.out 1 _ rfl
  have qBx02 := Bx0_w1.out 2 _ rfl
  have qBx03 := Bx0_w1.out 3 _ rfl
  have qBx04 := Bx0_w1.out 4 _ rfl
  have tBx0 := Bx0_w1.out.lt
  have qBx10 := Bx1_w1.out 0 _ rfl
  have qBx11 := Bx1_w1.out 1 _ rfl
  have qBx12 := Bx1_w1.out 2 _ rfl
  have qBx13 := Bx1_w1.out 3 _ rfl
  have qBx14 := Bx1_w1.out 4 _ rfl
  have tBx1 := Bx1_w1.out.lt
  go_wp2_with fail
  clear qBx00 qBx01 qBx02 qBx03 qBx04 tBx0 qBx10 qBx11 qBx12 qBx13 qBx14 tBx1
  refine (szInodeU _ _ _ _ _ _ _ _ _ _ dx1 (Hx1.out.later HB_w1.out) (1048576 - ((sizeIno dx0 : Nat) : Int)) (by omega) (by omega)).mono ?_
  rw [HSx1.out]
  rintro e w2 ⟨rfl, hb⟩
  have HL_w2 : Hid (Below w1.heap.size w1 w2) := hb
  have HB_w2 : Hid (Below w.heap.size w w2) := HB_w1.out.trans (HL_w2.out.mono HB_w1.out.size)
  have z_w2 : w1.heap.size ≤ w2.heap.size := HL_w2.out.size
  have Bx0_w2 : Hid (Bx w2 w.heap.size [.int .i64 z0x0, .int .i64 z1x0, .int .i64 z2x0, .slice a3x0 n3x0 c3x0, .slice a4x0 n4x0 c4x0]) := Bx0_w1.out.later HL_w2.out
  have Bx1_w2 : Hid (Bx w2 (w.heap.size + 1) [.int .i64 z0x1, .int .i64 z1x1, .int .i64 z2x1, .slice a3x1 n3x1 c3x1, .slice a4x1 n4x1 c4x1]) := Bx1_w1.out.later HL_w2.out
  clear Bx0_w1 Bx1_w1 HB_w1 HL_w2
  clear hb
  have qBx00 := Bx0_w2.out 0 _ rfl
  have qBx01 := Bx0_w2.out 1 _ rfl
  have qBx02 := Bx0_w2.out 2 _ rfl
  have qBx03 := Bx0_w2.out 3 _ rfl
  have qBx04 := Bx0_w2.out 4 _ rfl
  have tBx0 := Bx0_w2.out.lt
  have qBx10 := Bx1_w2.out 0 _ rfl
  have qBx11 := Bx1_w2.out 1 _ rfl
  have qBx12 := Bx1_w2.out 2 _ rfl
  have qBx13 := Bx1_w2.out 3 _ rfl
  have qBx14 := Bx1_w2.out 4 _ rfl
  have tBx1 := Bx1_w2.out.lt
  go_wp2_with fail
  go_region_with (first
    | (go_at_call 6; refine (toInodeU _ _ _ _ _ _ _ _ _ _ dx0 ?_ Sx0.out).mono ?_; exact Hx0.out.later HB_w2.out.drew; rintro e w3 ⟨z0x0s, z1x0s, z2x0s, a3x0s, n3x0s, c3x0s, a4x0s, n4x0s, c4x0s, rfl, hb, ho⟩; have y0 := cell_later hb qBx10; have y1 := cell_later hb qBx11; have y2 := cell_later hb qBx12; have y3 := cell_later hb qBx13; have y4 := cell_later hb qBx14; have HLa : Hid (Below w2.heap.size w2 w3) := (Below.refl _ _).drew.trans hb; have HOa : Hid (InoR w3 (.int .i64 z0x0s) (.int .i64 z1x0s) (.int .i64 z2x0s) (.slice a3x0s n3x0s c3x0s) (.slice a4x0s n4x0s c4x0s) dx0) := ho.reads; clear hb ho)
    | (go_at_call 6; refine (toInodeU _ _ _ _ _ _ _ _ _ _ dx1 ?_ Sx1.out).mono ?_; exact Hx1.out.later (HB_w2.out.trans (HLa.out.mono HB_w2.out.size)); rintro e w4 ⟨z0x1s, z1x1s, z2x1s, a3x1s, n3x1s, c3x1s, a4x1s, n4x1s, c4x1s, rfl, hb, ho⟩; have HLb : Hid (Below w3.heap.size w3 w4) := hb; have HOb : Hid (InoR w4 (.int .i64 z0x1s) (.int .i64 z1x1s) (.int .i64 z2x1s) (.slice a3x1s n3x1s c3x1s) (.slice a4x1s n4x1s c4x1s) dx1) := ho.reads; have HOc : Hid (InoR w4 (.int .i64 z0x0s) (.int .i64 z1x0s) (.int .i64 z2x0s) (.slice a3x0s n3x0s c3x0s) (.slice a4x0s n4x0s c4x0s) dx0) := HOa.out.later hb; clear hb ho HOa)
    | (go_at_call 5; refine (specSameU _ _ _ _ _ _ _ _ _ _ dx0 _ _ _ _ _ _ _ _ _ dx1 HOc.out HOb.out Sx0.out Sx1.out).mono ?_; rw [HR.out]; rintro e w5 ⟨rfl, hb⟩; have HLc : Hid (Below w4.heap.size w4 w5) := hb; clear hb))
  all_goals
    have hb : Below w2.heap.size w2 w5 := (HLa.out.trans (HLb.out.mono HLa.out.size)).trans (HLc.out.mono (HLa.out.trans (HLb.out.mono HLa.out.size)).size)
    clear qBx00 qBx01 qBx02 qBx03 qBx04 tBx0 qBx10 qBx11 qBx12 qBx13 qBx14 tBx1 HLa HLb HLc HOb HOc y0 y1 y2 y3 y4
    have HL_w5 : Hid (Below w2.heap.size w2 w5) := hb
    have HB_w5 : Hid (Below w.heap.size w w5) := HB_w2.out.trans (HL_w5.out.mono HB_w2.out.size)
    have z_w5 : w2.heap.size ≤ w5.heap.size := HL_w5.out.size
    have Bx0_w5 : Hid (Bx w5 w.heap.size [.int .i64 z0x0, .int .i64 z1x0, .int .i64 z2x0, .slice a3x0 n3x0 c3x0, .slice a4x0 n4x0 c4x0]) := Bx0_w2.out.later HL_w5.out
    have Bx1_w5 : Hid (Bx w5 (w.heap.size + 1) [.int .i64 z0x1, .int .i64 z1x1, .int .i64 z2x1, .slice a3x1 n3x1 c3x1, .slice a4x1 n4x1 c4x1]) := Bx1_w2.out.later HL_w5.out
    clear Bx0_w2 Bx1_w2 HB_w2 HL_w5
    clear hb
    have qBx00 := Bx0_w5.out 0 _ rfl
    have qBx01 := Bx0_w5.out 1 _ rfl
    have qBx02 := Bx0_w5.out 2 _ rfl
    have qBx03 := Bx0_w5.out 3 _ rfl
    have qBx04 := Bx0_w5.out 4 _ rfl
    have tBx0 := Bx0_w5.out.lt
    have qBx10 := Bx1_w5.out 0 _ rfl
    have qBx11 := Bx1_w5.out 1 _ rfl
    have qBx12 := Bx1_w5.out 2 _ rfl
    have qBx13 := Bx1_w5.out 3 _ rfl
    have qBx14 := Bx1_w5.out 4 _ rfl
    have tBx1 := Bx1_w5.out.lt
    go_wp2_with fail
    clear qBx00 qBx01 qBx02 qBx03 qBx04 tBx0 qBx10 qBx11 qBx12 qBx13 qBx14 tBx1
    refine (toInodeU _ _ _ _ _ _ _ _ _ _ dx0 (Hx0.out.later HB_w5.out) Sx0.out).mono ?_
    rintro e w6 ⟨z0x0p, z1x0p, z2x0p, a3x0p, n3x0p, c3x0p, a4x0p, n4x0p, c4x0p, rfl, hb, ho⟩
    have HL_w6 : Hid (Below w5.heap.size w5 w6) := hb
    have HB_w6 : Hid (Below w.heap.size w w6) := HB_w5.out.trans (HL_w6.out.mono HB_w5.out.size)
    have z_w6 : w5.heap.size ≤ w6.heap.size := HL_w6.out.size
    have Bx0_w6 : Hid (Bx w6 w.heap.size [.int .i64 z0x0, .int .i64 z1x0, .int .i64 z2x0, .slice a3x0 n3x0 c3x0, .slice a4x0 n4x0 c4x0]) := Bx0_w5.out.later HL_w6.out
    have Bx1_w6 : Hid (Bx w6 (w.heap.size + 1) [.int .i64 z0x1, .int .i64 z1x1, .int .i64 z2x1, .slice a3x1 n3x1 c3x1, .slice a4x1 n4x1 c4x1]) := Bx1_w5.out.later HL_w6.out
    have Px0_w6 : Hid (InoU w6 (.int .i64 z0x0p) (.int .i64 z1x0p) (.int .i64 z2x0p) (.slice a3x0p n3x0p c3x0p) (.slice a4x0p n4x0p c4x0p) dx0 (fun b => w5.heap.size ≤ b ∧ b < w6.heap.size)) := ho
    clear Bx0_w5 Bx1_w5 HB_w5 HL_w6
    clear hb ho
    have qBx00 := Bx0_w6.out 0 _ rfl
    have qBx01 := Bx0_w6.out 1 _ rfl
    have qBx02 := Bx0_w6.out 2 _ rfl
    have qBx03 := Bx0_w6.out 3 _ rfl
    have qBx04 := Bx0_w6.out 4 _ rfl
    have tBx0 := Bx0_w6.out.lt
    have qBx10 := Bx1_w6.out 0 _ rfl
    have qBx11 := Bx1_w6.out 1 _ rfl
    have qBx12 := Bx1_w6.out 2 _ rfl
    have qBx13 := Bx1_w6.out 3 _ rfl
    have qBx14 := Bx1_w6.out 4 _ rfl
    have tBx1 := Bx1_w6.out.lt
    go_wp2_with fail
    clear qBx00 qBx01 qBx02 qBx03 qBx04 tBx0 qBx10 qBx11 qBx12 qBx13 qBx14 tBx1
    refine (toInodeU _ _ _ _ _ _ _ _ _ _ dx1 ((Hx1.out.later HB_w6.out).later (later1 _ _)) Sx1.out).mono ?_
    rintro e w7 ⟨z0x1p, z1x1p, z2x1p, a3x1p, n3x1p, c3x1p, a4x1p, n4x1p, c4x1p, rfl, hb, ho⟩
    have HL_w7 : Hid (Below w6.heap.size w6 w7) := (later1 _ _).trans (hb.mono (by simp))
    have HB_w7 : Hid (Below w.heap.size w w7) := HB_w6.out.trans (HL_w7.out.mono HB_w6.out.size)
    have z_w7 : w6.heap.size ≤ w7.heap.size := HL_w7.out.size
    have Bx0_w7 : Hid (Bx w7 w.heap.size [.int .i64 z0x0, .int .i64 z1x0, .int .i64 z2x0, .slice a3x0 n3x0 c3x0, .slice a4x0 n4x0 c4x0]) := Bx0_w6.out.later HL_w7.out
    have Bx1_w7 : Hid (Bx w7 (w.heap.size + 1) [.int .i64 z0x1, .int .i64 z1x1, .int .i64 z2x1, .slice a3x1 n3x1 c3x1, .slice a4x1 n4x1 c4x1]) := Bx1_w6.out.later HL_w7.out
    have Px0_w7 : Hid (InoU w7 (.int .i64 z0x0p) (.int .i64 z1x0p) (.int .i64 z2x0p) (.slice a3x0p n3x0p c3x0p) (.slice a4x0p n4x0p c4x0p) dx0 (fun b => w5.heap.size ≤ b ∧ b < w6.heap.size)) := Px0_w6.out.later HL_w7.out
    have Xx0_w7 : Hid (Bx w7 w6.heap.size [.int .i64 z0x0p, .int .i64 z1x0p, .int .i64 z2x0p, .slice a3x0p n3x0p c3x0p, .slice a4x0p n4x0p c4x0p]) := (Bx.new _ [.int .i64 z0x0p, .int .i64 z1x0p, .int .i64 z2x0p, .slice a3x0p n3x0p c3x0p, .slice a4x0p n4x0p c4x0p] _).later hb
    have y_Xx0 : w6.heap.size < w7.heap.size := Xx0_w7.out.lt
    have Px1_w7 : Hid (InoU w7 (.int .i64 z0x1p) (.int .i64 z1x1p) (.int .i64 z2x1p) (.slice a3x1p n3x1p c3x1p) (.slice a4x1p n4x1p c4x1p) dx1 (fun b => w6.heap.size < b ∧ b < w7.heap.size)) := ho.mono fun b hb => ⟨by have := hb.1; simp at this; omega, hb.2⟩
    clear Bx0_w6 Bx1_w6 Px0_w6 HB_w6 HL_w7
    clear hb ho
    have qBx00 := Bx0_w7.out 0 _ rfl
    have qBx01 := Bx0_w7.out 1 _ rfl
    have qBx02 := Bx0_w7.out 2 _ rfl
    have qBx03 := Bx0_w7.out 3 _ rfl
    have qBx04 := Bx0_w7.out 4 _ rfl
    have tBx0 := Bx0_w7.out.lt
    have qBx10 := Bx1_w7.out 0 _ rfl
    have qBx11 := Bx1_w7.out 1 _ rfl
    have qBx12 := Bx1_w7.out 2 _ rfl
    have qBx13 := Bx1_w7.out 3 _ rfl
    have qBx14 := Bx1_w7.out 4 _ rfl
    have tBx1 := Bx1_w7.out.lt
    have qXx00 := Xx0_w7.out 0 _ rfl
    have qXx01 := Xx0_w7.out 1 _ rfl
    have qXx02 := Xx0_w7.out 2 _ rfl
    have qXx03 := Xx0_w7.out 3 _ rfl
    have qXx04 := Xx0_w7.out 4 _ rfl
    have tXx0 := Xx0_w7.out.lt
    go_wp2_with fail
    clear qBx00 qBx01 qBx02 qBx03 qBx04 tBx0 qBx10 qBx11 qBx12 qBx13 qBx14 tBx1 qXx00 qXx01 qXx02 qXx03 qXx04 tXx0
    refine (implSameU _ _ _ _ _ _ _ _ _ _ dx0 _ _ _ _ _ _ _ _ _ dx1 (Px0_w7.out.later (later1 _ _)).reads (Px1_w7.out.later (later1 _ _)).reads Sx0.out Sx1.out).mono ?_
    rw [HR.out]
    rintro e w8 ⟨rfl, hb⟩
    have HL_w8 : Hid (Below w7.heap.size w7 w8) := (later1 _ _).trans (hb.mono (by simp))
    have HB_w8 : Hid (Below w.heap.size w w8) := HB_w7.out.trans (HL_w8.out.mono HB_w7.out.size)
    have z_w8 : w7.heap.size ≤ w8.heap.size := HL_w8.out.size
    have Bx0_w8 : Hid (Bx w8 w.heap.size [.int .i64 z0x0, .int .i64 z1x0, .int .i64 z2x0, .slice a3x0 n3x0 c3x0, .slice a4x0 n4x0 c4x0]) := Bx0_w7.out.later HL_w8.out
    have Bx1_w8 : Hid (Bx w8 (w.heap.size + 1) [.int .i64 z0x1, .int .i64 z1x1, .int .i64 z2x1, .slice a3x1 n3x1 c3x1, .slice a4x1 n4x1 c4x1]) := Bx1_w7.out.later HL_w8.out
    have Px0_w8 : Hid (InoU w8 (.int .i64 z0x0p) (.int .i64 z1x0p) (.int .i64 z2x0p) (.slice a3x0p n3x0p c3x0p) (.slice a4x0p n4x0p c4x0p) dx0 (fun b => w5.heap.size ≤ b ∧ b < w6.heap.size)) := Px0_w7.out.later HL_w8.out
    have Xx0_w8 : Hid (Bx w8 w6.heap.size [.int .i64 z0x0p, .int .i64 z1x0p, .int .i64 z2x0p, .slice a3x0p n3x0p c3x0p, .slice a4x0p n4x0p c4x0p]) := Xx0_w7.out.later HL_w8.out
    have Px1_w8 : Hid (InoU w8 (.int .i64 z0x1p) (.int .i64 z1x1p) (.int .i64 z2x1p) (.slice a3x1p n3x1p c3x1p) (.slice a4x1p n4x1p c4x1p) dx1 (fun b => w6.heap.size < b ∧ b < w7.heap.size)) := Px1_w7.out.later HL_w8.out
    have Xx1_w8 : Hid (Bx w8 w7.heap.size [.int .i64 z0x1p, .int .i64 z1x1p, .int .i64 z2x1p, .slice a3x1p n3x1p c3x1p, .slice a4x1p n4x1p c4x1p]) := (Bx.new _ [.int .i64 z0x1p, .int .i64 z1x1p, .int .i64 z2x1p, .slice a3x1p n3x1p c3x1p, .slice a4x1p n4x1p c4x1p] _).later hb
    have y_Xx1 : w7.heap.size < w8.heap.size := Xx1_w8.out.lt
    clear Bx0_w7 Bx1_w7 Px0_w7 Xx0_w7 Px1_w7 HB_w7 HL_w8
    clear hb
    have qBx00 := Bx0_w8.out 0 _ rfl
    have qBx01 := Bx0_w8.out 1 _ rfl
    have qBx02 := Bx0_w8.out 2 _ rfl
    have qBx03 := Bx0_w8.out 3 _ rfl
    have qBx04 := Bx0_w8.out 4 _ rfl
    have tBx0 := Bx0_w8.out.lt
    have qBx10 := Bx1_w8.out 0 _ rfl
    have qBx11 := Bx1_w8.out 1 _ rfl
    have qBx12 := Bx1_w8.out 2 _ rfl
    have qBx13 := Bx1_w8.out 3 _ rfl
    have qBx14 := Bx1_w8.out 4 _ rfl
    have tBx1 := Bx1_w8.out.lt
    have qXx00 := Xx0_w8.out 0 _ rfl
    have qXx01 := Xx0_w8.out 1 _ rfl
    have qXx02 := Xx0_w8.out 2 _ rfl
    have qXx03 := Xx0_w8.out 3 _ rfl
    have qXx04 := Xx0_w8.out 4 _ rfl
    have tXx0 := Xx0_w8.out.lt
    have qXx10 := Xx1_w8.out 0 _ rfl
    have qXx11 := Xx1_w8.out 1 _ rfl
    have qXx12 := Xx1_w8.out 2 _ rfl
    have qXx13 := Xx1_w8.out 3 _ rfl
    have qXx14 := Xx1_w8.out 4 _ rfl
    have tXx1 := Xx1_w8.out.lt
    go_wp2_with fail
    go_region_with (first
      | (go_at_call 6; refine (toInodeU _ _ _ _ _ _ _ _ _ _ dx0 ?_ Sx0.out).mono ?_; exact Hx0.out.later HB_w8.out.drew; rintro e w9 ⟨z0x0q, z1x0q, z2x0q, a3x0q, n3x0q, c3x0q, a4x0q, n4x0q, c4x0q, rfl, hb, ho⟩; have y0 := cell_later hb qXx00; have y1 := cell_later hb qXx01; have y2 := cell_later hb qXx02; have y3 := cell_later hb qXx03; have y4 := cell_later hb qXx04; have HL : Hid (Below w8.heap.size w8 w9) := (Below.refl _ _).drew.trans hb; have HO : Hid (InoR w9 (.int .i64 z0x0q) (.int .i64 z1x0q) (.int .i64 z2x0q) (.slice a3x0q n3x0q c3x0q) (.slice a4x0q n4x0q c4x0q) dx0) := ho.reads; clear hb ho)
      | (go_at_call 8; refine (eqInodeU _ _ _ _ _ _ _ _ _ _ _ dx0 ?_ ?_).mono ?_; exact Px0_w8.out.reads.later HL.out; exact HO.out; rintro e w10 ⟨rfl, hb⟩; have HL2 : Hid (Below w9.heap.size w9 w10) := hb; clear hb))
    all_goals
      have hb : Below w8.heap.size w8 w10 := HL.out.trans (HL2.out.mono HL.out.size)
      clear qBx00 qBx01 qBx02 qBx03 qBx04 tBx0 qBx10 qBx11 qBx12 qBx13 qBx14 tBx1 qXx00 qXx01 qXx02 qXx03 qXx04 tXx0 qXx10 qXx11 qXx12 qXx13 qXx14 tXx1 HL HL2 HO y0 y1 y2 y3 y4
      have HL_w10 : Hid (Below w8.heap.size w8 w10) := hb
      have HB_w10 : Hid (Below w.heap.size w w10) := HB_w8.out.trans (HL_w10.out.mono HB_w8.out.size)
      have z_w10 : w8.heap.size ≤ w10.heap.size := HL_w10.out.size
      have Bx0_w10 : Hid (Bx w10 w.heap.size [.int .i64 z0x0, .int .i64 z1x0, .int .i64 z2x0, .slice a3x0 n3x0 c3x0, .slice a4x0 n4x0 c4x0]) := Bx0_w8.out.later HL_w10.out
      have Bx1_w10 : Hid (Bx w10 (w.heap.size + 1) [.int .i64 z0x1, .int .i64 z1x1, .int .i64 z2x1, .slice a3x1 n3x1 c3x1, .slice a4x1 n4x1 c4x1]) := Bx1_w8.out.later HL_w10.out
      have Px0_w10 : Hid (InoU w10 (.int .i64 z0x0p) (.int .i64 z1x0p) (.int .i64 z2x0p) (.slice a3x0p n3x0p c3x0p) (.slice a4x0p n4x0p c4x0p) dx0 (fun b => w5.heap.size ≤ b ∧ b < w6.heap.size)) := Px0_w8.out.later HL_w10.out
      have Xx0_w10 : Hid (Bx w10 w6.heap.size [.int .i64 z0x0p, .int .i64 z1x0p, .int .i64 z2x0p, .slice a3x0p n3x0p c3x0p, .slice a4x0p n4x0p c4x0p]) := Xx0_w8.out.later HL_w10.out
      have Px1_w10 : Hid (InoU w10 (.int .i64 z0x1p) (.int .i64 z1x1p) (.int .i64 z2x1p) (.slice a3x1p n3x1p c3x1p) (.slice a4x1p n4x1p c4x1p) dx1 (fun b => w6.heap.size < b ∧ b < w7.heap.size)) := Px1_w8.out.later HL_w10.out
      have Xx1_w10 : Hid (Bx w10 w7.heap.size [.int .i64 z0x1p, .int .i64 z1x1p, .int .i64 z2x1p, .slice a3x1p n3x1p c3x1p, .slice a4x1p n4x1p c4x1p]) := Xx1_w8.out.later HL_w10.out
      clear Bx0_w8 Bx1_w8 Px0_w8 Xx0_w8 Px1_w8 Xx1_w8 HB_w8 HL_w10
      clear hb
      have qBx00 := Bx0_w10.out 0 _ rfl
      have qBx01 := Bx0_w10.out 1 _ rfl
      have qBx02 := Bx0_w10.out 2 _ rfl
      have qBx03 := Bx0_w10.out 3 _ rfl
      have qBx04 := Bx0_w10.out 4 _ rfl
      have tBx0 := Bx0_w10.out.lt
      have qBx10 := Bx1_w10.out 0 _ rfl
      have qBx11 := Bx1_w10.out 1 _ rfl
      have qBx12 := Bx1_w10.out 2 _ rfl
      have qBx13 := Bx1_w10.out 3 _ rfl
      have qBx14 := Bx1_w10.out 4 _ rfl
      have tBx1 := Bx1_w10.out.lt
      have qXx00 := Xx0_w10.out 0 _ rfl
      have qXx01 := Xx0_w10.out 1 _ rfl
      have qXx02 := Xx0_w10.out 2 _ rfl
      have qXx03 := Xx0_w10.out 3 _ rfl
      have qXx04 := Xx0_w10.out 4 _ rfl
      have tXx0 := Xx0_w10.out.lt
      have qXx10 := Xx1_w10.out 0 _ rfl
      have qXx11 := Xx1_w10.out 1 _ rfl
      have qXx12 := Xx1_w10.out 2 _ rfl
      have qXx13 := Xx1_w10.out 3 _ rfl
      have qXx14 := Xx1_w10.out 4 _ rfl
      have tXx1 := Xx1_w10.out.lt
      go_wp2_with fail
      go_region_with (first
        | (go_at_call 6; refine (toInodeU _ _ _ _ _ _ _ _ _ _ dx1 ?_ Sx1.out).mono ?_; exact Hx1.out.later HB_w10.out.drew; rintro e w11 ⟨z0x1q, z1x1q, z2x1q, a3x1q, n3x1q, c3x1q, a4x1q, n4x1q, c4x1q, rfl, hb, ho⟩; have y0 := cell_later hb qXx10; have y1 := cell_later hb qXx11; have y2 := cell_later hb qXx12; have y3 := cell_later hb qXx13; have y4 := cell_later hb qXx14; have HL : Hid (Below w10.heap.size w10 w11) := (Below.refl _ _).drew.trans hb; have HO : Hid (InoR w11 (.int .i64 z0x1q) (.int .i64 z1x1q) (.int .i64 z2x1q) (.slice a3x1q n3x1q c3x1q) (.slice a4x1q n4x1q c4x1q) dx1) := ho.reads; clear hb ho)
        | (go_at_call 8; refine (eqInodeU _ _ _ _ _ _ _ _ _ _ _ dx1 ?_ ?_).mono ?_; exact Px1_w10.out.reads.later HL.out; exact HO.out; rintro e w12 ⟨rfl, hb⟩; have HL2 : Hid (Below w11.heap.size w11 w12) := hb; clear hb))
      all_goals
        have hb : Below w10.heap.size w10 w12 := HL.out.trans (HL2.out.mono HL.out.size)
        clear qBx00 qBx01 qBx02 qBx03 qBx04 tBx0 qBx10 qBx11 qBx12 qBx13 qBx14 tBx1 qXx00 qXx01 qXx02 qXx03 qXx04 tXx0 qXx10 qXx11 qXx12 qXx13 qXx14 tXx1 HL HL2 HO y0 y1 y2 y3 y4
        have HL_w12 : Hid (Below w10.heap.size w10 w12) := hb
        have HB_w12 : Hid (Below w.heap.size w w12) := HB_w10.out.trans (HL_w12.out.mono HB_w10.out.size)
        have z_w12 : w10.heap.size ≤ w12.heap.size := HL_w12.out.size
        have Bx0_w12 : Hid (Bx w12 w.heap.size [.int .i64 z0x0, .int .i64 z1x0, .int .i64 z2x0, .slice a3x0 n3x0 c3x0, .slice a4x0 n4x0 c4x0]) := Bx0_w10.out.later HL_w12.out
        have Bx1_w12 : Hid (Bx w12 (w.heap.size + 1) [.int .i64 z0x1, .int .i64 z1x1, .int .i64 z2x1, .slice a3x1 n3x1 c3x1, .slice a4x1 n4x1 c4x1]) := Bx1_w10.out.later HL_w12.out
        have Px0_w12 : Hid (InoU w12 (.int .i64 z0x0p) (.int .i64 z1x0p) (.int .i64 z2x0p) (.slice a3x0p n3x0p c3x0p) (.slice a4x0p n4x0p c4x0p) dx0 (fun b => w5.heap.size ≤ b ∧ b < w6.heap.size)) := Px0_w10.out.later HL_w12.out
        have Xx0_w12 : Hid (Bx w12 w6.heap.size [.int .i64 z0x0p, .int .i64 z1x0p, .int .i64 z2x0p, .slice a3x0p n3x0p c3x0p, .slice a4x0p n4x0p c4x0p]) := Xx0_w10.out.later HL_w12.out
        have Px1_w12 : Hid (InoU w12 (.int .i64 z0x1p) (.int .i64 z1x1p) (.int .i64 z2x1p) (.slice a3x1p n3x1p c3x1p) (.slice a4x1p n4x1p c4x1p) dx1 (fun b => w6.heap.size < b ∧ b < w7.heap.size)) := Px1_w10.out.later HL_w12.out
        have Xx1_w12 : Hid (Bx w12 w7.heap.size [.int .i64 z0x1p, .int .i64 z1x1p, .int .i64 z2x1p, .slice a3x1p n3x1p c3x1p, .slice a4x1p n4x1p c4x1p]) := Xx1_w10.out.later HL_w12.out
        clear Bx0_w10 Bx1_w10 Px0_w10 Xx0_w10 Px1_w10 Xx1_w10 HB_w10 HL_w12
        clear hb
        have qBx00 := Bx0_w12.out 0 _ rfl
        have qBx01 := Bx0_w12.out 1 _ rfl
        have qBx02 := Bx0_w12.out 2 _ rfl
        have qBx03 := Bx0_w12.out 3 _ rfl
        have qBx04 := Bx0_w12.out 4 _ rfl
        have tBx0 := Bx0_w12.out.lt
        have qBx10 := Bx1_w12.out 0 _ rfl
        have qBx11 := Bx1_w12.out 1 _ rfl
        have qBx12 := Bx1_w12.out 2 _ rfl
        have qBx13 := Bx1_w12.out 3 _ rfl
        have qBx14 := Bx1_w12.out 4 _ rfl
        have tBx1 := Bx1_w12.out.lt
        have qXx00 := Xx0_w12.out 0 _ rfl
        have qXx01 := Xx0_w12.out 1 _ rfl
        have qXx02 := Xx0_w12.out 2 _ rfl
        have qXx03 := Xx0_w12.out 3 _ rfl
        have qXx04 := Xx0_w12.out 4 _ rfl
        have tXx0 := Xx0_w12.out.lt
        have qXx10 := Xx1_w12.out 0 _ rfl
        have qXx11 := Xx1_w12.out 1 _ rfl
        have qXx12 := Xx1_w12.out 2 _ rfl
        have qXx13 := Xx1_w12.out 3 _ rfl
        have qXx14 := Xx1_w12.out 4 _ rfl
        have tXx1 := Xx1_w12.out.lt
        go_wp2
        go_ret
        exact ⟨rfl, HB_w12.out⟩

theorem lawSameInodes_any (w : World) (v0x0 : Value) (v1x0 : Value) (v2x0 : Value) (v3x0 : Value) (v4x0 : Value) (dx0 : ID) (v0x1 : Value) (v1x1 : Value) (v2x1 : Value) (v3x1 : Value) (v4x1 : Value) (dx1 : ID) (hx0 : InoR w v0x0 v1x0 v2x0 v3x0 v4x0 dx0) (hx1 : InoR w v0x1 v1x1 v2x1 v3x1 v4x1 dx1) :
    Calls Try.prog 3 #[.agg #[v0x0, v1x0, v2x0, v3x0, v4x0], .agg #[v0x1, v1x1, v2x1, v3x1, v4x1]] w fun e w' => e = .returned (.bool true) ∧ Below w.heap.size w w' := by
  obtain ⟨rfl, rfl, rfl, _⟩ := hx0.1
  obtain ⟨_, _, rfl, _, _⟩ := hx0.2.1.open'
  obtain ⟨_, _, rfl, _, _, _⟩ := hx0.2.2.open'
  obtain ⟨rfl, rfl, rfl, _⟩ := hx1.1
  obtain ⟨_, _, rfl, _, _⟩ := hx1.2.1.open'
  obtain ⟨_, _, rfl, _, _, _⟩ := hx1.2.2.open'
  by_cases kx0 : sizeIno dx0 ≤ 1048576
  rotate_left
  · exact lawSameInodes_big0 w _ _ _ _ _ _ _ _ _ dx0 _ _ _ _ _ _ _ _ _  hx0 (by omega)
  by_cases kx1 : sizeIno dx0 + sizeIno dx1 ≤ 1048576
  rotate_left
  · exact lawSameInodes_big1 w _ _ _ _ _ _ _ _ _ dx0 _ _ _ _ _ _ _ _ _ dx1  hx0 kx0 hx1 (by omega)
  exact lawSameInodes_small w _ _ _ _ _ _ _ _ _ dx0 _ _ _ _ _ _ _ _ _ dx1 hx0 hx1  kx1
end Go.Proofs.Ytcmkfapgpolglak

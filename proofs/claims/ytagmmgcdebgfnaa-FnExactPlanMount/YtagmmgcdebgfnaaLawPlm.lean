/- The law of PlanMount: at every argument the program answers as the specification, leaves its arguments as they were, and its answer owns its memory. -/
import Derived.Test.YtagmmgcdebgfnaaM13
import Derived.Test.YtagmmgcdebgfnaaM10
namespace Go.Proofs.Ytagmmgcdebgfnaa
open Go.RowKit
set_option maxRecDepth 100000

set_option maxHeartbeats 1600000 in
theorem lawPlanMount_big (w : World) (a0x0 : Option Addr) (n0x0 c0x0 : Nat) (a1x0 : Option Addr) (n1x0 c1x0 : Nat) (dx0 : DK) (hx0 : DiskR w (.slice a0x0 n0x0 c0x0) (.slice a1x0 n1x0 c1x0) dx0) (hsz : 1048576 < sizeDisk dx0) :
    Calls Try.prog 7 #[.agg #[.slice a0x0 n0x0 c0x0, .slice a1x0 n1x0 c1x0]] w fun e w' => e = .returned (.bool true) ∧ Below w.heap.size w w' := by
  have Hx0 : Hid (DiskR w (.slice a0x0 n0x0 c0x0) (.slice a1x0 n1x0 c1x0) dx0) := hx0
  have HS : Hid (szf 1048576 (sizeDisk dx0) = -1) := szf_no (by omega)
  clear hx0 hsz
  go_enter Try.func7, Try.ntmps7
  go_wp2_with fail
  refine (szDiskU _ _ _ _ _ _ _ dx0 (Hx0.out.later (later1 _ _)) 1048576 (by omega) (by omega)).mono ?_
  rw [HS.out]
  rintro e w1 ⟨rfl, hb1⟩
  have HBw1 : Hid (Below w.heap.size w w1) := (later1 _ _).trans (hb1.mono (by simp))
  clear hb1
  go_wp2
  go_ret
  exact ⟨rfl, HBw1.out⟩

set_option maxHeartbeats 12800000 in
theorem lawPlanMount_small (w : World) (a0x0 : Option Addr) (n0x0 c0x0 : Nat) (a1x0 : Option Addr) (n1x0 c1x0 : Nat) (dx0 : DK) (hx0 : DiskR w (.slice a0x0 n0x0 c0x0) (.slice a1x0 n1x0 c1x0) dx0) (sx0 : sizeDisk dx0 ≤ 1048576) :
    Calls Try.prog 7 #[.agg #[.slice a0x0 n0x0 c0x0, .slice a1x0 n1x0 c1x0]] w fun e w' => e = .returned (.bool true) ∧ Below w.heap.size w w' := by
  have Hx0 : Hid (DiskR w (.slice a0x0 n0x0 c0x0) (.slice a1x0 n1x0 c1x0) dx0) := hx0
  have Sx0 : Hid (sizeDisk dx0 ≤ 1048576) := sx0
  have HSx0 : Hid (szf 1048576 (sizeDisk dx0) = 1048576 - (sizeDisk dx0 : Nat)) := szf_yes (by omega)
  have hposx0 : ¬ (1048576 - ((sizeDisk dx0 : Nat) : Int) < 0) := by omega
  have hspx0 : ((spanDisk dx0 : Nat) : Int) ≤ 4194304 := by have := spanDisk_le dx0; omega
  generalize hr : planR dx0 = r at *
  have HR : Hid (planR dx0 = r) := hr
  obtain ⟨code, d2⟩ := r
  have hspr : ((spanStps d2 : Nat) : Int) ≤ 100000000 := by have := planR_span dx0 Sx0.out; rw [hr] at this; dsimp only at this; omega
  clear hr hx0 sx0
  go_enter Try.func7, Try.ntmps7
  go_wp2_with fail
  refine (szDiskU _ _ _ _ _ _ _ dx0 (Hx0.out.later (later1 _ _)) 1048576 (by omega) (by omega)).mono ?_
  rw [HSx0.out]
  rintro e w1 ⟨rfl, hb⟩
  have HL_w1 : Hid (Below w.heap.size w w1) := (later1 _ _).trans (hb.mono (by simp))
  have HB_w1 : Hid (Below w.heap.size w w1) := HL_w1.out
  have z_w1 : w.heap.size ≤ w1.heap.size := HL_w1.out.size
  have Bx0_w1 : Hid (Bx w1 w.heap.size [.slice a0x0 n0x0 c0x0, .slice a1x0 n1x0 c1x0]) := (Bx.new _ [.slice a0x0 n0x0 c0x0, .slice a1x0 n1x0 c1x0] _).later hb
  have y_Bx0 : w.heap.size < w1.heap.size := Bx0_w1.out.lt
  clear HL_w1
  clear hb
  have qBx00 := Bx0_w1.out 0 _ rfl
  have qBx01 := Bx0_w1.out 1 _ rfl
  have tBx0 := Bx0_w1.out.lt
  go_wp2_with fail
  clear qBx00 qBx01 tBx0
  refine (toDiskU _ _ _ _ _ _ _ dx0 (Hx0.out.later HB_w1.out) Sx0.out).mono ?_
  rintro e w2 ⟨a0x0s, n0x0s, c0x0s, a1x0s, n1x0s, c1x0s, rfl, hb, ho⟩
  have HL_w2 : Hid (Below w1.heap.size w1 w2) := hb
  have HB_w2 : Hid (Below w.heap.size w w2) := HB_w1.out.trans (HL_w2.out.mono HB_w1.out.size)
  have z_w2 : w1.heap.size ≤ w2.heap.size := HL_w2.out.size
  have Bx0_w2 : Hid (Bx w2 w.heap.size [.slice a0x0 n0x0 c0x0, .slice a1x0 n1x0 c1x0]) := Bx0_w1.out.later HL_w2.out
  have Tx0_w2 : Hid (DiskU w2 (.slice a0x0s n0x0s c0x0s) (.slice a1x0s n1x0s c1x0s) dx0 (fun b => w1.heap.size ≤ b ∧ b < w2.heap.size)) := ho
  clear Bx0_w1 HB_w1 HL_w2
  clear hb ho
  have qBx00 := Bx0_w2.out 0 _ rfl
  have qBx01 := Bx0_w2.out 1 _ rfl
  have tBx0 := Bx0_w2.out.lt
  go_wp2_with fail
  clear qBx00 qBx01 tBx0
  refine (specPlanU _ _ _ _ _ _ _ dx0 Tx0_w2.out.reads Sx0.out).mono ?_
  rw [HR.out]
  rintro e w3 ⟨a0sw, n0sw, c0sw, rfl, hb, ho⟩
  have HL_w3 : Hid (Below w2.heap.size w2 w3) := hb
  have HB_w3 : Hid (Below w.heap.size w w3) := HB_w2.out.trans (HL_w3.out.mono HB_w2.out.size)
  have z_w3 : w2.heap.size ≤ w3.heap.size := HL_w3.out.size
  have Bx0_w3 : Hid (Bx w3 w.heap.size [.slice a0x0 n0x0 c0x0, .slice a1x0 n1x0 c1x0]) := Bx0_w2.out.later HL_w3.out
  have Dw_w3 : Hid (StpsO w3 (.slice a0sw n0sw c0sw) d2 (fun b => w2.heap.size ≤ b ∧ b < w3.heap.size)) := ho
  clear Bx0_w2 Tx0_w2 HB_w2 HL_w3
  clear hb ho
  have qBx00 := Bx0_w3.out 0 _ rfl
  have qBx01 := Bx0_w3.out 1 _ rfl
  have tBx0 := Bx0_w3.out.lt
  go_wp2_with fail
  clear qBx00 qBx01 tBx0
  refine (toDiskU _ _ _ _ _ _ _ dx0 ((Hx0.out.later HB_w3.out).later (later1 _ _)) Sx0.out).mono ?_
  rintro e w4 ⟨a0x0p, n0x0p, c0x0p, a1x0p, n1x0p, c1x0p, rfl, hb, ho⟩
  have HL_w4 : Hid (Below w3.heap.size w3 w4) := (later1 _ _).trans (hb.mono (by simp))
  have HB_w4 : Hid (Below w.heap.size w w4) := HB_w3.out.trans (HL_w4.out.mono HB_w3.out.size)
  have z_w4 : w3.heap.size ≤ w4.heap.size := HL_w4.out.size
  have Bx0_w4 : Hid (Bx w4 w.heap.size [.slice a0x0 n0x0 c0x0, .slice a1x0 n1x0 c1x0]) := Bx0_w3.out.later HL_w4.out
  have Dw_w4 : Hid (StpsO w4 (.slice a0sw n0sw c0sw) d2 (fun b => w2.heap.size ≤ b ∧ b < w3.heap.size)) := Dw_w3.out.later HL_w4.out
  have Bw_w4 : Hid (Bx w4 w3.heap.size [.int .i64 code, .slice a0sw n0sw c0sw]) := (Bx.new _ [.int .i64 code, .slice a0sw n0sw c0sw] _).later hb
  have y_Bw : w3.heap.size < w4.heap.size := Bw_w4.out.lt
  have Px0_w4 : Hid (DiskU w4 (.slice a0x0p n0x0p c0x0p) (.slice a1x0p n1x0p c1x0p) dx0 (fun b => w3.heap.size < b ∧ b < w4.heap.size)) := ho.mono fun b hb => ⟨by have := hb.1; simp at this; omega, hb.2⟩
  clear Bx0_w3 Dw_w3 HB_w3 HL_w4
  clear hb ho
  have qBx00 := Bx0_w4.out 0 _ rfl
  have qBx01 := Bx0_w4.out 1 _ rfl
  have tBx0 := Bx0_w4.out.lt
  have qBw0 := Bw_w4.out 0 _ rfl
  have qBw1 := Bw_w4.out 1 _ rfl
  have tBw := Bw_w4.out.lt
  go_wp2_with fail
  clear qBx00 qBx01 tBx0 qBw0 qBw1 tBw
  refine (implPlanU _ _ _ _ _ _ _ dx0 (Px0_w4.out.later (later1 _ _)).reads Sx0.out).mono ?_
  rw [HR.out]
  rintro e w5 ⟨a0sg, n0sg, c0sg, rfl, hb, ho⟩
  have HL_w5 : Hid (Below w4.heap.size w4 w5) := (later1 _ _).trans (hb.mono (by simp))
  have HB_w5 : Hid (Below w.heap.size w w5) := HB_w4.out.trans (HL_w5.out.mono HB_w4.out.size)
  have z_w5 : w4.heap.size ≤ w5.heap.size := HL_w5.out.size
  have Bx0_w5 : Hid (Bx w5 w.heap.size [.slice a0x0 n0x0 c0x0, .slice a1x0 n1x0 c1x0]) := Bx0_w4.out.later HL_w5.out
  have Dw_w5 : Hid (StpsO w5 (.slice a0sw n0sw c0sw) d2 (fun b => w2.heap.size ≤ b ∧ b < w3.heap.size)) := Dw_w4.out.later HL_w5.out
  have Bw_w5 : Hid (Bx w5 w3.heap.size [.int .i64 code, .slice a0sw n0sw c0sw]) := Bw_w4.out.later HL_w5.out
  have Px0_w5 : Hid (DiskU w5 (.slice a0x0p n0x0p c0x0p) (.slice a1x0p n1x0p c1x0p) dx0 (fun b => w3.heap.size < b ∧ b < w4.heap.size)) := Px0_w4.out.later HL_w5.out
  have Xx0_w5 : Hid (Bx w5 w4.heap.size [.slice a0x0p n0x0p c0x0p, .slice a1x0p n1x0p c1x0p]) := (Bx.new _ [.slice a0x0p n0x0p c0x0p, .slice a1x0p n1x0p c1x0p] _).later hb
  have y_Xx0 : w4.heap.size < w5.heap.size := Xx0_w5.out.lt
  have Dg_w5 : Hid (StpsO w5 (.slice a0sg n0sg c0sg) d2 (fun b => w4.heap.size < b ∧ b < w5.heap.size)) := ho.mono fun b hb => ⟨by have := hb.1; simp at this; omega, hb.2⟩
  clear Bx0_w4 Dw_w4 Bw_w4 Px0_w4 HB_w4 HL_w5
  clear hb ho
  have qBx00 := Bx0_w5.out 0 _ rfl
  have qBx01 := Bx0_w5.out 1 _ rfl
  have tBx0 := Bx0_w5.out.lt
  have qBw0 := Bw_w5.out 0 _ rfl
  have qBw1 := Bw_w5.out 1 _ rfl
  have tBw := Bw_w5.out.lt
  have qXx00 := Xx0_w5.out 0 _ rfl
  have qXx01 := Xx0_w5.out 1 _ rfl
  have tXx0 := Xx0_w5.out.lt
  go_wp2_with fail
  clear qBx00 qBx01 tBx0 qBw0 qBw1 tBw qXx00 qXx01 tXx0
  refine (eqStepsResultU _ code _ _ d2 (Dg_w5.out.later (later1 _ _)).reads (Dw_w5.out.later (later1 _ _)).reads).mono ?_
  rintro e w6 ⟨rfl, hb⟩
  have HL_w6 : Hid (Below w5.heap.size w5 w6) := (later1 _ _).trans (hb.mono (by simp))
  have HB_w6 : Hid (Below w.heap.size w w6) := HB_w5.out.trans (HL_w6.out.mono HB_w5.out.size)
  have z_w6 : w5.heap.size ≤ w6.heap.size := HL_w6.out.size
  have Bx0_w6 : Hid (Bx w6 w.heap.size [.slice a0x0 n0x0 c0x0, .slice a1x0 n1x0 c1x0]) := Bx0_w5.out.later HL_w6.out
  have Dw_w6 : Hid (StpsO w6 (.slice a0sw n0sw c0sw) d2 (fun b => w2.heap.size ≤ b ∧ b < w3.heap.size)) := Dw_w5.out.later HL_w6.out
  have Bw_w6 : Hid (Bx w6 w3.heap.size [.int .i64 code, .slice a0sw n0sw c0sw]) := Bw_w5.out.later HL_w6.out
  have Px0_w6 : Hid (DiskU w6 (.slice a0x0p n0x0p c0x0p) (.slice a1x0p n1x0p c1x0p) dx0 (fun b => w3.heap.size < b ∧ b < w4.heap.size)) := Px0_w5.out.later HL_w6.out
  have Xx0_w6 : Hid (Bx w6 w4.heap.size [.slice a0x0p n0x0p c0x0p, .slice a1x0p n1x0p c1x0p]) := Xx0_w5.out.later HL_w6.out
  have Dg_w6 : Hid (StpsO w6 (.slice a0sg n0sg c0sg) d2 (fun b => w4.heap.size < b ∧ b < w5.heap.size)) := Dg_w5.out.later HL_w6.out
  have Bg_w6 : Hid (Bx w6 w5.heap.size [.int .i64 code, .slice a0sg n0sg c0sg]) := (Bx.new _ [.int .i64 code, .slice a0sg n0sg c0sg] _).later hb
  have y_Bg : w5.heap.size < w6.heap.size := Bg_w6.out.lt
  clear Bx0_w5 Dw_w5 Bw_w5 Px0_w5 Xx0_w5 Dg_w5 HB_w5 HL_w6
  clear hb
  have qBx00 := Bx0_w6.out 0 _ rfl
  have qBx01 := Bx0_w6.out 1 _ rfl
  have tBx0 := Bx0_w6.out.lt
  have qBw0 := Bw_w6.out 0 _ rfl
  have qBw1 := Bw_w6.out 1 _ rfl
  have tBw := Bw_w6.out.lt
  have qXx00 := Xx0_w6.out 0 _ rfl
  have qXx01 := Xx0_w6.out 1 _ rfl
  have tXx0 := Xx0_w6.out.lt
  have qBg0 := Bg_w6.out 0 _ rfl
  have qBg1 := Bg_w6.out 1 _ rfl
  have tBg := Bg_w6.out.lt
  go_wp2_with fail
  go_region_with (first
    | (go_at_call 22; refine (toDiskU _ _ _ _ _ _ _ dx0 ?_ Sx0.out).mono ?_; exact Hx0.out.later HB_w6.out.drew; rintro e w7 ⟨a0x0q, n0x0q, c0x0q, a1x0q, n1x0q, c1x0q, rfl, hb, ho⟩; have y0 := cell_later hb qXx00; have y1 := cell_later hb qXx01; have HL : Hid (Below w6.heap.size w6 w7) := (Below.refl _ _).drew.trans hb; have HO : Hid (DiskR w7 (.slice a0x0q n0x0q c0x0q) (.slice a1x0q n1x0q c1x0q) dx0) := ho.reads; clear hb ho)
    | (go_at_call 24; refine (eqDiskU _ _ _ _ _ dx0 ?_ ?_).mono ?_; exact Px0_w6.out.reads.later HL.out; exact HO.out; rintro e w8 ⟨rfl, hb⟩; have HL2 : Hid (Below w7.heap.size w7 w8) := hb; clear hb))
  all_goals
    have hb : Below w6.heap.size w6 w8 := HL.out.trans (HL2.out.mono HL.out.size)
    clear qBx00 qBx01 tBx0 qBw0 qBw1 tBw qXx00 qXx01 tXx0 qBg0 qBg1 tBg HL HL2 HO y0 y1
    have HL_w8 : Hid (Below w6.heap.size w6 w8) := hb
    have HB_w8 : Hid (Below w.heap.size w w8) := HB_w6.out.trans (HL_w8.out.mono HB_w6.out.size)
    have z_w8 : w6.heap.size ≤ w8.heap.size := HL_w8.out.size
    have Bx0_w8 : Hid (Bx w8 w.heap.size [.slice a0x0 n0x0 c0x0, .slice a1x0 n1x0 c1x0]) := Bx0_w6.out.later HL_w8.out
    have Dw_w8 : Hid (StpsO w8 (.slice a0sw n0sw c0sw) d2 (fun b => w2.heap.size ≤ b ∧ b < w3.heap.size)) := Dw_w6.out.later HL_w8.out
    have Bw_w8 : Hid (Bx w8 w3.heap.size [.int .i64 code, .slice a0sw n0sw c0sw]) := Bw_w6.out.later HL_w8.out
    have Px0_w8 : Hid (DiskU w8 (.slice a0x0p n0x0p c0x0p) (.slice a1x0p n1x0p c1x0p) dx0 (fun b => w3.heap.size < b ∧ b < w4.heap.size)) := Px0_w6.out.later HL_w8.out
    have Xx0_w8 : Hid (Bx w8 w4.heap.size [.slice a0x0p n0x0p c0x0p, .slice a1x0p n1x0p c1x0p]) := Xx0_w6.out.later HL_w8.out
    have Dg_w8 : Hid (StpsO w8 (.slice a0sg n0sg c0sg) d2 (fun b => w4.heap.size < b ∧ b < w5.heap.size)) := Dg_w6.out.later HL_w8.out
    have Bg_w8 : Hid (Bx w8 w5.heap.size [.int .i64 code, .slice a0sg n0sg c0sg]) := Bg_w6.out.later HL_w8.out
    clear Bx0_w6 Dw_w6 Bw_w6 Px0_w6 Xx0_w6 Dg_w6 Bg_w6 HB_w6 HL_w8
    clear hb
    have qBx00 := Bx0_w8.out 0 _ rfl
    have qBx01 := Bx0_w8.out 1 _ rfl
    have tBx0 := Bx0_w8.out.lt
    have qBw0 := Bw_w8.out 0 _ rfl
    have qBw1 := Bw_w8.out 1 _ rfl
    have tBw := Bw_w8.out.lt
    have qXx00 := Xx0_w8.out 0 _ rfl
    have qXx01 := Xx0_w8.out 1 _ rfl
    have tXx0 := Xx0_w8.out.lt
    have qBg0 := Bg_w8.out 0 _ rfl
    have qBg1 := Bg_w8.out 1 _ rfl
    have tBg := Bg_w8.out.lt
    go_wp2_with fail
    clear qBx00 qBx01 tBx0 qBw0 qBw1 tBw qXx00 qXx01 tXx0 qBg0 qBg1 tBg
    refine (markDiskU _ _ _ dx0 _ _ Px0_w8.out (by omega) (by omega)).mono ?_
    rintro e w9 ⟨rfl, hc⟩
    have HB_w9 : Hid (Below w.heap.size w w9) := HB_w8.out.trans (hc.below HB_w8.out.size (fun b h => by have := HB_w8.out.size; omega))
    have z_w9 : w8.heap.size ≤ w9.heap.size := hc.size
    have Bx0_w9 : Hid (Bx w9 w.heap.size [.slice a0x0 n0x0 c0x0, .slice a1x0 n1x0 c1x0]) := Bx0_w8.out.chg hc (by omega)
    have Dw_w9 : Hid (StpsO w9 (.slice a0sw n0sw c0sw) d2 (fun b => w2.heap.size ≤ b ∧ b < w3.heap.size)) := Dw_w8.out.chg hc (fun b h h' => by omega)
    have Bw_w9 : Hid (Bx w9 w3.heap.size [.int .i64 code, .slice a0sw n0sw c0sw]) := Bw_w8.out.chg hc (by omega)
    have Xx0_w9 : Hid (Bx w9 w4.heap.size [.slice a0x0p n0x0p c0x0p, .slice a1x0p n1x0p c1x0p]) := Xx0_w8.out.chg hc (by omega)
    have Dg_w9 : Hid (StpsO w9 (.slice a0sg n0sg c0sg) d2 (fun b => w4.heap.size < b ∧ b < w5.heap.size)) := Dg_w8.out.chg hc (fun b h h' => by omega)
    have Bg_w9 : Hid (Bx w9 w5.heap.size [.int .i64 code, .slice a0sg n0sg c0sg]) := Bg_w8.out.chg hc (by omega)
    clear HB_w8 Bx0_w8 Dw_w8 Bw_w8 Px0_w8 Xx0_w8 Dg_w8 Bg_w8
    clear hc
    have hk : decide ((1 + (spanDisk dx0 : Nat) : Int) < 0) = false := by simp; omega
    have qBx00 := Bx0_w9.out 0 _ rfl
    have qBx01 := Bx0_w9.out 1 _ rfl
    have tBx0 := Bx0_w9.out.lt
    have qBw0 := Bw_w9.out 0 _ rfl
    have qBw1 := Bw_w9.out 1 _ rfl
    have tBw := Bw_w9.out.lt
    have qXx00 := Xx0_w9.out 0 _ rfl
    have qXx01 := Xx0_w9.out 1 _ rfl
    have tXx0 := Xx0_w9.out.lt
    have qBg0 := Bg_w9.out 0 _ rfl
    have qBg1 := Bg_w9.out 1 _ rfl
    have tBg := Bg_w9.out.lt
    go_wp2_with fail
    clear qBx00 qBx01 tBx0 qBw0 qBw1 tBw qXx00 qXx01 tXx0 qBg0 qBg1 tBg
    refine (eqStepsResultU _ code _ _ d2 Dg_w9.out.reads Dw_w9.out.reads).mono ?_
    rintro e w10 ⟨rfl, hb⟩
    have HL_w10 : Hid (Below w9.heap.size w9 w10) := hb
    have HB_w10 : Hid (Below w.heap.size w w10) := HB_w9.out.trans (HL_w10.out.mono HB_w9.out.size)
    have z_w10 : w9.heap.size ≤ w10.heap.size := HL_w10.out.size
    have Bx0_w10 : Hid (Bx w10 w.heap.size [.slice a0x0 n0x0 c0x0, .slice a1x0 n1x0 c1x0]) := Bx0_w9.out.later HL_w10.out
    have Dw_w10 : Hid (StpsO w10 (.slice a0sw n0sw c0sw) d2 (fun b => w2.heap.size ≤ b ∧ b < w3.heap.size)) := Dw_w9.out.later HL_w10.out
    have Bw_w10 : Hid (Bx w10 w3.heap.size [.int .i64 code, .slice a0sw n0sw c0sw]) := Bw_w9.out.later HL_w10.out
    have Xx0_w10 : Hid (Bx w10 w4.heap.size [.slice a0x0p n0x0p c0x0p, .slice a1x0p n1x0p c1x0p]) := Xx0_w9.out.later HL_w10.out
    have Dg_w10 : Hid (StpsO w10 (.slice a0sg n0sg c0sg) d2 (fun b => w4.heap.size < b ∧ b < w5.heap.size)) := Dg_w9.out.later HL_w10.out
    have Bg_w10 : Hid (Bx w10 w5.heap.size [.int .i64 code, .slice a0sg n0sg c0sg]) := Bg_w9.out.later HL_w10.out
    clear Bx0_w9 Dw_w9 Bw_w9 Xx0_w9 Dg_w9 Bg_w9 HB_w9 HL_w10
    clear hb
    have qBx00 := Bx0_w10.out 0 _ rfl
    have qBx01 := Bx0_w10.out 1 _ rfl
    have tBx0 := Bx0_w10.out.lt
    have qBw0 := Bw_w10.out 0 _ rfl
    have qBw1 := Bw_w10.out 1 _ rfl
    have tBw := Bw_w10.out.lt
    have qXx00 := Xx0_w10.out 0 _ rfl
    have qXx01 := Xx0_w10.out 1 _ rfl
    have tXx0 := Xx0_w10.out.lt
    have qBg0 := Bg_w10.out 0 _ rfl
    have qBg1 := Bg_w10.out 1 _ rfl
    have tBg := Bg_w10.out.lt
    go_wp2_with fail
    clear qBx00 qBx01 tBx0 qBw0 qBw1 tBw qXx00 qXx01 tXx0 qBg0 qBg1 tBg
    refine (markStepsResultU _ code _ d2 _ 1 Dg_w10.out (by omega) (by omega)).mono ?_
    rintro e w11 ⟨rfl, hm, hc⟩
    have HB_w11 : Hid (Below w.heap.size w w11) := HB_w10.out.trans (hc.below HB_w10.out.size (fun b h => by have := HB_w10.out.size; omega))
    have z_w11 : w10.heap.size ≤ w11.heap.size := hc.size
    have Bx0_w11 : Hid (Bx w11 w.heap.size [.slice a0x0 n0x0 c0x0, .slice a1x0 n1x0 c1x0]) := Bx0_w10.out.chg hc (by omega)
    have Dw_w11 : Hid (StpsO w11 (.slice a0sw n0sw c0sw) d2 (fun b => w2.heap.size ≤ b ∧ b < w3.heap.size)) := Dw_w10.out.chg hc (fun b h h' => by omega)
    have Bw_w11 : Hid (Bx w11 w3.heap.size [.int .i64 code, .slice a0sw n0sw c0sw]) := Bw_w10.out.chg hc (by omega)
    have Xx0_w11 : Hid (Bx w11 w4.heap.size [.slice a0x0p n0x0p c0x0p, .slice a1x0p n1x0p c1x0p]) := Xx0_w10.out.chg hc (by omega)
    have Bg_w11 : Hid (Bx w11 w5.heap.size [.int .i64 code, .slice a0sg n0sg c0sg]) := Bg_w10.out.chg hc (by omega)
    have Dm_w11 : Hid (StpsO w11 (.slice a0sg n0sg c0sg) (mkStps 1 d2) (fun b => w4.heap.size < b ∧ b < w5.heap.size)) := hm
    clear HB_w10 Bx0_w10 Dw_w10 Bw_w10 Xx0_w10 Dg_w10 Bg_w10
    clear hm hc
    generalize hK : (1 : Int) + (spanStps d2 : Nat) = K at *
    have hKK : (K != K) = false := by simp
    have hK0 : ¬ K < 0 := by omega
    have hK1 : K ≤ 4611686018427387904 := by omega
    have HK : Hid ((1 : Int) + (spanStps d2 : Nat) = K) := hK
    clear hK
    have qBx00 := Bx0_w11.out 0 _ rfl
    have qBx01 := Bx0_w11.out 1 _ rfl
    have tBx0 := Bx0_w11.out.lt
    have qBw0 := Bw_w11.out 0 _ rfl
    have qBw1 := Bw_w11.out 1 _ rfl
    have tBw := Bw_w11.out.lt
    have qXx00 := Xx0_w11.out 0 _ rfl
    have qXx01 := Xx0_w11.out 1 _ rfl
    have tXx0 := Xx0_w11.out.lt
    have qBg0 := Bg_w11.out 0 _ rfl
    have qBg1 := Bg_w11.out 1 _ rfl
    have tBg := Bg_w11.out.lt
    go_wp2_with fail
    clear qBx00 qBx01 tBx0 qBw0 qBw1 tBw qXx00 qXx01 tXx0 qBg0 qBg1 tBg
    refine (heldStepsResultU _ code _ d2 _ 1 Dm_w11.out (by omega) (by rw [HK.out]; exact hK1)).mono ?_
    rw [HK.out]
    rintro e w12 ⟨rfl, hb⟩
    have HL_w12 : Hid (Below w11.heap.size w11 w12) := hb
    have HB_w12 : Hid (Below w.heap.size w w12) := HB_w11.out.trans (HL_w12.out.mono HB_w11.out.size)
    have z_w12 : w11.heap.size ≤ w12.heap.size := HL_w12.out.size
    have Bx0_w12 : Hid (Bx w12 w.heap.size [.slice a0x0 n0x0 c0x0, .slice a1x0 n1x0 c1x0]) := Bx0_w11.out.later HL_w12.out
    have Dw_w12 : Hid (StpsO w12 (.slice a0sw n0sw c0sw) d2 (fun b => w2.heap.size ≤ b ∧ b < w3.heap.size)) := Dw_w11.out.later HL_w12.out
    have Bw_w12 : Hid (Bx w12 w3.heap.size [.int .i64 code, .slice a0sw n0sw c0sw]) := Bw_w11.out.later HL_w12.out
    have Xx0_w12 : Hid (Bx w12 w4.heap.size [.slice a0x0p n0x0p c0x0p, .slice a1x0p n1x0p c1x0p]) := Xx0_w11.out.later HL_w12.out
    have Bg_w12 : Hid (Bx w12 w5.heap.size [.int .i64 code, .slice a0sg n0sg c0sg]) := Bg_w11.out.later HL_w12.out
    have Dm_w12 : Hid (StpsO w12 (.slice a0sg n0sg c0sg) (mkStps 1 d2) (fun b => w4.heap.size < b ∧ b < w5.heap.size)) := Dm_w11.out.later HL_w12.out
    clear Bx0_w11 Dw_w11 Bw_w11 Xx0_w11 Bg_w11 Dm_w11 HB_w11 HL_w12
    clear hb
    have qBx00 := Bx0_w12.out 0 _ rfl
    have qBx01 := Bx0_w12.out 1 _ rfl
    have tBx0 := Bx0_w12.out.lt
    have qBw0 := Bw_w12.out 0 _ rfl
    have qBw1 := Bw_w12.out 1 _ rfl
    have tBw := Bw_w12.out.lt
    have qXx00 := Xx0_w12.out 0 _ rfl
    have qXx01 := Xx0_w12.out 1 _ rfl
    have tXx0 := Xx0_w12.out.lt
    have qBg0 := Bg_w12.out 0 _ rfl
    have qBg1 := Bg_w12.out 1 _ rfl
    have tBg := Bg_w12.out.lt
    go_wp2_with fail
    clear qBx00 qBx01 tBx0 qBw0 qBw1 tBw qXx00 qXx01 tXx0 qBg0 qBg1 tBg
    refine (toDiskU _ _ _ _ _ _ _ dx0 (Hx0.out.later HB_w12.out) Sx0.out).mono ?_
    rintro e w13 ⟨a0x0h, n0x0h, c0x0h, a1x0h, n1x0h, c1x0h, rfl, hb, ho⟩
    have HL_w13 : Hid (Below w12.heap.size w12 w13) := hb
    have HB_w13 : Hid (Below w.heap.size w w13) := HB_w12.out.trans (HL_w13.out.mono HB_w12.out.size)
    have z_w13 : w12.heap.size ≤ w13.heap.size := HL_w13.out.size
    have Bx0_w13 : Hid (Bx w13 w.heap.size [.slice a0x0 n0x0 c0x0, .slice a1x0 n1x0 c1x0]) := Bx0_w12.out.later HL_w13.out
    have Dw_w13 : Hid (StpsO w13 (.slice a0sw n0sw c0sw) d2 (fun b => w2.heap.size ≤ b ∧ b < w3.heap.size)) := Dw_w12.out.later HL_w13.out
    have Bw_w13 : Hid (Bx w13 w3.heap.size [.int .i64 code, .slice a0sw n0sw c0sw]) := Bw_w12.out.later HL_w13.out
    have Xx0_w13 : Hid (Bx w13 w4.heap.size [.slice a0x0p n0x0p c0x0p, .slice a1x0p n1x0p c1x0p]) := Xx0_w12.out.later HL_w13.out
    have Bg_w13 : Hid (Bx w13 w5.heap.size [.int .i64 code, .slice a0sg n0sg c0sg]) := Bg_w12.out.later HL_w13.out
    have Dm_w13 : Hid (StpsO w13 (.slice a0sg n0sg c0sg) (mkStps 1 d2) (fun b => w4.heap.size < b ∧ b < w5.heap.size)) := Dm_w12.out.later HL_w13.out
    have Vx0_w13 : Hid (DiskU w13 (.slice a0x0h n0x0h c0x0h) (.slice a1x0h n1x0h c1x0h) dx0 (fun b => w12.heap.size ≤ b ∧ b < w13.heap.size)) := ho
    clear Bx0_w12 Dw_w12 Bw_w12 Xx0_w12 Bg_w12 Dm_w12 HB_w12 HL_w13
    clear hb ho
    have qBx00 := Bx0_w13.out 0 _ rfl
    have qBx01 := Bx0_w13.out 1 _ rfl
    have tBx0 := Bx0_w13.out.lt
    have qBw0 := Bw_w13.out 0 _ rfl
    have qBw1 := Bw_w13.out 1 _ rfl
    have tBw := Bw_w13.out.lt
    have qXx00 := Xx0_w13.out 0 _ rfl
    have qXx01 := Xx0_w13.out 1 _ rfl
    have tXx0 := Xx0_w13.out.lt
    have qBg0 := Bg_w13.out 0 _ rfl
    have qBg1 := Bg_w13.out 1 _ rfl
    have tBg := Bg_w13.out.lt
    go_wp2_with fail
    clear qBx00 qBx01 tBx0 qBw0 qBw1 tBw qXx00 qXx01 tXx0 qBg0 qBg1 tBg
    refine (implPlanU _ _ _ _ _ _ _ dx0 Vx0_w13.out.reads Sx0.out).mono ?_
    rw [HR.out]
    rintro e w14 ⟨a0sh, n0sh, c0sh, rfl, hb, ho⟩
    have HL_w14 : Hid (Below w13.heap.size w13 w14) := hb
    have HB_w14 : Hid (Below w.heap.size w w14) := HB_w13.out.trans (HL_w14.out.mono HB_w13.out.size)
    have z_w14 : w13.heap.size ≤ w14.heap.size := HL_w14.out.size
    have Bx0_w14 : Hid (Bx w14 w.heap.size [.slice a0x0 n0x0 c0x0, .slice a1x0 n1x0 c1x0]) := Bx0_w13.out.later HL_w14.out
    have Dw_w14 : Hid (StpsO w14 (.slice a0sw n0sw c0sw) d2 (fun b => w2.heap.size ≤ b ∧ b < w3.heap.size)) := Dw_w13.out.later HL_w14.out
    have Bw_w14 : Hid (Bx w14 w3.heap.size [.int .i64 code, .slice a0sw n0sw c0sw]) := Bw_w13.out.later HL_w14.out
    have Xx0_w14 : Hid (Bx w14 w4.heap.size [.slice a0x0p n0x0p c0x0p, .slice a1x0p n1x0p c1x0p]) := Xx0_w13.out.later HL_w14.out
    have Bg_w14 : Hid (Bx w14 w5.heap.size [.int .i64 code, .slice a0sg n0sg c0sg]) := Bg_w13.out.later HL_w14.out
    have Dm_w14 : Hid (StpsO w14 (.slice a0sg n0sg c0sg) (mkStps 1 d2) (fun b => w4.heap.size < b ∧ b < w5.heap.size)) := Dm_w13.out.later HL_w14.out
    have Dh_w14 : Hid (StpsO w14 (.slice a0sh n0sh c0sh) d2 (fun b => w13.heap.size ≤ b ∧ b < w14.heap.size)) := ho
    clear Bx0_w13 Dw_w13 Bw_w13 Xx0_w13 Bg_w13 Dm_w13 Vx0_w13 HB_w13 HL_w14
    clear hb ho
    have qBx00 := Bx0_w14.out 0 _ rfl
    have qBx01 := Bx0_w14.out 1 _ rfl
    have tBx0 := Bx0_w14.out.lt
    have qBw0 := Bw_w14.out 0 _ rfl
    have qBw1 := Bw_w14.out 1 _ rfl
    have tBw := Bw_w14.out.lt
    have qXx00 := Xx0_w14.out 0 _ rfl
    have qXx01 := Xx0_w14.out 1 _ rfl
    have tXx0 := Xx0_w14.out.lt
    have qBg0 := Bg_w14.out 0 _ rfl
    have qBg1 := Bg_w14.out 1 _ rfl
    have tBg := Bg_w14.out.lt
    go_wp2_with fail
    clear qBx00 qBx01 tBx0 qBw0 qBw1 tBw qXx00 qXx01 tXx0 qBg0 qBg1 tBg
    refine (eqStepsResultU _ code _ _ d2 (Dh_w14.out.later (later1 _ _)).reads (Dw_w14.out.later (later1 _ _)).reads).mono ?_
    rintro e w15 ⟨rfl, hb⟩
    have HL_w15 : Hid (Below w14.heap.size w14 w15) := (later1 _ _).trans (hb.mono (by simp))
    have HB_w15 : Hid (Below w.heap.size w w15) := HB_w14.out.trans (HL_w15.out.mono HB_w14.out.size)
    have z_w15 : w14.heap.size ≤ w15.heap.size := HL_w15.out.size
    have Bx0_w15 : Hid (Bx w15 w.heap.size [.slice a0x0 n0x0 c0x0, .slice a1x0 n1x0 c1x0]) := Bx0_w14.out.later HL_w15.out
    have Dw_w15 : Hid (StpsO w15 (.slice a0sw n0sw c0sw) d2 (fun b => w2.heap.size ≤ b ∧ b < w3.heap.size)) := Dw_w14.out.later HL_w15.out
    have Bw_w15 : Hid (Bx w15 w3.heap.size [.int .i64 code, .slice a0sw n0sw c0sw]) := Bw_w14.out.later HL_w15.out
    have Xx0_w15 : Hid (Bx w15 w4.heap.size [.slice a0x0p n0x0p c0x0p, .slice a1x0p n1x0p c1x0p]) := Xx0_w14.out.later HL_w15.out
    have Bg_w15 : Hid (Bx w15 w5.heap.size [.int .i64 code, .slice a0sg n0sg c0sg]) := Bg_w14.out.later HL_w15.out
    have Dm_w15 : Hid (StpsO w15 (.slice a0sg n0sg c0sg) (mkStps 1 d2) (fun b => w4.heap.size < b ∧ b < w5.heap.size)) := Dm_w14.out.later HL_w15.out
    have Dh_w15 : Hid (StpsO w15 (.slice a0sh n0sh c0sh) d2 (fun b => w13.heap.size ≤ b ∧ b < w14.heap.size)) := Dh_w14.out.later HL_w15.out
    have Bh_w15 : Hid (Bx w15 w14.heap.size [.int .i64 code, .slice a0sh n0sh c0sh]) := (Bx.new _ [.int .i64 code, .slice a0sh n0sh c0sh] _).later hb
    have y_Bh : w14.heap.size < w15.heap.size := Bh_w15.out.lt
    clear Bx0_w14 Dw_w14 Bw_w14 Xx0_w14 Bg_w14 Dm_w14 Dh_w14 HB_w14 HL_w15
    clear hb
    have qBx00 := Bx0_w15.out 0 _ rfl
    have qBx01 := Bx0_w15.out 1 _ rfl
    have tBx0 := Bx0_w15.out.lt
    have qBw0 := Bw_w15.out 0 _ rfl
    have qBw1 := Bw_w15.out 1 _ rfl
    have tBw := Bw_w15.out.lt
    have qXx00 := Xx0_w15.out 0 _ rfl
    have qXx01 := Xx0_w15.out 1 _ rfl
    have tXx0 := Xx0_w15.out.lt
    have qBg0 := Bg_w15.out 0 _ rfl
    have qBg1 := Bg_w15.out 1 _ rfl
    have tBg := Bg_w15.out.lt
    have qBh0 := Bh_w15.out 0 _ rfl
    have qBh1 := Bh_w15.out 1 _ rfl
    have tBh := Bh_w15.out.lt
    go_wp2_with fail
    clear qBx00 qBx01 tBx0 qBw0 qBw1 tBw qXx00 qXx01 tXx0 qBg0 qBg1 tBg qBh0 qBh1 tBh
    refine (heldStepsResultU _ code _ d2 _ 1 Dm_w15.out (by omega) (by rw [HK.out]; exact hK1)).mono ?_
    rw [HK.out]
    rintro e w16 ⟨rfl, hb⟩
    have HL_w16 : Hid (Below w15.heap.size w15 w16) := hb
    have HB_w16 : Hid (Below w.heap.size w w16) := HB_w15.out.trans (HL_w16.out.mono HB_w15.out.size)
    have z_w16 : w15.heap.size ≤ w16.heap.size := HL_w16.out.size
    have Bx0_w16 : Hid (Bx w16 w.heap.size [.slice a0x0 n0x0 c0x0, .slice a1x0 n1x0 c1x0]) := Bx0_w15.out.later HL_w16.out
    have Dw_w16 : Hid (StpsO w16 (.slice a0sw n0sw c0sw) d2 (fun b => w2.heap.size ≤ b ∧ b < w3.heap.size)) := Dw_w15.out.later HL_w16.out
    have Bw_w16 : Hid (Bx w16 w3.heap.size [.int .i64 code, .slice a0sw n0sw c0sw]) := Bw_w15.out.later HL_w16.out
    have Xx0_w16 : Hid (Bx w16 w4.heap.size [.slice a0x0p n0x0p c0x0p, .slice a1x0p n1x0p c1x0p]) := Xx0_w15.out.later HL_w16.out
    have Bg_w16 : Hid (Bx w16 w5.heap.size [.int .i64 code, .slice a0sg n0sg c0sg]) := Bg_w15.out.later HL_w16.out
    have Dm_w16 : Hid (StpsO w16 (.slice a0sg n0sg c0sg) (mkStps 1 d2) (fun b => w4.heap.size < b ∧ b < w5.heap.size)) := Dm_w15.out.later HL_w16.out
    have Dh_w16 : Hid (StpsO w16 (.slice a0sh n0sh c0sh) d2 (fun b => w13.heap.size ≤ b ∧ b < w14.heap.size)) := Dh_w15.out.later HL_w16.out
    have Bh_w16 : Hid (Bx w16 w14.heap.size [.int .i64 code, .slice a0sh n0sh c0sh]) := Bh_w15.out.later HL_w16.out
    clear Bx0_w15 Dw_w15 Bw_w15 Xx0_w15 Bg_w15 Dm_w15 Dh_w15 Bh_w15 HB_w15 HL_w16
    clear hb
    have qBx00 := Bx0_w16.out 0 _ rfl
    have qBx01 := Bx0_w16.out 1 _ rfl
    have tBx0 := Bx0_w16.out.lt
    have qBw0 := Bw_w16.out 0 _ rfl
    have qBw1 := Bw_w16.out 1 _ rfl
    have tBw := Bw_w16.out.lt
    have qXx00 := Xx0_w16.out 0 _ rfl
    have qXx01 := Xx0_w16.out 1 _ rfl
    have tXx0 := Xx0_w16.out.lt
    have qBg0 := Bg_w16.out 0 _ rfl
    have qBg1 := Bg_w16.out 1 _ rfl
    have tBg := Bg_w16.out.lt
    have qBh0 := Bh_w16.out 0 _ rfl
    have qBh1 := Bh_w16.out 1 _ rfl
    have tBh := Bh_w16.out.lt
    go_wp2
    go_ret
    exact ⟨rfl, HB_w16.out⟩

theorem lawPlanMount_any (w : World) (v0x0 : Value) (v1x0 : Value) (dx0 : DK) (hx0 : DiskR w v0x0 v1x0 dx0) :
    Calls Try.prog 7 #[.agg #[v0x0, v1x0]] w fun e w' => e = .returned (.bool true) ∧ Below w.heap.size w w' := by
  obtain ⟨_, _, rfl, _, _⟩ := hx0.1.open'
  obtain ⟨_, _, rfl, _, _⟩ := hx0.2.open'
  by_cases kx0 : sizeDisk dx0 ≤ 1048576
  rotate_left
  · exact lawPlanMount_big w _ _ _ _ _ _ dx0  hx0 (by omega)
  exact lawPlanMount_small w _ _ _ _ _ _ dx0 hx0  kx0
end Go.Proofs.Ytagmmgcdebgfnaa

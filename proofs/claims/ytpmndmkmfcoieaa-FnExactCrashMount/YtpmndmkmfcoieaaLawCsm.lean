/- The law of CrashMount: at every argument the program answers as the specification, leaves its arguments as they were, and its answer owns its memory. -/
import Derived.Test.YtpmndmkmfcoieaaM17
import Derived.Test.YtpmndmkmfcoieaaM07
import Derived.Test.YtpmndmkmfcoieaaM12
namespace Go.Proofs.Ytpmndmkmfcoieaa
open Go.RowKit
set_option maxRecDepth 100000

set_option maxHeartbeats 1600000 in
theorem lawCrashMount_long0 (w : World) (a0x0 : Option Addr) (n0x0 c0x0 : Nat) (a1x0 : Option Addr) (n1x0 c1x0 : Nat) (x1 : Int) (a0x2 : Option Addr) (n0x2 c0x2 : Nat) (hn : 1048576 < n0x2) :
    Calls Try.prog 3 #[.agg #[.slice a0x0 n0x0 c0x0, .slice a1x0 n1x0 c1x0], .int .i64 x1, .slice a0x2 n0x2 c0x2] w fun e w' => e = .returned (.bool true) ∧ Below w.heap.size w w' := by
  have hn' : (1048576 : Int) < (n0x2 : Int) := by omega
  go_enter Try.func3, Try.ntmps3
  go_wp2
  go_ret
  exact ⟨rfl, later1 _ _⟩

set_option maxHeartbeats 1600000 in
theorem lawCrashMount_big (w : World) (a0x0 : Option Addr) (n0x0 c0x0 : Nat) (a1x0 : Option Addr) (n1x0 c1x0 : Nat) (dx0 : DK) (x1 : Int) (a0x2 : Option Addr) (n0x2 c0x2 : Nat) (lx2 : n0x2 ≤ 1048576) (hx0 : DiskR w (.slice a0x0 n0x0 c0x0) (.slice a1x0 n1x0 c1x0) dx0) (hsz : 1048576 < sizeDisk dx0) :
    Calls Try.prog 3 #[.agg #[.slice a0x0 n0x0 c0x0, .slice a1x0 n1x0 c1x0], .int .i64 x1, .slice a0x2 n0x2 c0x2] w fun e w' => e = .returned (.bool true) ∧ Below w.heap.size w w' := by
  have Hx0 : Hid (DiskR w (.slice a0x0 n0x0 c0x0) (.slice a1x0 n1x0 c1x0) dx0) := hx0
  have HS : Hid (szf 1048576 (sizeDisk dx0) = -1) := szf_no (by omega)
  have lx2' : decide ((1048576 : Int) < (n0x2 : Int)) = false := by simp; omega
  clear hx0 hsz lx2
  go_enter Try.func3, Try.ntmps3
  go_wp2_with fail
  refine (szDiskU _ _ _ _ _ _ _ dx0 (Hx0.out.later (later1 _ _)) 1048576 (by omega) (by omega)).mono ?_
  rw [HS.out]
  rintro e w1 ⟨rfl, hb1⟩
  have HBw1 : Hid (Below w.heap.size w w1) := (later1 _ _).trans (hb1.mono (by simp))
  clear hb1
  go_wp2
  go_ret
  exact ⟨rfl, HBw1.out⟩

set_option maxHeartbeats 12800000 in
theorem lawCrashMount_small (w : World) (a0x0 : Option Addr) (n0x0 c0x0 : Nat) (a1x0 : Option Addr) (n1x0 c1x0 : Nat) (dx0 : DK) (x1 : Int) (a0x2 : Option Addr) (n0x2 c0x2 : Nat) (dx2 : List Bool) (hx0 : DiskR w (.slice a0x0 n0x0 c0x0) (.slice a1x0 n1x0 c1x0) dx0) (hx2 : Bools w (.slice a0x2 n0x2 c0x2) dx2) (lx2 : n0x2 ≤ 1048576) (mx2 : dx2.length = n0x2) (sx0 : sizeDisk dx0 ≤ 1048576) :
    Calls Try.prog 3 #[.agg #[.slice a0x0 n0x0 c0x0, .slice a1x0 n1x0 c1x0], .int .i64 x1, .slice a0x2 n0x2 c0x2] w fun e w' => e = .returned (.bool true) ∧ Below w.heap.size w w' := by
  have Hx0 : Hid (DiskR w (.slice a0x0 n0x0 c0x0) (.slice a1x0 n1x0 c1x0) dx0) := hx0
  have Hx2 : Hid (Bools w (.slice a0x2 n0x2 c0x2) dx2) := hx2
  have Sx0 : Hid (sizeDisk dx0 ≤ 1048576) := sx0
  have HSx0 : Hid (szf 1048576 (sizeDisk dx0) = 1048576 - (sizeDisk dx0 : Nat)) := szf_yes (by omega)
  have hposx0 : ¬ (1048576 - ((sizeDisk dx0 : Nat) : Int) < 0) := by omega
  have hspx0 : ((spanDisk dx0 : Nat) : Int) ≤ 4194304 := by have := spanDisk_le dx0; omega
  have Sx2 : Hid (dx2.length ≤ 1048576) := by unfold Hid; omega
  have lx2' : decide ((1048576 : Int) < (n0x2 : Int)) = false := by simp; omega
  have hspx2 : ((List.length dx2 : Nat) : Int) ≤ 1048576 := by omega
  generalize hr : crashMR dx0 x1 dx2 = r at *
  have HR : Hid (crashMR dx0 x1 dx2 = r) := hr
  obtain ⟨code, d2⟩ := r
  have hspr : ((spanDisk d2 : Nat) : Int) ≤ 100000000 := by have := crashMR_span dx0 x1 dx2; rw [hr] at this; dsimp only at this; omega
  clear hr hx0 hx2 sx0 lx2 mx2
  go_enter Try.func3, Try.ntmps3
  go_wp2_with fail
  refine (szDiskU _ _ _ _ _ _ _ dx0 (Hx0.out.later (later1 _ _)) 1048576 (by omega) (by omega)).mono ?_
  rw [HSx0.out]
  rintro e w1 ⟨rfl, hb⟩
  have HL_w1 : Hid (Below w.heap.size w w1) := (later1 _ _).trans (hb.mono (by simp))
  have HB_w1 : Hid (Below w.heap.size w w1) := HL_w1.out
  have z_w1 : w.heap.size ≤ w1.heap.size := HL_w1.out.size
  have Bx0_w1 : Hid (Bx w1 w.heap.size [.slice a0x0 n0x0 c0x0, .slice a1x0 n1x0 c1x0]) := (Bx.new _ [.slice a0x0 n0x0 c0x0, .slice a1x0 n1x0 c1x0] _).later hb
  have y_Bx0 : w.heap.size < w1.heap.size := Bx0_w1.out.lt
  clear HL_w1
  clear hb
  have qBx00 := Bx0_w1.out 0 _ rfl
  have qBx01 := Bx0_w1.out 1 _ rfl
  have tBx0 := Bx0_w1.out.lt
  go_wp2_with fail
  clear qBx00 qBx01 tBx0
  refine (toDiskU _ _ _ _ _ _ _ dx0 (Hx0.out.later HB_w1.out) Sx0.out).mono ?_
  rintro e w2 ⟨a0x0s, n0x0s, c0x0s, a1x0s, n1x0s, c1x0s, rfl, hb, ho⟩
  have HL_w2 : Hid (Below w1.heap.size w1 w2) := hb
  have HB_w2 : Hid (Below w.heap.size w w2) := HB_w1.out.trans (HL_w2.out.mono HB_w1.out.size)
  have z_w2 : w1.heap.size ≤ w2.heap.size := HL_w2.out.size
  have Bx0_w2 : Hid (Bx w2 w.heap.size [.slice a0x0 n0x0 c0x0, .slice a1x0 n1x0 c1x0]) := Bx0_w1.out.later HL_w2.out
  have Tx0_w2 : Hid (DiskU w2 (.slice a0x0s n0x0s c0x0s) (.slice a1x0s n1x0s c1x0s) dx0 (fun b => w1.heap.size ≤ b ∧ b < w2.heap.size)) := ho
  clear Bx0_w1 HB_w1 HL_w2
  clear hb ho
  have qBx00 := Bx0_w2.out 0 _ rfl
  have qBx01 := Bx0_w2.out 1 _ rfl
  have tBx0 := Bx0_w2.out.lt
  go_wp2_with fail
  clear qBx00 qBx01 tBx0
  refine (toBoolsU (Hx2.out.later HB_w2.out) Sx2.out).mono ?_
  rintro e w3 ⟨a0x2s, n0x2s, c0x2s, rfl, hb, ho⟩
  have HL_w3 : Hid (Below w2.heap.size w2 w3) := hb
  have HB_w3 : Hid (Below w.heap.size w w3) := HB_w2.out.trans (HL_w3.out.mono HB_w2.out.size)
  have z_w3 : w2.heap.size ≤ w3.heap.size := HL_w3.out.size
  have Bx0_w3 : Hid (Bx w3 w.heap.size [.slice a0x0 n0x0 c0x0, .slice a1x0 n1x0 c1x0]) := Bx0_w2.out.later HL_w3.out
  have Tx0_w3 : Hid (DiskU w3 (.slice a0x0s n0x0s c0x0s) (.slice a1x0s n1x0s c1x0s) dx0 (fun b => w1.heap.size ≤ b ∧ b < w2.heap.size)) := Tx0_w2.out.later HL_w3.out
  have Tx2_w3 : Hid (BoolsO w3 (.slice a0x2s n0x2s c0x2s) dx2 (fun b => w2.heap.size ≤ b ∧ b < w3.heap.size)) := ho
  clear Bx0_w2 Tx0_w2 HB_w2 HL_w3
  clear hb ho
  have qBx00 := Bx0_w3.out 0 _ rfl
  have qBx01 := Bx0_w3.out 1 _ rfl
  have tBx0 := Bx0_w3.out.lt
  go_wp2_with fail
  clear qBx00 qBx01 tBx0
  refine (specCrashMU _ _ _ _ _ _ _ dx0 x1 _ _ _ dx2 Tx0_w3.out.reads Tx2_w3.out.reads Sx0.out Sx2.out).mono ?_
  rw [HR.out]
  rintro e w4 ⟨a0sw, n0sw, c0sw, a1sw, n1sw, c1sw, rfl, hb, ho⟩
  have HL_w4 : Hid (Below w3.heap.size w3 w4) := hb
  have HB_w4 : Hid (Below w.heap.size w w4) := HB_w3.out.trans (HL_w4.out.mono HB_w3.out.size)
  have z_w4 : w3.heap.size ≤ w4.heap.size := HL_w4.out.size
  have Bx0_w4 : Hid (Bx w4 w.heap.size [.slice a0x0 n0x0 c0x0, .slice a1x0 n1x0 c1x0]) := Bx0_w3.out.later HL_w4.out
  have Dw_w4 : Hid (DiskU w4 (.slice a0sw n0sw c0sw) (.slice a1sw n1sw c1sw) d2 (fun b => w3.heap.size ≤ b ∧ b < w4.heap.size)) := ho
  clear Bx0_w3 Tx0_w3 Tx2_w3 HB_w3 HL_w4
  clear hb ho
  have qBx00 := Bx0_w4.out 0 _ rfl
  have qBx01 := Bx0_w4.out 1 _ rfl
  have tBx0 := Bx0_w4.out.lt
  go_wp2_with fail
  clear qBx00 qBx01 tBx0
  refine (toDiskU _ _ _ _ _ _ _ dx0 ((Hx0.out.later HB_w4.out).later (later1 _ _)) Sx0.out).mono ?_
  rintro e w5 ⟨a0x0p, n0x0p, c0x0p, a1x0p, n1x0p, c1x0p, rfl, hb, ho⟩
  have HL_w5 : Hid (Below w4.heap.size w4 w5) := (later1 _ _).trans (hb.mono (by simp))
  have HB_w5 : Hid (Below w.heap.size w w5) := HB_w4.out.trans (HL_w5.out.mono HB_w4.out.size)
  have z_w5 : w4.heap.size ≤ w5.heap.size := HL_w5.out.size
  have Bx0_w5 : Hid (Bx w5 w.heap.size [.slice a0x0 n0x0 c0x0, .slice a1x0 n1x0 c1x0]) := Bx0_w4.out.later HL_w5.out
  have Dw_w5 : Hid (DiskU w5 (.slice a0sw n0sw c0sw) (.slice a1sw n1sw c1sw) d2 (fun b => w3.heap.size ≤ b ∧ b < w4.heap.size)) := Dw_w4.out.later HL_w5.out
  have Bw_w5 : Hid (Bx w5 w4.heap.size [.int .i64 code, .slice a0sw n0sw c0sw, .slice a1sw n1sw c1sw]) := (Bx.new _ [.int .i64 code, .slice a0sw n0sw c0sw, .slice a1sw n1sw c1sw] _).later hb
  have y_Bw : w4.heap.size < w5.heap.size := Bw_w5.out.lt
  have Px0_w5 : Hid (DiskU w5 (.slice a0x0p n0x0p c0x0p) (.slice a1x0p n1x0p c1x0p) dx0 (fun b => w4.heap.size < b ∧ b < w5.heap.size)) := ho.mono fun b hb => ⟨by have := hb.1; simp at this; omega, hb.2⟩
  clear Bx0_w4 Dw_w4 HB_w4 HL_w5
  clear hb ho
  have qBx00 := Bx0_w5.out 0 _ rfl
  have qBx01 := Bx0_w5.out 1 _ rfl
  have tBx0 := Bx0_w5.out.lt
  have qBw0 := Bw_w5.out 0 _ rfl
  have qBw1 := Bw_w5.out 1 _ rfl
  have qBw2 := Bw_w5.out 2 _ rfl
  have tBw := Bw_w5.out.lt
  go_wp2_with fail
  clear qBx00 qBx01 tBx0 qBw0 qBw1 qBw2 tBw
  refine (toBoolsU ((Hx2.out.later HB_w5.out).later (later1 _ _)) Sx2.out).mono ?_
  rintro e w6 ⟨a0x2p, n0x2p, c0x2p, rfl, hb, ho⟩
  have HL_w6 : Hid (Below w5.heap.size w5 w6) := (later1 _ _).trans (hb.mono (by simp))
  have HB_w6 : Hid (Below w.heap.size w w6) := HB_w5.out.trans (HL_w6.out.mono HB_w5.out.size)
  have z_w6 : w5.heap.size ≤ w6.heap.size := HL_w6.out.size
  have Bx0_w6 : Hid (Bx w6 w.heap.size [.slice a0x0 n0x0 c0x0, .slice a1x0 n1x0 c1x0]) := Bx0_w5.out.later HL_w6.out
  have Dw_w6 : Hid (DiskU w6 (.slice a0sw n0sw c0sw) (.slice a1sw n1sw c1sw) d2 (fun b => w3.heap.size ≤ b ∧ b < w4.heap.size)) := Dw_w5.out.later HL_w6.out
  have Bw_w6 : Hid (Bx w6 w4.heap.size [.int .i64 code, .slice a0sw n0sw c0sw, .slice a1sw n1sw c1sw]) := Bw_w5.out.later HL_w6.out
  have Px0_w6 : Hid (DiskU w6 (.slice a0x0p n0x0p c0x0p) (.slice a1x0p n1x0p c1x0p) dx0 (fun b => w4.heap.size < b ∧ b < w5.heap.size)) := Px0_w5.out.later HL_w6.out
  have Xx0_w6 : Hid (Bx w6 w5.heap.size [.slice a0x0p n0x0p c0x0p, .slice a1x0p n1x0p c1x0p]) := (Bx.new _ [.slice a0x0p n0x0p c0x0p, .slice a1x0p n1x0p c1x0p] _).later hb
  have y_Xx0 : w5.heap.size < w6.heap.size := Xx0_w6.out.lt
  have Px2_w6 : Hid (BoolsO w6 (.slice a0x2p n0x2p c0x2p) dx2 (fun b => w5.heap.size < b ∧ b < w6.heap.size)) := ho.mono fun b hb => ⟨by have := hb.1; simp at this; omega, hb.2⟩
  clear Bx0_w5 Dw_w5 Bw_w5 Px0_w5 HB_w5 HL_w6
  clear hb ho
  have qBx00 := Bx0_w6.out 0 _ rfl
  have qBx01 := Bx0_w6.out 1 _ rfl
  have tBx0 := Bx0_w6.out.lt
  have qBw0 := Bw_w6.out 0 _ rfl
  have qBw1 := Bw_w6.out 1 _ rfl
  have qBw2 := Bw_w6.out 2 _ rfl
  have tBw := Bw_w6.out.lt
  have qXx00 := Xx0_w6.out 0 _ rfl
  have qXx01 := Xx0_w6.out 1 _ rfl
  have tXx0 := Xx0_w6.out.lt
  go_wp2_with fail
  clear qBx00 qBx01 tBx0 qBw0 qBw1 qBw2 tBw qXx00 qXx01 tXx0
  refine (implCrashMU _ _ _ _ _ _ _ dx0 x1 _ _ _ dx2 Px0_w6.out.reads Px2_w6.out.reads Sx0.out Sx2.out).mono ?_
  rw [HR.out]
  rintro e w7 ⟨a0sg, n0sg, c0sg, a1sg, n1sg, c1sg, rfl, hb, ho⟩
  have HL_w7 : Hid (Below w6.heap.size w6 w7) := hb
  have HB_w7 : Hid (Below w.heap.size w w7) := HB_w6.out.trans (HL_w7.out.mono HB_w6.out.size)
  have z_w7 : w6.heap.size ≤ w7.heap.size := HL_w7.out.size
  have Bx0_w7 : Hid (Bx w7 w.heap.size [.slice a0x0 n0x0 c0x0, .slice a1x0 n1x0 c1x0]) := Bx0_w6.out.later HL_w7.out
  have Dw_w7 : Hid (DiskU w7 (.slice a0sw n0sw c0sw) (.slice a1sw n1sw c1sw) d2 (fun b => w3.heap.size ≤ b ∧ b < w4.heap.size)) := Dw_w6.out.later HL_w7.out
  have Bw_w7 : Hid (Bx w7 w4.heap.size [.int .i64 code, .slice a0sw n0sw c0sw, .slice a1sw n1sw c1sw]) := Bw_w6.out.later HL_w7.out
  have Px0_w7 : Hid (DiskU w7 (.slice a0x0p n0x0p c0x0p) (.slice a1x0p n1x0p c1x0p) dx0 (fun b => w4.heap.size < b ∧ b < w5.heap.size)) := Px0_w6.out.later HL_w7.out
  have Xx0_w7 : Hid (Bx w7 w5.heap.size [.slice a0x0p n0x0p c0x0p, .slice a1x0p n1x0p c1x0p]) := Xx0_w6.out.later HL_w7.out
  have Px2_w7 : Hid (BoolsO w7 (.slice a0x2p n0x2p c0x2p) dx2 (fun b => w5.heap.size < b ∧ b < w6.heap.size)) := Px2_w6.out.later HL_w7.out
  have Dg_w7 : Hid (DiskU w7 (.slice a0sg n0sg c0sg) (.slice a1sg n1sg c1sg) d2 (fun b => w6.heap.size ≤ b ∧ b < w7.heap.size)) := ho
  clear Bx0_w6 Dw_w6 Bw_w6 Px0_w6 Xx0_w6 Px2_w6 HB_w6 HL_w7
  clear hb ho
  have qBx00 := Bx0_w7.out 0 _ rfl
  have qBx01 := Bx0_w7.out 1 _ rfl
  have tBx0 := Bx0_w7.out.lt
  have qBw0 := Bw_w7.out 0 _ rfl
  have qBw1 := Bw_w7.out 1 _ rfl
  have qBw2 := Bw_w7.out 2 _ rfl
  have tBw := Bw_w7.out.lt
  have qXx00 := Xx0_w7.out 0 _ rfl
  have qXx01 := Xx0_w7.out 1 _ rfl
  have tXx0 := Xx0_w7.out.lt
  go_wp2_with fail
  clear qBx00 qBx01 tBx0 qBw0 qBw1 qBw2 tBw qXx00 qXx01 tXx0
  refine (eqDiskResultU _ code _ _ _ _ d2 (Dg_w7.out.later (later1 _ _)).reads (Dw_w7.out.later (later1 _ _)).reads).mono ?_
  rintro e w8 ⟨rfl, hb⟩
  have HL_w8 : Hid (Below w7.heap.size w7 w8) := (later1 _ _).trans (hb.mono (by simp))
  have HB_w8 : Hid (Below w.heap.size w w8) := HB_w7.out.trans (HL_w8.out.mono HB_w7.out.size)
  have z_w8 : w7.heap.size ≤ w8.heap.size := HL_w8.out.size
  have Bx0_w8 : Hid (Bx w8 w.heap.size [.slice a0x0 n0x0 c0x0, .slice a1x0 n1x0 c1x0]) := Bx0_w7.out.later HL_w8.out
  have Dw_w8 : Hid (DiskU w8 (.slice a0sw n0sw c0sw) (.slice a1sw n1sw c1sw) d2 (fun b => w3.heap.size ≤ b ∧ b < w4.heap.size)) := Dw_w7.out.later HL_w8.out
  have Bw_w8 : Hid (Bx w8 w4.heap.size [.int .i64 code, .slice a0sw n0sw c0sw, .slice a1sw n1sw c1sw]) := Bw_w7.out.later HL_w8.out
  have Px0_w8 : Hid (DiskU w8 (.slice a0x0p n0x0p c0x0p) (.slice a1x0p n1x0p c1x0p) dx0 (fun b => w4.heap.size < b ∧ b < w5.heap.size)) := Px0_w7.out.later HL_w8.out
  have Xx0_w8 : Hid (Bx w8 w5.heap.size [.slice a0x0p n0x0p c0x0p, .slice a1x0p n1x0p c1x0p]) := Xx0_w7.out.later HL_w8.out
  have Px2_w8 : Hid (BoolsO w8 (.slice a0x2p n0x2p c0x2p) dx2 (fun b => w5.heap.size < b ∧ b < w6.heap.size)) := Px2_w7.out.later HL_w8.out
  have Dg_w8 : Hid (DiskU w8 (.slice a0sg n0sg c0sg) (.slice a1sg n1sg c1sg) d2 (fun b => w6.heap.size ≤ b ∧ b < w7.heap.size)) := Dg_w7.out.later HL_w8.out
  have Bg_w8 : Hid (Bx w8 w7.heap.size [.int .i64 code, .slice a0sg n0sg c0sg, .slice a1sg n1sg c1sg]) := (Bx.new _ [.int .i64 code, .slice a0sg n0sg c0sg, .slice a1sg n1sg c1sg] _).later hb
  have y_Bg : w7.heap.size < w8.heap.size := Bg_w8.out.lt
  clear Bx0_w7 Dw_w7 Bw_w7 Px0_w7 Xx0_w7 Px2_w7 Dg_w7 HB_w7 HL_w8
  clear hb
  have qBx00 := Bx0_w8.out 0 _ rfl
  have qBx01 := Bx0_w8.out 1 _ rfl
  have tBx0 := Bx0_w8.out.lt
  have qBw0 := Bw_w8.out 0 _ rfl
  have qBw1 := Bw_w8.out 1 _ rfl
  have qBw2 := Bw_w8.out 2 _ rfl
  have tBw := Bw_w8.out.lt
  have qXx00 := Xx0_w8.out 0 _ rfl
  have qXx01 := Xx0_w8.out 1 _ rfl
  have tXx0 := Xx0_w8.out.lt
  have qBg0 := Bg_w8.out 0 _ rfl
  have qBg1 := Bg_w8.out 1 _ rfl
  have qBg2 := Bg_w8.out 2 _ rfl
  have tBg := Bg_w8.out.lt
  go_wp2_with fail
  go_region_with (first
    | (go_at_call 6; refine (toDiskU _ _ _ _ _ _ _ dx0 ?_ Sx0.out).mono ?_; exact Hx0.out.later HB_w8.out.drew; rintro e w9 ⟨a0x0q, n0x0q, c0x0q, a1x0q, n1x0q, c1x0q, rfl, hb, ho⟩; have y0 := cell_later hb qXx00; have y1 := cell_later hb qXx01; have HL : Hid (Below w8.heap.size w8 w9) := (Below.refl _ _).drew.trans hb; have HO : Hid (DiskR w9 (.slice a0x0q n0x0q c0x0q) (.slice a1x0q n1x0q c1x0q) dx0) := ho.reads; clear hb ho)
    | (go_at_call 10; refine (eqDiskU _ _ _ _ _ dx0 ?_ ?_).mono ?_; exact Px0_w8.out.reads.later HL.out; exact HO.out; rintro e w10 ⟨rfl, hb⟩; have HL2 : Hid (Below w9.heap.size w9 w10) := hb; clear hb))
  all_goals
    have hb : Below w8.heap.size w8 w10 := HL.out.trans (HL2.out.mono HL.out.size)
    clear qBx00 qBx01 tBx0 qBw0 qBw1 qBw2 tBw qXx00 qXx01 tXx0 qBg0 qBg1 qBg2 tBg HL HL2 HO y0 y1
    have HL_w10 : Hid (Below w8.heap.size w8 w10) := hb
    have HB_w10 : Hid (Below w.heap.size w w10) := HB_w8.out.trans (HL_w10.out.mono HB_w8.out.size)
    have z_w10 : w8.heap.size ≤ w10.heap.size := HL_w10.out.size
    have Bx0_w10 : Hid (Bx w10 w.heap.size [.slice a0x0 n0x0 c0x0, .slice a1x0 n1x0 c1x0]) := Bx0_w8.out.later HL_w10.out
    have Dw_w10 : Hid (DiskU w10 (.slice a0sw n0sw c0sw) (.slice a1sw n1sw c1sw) d2 (fun b => w3.heap.size ≤ b ∧ b < w4.heap.size)) := Dw_w8.out.later HL_w10.out
    have Bw_w10 : Hid (Bx w10 w4.heap.size [.int .i64 code, .slice a0sw n0sw c0sw, .slice a1sw n1sw c1sw]) := Bw_w8.out.later HL_w10.out
    have Px0_w10 : Hid (DiskU w10 (.slice a0x0p n0x0p c0x0p) (.slice a1x0p n1x0p c1x0p) dx0 (fun b => w4.heap.size < b ∧ b < w5.heap.size)) := Px0_w8.out.later HL_w10.out
    have Xx0_w10 : Hid (Bx w10 w5.heap.size [.slice a0x0p n0x0p c0x0p, .slice a1x0p n1x0p c1x0p]) := Xx0_w8.out.later HL_w10.out
    have Px2_w10 : Hid (BoolsO w10 (.slice a0x2p n0x2p c0x2p) dx2 (fun b => w5.heap.size < b ∧ b < w6.heap.size)) := Px2_w8.out.later HL_w10.out
    have Dg_w10 : Hid (DiskU w10 (.slice a0sg n0sg c0sg) (.slice a1sg n1sg c1sg) d2 (fun b => w6.heap.size ≤ b ∧ b < w7.heap.size)) := Dg_w8.out.later HL_w10.out
    have Bg_w10 : Hid (Bx w10 w7.heap.size [.int .i64 code, .slice a0sg n0sg c0sg, .slice a1sg n1sg c1sg]) := Bg_w8.out.later HL_w10.out
    clear Bx0_w8 Dw_w8 Bw_w8 Px0_w8 Xx0_w8 Px2_w8 Dg_w8 Bg_w8 HB_w8 HL_w10
    clear hb
    have qBx00 := Bx0_w10.out 0 _ rfl
    have qBx01 := Bx0_w10.out 1 _ rfl
    have tBx0 := Bx0_w10.out.lt
    have qBw0 := Bw_w10.out 0 _ rfl
    have qBw1 := Bw_w10.out 1 _ rfl
    have qBw2 := Bw_w10.out 2 _ rfl
    have tBw := Bw_w10.out.lt
    have qXx00 := Xx0_w10.out 0 _ rfl
    have qXx01 := Xx0_w10.out 1 _ rfl
    have tXx0 := Xx0_w10.out.lt
    have qBg0 := Bg_w10.out 0 _ rfl
    have qBg1 := Bg_w10.out 1 _ rfl
    have qBg2 := Bg_w10.out 2 _ rfl
    have tBg := Bg_w10.out.lt
    go_wp2_with fail
    clear qBx00 qBx01 tBx0 qBw0 qBw1 qBw2 tBw qXx00 qXx01 tXx0 qBg0 qBg1 qBg2 tBg
    refine (toBoolsU (Hx2.out.later HB_w10.out) Sx2.out).mono ?_
    rintro e w11 ⟨a0x2q, n0x2q, c0x2q, rfl, hb, ho⟩
    have HL_w11 : Hid (Below w10.heap.size w10 w11) := hb
    have HB_w11 : Hid (Below w.heap.size w w11) := HB_w10.out.trans (HL_w11.out.mono HB_w10.out.size)
    have z_w11 : w10.heap.size ≤ w11.heap.size := HL_w11.out.size
    have Bx0_w11 : Hid (Bx w11 w.heap.size [.slice a0x0 n0x0 c0x0, .slice a1x0 n1x0 c1x0]) := Bx0_w10.out.later HL_w11.out
    have Dw_w11 : Hid (DiskU w11 (.slice a0sw n0sw c0sw) (.slice a1sw n1sw c1sw) d2 (fun b => w3.heap.size ≤ b ∧ b < w4.heap.size)) := Dw_w10.out.later HL_w11.out
    have Bw_w11 : Hid (Bx w11 w4.heap.size [.int .i64 code, .slice a0sw n0sw c0sw, .slice a1sw n1sw c1sw]) := Bw_w10.out.later HL_w11.out
    have Px0_w11 : Hid (DiskU w11 (.slice a0x0p n0x0p c0x0p) (.slice a1x0p n1x0p c1x0p) dx0 (fun b => w4.heap.size < b ∧ b < w5.heap.size)) := Px0_w10.out.later HL_w11.out
    have Xx0_w11 : Hid (Bx w11 w5.heap.size [.slice a0x0p n0x0p c0x0p, .slice a1x0p n1x0p c1x0p]) := Xx0_w10.out.later HL_w11.out
    have Px2_w11 : Hid (BoolsO w11 (.slice a0x2p n0x2p c0x2p) dx2 (fun b => w5.heap.size < b ∧ b < w6.heap.size)) := Px2_w10.out.later HL_w11.out
    have Dg_w11 : Hid (DiskU w11 (.slice a0sg n0sg c0sg) (.slice a1sg n1sg c1sg) d2 (fun b => w6.heap.size ≤ b ∧ b < w7.heap.size)) := Dg_w10.out.later HL_w11.out
    have Bg_w11 : Hid (Bx w11 w7.heap.size [.int .i64 code, .slice a0sg n0sg c0sg, .slice a1sg n1sg c1sg]) := Bg_w10.out.later HL_w11.out
    have Qx2_w11 : Hid (BoolsO w11 (.slice a0x2q n0x2q c0x2q) dx2 (fun b => w10.heap.size ≤ b ∧ b < w11.heap.size)) := ho
    clear Bx0_w10 Dw_w10 Bw_w10 Px0_w10 Xx0_w10 Px2_w10 Dg_w10 Bg_w10 HB_w10 HL_w11
    clear hb ho
    have qBx00 := Bx0_w11.out 0 _ rfl
    have qBx01 := Bx0_w11.out 1 _ rfl
    have tBx0 := Bx0_w11.out.lt
    have qBw0 := Bw_w11.out 0 _ rfl
    have qBw1 := Bw_w11.out 1 _ rfl
    have qBw2 := Bw_w11.out 2 _ rfl
    have tBw := Bw_w11.out.lt
    have qXx00 := Xx0_w11.out 0 _ rfl
    have qXx01 := Xx0_w11.out 1 _ rfl
    have tXx0 := Xx0_w11.out.lt
    have qBg0 := Bg_w11.out 0 _ rfl
    have qBg1 := Bg_w11.out 1 _ rfl
    have qBg2 := Bg_w11.out 2 _ rfl
    have tBg := Bg_w11.out.lt
    go_wp2_with fail
    clear qBx00 qBx01 tBx0 qBw0 qBw1 qBw2 tBw qXx00 qXx01 tXx0 qBg0 qBg1 qBg2 tBg
    refine (eqBoolsU Px2_w11.out.reads Qx2_w11.out.reads).mono ?_
    rintro e w12 ⟨rfl, hb⟩
    have HL_w12 : Hid (Below w11.heap.size w11 w12) := hb
    have HB_w12 : Hid (Below w.heap.size w w12) := HB_w11.out.trans (HL_w12.out.mono HB_w11.out.size)
    have z_w12 : w11.heap.size ≤ w12.heap.size := HL_w12.out.size
    have Bx0_w12 : Hid (Bx w12 w.heap.size [.slice a0x0 n0x0 c0x0, .slice a1x0 n1x0 c1x0]) := Bx0_w11.out.later HL_w12.out
    have Dw_w12 : Hid (DiskU w12 (.slice a0sw n0sw c0sw) (.slice a1sw n1sw c1sw) d2 (fun b => w3.heap.size ≤ b ∧ b < w4.heap.size)) := Dw_w11.out.later HL_w12.out
    have Bw_w12 : Hid (Bx w12 w4.heap.size [.int .i64 code, .slice a0sw n0sw c0sw, .slice a1sw n1sw c1sw]) := Bw_w11.out.later HL_w12.out
    have Px0_w12 : Hid (DiskU w12 (.slice a0x0p n0x0p c0x0p) (.slice a1x0p n1x0p c1x0p) dx0 (fun b => w4.heap.size < b ∧ b < w5.heap.size)) := Px0_w11.out.later HL_w12.out
    have Xx0_w12 : Hid (Bx w12 w5.heap.size [.slice a0x0p n0x0p c0x0p, .slice a1x0p n1x0p c1x0p]) := Xx0_w11.out.later HL_w12.out
    have Px2_w12 : Hid (BoolsO w12 (.slice a0x2p n0x2p c0x2p) dx2 (fun b => w5.heap.size < b ∧ b < w6.heap.size)) := Px2_w11.out.later HL_w12.out
    have Dg_w12 : Hid (DiskU w12 (.slice a0sg n0sg c0sg) (.slice a1sg n1sg c1sg) d2 (fun b => w6.heap.size ≤ b ∧ b < w7.heap.size)) := Dg_w11.out.later HL_w12.out
    have Bg_w12 : Hid (Bx w12 w7.heap.size [.int .i64 code, .slice a0sg n0sg c0sg, .slice a1sg n1sg c1sg]) := Bg_w11.out.later HL_w12.out
    clear Bx0_w11 Dw_w11 Bw_w11 Px0_w11 Xx0_w11 Px2_w11 Dg_w11 Bg_w11 Qx2_w11 HB_w11 HL_w12
    clear hb
    have qBx00 := Bx0_w12.out 0 _ rfl
    have qBx01 := Bx0_w12.out 1 _ rfl
    have tBx0 := Bx0_w12.out.lt
    have qBw0 := Bw_w12.out 0 _ rfl
    have qBw1 := Bw_w12.out 1 _ rfl
    have qBw2 := Bw_w12.out 2 _ rfl
    have tBw := Bw_w12.out.lt
    have qXx00 := Xx0_w12.out 0 _ rfl
    have qXx01 := Xx0_w12.out 1 _ rfl
    have tXx0 := Xx0_w12.out.lt
    have qBg0 := Bg_w12.out 0 _ rfl
    have qBg1 := Bg_w12.out 1 _ rfl
    have qBg2 := Bg_w12.out 2 _ rfl
    have tBg := Bg_w12.out.lt
    go_wp2_with fail
    clear qBx00 qBx01 tBx0 qBw0 qBw1 qBw2 tBw qXx00 qXx01 tXx0 qBg0 qBg1 qBg2 tBg
    refine (markDiskU _ _ _ dx0 _ _ Px0_w12.out (by omega) (by omega)).mono ?_
    rintro e w13 ⟨rfl, hc⟩
    have HB_w13 : Hid (Below w.heap.size w w13) := HB_w12.out.trans (hc.below HB_w12.out.size (fun b h => by have := HB_w12.out.size; omega))
    have z_w13 : w12.heap.size ≤ w13.heap.size := hc.size
    have Bx0_w13 : Hid (Bx w13 w.heap.size [.slice a0x0 n0x0 c0x0, .slice a1x0 n1x0 c1x0]) := Bx0_w12.out.chg hc (by omega)
    have Dw_w13 : Hid (DiskU w13 (.slice a0sw n0sw c0sw) (.slice a1sw n1sw c1sw) d2 (fun b => w3.heap.size ≤ b ∧ b < w4.heap.size)) := Dw_w12.out.chg hc (fun b h h' => by omega)
    have Bw_w13 : Hid (Bx w13 w4.heap.size [.int .i64 code, .slice a0sw n0sw c0sw, .slice a1sw n1sw c1sw]) := Bw_w12.out.chg hc (by omega)
    have Xx0_w13 : Hid (Bx w13 w5.heap.size [.slice a0x0p n0x0p c0x0p, .slice a1x0p n1x0p c1x0p]) := Xx0_w12.out.chg hc (by omega)
    have Px2_w13 : Hid (BoolsO w13 (.slice a0x2p n0x2p c0x2p) dx2 (fun b => w5.heap.size < b ∧ b < w6.heap.size)) := Px2_w12.out.chg hc (fun b h h' => by omega)
    have Dg_w13 : Hid (DiskU w13 (.slice a0sg n0sg c0sg) (.slice a1sg n1sg c1sg) d2 (fun b => w6.heap.size ≤ b ∧ b < w7.heap.size)) := Dg_w12.out.chg hc (fun b h h' => by omega)
    have Bg_w13 : Hid (Bx w13 w7.heap.size [.int .i64 code, .slice a0sg n0sg c0sg, .slice a1sg n1sg c1sg]) := Bg_w12.out.chg hc (by omega)
    clear HB_w12 Bx0_w12 Dw_w12 Bw_w12 Px0_w12 Xx0_w12 Px2_w12 Dg_w12 Bg_w12
    clear hc
    have qBx00 := Bx0_w13.out 0 _ rfl
    have qBx01 := Bx0_w13.out 1 _ rfl
    have tBx0 := Bx0_w13.out.lt
    have qBw0 := Bw_w13.out 0 _ rfl
    have qBw1 := Bw_w13.out 1 _ rfl
    have qBw2 := Bw_w13.out 2 _ rfl
    have tBw := Bw_w13.out.lt
    have qXx00 := Xx0_w13.out 0 _ rfl
    have qXx01 := Xx0_w13.out 1 _ rfl
    have tXx0 := Xx0_w13.out.lt
    have qBg0 := Bg_w13.out 0 _ rfl
    have qBg1 := Bg_w13.out 1 _ rfl
    have qBg2 := Bg_w13.out 2 _ rfl
    have tBg := Bg_w13.out.lt
    go_wp2_with fail
    clear qBx00 qBx01 tBx0 qBw0 qBw1 qBw2 tBw qXx00 qXx01 tXx0 qBg0 qBg1 qBg2 tBg
    refine (markBoolsU _ Px2_w13.out (by omega) (by omega)).mono ?_
    rintro e w14 ⟨rfl, hc⟩
    have HB_w14 : Hid (Below w.heap.size w w14) := HB_w13.out.trans (hc.below HB_w13.out.size (fun b h => by have := HB_w13.out.size; omega))
    have z_w14 : w13.heap.size ≤ w14.heap.size := hc.size
    have Bx0_w14 : Hid (Bx w14 w.heap.size [.slice a0x0 n0x0 c0x0, .slice a1x0 n1x0 c1x0]) := Bx0_w13.out.chg hc (by omega)
    have Dw_w14 : Hid (DiskU w14 (.slice a0sw n0sw c0sw) (.slice a1sw n1sw c1sw) d2 (fun b => w3.heap.size ≤ b ∧ b < w4.heap.size)) := Dw_w13.out.chg hc (fun b h h' => by omega)
    have Bw_w14 : Hid (Bx w14 w4.heap.size [.int .i64 code, .slice a0sw n0sw c0sw, .slice a1sw n1sw c1sw]) := Bw_w13.out.chg hc (by omega)
    have Xx0_w14 : Hid (Bx w14 w5.heap.size [.slice a0x0p n0x0p c0x0p, .slice a1x0p n1x0p c1x0p]) := Xx0_w13.out.chg hc (by omega)
    have Dg_w14 : Hid (DiskU w14 (.slice a0sg n0sg c0sg) (.slice a1sg n1sg c1sg) d2 (fun b => w6.heap.size ≤ b ∧ b < w7.heap.size)) := Dg_w13.out.chg hc (fun b h h' => by omega)
    have Bg_w14 : Hid (Bx w14 w7.heap.size [.int .i64 code, .slice a0sg n0sg c0sg, .slice a1sg n1sg c1sg]) := Bg_w13.out.chg hc (by omega)
    clear HB_w13 Bx0_w13 Dw_w13 Bw_w13 Xx0_w13 Px2_w13 Dg_w13 Bg_w13
    clear hc
    have hk : decide ((1 + (spanDisk dx0 : Nat) + (List.length dx2 : Nat) : Int) < 0) = false := by simp; omega
    have qBx00 := Bx0_w14.out 0 _ rfl
    have qBx01 := Bx0_w14.out 1 _ rfl
    have tBx0 := Bx0_w14.out.lt
    have qBw0 := Bw_w14.out 0 _ rfl
    have qBw1 := Bw_w14.out 1 _ rfl
    have qBw2 := Bw_w14.out 2 _ rfl
    have tBw := Bw_w14.out.lt
    have qXx00 := Xx0_w14.out 0 _ rfl
    have qXx01 := Xx0_w14.out 1 _ rfl
    have tXx0 := Xx0_w14.out.lt
    have qBg0 := Bg_w14.out 0 _ rfl
    have qBg1 := Bg_w14.out 1 _ rfl
    have qBg2 := Bg_w14.out 2 _ rfl
    have tBg := Bg_w14.out.lt
    go_wp2_with fail
    clear qBx00 qBx01 tBx0 qBw0 qBw1 qBw2 tBw qXx00 qXx01 tXx0 qBg0 qBg1 qBg2 tBg
    refine (eqDiskResultU _ code _ _ _ _ d2 Dg_w14.out.reads Dw_w14.out.reads).mono ?_
    rintro e w15 ⟨rfl, hb⟩
    have HL_w15 : Hid (Below w14.heap.size w14 w15) := hb
    have HB_w15 : Hid (Below w.heap.size w w15) := HB_w14.out.trans (HL_w15.out.mono HB_w14.out.size)
    have z_w15 : w14.heap.size ≤ w15.heap.size := HL_w15.out.size
    have Bx0_w15 : Hid (Bx w15 w.heap.size [.slice a0x0 n0x0 c0x0, .slice a1x0 n1x0 c1x0]) := Bx0_w14.out.later HL_w15.out
    have Dw_w15 : Hid (DiskU w15 (.slice a0sw n0sw c0sw) (.slice a1sw n1sw c1sw) d2 (fun b => w3.heap.size ≤ b ∧ b < w4.heap.size)) := Dw_w14.out.later HL_w15.out
    have Bw_w15 : Hid (Bx w15 w4.heap.size [.int .i64 code, .slice a0sw n0sw c0sw, .slice a1sw n1sw c1sw]) := Bw_w14.out.later HL_w15.out
    have Xx0_w15 : Hid (Bx w15 w5.heap.size [.slice a0x0p n0x0p c0x0p, .slice a1x0p n1x0p c1x0p]) := Xx0_w14.out.later HL_w15.out
    have Dg_w15 : Hid (DiskU w15 (.slice a0sg n0sg c0sg) (.slice a1sg n1sg c1sg) d2 (fun b => w6.heap.size ≤ b ∧ b < w7.heap.size)) := Dg_w14.out.later HL_w15.out
    have Bg_w15 : Hid (Bx w15 w7.heap.size [.int .i64 code, .slice a0sg n0sg c0sg, .slice a1sg n1sg c1sg]) := Bg_w14.out.later HL_w15.out
    clear Bx0_w14 Dw_w14 Bw_w14 Xx0_w14 Dg_w14 Bg_w14 HB_w14 HL_w15
    clear hb
    have qBx00 := Bx0_w15.out 0 _ rfl
    have qBx01 := Bx0_w15.out 1 _ rfl
    have tBx0 := Bx0_w15.out.lt
    have qBw0 := Bw_w15.out 0 _ rfl
    have qBw1 := Bw_w15.out 1 _ rfl
    have qBw2 := Bw_w15.out 2 _ rfl
    have tBw := Bw_w15.out.lt
    have qXx00 := Xx0_w15.out 0 _ rfl
    have qXx01 := Xx0_w15.out 1 _ rfl
    have tXx0 := Xx0_w15.out.lt
    have qBg0 := Bg_w15.out 0 _ rfl
    have qBg1 := Bg_w15.out 1 _ rfl
    have qBg2 := Bg_w15.out 2 _ rfl
    have tBg := Bg_w15.out.lt
    go_wp2_with fail
    clear qBx00 qBx01 tBx0 qBw0 qBw1 qBw2 tBw qXx00 qXx01 tXx0 qBg0 qBg1 qBg2 tBg
    refine (markDiskResultU _ code _ _ d2 _ 1 Dg_w15.out (by omega) (by omega)).mono ?_
    rintro e w16 ⟨rfl, hm, hc⟩
    have HB_w16 : Hid (Below w.heap.size w w16) := HB_w15.out.trans (hc.below HB_w15.out.size (fun b h => by have := HB_w15.out.size; omega))
    have z_w16 : w15.heap.size ≤ w16.heap.size := hc.size
    have Bx0_w16 : Hid (Bx w16 w.heap.size [.slice a0x0 n0x0 c0x0, .slice a1x0 n1x0 c1x0]) := Bx0_w15.out.chg hc (by omega)
    have Dw_w16 : Hid (DiskU w16 (.slice a0sw n0sw c0sw) (.slice a1sw n1sw c1sw) d2 (fun b => w3.heap.size ≤ b ∧ b < w4.heap.size)) := Dw_w15.out.chg hc (fun b h h' => by omega)
    have Bw_w16 : Hid (Bx w16 w4.heap.size [.int .i64 code, .slice a0sw n0sw c0sw, .slice a1sw n1sw c1sw]) := Bw_w15.out.chg hc (by omega)
    have Xx0_w16 : Hid (Bx w16 w5.heap.size [.slice a0x0p n0x0p c0x0p, .slice a1x0p n1x0p c1x0p]) := Xx0_w15.out.chg hc (by omega)
    have Bg_w16 : Hid (Bx w16 w7.heap.size [.int .i64 code, .slice a0sg n0sg c0sg, .slice a1sg n1sg c1sg]) := Bg_w15.out.chg hc (by omega)
    have Dm_w16 : Hid (DiskU w16 (.slice a0sg n0sg c0sg) (.slice a1sg n1sg c1sg) (mkDisk 1 d2) (fun b => w6.heap.size ≤ b ∧ b < w7.heap.size)) := hm
    clear HB_w15 Bx0_w15 Dw_w15 Bw_w15 Xx0_w15 Dg_w15 Bg_w15
    clear hm hc
    generalize hK : (1 : Int) + (spanDisk d2 : Nat) = K at *
    have hKK : (K != K) = false := by simp
    have hK0 : ¬ K < 0 := by omega
    have hK1 : K ≤ 4611686018427387904 := by omega
    have HK : Hid ((1 : Int) + (spanDisk d2 : Nat) = K) := hK
    clear hK
    have qBx00 := Bx0_w16.out 0 _ rfl
    have qBx01 := Bx0_w16.out 1 _ rfl
    have tBx0 := Bx0_w16.out.lt
    have qBw0 := Bw_w16.out 0 _ rfl
    have qBw1 := Bw_w16.out 1 _ rfl
    have qBw2 := Bw_w16.out 2 _ rfl
    have tBw := Bw_w16.out.lt
    have qXx00 := Xx0_w16.out 0 _ rfl
    have qXx01 := Xx0_w16.out 1 _ rfl
    have tXx0 := Xx0_w16.out.lt
    have qBg0 := Bg_w16.out 0 _ rfl
    have qBg1 := Bg_w16.out 1 _ rfl
    have qBg2 := Bg_w16.out 2 _ rfl
    have tBg := Bg_w16.out.lt
    go_wp2_with fail
    clear qBx00 qBx01 tBx0 qBw0 qBw1 qBw2 tBw qXx00 qXx01 tXx0 qBg0 qBg1 qBg2 tBg
    refine (heldDiskResultU _ code _ _ d2 _ 1 Dm_w16.out (by omega) (by rw [HK.out]; exact hK1)).mono ?_
    rw [HK.out]
    rintro e w17 ⟨rfl, hb⟩
    have HL_w17 : Hid (Below w16.heap.size w16 w17) := hb
    have HB_w17 : Hid (Below w.heap.size w w17) := HB_w16.out.trans (HL_w17.out.mono HB_w16.out.size)
    have z_w17 : w16.heap.size ≤ w17.heap.size := HL_w17.out.size
    have Bx0_w17 : Hid (Bx w17 w.heap.size [.slice a0x0 n0x0 c0x0, .slice a1x0 n1x0 c1x0]) := Bx0_w16.out.later HL_w17.out
    have Dw_w17 : Hid (DiskU w17 (.slice a0sw n0sw c0sw) (.slice a1sw n1sw c1sw) d2 (fun b => w3.heap.size ≤ b ∧ b < w4.heap.size)) := Dw_w16.out.later HL_w17.out
    have Bw_w17 : Hid (Bx w17 w4.heap.size [.int .i64 code, .slice a0sw n0sw c0sw, .slice a1sw n1sw c1sw]) := Bw_w16.out.later HL_w17.out
    have Xx0_w17 : Hid (Bx w17 w5.heap.size [.slice a0x0p n0x0p c0x0p, .slice a1x0p n1x0p c1x0p]) := Xx0_w16.out.later HL_w17.out
    have Bg_w17 : Hid (Bx w17 w7.heap.size [.int .i64 code, .slice a0sg n0sg c0sg, .slice a1sg n1sg c1sg]) := Bg_w16.out.later HL_w17.out
    have Dm_w17 : Hid (DiskU w17 (.slice a0sg n0sg c0sg) (.slice a1sg n1sg c1sg) (mkDisk 1 d2) (fun b => w6.heap.size ≤ b ∧ b < w7.heap.size)) := Dm_w16.out.later HL_w17.out
    clear Bx0_w16 Dw_w16 Bw_w16 Xx0_w16 Bg_w16 Dm_w16 HB_w16 HL_w17
    clear hb
    have qBx00 := Bx0_w17.out 0 _ rfl
    have qBx01 := Bx0_w17.out 1 _ rfl
    have tBx0 := Bx0_w17.out.lt
    have qBw0 := Bw_w17.out 0 _ rfl
    have qBw1 := Bw_w17.out 1 _ rfl
    have qBw2 := Bw_w17.out 2 _ rfl
    have tBw := Bw_w17.out.lt
    have qXx00 := Xx0_w17.out 0 _ rfl
    have qXx01 := Xx0_w17.out 1 _ rfl
    have tXx0 := Xx0_w17.out.lt
    have qBg0 := Bg_w17.out 0 _ rfl
    have qBg1 := Bg_w17.out 1 _ rfl
    have qBg2 := Bg_w17.out 2 _ rfl
    have tBg := Bg_w17.out.lt
    go_wp2_with fail
    clear qBx00 qBx01 tBx0 qBw0 qBw1 qBw2 tBw qXx00 qXx01 tXx0 qBg0 qBg1 qBg2 tBg
    refine (toDiskU _ _ _ _ _ _ _ dx0 (Hx0.out.later HB_w17.out) Sx0.out).mono ?_
    rintro e w18 ⟨a0x0h, n0x0h, c0x0h, a1x0h, n1x0h, c1x0h, rfl, hb, ho⟩
    have HL_w18 : Hid (Below w17.heap.size w17 w18) := hb
    have HB_w18 : Hid (Below w.heap.size w w18) := HB_w17.out.trans (HL_w18.out.mono HB_w17.out.size)
    have z_w18 : w17.heap.size ≤ w18.heap.size := HL_w18.out.size
    have Bx0_w18 : Hid (Bx w18 w.heap.size [.slice a0x0 n0x0 c0x0, .slice a1x0 n1x0 c1x0]) := Bx0_w17.out.later HL_w18.out
    have Dw_w18 : Hid (DiskU w18 (.slice a0sw n0sw c0sw) (.slice a1sw n1sw c1sw) d2 (fun b => w3.heap.size ≤ b ∧ b < w4.heap.size)) := Dw_w17.out.later HL_w18.out
    have Bw_w18 : Hid (Bx w18 w4.heap.size [.int .i64 code, .slice a0sw n0sw c0sw, .slice a1sw n1sw c1sw]) := Bw_w17.out.later HL_w18.out
    have Xx0_w18 : Hid (Bx w18 w5.heap.size [.slice a0x0p n0x0p c0x0p, .slice a1x0p n1x0p c1x0p]) := Xx0_w17.out.later HL_w18.out
    have Bg_w18 : Hid (Bx w18 w7.heap.size [.int .i64 code, .slice a0sg n0sg c0sg, .slice a1sg n1sg c1sg]) := Bg_w17.out.later HL_w18.out
    have Dm_w18 : Hid (DiskU w18 (.slice a0sg n0sg c0sg) (.slice a1sg n1sg c1sg) (mkDisk 1 d2) (fun b => w6.heap.size ≤ b ∧ b < w7.heap.size)) := Dm_w17.out.later HL_w18.out
    have Vx0_w18 : Hid (DiskU w18 (.slice a0x0h n0x0h c0x0h) (.slice a1x0h n1x0h c1x0h) dx0 (fun b => w17.heap.size ≤ b ∧ b < w18.heap.size)) := ho
    clear Bx0_w17 Dw_w17 Bw_w17 Xx0_w17 Bg_w17 Dm_w17 HB_w17 HL_w18
    clear hb ho
    have qBx00 := Bx0_w18.out 0 _ rfl
    have qBx01 := Bx0_w18.out 1 _ rfl
    have tBx0 := Bx0_w18.out.lt
    have qBw0 := Bw_w18.out 0 _ rfl
    have qBw1 := Bw_w18.out 1 _ rfl
    have qBw2 := Bw_w18.out 2 _ rfl
    have tBw := Bw_w18.out.lt
    have qXx00 := Xx0_w18.out 0 _ rfl
    have qXx01 := Xx0_w18.out 1 _ rfl
    have tXx0 := Xx0_w18.out.lt
    have qBg0 := Bg_w18.out 0 _ rfl
    have qBg1 := Bg_w18.out 1 _ rfl
    have qBg2 := Bg_w18.out 2 _ rfl
    have tBg := Bg_w18.out.lt
    go_wp2_with fail
    clear qBx00 qBx01 tBx0 qBw0 qBw1 qBw2 tBw qXx00 qXx01 tXx0 qBg0 qBg1 qBg2 tBg
    refine (toBoolsU (Hx2.out.later HB_w18.out) Sx2.out).mono ?_
    rintro e w19 ⟨a0x2h, n0x2h, c0x2h, rfl, hb, ho⟩
    have HL_w19 : Hid (Below w18.heap.size w18 w19) := hb
    have HB_w19 : Hid (Below w.heap.size w w19) := HB_w18.out.trans (HL_w19.out.mono HB_w18.out.size)
    have z_w19 : w18.heap.size ≤ w19.heap.size := HL_w19.out.size
    have Bx0_w19 : Hid (Bx w19 w.heap.size [.slice a0x0 n0x0 c0x0, .slice a1x0 n1x0 c1x0]) := Bx0_w18.out.later HL_w19.out
    have Dw_w19 : Hid (DiskU w19 (.slice a0sw n0sw c0sw) (.slice a1sw n1sw c1sw) d2 (fun b => w3.heap.size ≤ b ∧ b < w4.heap.size)) := Dw_w18.out.later HL_w19.out
    have Bw_w19 : Hid (Bx w19 w4.heap.size [.int .i64 code, .slice a0sw n0sw c0sw, .slice a1sw n1sw c1sw]) := Bw_w18.out.later HL_w19.out
    have Xx0_w19 : Hid (Bx w19 w5.heap.size [.slice a0x0p n0x0p c0x0p, .slice a1x0p n1x0p c1x0p]) := Xx0_w18.out.later HL_w19.out
    have Bg_w19 : Hid (Bx w19 w7.heap.size [.int .i64 code, .slice a0sg n0sg c0sg, .slice a1sg n1sg c1sg]) := Bg_w18.out.later HL_w19.out
    have Dm_w19 : Hid (DiskU w19 (.slice a0sg n0sg c0sg) (.slice a1sg n1sg c1sg) (mkDisk 1 d2) (fun b => w6.heap.size ≤ b ∧ b < w7.heap.size)) := Dm_w18.out.later HL_w19.out
    have Vx0_w19 : Hid (DiskU w19 (.slice a0x0h n0x0h c0x0h) (.slice a1x0h n1x0h c1x0h) dx0 (fun b => w17.heap.size ≤ b ∧ b < w18.heap.size)) := Vx0_w18.out.later HL_w19.out
    have Vx2_w19 : Hid (BoolsO w19 (.slice a0x2h n0x2h c0x2h) dx2 (fun b => w18.heap.size ≤ b ∧ b < w19.heap.size)) := ho
    clear Bx0_w18 Dw_w18 Bw_w18 Xx0_w18 Bg_w18 Dm_w18 Vx0_w18 HB_w18 HL_w19
    clear hb ho
    have qBx00 := Bx0_w19.out 0 _ rfl
    have qBx01 := Bx0_w19.out 1 _ rfl
    have tBx0 := Bx0_w19.out.lt
    have qBw0 := Bw_w19.out 0 _ rfl
    have qBw1 := Bw_w19.out 1 _ rfl
    have qBw2 := Bw_w19.out 2 _ rfl
    have tBw := Bw_w19.out.lt
    have qXx00 := Xx0_w19.out 0 _ rfl
    have qXx01 := Xx0_w19.out 1 _ rfl
    have tXx0 := Xx0_w19.out.lt
    have qBg0 := Bg_w19.out 0 _ rfl
    have qBg1 := Bg_w19.out 1 _ rfl
    have qBg2 := Bg_w19.out 2 _ rfl
    have tBg := Bg_w19.out.lt
    go_wp2_with fail
    clear qBx00 qBx01 tBx0 qBw0 qBw1 qBw2 tBw qXx00 qXx01 tXx0 qBg0 qBg1 qBg2 tBg
    refine (implCrashMU _ _ _ _ _ _ _ dx0 x1 _ _ _ dx2 Vx0_w19.out.reads Vx2_w19.out.reads Sx0.out Sx2.out).mono ?_
    rw [HR.out]
    rintro e w20 ⟨a0sh, n0sh, c0sh, a1sh, n1sh, c1sh, rfl, hb, ho⟩
    have HL_w20 : Hid (Below w19.heap.size w19 w20) := hb
    have HB_w20 : Hid (Below w.heap.size w w20) := HB_w19.out.trans (HL_w20.out.mono HB_w19.out.size)
    have z_w20 : w19.heap.size ≤ w20.heap.size := HL_w20.out.size
    have Bx0_w20 : Hid (Bx w20 w.heap.size [.slice a0x0 n0x0 c0x0, .slice a1x0 n1x0 c1x0]) := Bx0_w19.out.later HL_w20.out
    have Dw_w20 : Hid (DiskU w20 (.slice a0sw n0sw c0sw) (.slice a1sw n1sw c1sw) d2 (fun b => w3.heap.size ≤ b ∧ b < w4.heap.size)) := Dw_w19.out.later HL_w20.out
    have Bw_w20 : Hid (Bx w20 w4.heap.size [.int .i64 code, .slice a0sw n0sw c0sw, .slice a1sw n1sw c1sw]) := Bw_w19.out.later HL_w20.out
    have Xx0_w20 : Hid (Bx w20 w5.heap.size [.slice a0x0p n0x0p c0x0p, .slice a1x0p n1x0p c1x0p]) := Xx0_w19.out.later HL_w20.out
    have Bg_w20 : Hid (Bx w20 w7.heap.size [.int .i64 code, .slice a0sg n0sg c0sg, .slice a1sg n1sg c1sg]) := Bg_w19.out.later HL_w20.out
    have Dm_w20 : Hid (DiskU w20 (.slice a0sg n0sg c0sg) (.slice a1sg n1sg c1sg) (mkDisk 1 d2) (fun b => w6.heap.size ≤ b ∧ b < w7.heap.size)) := Dm_w19.out.later HL_w20.out
    have Dh_w20 : Hid (DiskU w20 (.slice a0sh n0sh c0sh) (.slice a1sh n1sh c1sh) d2 (fun b => w19.heap.size ≤ b ∧ b < w20.heap.size)) := ho
    clear Bx0_w19 Dw_w19 Bw_w19 Xx0_w19 Bg_w19 Dm_w19 Vx0_w19 Vx2_w19 HB_w19 HL_w20
    clear hb ho
    have qBx00 := Bx0_w20.out 0 _ rfl
    have qBx01 := Bx0_w20.out 1 _ rfl
    have tBx0 := Bx0_w20.out.lt
    have qBw0 := Bw_w20.out 0 _ rfl
    have qBw1 := Bw_w20.out 1 _ rfl
    have qBw2 := Bw_w20.out 2 _ rfl
    have tBw := Bw_w20.out.lt
    have qXx00 := Xx0_w20.out 0 _ rfl
    have qXx01 := Xx0_w20.out 1 _ rfl
    have tXx0 := Xx0_w20.out.lt
    have qBg0 := Bg_w20.out 0 _ rfl
    have qBg1 := Bg_w20.out 1 _ rfl
    have qBg2 := Bg_w20.out 2 _ rfl
    have tBg := Bg_w20.out.lt
    go_wp2_with fail
    clear qBx00 qBx01 tBx0 qBw0 qBw1 qBw2 tBw qXx00 qXx01 tXx0 qBg0 qBg1 qBg2 tBg
    refine (eqDiskResultU _ code _ _ _ _ d2 (Dh_w20.out.later (later1 _ _)).reads (Dw_w20.out.later (later1 _ _)).reads).mono ?_
    rintro e w21 ⟨rfl, hb⟩
    have HL_w21 : Hid (Below w20.heap.size w20 w21) := (later1 _ _).trans (hb.mono (by simp))
    have HB_w21 : Hid (Below w.heap.size w w21) := HB_w20.out.trans (HL_w21.out.mono HB_w20.out.size)
    have z_w21 : w20.heap.size ≤ w21.heap.size := HL_w21.out.size
    have Bx0_w21 : Hid (Bx w21 w.heap.size [.slice a0x0 n0x0 c0x0, .slice a1x0 n1x0 c1x0]) := Bx0_w20.out.later HL_w21.out
    have Dw_w21 : Hid (DiskU w21 (.slice a0sw n0sw c0sw) (.slice a1sw n1sw c1sw) d2 (fun b => w3.heap.size ≤ b ∧ b < w4.heap.size)) := Dw_w20.out.later HL_w21.out
    have Bw_w21 : Hid (Bx w21 w4.heap.size [.int .i64 code, .slice a0sw n0sw c0sw, .slice a1sw n1sw c1sw]) := Bw_w20.out.later HL_w21.out
    have Xx0_w21 : Hid (Bx w21 w5.heap.size [.slice a0x0p n0x0p c0x0p, .slice a1x0p n1x0p c1x0p]) := Xx0_w20.out.later HL_w21.out
    have Bg_w21 : Hid (Bx w21 w7.heap.size [.int .i64 code, .slice a0sg n0sg c0sg, .slice a1sg n1sg c1sg]) := Bg_w20.out.later HL_w21.out
    have Dm_w21 : Hid (DiskU w21 (.slice a0sg n0sg c0sg) (.slice a1sg n1sg c1sg) (mkDisk 1 d2) (fun b => w6.heap.size ≤ b ∧ b < w7.heap.size)) := Dm_w20.out.later HL_w21.out
    have Dh_w21 : Hid (DiskU w21 (.slice a0sh n0sh c0sh) (.slice a1sh n1sh c1sh) d2 (fun b => w19.heap.size ≤ b ∧ b < w20.heap.size)) := Dh_w20.out.later HL_w21.out
    have Bh_w21 : Hid (Bx w21 w20.heap.size [.int .i64 code, .slice a0sh n0sh c0sh, .slice a1sh n1sh c1sh]) := (Bx.new _ [.int .i64 code, .slice a0sh n0sh c0sh, .slice a1sh n1sh c1sh] _).later hb
    have y_Bh : w20.heap.size < w21.heap.size := Bh_w21.out.lt
    clear Bx0_w20 Dw_w20 Bw_w20 Xx0_w20 Bg_w20 Dm_w20 Dh_w20 HB_w20 HL_w21
    clear hb
    have qBx00 := Bx0_w21.out 0 _ rfl
    have qBx01 := Bx0_w21.out 1 _ rfl
    have tBx0 := Bx0_w21.out.lt
    have qBw0 := Bw_w21.out 0 _ rfl
    have qBw1 := Bw_w21.out 1 _ rfl
    have qBw2 := Bw_w21.out 2 _ rfl
    have tBw := Bw_w21.out.lt
    have qXx00 := Xx0_w21.out 0 _ rfl
    have qXx01 := Xx0_w21.out 1 _ rfl
    have tXx0 := Xx0_w21.out.lt
    have qBg0 := Bg_w21.out 0 _ rfl
    have qBg1 := Bg_w21.out 1 _ rfl
    have qBg2 := Bg_w21.out 2 _ rfl
    have tBg := Bg_w21.out.lt
    have qBh0 := Bh_w21.out 0 _ rfl
    have qBh1 := Bh_w21.out 1 _ rfl
    have qBh2 := Bh_w21.out 2 _ rfl
    have tBh := Bh_w21.out.lt
    go_wp2_with fail
    clear qBx00 qBx01 tBx0 qBw0 qBw1 qBw2 tBw qXx00 qXx01 tXx0 qBg0 qBg1 qBg2 tBg qBh0 qBh1 qBh2 tBh
    refine (heldDiskResultU _ code _ _ d2 _ 1 Dm_w21.out (by omega) (by rw [HK.out]; exact hK1)).mono ?_
    rw [HK.out]
    rintro e w22 ⟨rfl, hb⟩
    have HL_w22 : Hid (Below w21.heap.size w21 w22) := hb
    have HB_w22 : Hid (Below w.heap.size w w22) := HB_w21.out.trans (HL_w22.out.mono HB_w21.out.size)
    have z_w22 : w21.heap.size ≤ w22.heap.size := HL_w22.out.size
    have Bx0_w22 : Hid (Bx w22 w.heap.size [.slice a0x0 n0x0 c0x0, .slice a1x0 n1x0 c1x0]) := Bx0_w21.out.later HL_w22.out
    have Dw_w22 : Hid (DiskU w22 (.slice a0sw n0sw c0sw) (.slice a1sw n1sw c1sw) d2 (fun b => w3.heap.size ≤ b ∧ b < w4.heap.size)) := Dw_w21.out.later HL_w22.out
    have Bw_w22 : Hid (Bx w22 w4.heap.size [.int .i64 code, .slice a0sw n0sw c0sw, .slice a1sw n1sw c1sw]) := Bw_w21.out.later HL_w22.out
    have Xx0_w22 : Hid (Bx w22 w5.heap.size [.slice a0x0p n0x0p c0x0p, .slice a1x0p n1x0p c1x0p]) := Xx0_w21.out.later HL_w22.out
    have Bg_w22 : Hid (Bx w22 w7.heap.size [.int .i64 code, .slice a0sg n0sg c0sg, .slice a1sg n1sg c1sg]) := Bg_w21.out.later HL_w22.out
    have Dm_w22 : Hid (DiskU w22 (.slice a0sg n0sg c0sg) (.slice a1sg n1sg c1sg) (mkDisk 1 d2) (fun b => w6.heap.size ≤ b ∧ b < w7.heap.size)) := Dm_w21.out.later HL_w22.out
    have Dh_w22 : Hid (DiskU w22 (.slice a0sh n0sh c0sh) (.slice a1sh n1sh c1sh) d2 (fun b => w19.heap.size ≤ b ∧ b < w20.heap.size)) := Dh_w21.out.later HL_w22.out
    have Bh_w22 : Hid (Bx w22 w20.heap.size [.int .i64 code, .slice a0sh n0sh c0sh, .slice a1sh n1sh c1sh]) := Bh_w21.out.later HL_w22.out
    clear Bx0_w21 Dw_w21 Bw_w21 Xx0_w21 Bg_w21 Dm_w21 Dh_w21 Bh_w21 HB_w21 HL_w22
    clear hb
    have qBx00 := Bx0_w22.out 0 _ rfl
    have qBx01 := Bx0_w22.out 1 _ rfl
    have tBx0 := Bx0_w22.out.lt
    have qBw0 := Bw_w22.out 0 _ rfl
    have qBw1 := Bw_w22.out 1 _ rfl
    have qBw2 := Bw_w22.out 2 _ rfl
    have tBw := Bw_w22.out.lt
    have qXx00 := Xx0_w22.out 0 _ rfl
    have qXx01 := Xx0_w22.out 1 _ rfl
    have tXx0 := Xx0_w22.out.lt
    have qBg0 := Bg_w22.out 0 _ rfl
    have qBg1 := Bg_w22.out 1 _ rfl
    have qBg2 := Bg_w22.out 2 _ rfl
    have tBg := Bg_w22.out.lt
    have qBh0 := Bh_w22.out 0 _ rfl
    have qBh1 := Bh_w22.out 1 _ rfl
    have qBh2 := Bh_w22.out 2 _ rfl
    have tBh := Bh_w22.out.lt
    go_wp2
    go_ret
    exact ⟨rfl, HB_w22.out⟩

theorem lawCrashMount_any (w : World) (v0x0 : Value) (v1x0 : Value) (dx0 : DK) (x1 : Int) (v0x2 : Value) (dx2 : List Bool) (hx0 : DiskR w v0x0 v1x0 dx0) (hx2 : Bools w v0x2 dx2) :
    Calls Try.prog 3 #[.agg #[v0x0, v1x0], .int .i64 x1, v0x2] w fun e w' => e = .returned (.bool true) ∧ Below w.heap.size w w' := by
  obtain ⟨_, _, rfl, _, _⟩ := hx0.1.open'
  obtain ⟨_, _, rfl, _, _⟩ := hx0.2.open'
  obtain ⟨_, _, rfl, _, _⟩ := hx2.open'
  by_cases kx2 : dx2.length ≤ 1048576
  rotate_left
  · exact lawCrashMount_long0 w _ _ _ _ _ _ x1 _ _ _  (by omega)
  by_cases kx0 : sizeDisk dx0 ≤ 1048576
  rotate_left
  · exact lawCrashMount_big w _ _ _ _ _ _ dx0 x1 _ _ _ kx2 hx0 (by omega)
  exact lawCrashMount_small w _ _ _ _ _ _ dx0 x1 _ _ _ dx2 hx0 hx2 kx2 rfl kx0
end Go.Proofs.Ytpmndmkmfcoieaa

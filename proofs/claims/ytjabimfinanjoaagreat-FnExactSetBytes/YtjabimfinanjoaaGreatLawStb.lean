/- The law of SetBytes: at every argument the program answers as the specification, leaves its arguments as they were, and its answer owns its memory. -/
import Derived.Test.YtjabimfinanjoaaGreatM19
import Derived.Test.YtjabimfinanjoaaGreatM20
import Derived.Test.YtjabimfinanjoaaGreatM05
import Derived.Test.YtjabimfinanjoaaGreatM09
namespace Go.Proofs.YtjabimfinanjoaaGreat
open Go.RowKit
set_option maxRecDepth 100000

set_option maxHeartbeats 1600000 in
theorem lawSetBytes_long0 (w : World) (a0x0 : Option Addr) (n0x0 c0x0 : Nat) (a1x0 : Option Addr) (n1x0 c1x0 : Nat) (x1 : Int) (a0x2 : Option Addr) (n0x2 c0x2 : Nat) (a0x3 : Option Addr) (n0x3 c0x3 : Nat) (hn : 1048576 < n0x2) :
    Calls Tryz.prog 3 #[.agg #[.slice a0x0 n0x0 c0x0, .slice a1x0 n1x0 c1x0], .int .i64 x1, .slice a0x2 n0x2 c0x2, .slice a0x3 n0x3 c0x3] w fun e w' => e = .returned (.bool true) ∧ Below w.heap.size w w' := by
  have hn' : (1048576 : Int) < (n0x2 : Int) := by omega
  go_enter Tryz.func3, Tryz.ntmps3
  go_wp2
  go_ret
  exact ⟨rfl, later1 _ _⟩

set_option maxHeartbeats 1600000 in
theorem lawSetBytes_long1 (w : World) (a0x0 : Option Addr) (n0x0 c0x0 : Nat) (a1x0 : Option Addr) (n1x0 c1x0 : Nat) (x1 : Int) (a0x2 : Option Addr) (n0x2 c0x2 : Nat) (a0x3 : Option Addr) (n0x3 c0x3 : Nat) (lx2 : n0x2 ≤ 1048576) (hn : 1048576 < n0x3) :
    Calls Tryz.prog 3 #[.agg #[.slice a0x0 n0x0 c0x0, .slice a1x0 n1x0 c1x0], .int .i64 x1, .slice a0x2 n0x2 c0x2, .slice a0x3 n0x3 c0x3] w fun e w' => e = .returned (.bool true) ∧ Below w.heap.size w w' := by
  have lx2' : decide ((1048576 : Int) < (n0x2 : Int)) = false := by simp; omega
  have hn' : (1048576 : Int) < (n0x3 : Int) := by omega
  go_enter Tryz.func3, Tryz.ntmps3
  go_wp2
  go_ret
  exact ⟨rfl, later1 _ _⟩

set_option maxHeartbeats 1600000 in
theorem lawSetBytes_big (w : World) (a0x0 : Option Addr) (n0x0 c0x0 : Nat) (a1x0 : Option Addr) (n1x0 c1x0 : Nat) (dx0 : FD) (x1 : Int) (a0x2 : Option Addr) (n0x2 c0x2 : Nat) (a0x3 : Option Addr) (n0x3 c0x3 : Nat) (lx2 : n0x2 ≤ 1048576) (lx3 : n0x3 ≤ 1048576) (hx0 : FsR w (.slice a0x0 n0x0 c0x0) (.slice a1x0 n1x0 c1x0) dx0) (hsz : 1048576 < sizeFs dx0) :
    Calls Tryz.prog 3 #[.agg #[.slice a0x0 n0x0 c0x0, .slice a1x0 n1x0 c1x0], .int .i64 x1, .slice a0x2 n0x2 c0x2, .slice a0x3 n0x3 c0x3] w fun e w' => e = .returned (.bool true) ∧ Below w.heap.size w w' := by
  have Hx0 : Hid (FsR w (.slice a0x0 n0x0 c0x0) (.slice a1x0 n1x0 c1x0) dx0) := hx0
  have HS : Hid (szf 1048576 (sizeFs dx0) = -1) := szf_no (by omega)
  have lx2' : decide ((1048576 : Int) < (n0x2 : Int)) = false := by simp; omega
  have lx3' : decide ((1048576 : Int) < (n0x3 : Int)) = false := by simp; omega
  clear hx0 hsz lx2 lx3
  go_enter Tryz.func3, Tryz.ntmps3
  go_wp2_with fail
  refine (szFsU _ _ _ _ _ _ _ dx0 (Hx0.out.later (later1 _ _)) 1048576 (by omega) (by omega)).mono ?_
  rw [HS.out]
  rintro e w1 ⟨rfl, hb1⟩
  have HBw1 : Hid (Below w.heap.size w w1) := (later1 _ _).trans (hb1.mono (by simp))
  clear hb1
  go_wp2
  go_ret
  exact ⟨rfl, HBw1.out⟩

set_option maxHeartbeats 12800000 in
theorem lawSetBytes_small (w : World) (a0x0 : Option Addr) (n0x0 c0x0 : Nat) (a1x0 : Option Addr) (n1x0 c1x0 : Nat) (dx0 : FD) (x1 : Int) (a0x2 : Option Addr) (n0x2 c0x2 : Nat) (dx2 : List UInt8) (a0x3 : Option Addr) (n0x3 c0x3 : Nat) (dx3 : List Int) (hx0 : FsR w (.slice a0x0 n0x0 c0x0) (.slice a1x0 n1x0 c1x0) dx0) (hx2 : Byt w (.slice a0x2 n0x2 c0x2) dx2) (hx3 : Ints w (.slice a0x3 n0x3 c0x3) dx3) (lx2 : n0x2 ≤ 1048576) (mx2 : dx2.length = n0x2) (lx3 : n0x3 ≤ 1048576) (mx3 : dx3.length = n0x3) (sx0 : sizeFs dx0 ≤ 1048576) :
    Calls Tryz.prog 3 #[.agg #[.slice a0x0 n0x0 c0x0, .slice a1x0 n1x0 c1x0], .int .i64 x1, .slice a0x2 n0x2 c0x2, .slice a0x3 n0x3 c0x3] w fun e w' => e = .returned (.bool true) ∧ Below w.heap.size w w' := by
  have Hx0 : Hid (FsR w (.slice a0x0 n0x0 c0x0) (.slice a1x0 n1x0 c1x0) dx0) := hx0
  have Hx2 : Hid (Byt w (.slice a0x2 n0x2 c0x2) dx2) := hx2
  have Hx3 : Hid (Ints w (.slice a0x3 n0x3 c0x3) dx3) := hx3
  have Sx0 : Hid (sizeFs dx0 ≤ 1048576) := sx0
  have HSx0 : Hid (szf 1048576 (sizeFs dx0) = 1048576 - (sizeFs dx0 : Nat)) := szf_yes (by omega)
  have hposx0 : ¬ (1048576 - ((sizeFs dx0 : Nat) : Int) < 0) := by omega
  have hspx0 : ((spanFs dx0 : Nat) : Int) ≤ 4194304 := by have := spanFs_le dx0; omega
  have Sx2 : Hid (dx2.length ≤ 1048576) := by unfold Hid; omega
  have lx2' : decide ((1048576 : Int) < (n0x2 : Int)) = false := by simp; omega
  have hspx2 : ((List.length dx2 : Nat) : Int) ≤ 1048576 := by omega
  have Sx3 : Hid (dx3.length ≤ 1048576) := by unfold Hid; omega
  have lx3' : decide ((1048576 : Int) < (n0x3 : Int)) = false := by simp; omega
  have hspx3 : ((List.length dx3 : Nat) : Int) ≤ 1048576 := by omega
  generalize hr : setR dx0 x1 dx2 dx3 = r at *
  have HR : Hid (setR dx0 x1 dx2 dx3 = r) := hr
  obtain ⟨code, d2⟩ := r
  have hspr : ((spanFs d2 : Nat) : Int) ≤ 100000000 := by have := setR_span dx0 x1 dx2 dx3; rw [hr] at this; dsimp only at this; omega
  clear hr hx0 hx2 hx3 sx0 lx2 mx2 lx3 mx3
  go_enter Tryz.func3, Tryz.ntmps3
  go_wp2_with fail
  refine (szFsU _ _ _ _ _ _ _ dx0 (Hx0.out.later (later1 _ _)) 1048576 (by omega) (by omega)).mono ?_
  rw [HSx0.out]
  rintro e w1 ⟨rfl, hb⟩
  have HL_w1 : Hid (Below w.heap.size w w1) := (later1 _ _).trans (hb.mono (by simp))
  have HB_w1 : Hid (Below w.heap.size w w1) := HL_w1.out
  have z_w1 : w.heap.size ≤ w1.heap.size := HL_w1.out.size
  have Bx0_w1 : Hid (Bx w1 w.heap.size [.slice a0x0 n0x0 c0x0, .slice a1x0 n1x0 c1x0]) := (Bx.new _ [.slice a0x0 n0x0 c0x0, .slice a1x0 n1x0 c1x0] _).later hb
  have y_Bx0 : w.heap.size < w1.heap.size := Bx0_w1.out.lt
  clear HL_w1
  clear hb
  have qBx00 := Bx0_w1.out 0 _ rfl
  have qBx01 := Bx0_w1.out 1 _ rfl
  have tBx0 := Bx0_w1.out.lt
  go_wp2_with fail
  clear qBx00 qBx01 tBx0
  refine (toFsU _ _ _ _ _ _ _ dx0 (Hx0.out.later HB_w1.out) Sx0.out).mono ?_
  rintro e w2 ⟨a0x0s, n0x0s, c0x0s, a1x0s, n1x0s, c1x0s, rfl, hb, ho⟩
  have HL_w2 : Hid (Below w1.heap.size w1 w2) := hb
  have HB_w2 : Hid (Below w.heap.size w w2) := HB_w1.out.trans (HL_w2.out.mono HB_w1.out.size)
  have z_w2 : w1.heap.size ≤ w2.heap.size := HL_w2.out.size
  have Bx0_w2 : Hid (Bx w2 w.heap.size [.slice a0x0 n0x0 c0x0, .slice a1x0 n1x0 c1x0]) := Bx0_w1.out.later HL_w2.out
  have Tx0_w2 : Hid (FsU w2 (.slice a0x0s n0x0s c0x0s) (.slice a1x0s n1x0s c1x0s) dx0 (fun b => w1.heap.size ≤ b ∧ b < w2.heap.size)) := ho
  clear Bx0_w1 HB_w1 HL_w2
  clear hb ho
  have qBx00 := Bx0_w2.out 0 _ rfl
  have qBx01 := Bx0_w2.out 1 _ rfl
  have tBx0 := Bx0_w2.out.lt
  go_wp2_with fail
  clear qBx00 qBx01 tBx0
  refine (toBytU (Hx2.out.later HB_w2.out) Sx2.out).mono ?_
  rintro e w3 ⟨a0x2s, n0x2s, c0x2s, rfl, hb, ho⟩
  have HL_w3 : Hid (Below w2.heap.size w2 w3) := hb
  have HB_w3 : Hid (Below w.heap.size w w3) := HB_w2.out.trans (HL_w3.out.mono HB_w2.out.size)
  have z_w3 : w2.heap.size ≤ w3.heap.size := HL_w3.out.size
  have Bx0_w3 : Hid (Bx w3 w.heap.size [.slice a0x0 n0x0 c0x0, .slice a1x0 n1x0 c1x0]) := Bx0_w2.out.later HL_w3.out
  have Tx0_w3 : Hid (FsU w3 (.slice a0x0s n0x0s c0x0s) (.slice a1x0s n1x0s c1x0s) dx0 (fun b => w1.heap.size ≤ b ∧ b < w2.heap.size)) := Tx0_w2.out.later HL_w3.out
  have Tx2_w3 : Hid (BytO w3 (.slice a0x2s n0x2s c0x2s) dx2 (fun b => w2.heap.size ≤ b ∧ b < w3.heap.size)) := ho
  clear Bx0_w2 Tx0_w2 HB_w2 HL_w3
  clear hb ho
  have qBx00 := Bx0_w3.out 0 _ rfl
  have qBx01 := Bx0_w3.out 1 _ rfl
  have tBx0 := Bx0_w3.out.lt
  go_wp2_with fail
  clear qBx00 qBx01 tBx0
  refine (toIntsU (Hx3.out.later HB_w3.out) Sx3.out).mono ?_
  rintro e w4 ⟨a0x3s, n0x3s, c0x3s, rfl, hb, ho⟩
  have HL_w4 : Hid (Below w3.heap.size w3 w4) := hb
  have HB_w4 : Hid (Below w.heap.size w w4) := HB_w3.out.trans (HL_w4.out.mono HB_w3.out.size)
  have z_w4 : w3.heap.size ≤ w4.heap.size := HL_w4.out.size
  have Bx0_w4 : Hid (Bx w4 w.heap.size [.slice a0x0 n0x0 c0x0, .slice a1x0 n1x0 c1x0]) := Bx0_w3.out.later HL_w4.out
  have Tx0_w4 : Hid (FsU w4 (.slice a0x0s n0x0s c0x0s) (.slice a1x0s n1x0s c1x0s) dx0 (fun b => w1.heap.size ≤ b ∧ b < w2.heap.size)) := Tx0_w3.out.later HL_w4.out
  have Tx2_w4 : Hid (BytO w4 (.slice a0x2s n0x2s c0x2s) dx2 (fun b => w2.heap.size ≤ b ∧ b < w3.heap.size)) := Tx2_w3.out.later HL_w4.out
  have Tx3_w4 : Hid (IntsO w4 (.slice a0x3s n0x3s c0x3s) dx3 (fun b => w3.heap.size ≤ b ∧ b < w4.heap.size)) := ho
  clear Bx0_w3 Tx0_w3 Tx2_w3 HB_w3 HL_w4
  clear hb ho
  have qBx00 := Bx0_w4.out 0 _ rfl
  have qBx01 := Bx0_w4.out 1 _ rfl
  have tBx0 := Bx0_w4.out.lt
  go_wp2_with fail
  clear qBx00 qBx01 tBx0
  refine (specSetU _ _ _ _ _ _ _ dx0 x1 _ _ _ dx2 _ _ _ dx3 Tx0_w4.out.reads Tx2_w4.out.reads Tx3_w4.out.reads Sx0.out Sx2.out Sx3.out).mono ?_
  rw [HR.out]
  rintro e w5 ⟨a0sw, n0sw, c0sw, a1sw, n1sw, c1sw, rfl, hb, ho⟩
  have HL_w5 : Hid (Below w4.heap.size w4 w5) := hb
  have HB_w5 : Hid (Below w.heap.size w w5) := HB_w4.out.trans (HL_w5.out.mono HB_w4.out.size)
  have z_w5 : w4.heap.size ≤ w5.heap.size := HL_w5.out.size
  have Bx0_w5 : Hid (Bx w5 w.heap.size [.slice a0x0 n0x0 c0x0, .slice a1x0 n1x0 c1x0]) := Bx0_w4.out.later HL_w5.out
  have Dw_w5 : Hid (FsU w5 (.slice a0sw n0sw c0sw) (.slice a1sw n1sw c1sw) d2 (fun b => w4.heap.size ≤ b ∧ b < w5.heap.size)) := ho
  clear Bx0_w4 Tx0_w4 Tx2_w4 Tx3_w4 HB_w4 HL_w5
  clear hb ho
  have qBx00 := Bx0_w5.out 0 _ rfl
  have qBx01 := Bx0_w5.out 1 _ rfl
  have tBx0 := Bx0_w5.out.lt
  go_wp2_with fail
  clear qBx00 qBx01 tBx0
  refine (toFsU _ _ _ _ _ _ _ dx0 ((Hx0.out.later HB_w5.out).later (later1 _ _)) Sx0.out).mono ?_
  rintro e w6 ⟨a0x0p, n0x0p, c0x0p, a1x0p, n1x0p, c1x0p, rfl, hb, ho⟩
  have HL_w6 : Hid (Below w5.heap.size w5 w6) := (later1 _ _).trans (hb.mono (by simp))
  have HB_w6 : Hid (Below w.heap.size w w6) := HB_w5.out.trans (HL_w6.out.mono HB_w5.out.size)
  have z_w6 : w5.heap.size ≤ w6.heap.size := HL_w6.out.size
  have Bx0_w6 : Hid (Bx w6 w.heap.size [.slice a0x0 n0x0 c0x0, .slice a1x0 n1x0 c1x0]) := Bx0_w5.out.later HL_w6.out
  have Dw_w6 : Hid (FsU w6 (.slice a0sw n0sw c0sw) (.slice a1sw n1sw c1sw) d2 (fun b => w4.heap.size ≤ b ∧ b < w5.heap.size)) := Dw_w5.out.later HL_w6.out
  have Bw_w6 : Hid (Bx w6 w5.heap.size [.int .i64 code, .slice a0sw n0sw c0sw, .slice a1sw n1sw c1sw]) := (Bx.new _ [.int .i64 code, .slice a0sw n0sw c0sw, .slice a1sw n1sw c1sw] _).later hb
  have y_Bw : w5.heap.size < w6.heap.size := Bw_w6.out.lt
  have Px0_w6 : Hid (FsU w6 (.slice a0x0p n0x0p c0x0p) (.slice a1x0p n1x0p c1x0p) dx0 (fun b => w5.heap.size < b ∧ b < w6.heap.size)) := ho.mono fun b hb => ⟨by have := hb.1; simp at this; omega, hb.2⟩
  clear Bx0_w5 Dw_w5 HB_w5 HL_w6
  clear hb ho
  have qBx00 := Bx0_w6.out 0 _ rfl
  have qBx01 := Bx0_w6.out 1 _ rfl
  have tBx0 := Bx0_w6.out.lt
  have qBw0 := Bw_w6.out 0 _ rfl
  have qBw1 := Bw_w6.out 1 _ rfl
  have qBw2 := Bw_w6.out 2 _ rfl
  have tBw := Bw_w6.out.lt
  go_wp2_with fail
  clear qBx00 qBx01 tBx0 qBw0 qBw1 qBw2 tBw
  refine (toBytU ((Hx2.out.later HB_w6.out).later (later1 _ _)) Sx2.out).mono ?_
  rintro e w7 ⟨a0x2p, n0x2p, c0x2p, rfl, hb, ho⟩
  have HL_w7 : Hid (Below w6.heap.size w6 w7) := (later1 _ _).trans (hb.mono (by simp))
  have HB_w7 : Hid (Below w.heap.size w w7) := HB_w6.out.trans (HL_w7.out.mono HB_w6.out.size)
  have z_w7 : w6.heap.size ≤ w7.heap.size := HL_w7.out.size
  have Bx0_w7 : Hid (Bx w7 w.heap.size [.slice a0x0 n0x0 c0x0, .slice a1x0 n1x0 c1x0]) := Bx0_w6.out.later HL_w7.out
  have Dw_w7 : Hid (FsU w7 (.slice a0sw n0sw c0sw) (.slice a1sw n1sw c1sw) d2 (fun b => w4.heap.size ≤ b ∧ b < w5.heap.size)) := Dw_w6.out.later HL_w7.out
  have Bw_w7 : Hid (Bx w7 w5.heap.size [.int .i64 code, .slice a0sw n0sw c0sw, .slice a1sw n1sw c1sw]) := Bw_w6.out.later HL_w7.out
  have Px0_w7 : Hid (FsU w7 (.slice a0x0p n0x0p c0x0p) (.slice a1x0p n1x0p c1x0p) dx0 (fun b => w5.heap.size < b ∧ b < w6.heap.size)) := Px0_w6.out.later HL_w7.out
  have Xx0_w7 : Hid (Bx w7 w6.heap.size [.slice a0x0p n0x0p c0x0p, .slice a1x0p n1x0p c1x0p]) := (Bx.new _ [.slice a0x0p n0x0p c0x0p, .slice a1x0p n1x0p c1x0p] _).later hb
  have y_Xx0 : w6.heap.size < w7.heap.size := Xx0_w7.out.lt
  have Px2_w7 : Hid (BytO w7 (.slice a0x2p n0x2p c0x2p) dx2 (fun b => w6.heap.size < b ∧ b < w7.heap.size)) := ho.mono fun b hb => ⟨by have := hb.1; simp at this; omega, hb.2⟩
  clear Bx0_w6 Dw_w6 Bw_w6 Px0_w6 HB_w6 HL_w7
  clear hb ho
  have qBx00 := Bx0_w7.out 0 _ rfl
  have qBx01 := Bx0_w7.out 1 _ rfl
  have tBx0 := Bx0_w7.out.lt
  have qBw0 := Bw_w7.out 0 _ rfl
  have qBw1 := Bw_w7.out 1 _ rfl
  have qBw2 := Bw_w7.out 2 _ rfl
  have tBw := Bw_w7.out.lt
  have qXx00 := Xx0_w7.out 0 _ rfl
  have qXx01 := Xx0_w7.out 1 _ rfl
  have tXx0 := Xx0_w7.out.lt
  go_wp2_with fail
  clear qBx00 qBx01 tBx0 qBw0 qBw1 qBw2 tBw qXx00 qXx01 tXx0
  refine (toIntsU (Hx3.out.later HB_w7.out) Sx3.out).mono ?_
  rintro e w8 ⟨a0x3p, n0x3p, c0x3p, rfl, hb, ho⟩
  have HL_w8 : Hid (Below w7.heap.size w7 w8) := hb
  have HB_w8 : Hid (Below w.heap.size w w8) := HB_w7.out.trans (HL_w8.out.mono HB_w7.out.size)
  have z_w8 : w7.heap.size ≤ w8.heap.size := HL_w8.out.size
  have Bx0_w8 : Hid (Bx w8 w.heap.size [.slice a0x0 n0x0 c0x0, .slice a1x0 n1x0 c1x0]) := Bx0_w7.out.later HL_w8.out
  have Dw_w8 : Hid (FsU w8 (.slice a0sw n0sw c0sw) (.slice a1sw n1sw c1sw) d2 (fun b => w4.heap.size ≤ b ∧ b < w5.heap.size)) := Dw_w7.out.later HL_w8.out
  have Bw_w8 : Hid (Bx w8 w5.heap.size [.int .i64 code, .slice a0sw n0sw c0sw, .slice a1sw n1sw c1sw]) := Bw_w7.out.later HL_w8.out
  have Px0_w8 : Hid (FsU w8 (.slice a0x0p n0x0p c0x0p) (.slice a1x0p n1x0p c1x0p) dx0 (fun b => w5.heap.size < b ∧ b < w6.heap.size)) := Px0_w7.out.later HL_w8.out
  have Xx0_w8 : Hid (Bx w8 w6.heap.size [.slice a0x0p n0x0p c0x0p, .slice a1x0p n1x0p c1x0p]) := Xx0_w7.out.later HL_w8.out
  have Px2_w8 : Hid (BytO w8 (.slice a0x2p n0x2p c0x2p) dx2 (fun b => w6.heap.size < b ∧ b < w7.heap.size)) := Px2_w7.out.later HL_w8.out
  have Px3_w8 : Hid (IntsO w8 (.slice a0x3p n0x3p c0x3p) dx3 (fun b => w7.heap.size ≤ b ∧ b < w8.heap.size)) := ho
  clear Bx0_w7 Dw_w7 Bw_w7 Px0_w7 Xx0_w7 Px2_w7 HB_w7 HL_w8
  clear hb ho
  have qBx00 := Bx0_w8.out 0 _ rfl
  have qBx01 := Bx0_w8.out 1 _ rfl
  have tBx0 := Bx0_w8.out.lt
  have qBw0 := Bw_w8.out 0 _ rfl
  have qBw1 := Bw_w8.out 1 _ rfl
  have qBw2 := Bw_w8.out 2 _ rfl
  have tBw := Bw_w8.out.lt
  have qXx00 := Xx0_w8.out 0 _ rfl
  have qXx01 := Xx0_w8.out 1 _ rfl
  have tXx0 := Xx0_w8.out.lt
  go_wp2_with fail
  clear qBx00 qBx01 tBx0 qBw0 qBw1 qBw2 tBw qXx00 qXx01 tXx0
  refine (implSetU _ _ _ _ _ _ _ dx0 x1 _ _ _ dx2 _ _ _ dx3 Px0_w8.out.reads Px2_w8.out.reads Px3_w8.out.reads Sx0.out Sx2.out Sx3.out).mono ?_
  rw [HR.out]
  rintro e w9 ⟨a0sg, n0sg, c0sg, a1sg, n1sg, c1sg, rfl, hb, ho⟩
  have HL_w9 : Hid (Below w8.heap.size w8 w9) := hb
  have HB_w9 : Hid (Below w.heap.size w w9) := HB_w8.out.trans (HL_w9.out.mono HB_w8.out.size)
  have z_w9 : w8.heap.size ≤ w9.heap.size := HL_w9.out.size
  have Bx0_w9 : Hid (Bx w9 w.heap.size [.slice a0x0 n0x0 c0x0, .slice a1x0 n1x0 c1x0]) := Bx0_w8.out.later HL_w9.out
  have Dw_w9 : Hid (FsU w9 (.slice a0sw n0sw c0sw) (.slice a1sw n1sw c1sw) d2 (fun b => w4.heap.size ≤ b ∧ b < w5.heap.size)) := Dw_w8.out.later HL_w9.out
  have Bw_w9 : Hid (Bx w9 w5.heap.size [.int .i64 code, .slice a0sw n0sw c0sw, .slice a1sw n1sw c1sw]) := Bw_w8.out.later HL_w9.out
  have Px0_w9 : Hid (FsU w9 (.slice a0x0p n0x0p c0x0p) (.slice a1x0p n1x0p c1x0p) dx0 (fun b => w5.heap.size < b ∧ b < w6.heap.size)) := Px0_w8.out.later HL_w9.out
  have Xx0_w9 : Hid (Bx w9 w6.heap.size [.slice a0x0p n0x0p c0x0p, .slice a1x0p n1x0p c1x0p]) := Xx0_w8.out.later HL_w9.out
  have Px2_w9 : Hid (BytO w9 (.slice a0x2p n0x2p c0x2p) dx2 (fun b => w6.heap.size < b ∧ b < w7.heap.size)) := Px2_w8.out.later HL_w9.out
  have Px3_w9 : Hid (IntsO w9 (.slice a0x3p n0x3p c0x3p) dx3 (fun b => w7.heap.size ≤ b ∧ b < w8.heap.size)) := Px3_w8.out.later HL_w9.out
  have Dg_w9 : Hid (FsU w9 (.slice a0sg n0sg c0sg) (.slice a1sg n1sg c1sg) d2 (fun b => w8.heap.size ≤ b ∧ b < w9.heap.size)) := ho
  clear Bx0_w8 Dw_w8 Bw_w8 Px0_w8 Xx0_w8 Px2_w8 Px3_w8 HB_w8 HL_w9
  clear hb ho
  have qBx00 := Bx0_w9.out 0 _ rfl
  have qBx01 := Bx0_w9.out 1 _ rfl
  have tBx0 := Bx0_w9.out.lt
  have qBw0 := Bw_w9.out 0 _ rfl
  have qBw1 := Bw_w9.out 1 _ rfl
  have qBw2 := Bw_w9.out 2 _ rfl
  have tBw := Bw_w9.out.lt
  have qXx00 := Xx0_w9.out 0 _ rfl
  have qXx01 := Xx0_w9.out 1 _ rfl
  have tXx0 := Xx0_w9.out.lt
  go_wp2_with fail
  clear qBx00 qBx01 tBx0 qBw0 qBw1 qBw2 tBw qXx00 qXx01 tXx0
  refine (eqFsResultU _ code _ _ _ _ d2 (Dg_w9.out.later (later1 _ _)).reads (Dw_w9.out.later (later1 _ _)).reads).mono ?_
  rintro e w10 ⟨rfl, hb⟩
  have HL_w10 : Hid (Below w9.heap.size w9 w10) := (later1 _ _).trans (hb.mono (by simp))
  have HB_w10 : Hid (Below w.heap.size w w10) := HB_w9.out.trans (HL_w10.out.mono HB_w9.out.size)
  have z_w10 : w9.heap.size ≤ w10.heap.size := HL_w10.out.size
  have Bx0_w10 : Hid (Bx w10 w.heap.size [.slice a0x0 n0x0 c0x0, .slice a1x0 n1x0 c1x0]) := Bx0_w9.out.later HL_w10.out
  have Dw_w10 : Hid (FsU w10 (.slice a0sw n0sw c0sw) (.slice a1sw n1sw c1sw) d2 (fun b => w4.heap.size ≤ b ∧ b < w5.heap.size)) := Dw_w9.out.later HL_w10.out
  have Bw_w10 : Hid (Bx w10 w5.heap.size [.int .i64 code, .slice a0sw n0sw c0sw, .slice a1sw n1sw c1sw]) := Bw_w9.out.later HL_w10.out
  have Px0_w10 : Hid (FsU w10 (.slice a0x0p n0x0p c0x0p) (.slice a1x0p n1x0p c1x0p) dx0 (fun b => w5.heap.size < b ∧ b < w6.heap.size)) := Px0_w9.out.later HL_w10.out
  have Xx0_w10 : Hid (Bx w10 w6.heap.size [.slice a0x0p n0x0p c0x0p, .slice a1x0p n1x0p c1x0p]) := Xx0_w9.out.later HL_w10.out
  have Px2_w10 : Hid (BytO w10 (.slice a0x2p n0x2p c0x2p) dx2 (fun b => w6.heap.size < b ∧ b < w7.heap.size)) := Px2_w9.out.later HL_w10.out
  have Px3_w10 : Hid (IntsO w10 (.slice a0x3p n0x3p c0x3p) dx3 (fun b => w7.heap.size ≤ b ∧ b < w8.heap.size)) := Px3_w9.out.later HL_w10.out
  have Dg_w10 : Hid (FsU w10 (.slice a0sg n0sg c0sg) (.slice a1sg n1sg c1sg) d2 (fun b => w8.heap.size ≤ b ∧ b < w9.heap.size)) := Dg_w9.out.later HL_w10.out
  have Bg_w10 : Hid (Bx w10 w9.heap.size [.int .i64 code, .slice a0sg n0sg c0sg, .slice a1sg n1sg c1sg]) := (Bx.new _ [.int .i64 code, .slice a0sg n0sg c0sg, .slice a1sg n1sg c1sg] _).later hb
  have y_Bg : w9.heap.size < w10.heap.size := Bg_w10.out.lt
  clear Bx0_w9 Dw_w9 Bw_w9 Px0_w9 Xx0_w9 Px2_w9 Px3_w9 Dg_w9 HB_w9 HL_w10
  clear hb
  have qBx00 := Bx0_w10.out 0 _ rfl
  have qBx01 := Bx0_w10.out 1 _ rfl
  have tBx0 := Bx0_w10.out.lt
  have qBw0 := Bw_w10.out 0 _ rfl
  have qBw1 := Bw_w10.out 1 _ rfl
  have qBw2 := Bw_w10.out 2 _ rfl
  have tBw := Bw_w10.out.lt
  have qXx00 := Xx0_w10.out 0 _ rfl
  have qXx01 := Xx0_w10.out 1 _ rfl
  have tXx0 := Xx0_w10.out.lt
  have qBg0 := Bg_w10.out 0 _ rfl
  have qBg1 := Bg_w10.out 1 _ rfl
  have qBg2 := Bg_w10.out 2 _ rfl
  have tBg := Bg_w10.out.lt
  go_wp2_with fail
  go_region_with (first
    | (go_at_call 6; refine (toFsU _ _ _ _ _ _ _ dx0 ?_ Sx0.out).mono ?_; exact Hx0.out.later HB_w10.out.drew; rintro e w11 ⟨a0x0q, n0x0q, c0x0q, a1x0q, n1x0q, c1x0q, rfl, hb, ho⟩; have y0 := cell_later hb qXx00; have y1 := cell_later hb qXx01; have HL : Hid (Below w10.heap.size w10 w11) := (Below.refl _ _).drew.trans hb; have HO : Hid (FsR w11 (.slice a0x0q n0x0q c0x0q) (.slice a1x0q n1x0q c1x0q) dx0) := ho.reads; clear hb ho)
    | (go_at_call 11; refine (eqFsU _ _ _ _ _ dx0 ?_ ?_).mono ?_; exact Px0_w10.out.reads.later HL.out; exact HO.out; rintro e w12 ⟨rfl, hb⟩; have HL2 : Hid (Below w11.heap.size w11 w12) := hb; clear hb))
  all_goals
    have hb : Below w10.heap.size w10 w12 := HL.out.trans (HL2.out.mono HL.out.size)
    clear qBx00 qBx01 tBx0 qBw0 qBw1 qBw2 tBw qXx00 qXx01 tXx0 qBg0 qBg1 qBg2 tBg HL HL2 HO y0 y1
    have HL_w12 : Hid (Below w10.heap.size w10 w12) := hb
    have HB_w12 : Hid (Below w.heap.size w w12) := HB_w10.out.trans (HL_w12.out.mono HB_w10.out.size)
    have z_w12 : w10.heap.size ≤ w12.heap.size := HL_w12.out.size
    have Bx0_w12 : Hid (Bx w12 w.heap.size [.slice a0x0 n0x0 c0x0, .slice a1x0 n1x0 c1x0]) := Bx0_w10.out.later HL_w12.out
    have Dw_w12 : Hid (FsU w12 (.slice a0sw n0sw c0sw) (.slice a1sw n1sw c1sw) d2 (fun b => w4.heap.size ≤ b ∧ b < w5.heap.size)) := Dw_w10.out.later HL_w12.out
    have Bw_w12 : Hid (Bx w12 w5.heap.size [.int .i64 code, .slice a0sw n0sw c0sw, .slice a1sw n1sw c1sw]) := Bw_w10.out.later HL_w12.out
    have Px0_w12 : Hid (FsU w12 (.slice a0x0p n0x0p c0x0p) (.slice a1x0p n1x0p c1x0p) dx0 (fun b => w5.heap.size < b ∧ b < w6.heap.size)) := Px0_w10.out.later HL_w12.out
    have Xx0_w12 : Hid (Bx w12 w6.heap.size [.slice a0x0p n0x0p c0x0p, .slice a1x0p n1x0p c1x0p]) := Xx0_w10.out.later HL_w12.out
    have Px2_w12 : Hid (BytO w12 (.slice a0x2p n0x2p c0x2p) dx2 (fun b => w6.heap.size < b ∧ b < w7.heap.size)) := Px2_w10.out.later HL_w12.out
    have Px3_w12 : Hid (IntsO w12 (.slice a0x3p n0x3p c0x3p) dx3 (fun b => w7.heap.size ≤ b ∧ b < w8.heap.size)) := Px3_w10.out.later HL_w12.out
    have Dg_w12 : Hid (FsU w12 (.slice a0sg n0sg c0sg) (.slice a1sg n1sg c1sg) d2 (fun b => w8.heap.size ≤ b ∧ b < w9.heap.size)) := Dg_w10.out.later HL_w12.out
    have Bg_w12 : Hid (Bx w12 w9.heap.size [.int .i64 code, .slice a0sg n0sg c0sg, .slice a1sg n1sg c1sg]) := Bg_w10.out.later HL_w12.out
    clear Bx0_w10 Dw_w10 Bw_w10 Px0_w10 Xx0_w10 Px2_w10 Px3_w10 Dg_w10 Bg_w10 HB_w10 HL_w12
    clear hb
    have qBx00 := Bx0_w12.out 0 _ rfl
    have qBx01 := Bx0_w12.out 1 _ rfl
    have tBx0 := Bx0_w12.out.lt
    have qBw0 := Bw_w12.out 0 _ rfl
    have qBw1 := Bw_w12.out 1 _ rfl
    have qBw2 := Bw_w12.out 2 _ rfl
    have tBw := Bw_w12.out.lt
    have qXx00 := Xx0_w12.out 0 _ rfl
    have qXx01 := Xx0_w12.out 1 _ rfl
    have tXx0 := Xx0_w12.out.lt
    have qBg0 := Bg_w12.out 0 _ rfl
    have qBg1 := Bg_w12.out 1 _ rfl
    have qBg2 := Bg_w12.out 2 _ rfl
    have tBg := Bg_w12.out.lt
    go_wp2_with fail
    clear qBx00 qBx01 tBx0 qBw0 qBw1 qBw2 tBw qXx00 qXx01 tXx0 qBg0 qBg1 qBg2 tBg
    refine (toBytU (Hx2.out.later HB_w12.out) Sx2.out).mono ?_
    rintro e w13 ⟨a0x2q, n0x2q, c0x2q, rfl, hb, ho⟩
    have HL_w13 : Hid (Below w12.heap.size w12 w13) := hb
    have HB_w13 : Hid (Below w.heap.size w w13) := HB_w12.out.trans (HL_w13.out.mono HB_w12.out.size)
    have z_w13 : w12.heap.size ≤ w13.heap.size := HL_w13.out.size
    have Bx0_w13 : Hid (Bx w13 w.heap.size [.slice a0x0 n0x0 c0x0, .slice a1x0 n1x0 c1x0]) := Bx0_w12.out.later HL_w13.out
    have Dw_w13 : Hid (FsU w13 (.slice a0sw n0sw c0sw) (.slice a1sw n1sw c1sw) d2 (fun b => w4.heap.size ≤ b ∧ b < w5.heap.size)) := Dw_w12.out.later HL_w13.out
    have Bw_w13 : Hid (Bx w13 w5.heap.size [.int .i64 code, .slice a0sw n0sw c0sw, .slice a1sw n1sw c1sw]) := Bw_w12.out.later HL_w13.out
    have Px0_w13 : Hid (FsU w13 (.slice a0x0p n0x0p c0x0p) (.slice a1x0p n1x0p c1x0p) dx0 (fun b => w5.heap.size < b ∧ b < w6.heap.size)) := Px0_w12.out.later HL_w13.out
    have Xx0_w13 : Hid (Bx w13 w6.heap.size [.slice a0x0p n0x0p c0x0p, .slice a1x0p n1x0p c1x0p]) := Xx0_w12.out.later HL_w13.out
    have Px2_w13 : Hid (BytO w13 (.slice a0x2p n0x2p c0x2p) dx2 (fun b => w6.heap.size < b ∧ b < w7.heap.size)) := Px2_w12.out.later HL_w13.out
    have Px3_w13 : Hid (IntsO w13 (.slice a0x3p n0x3p c0x3p) dx3 (fun b => w7.heap.size ≤ b ∧ b < w8.heap.size)) := Px3_w12.out.later HL_w13.out
    have Dg_w13 : Hid (FsU w13 (.slice a0sg n0sg c0sg) (.slice a1sg n1sg c1sg) d2 (fun b => w8.heap.size ≤ b ∧ b < w9.heap.size)) := Dg_w12.out.later HL_w13.out
    have Bg_w13 : Hid (Bx w13 w9.heap.size [.int .i64 code, .slice a0sg n0sg c0sg, .slice a1sg n1sg c1sg]) := Bg_w12.out.later HL_w13.out
    have Qx2_w13 : Hid (BytO w13 (.slice a0x2q n0x2q c0x2q) dx2 (fun b => w12.heap.size ≤ b ∧ b < w13.heap.size)) := ho
    clear Bx0_w12 Dw_w12 Bw_w12 Px0_w12 Xx0_w12 Px2_w12 Px3_w12 Dg_w12 Bg_w12 HB_w12 HL_w13
    clear hb ho
    have qBx00 := Bx0_w13.out 0 _ rfl
    have qBx01 := Bx0_w13.out 1 _ rfl
    have tBx0 := Bx0_w13.out.lt
    have qBw0 := Bw_w13.out 0 _ rfl
    have qBw1 := Bw_w13.out 1 _ rfl
    have qBw2 := Bw_w13.out 2 _ rfl
    have tBw := Bw_w13.out.lt
    have qXx00 := Xx0_w13.out 0 _ rfl
    have qXx01 := Xx0_w13.out 1 _ rfl
    have tXx0 := Xx0_w13.out.lt
    have qBg0 := Bg_w13.out 0 _ rfl
    have qBg1 := Bg_w13.out 1 _ rfl
    have qBg2 := Bg_w13.out 2 _ rfl
    have tBg := Bg_w13.out.lt
    go_wp2_with fail
    clear qBx00 qBx01 tBx0 qBw0 qBw1 qBw2 tBw qXx00 qXx01 tXx0 qBg0 qBg1 qBg2 tBg
    refine (eqBytV Px2_w13.out.reads Qx2_w13.out.reads).mono ?_
    rintro e w14 ⟨rfl, hb⟩
    have HL_w14 : Hid (Below w13.heap.size w13 w14) := hb
    have HB_w14 : Hid (Below w.heap.size w w14) := HB_w13.out.trans (HL_w14.out.mono HB_w13.out.size)
    have z_w14 : w13.heap.size ≤ w14.heap.size := HL_w14.out.size
    have Bx0_w14 : Hid (Bx w14 w.heap.size [.slice a0x0 n0x0 c0x0, .slice a1x0 n1x0 c1x0]) := Bx0_w13.out.later HL_w14.out
    have Dw_w14 : Hid (FsU w14 (.slice a0sw n0sw c0sw) (.slice a1sw n1sw c1sw) d2 (fun b => w4.heap.size ≤ b ∧ b < w5.heap.size)) := Dw_w13.out.later HL_w14.out
    have Bw_w14 : Hid (Bx w14 w5.heap.size [.int .i64 code, .slice a0sw n0sw c0sw, .slice a1sw n1sw c1sw]) := Bw_w13.out.later HL_w14.out
    have Px0_w14 : Hid (FsU w14 (.slice a0x0p n0x0p c0x0p) (.slice a1x0p n1x0p c1x0p) dx0 (fun b => w5.heap.size < b ∧ b < w6.heap.size)) := Px0_w13.out.later HL_w14.out
    have Xx0_w14 : Hid (Bx w14 w6.heap.size [.slice a0x0p n0x0p c0x0p, .slice a1x0p n1x0p c1x0p]) := Xx0_w13.out.later HL_w14.out
    have Px2_w14 : Hid (BytO w14 (.slice a0x2p n0x2p c0x2p) dx2 (fun b => w6.heap.size < b ∧ b < w7.heap.size)) := Px2_w13.out.later HL_w14.out
    have Px3_w14 : Hid (IntsO w14 (.slice a0x3p n0x3p c0x3p) dx3 (fun b => w7.heap.size ≤ b ∧ b < w8.heap.size)) := Px3_w13.out.later HL_w14.out
    have Dg_w14 : Hid (FsU w14 (.slice a0sg n0sg c0sg) (.slice a1sg n1sg c1sg) d2 (fun b => w8.heap.size ≤ b ∧ b < w9.heap.size)) := Dg_w13.out.later HL_w14.out
    have Bg_w14 : Hid (Bx w14 w9.heap.size [.int .i64 code, .slice a0sg n0sg c0sg, .slice a1sg n1sg c1sg]) := Bg_w13.out.later HL_w14.out
    clear Bx0_w13 Dw_w13 Bw_w13 Px0_w13 Xx0_w13 Px2_w13 Px3_w13 Dg_w13 Bg_w13 Qx2_w13 HB_w13 HL_w14
    clear hb
    have qBx00 := Bx0_w14.out 0 _ rfl
    have qBx01 := Bx0_w14.out 1 _ rfl
    have tBx0 := Bx0_w14.out.lt
    have qBw0 := Bw_w14.out 0 _ rfl
    have qBw1 := Bw_w14.out 1 _ rfl
    have qBw2 := Bw_w14.out 2 _ rfl
    have tBw := Bw_w14.out.lt
    have qXx00 := Xx0_w14.out 0 _ rfl
    have qXx01 := Xx0_w14.out 1 _ rfl
    have tXx0 := Xx0_w14.out.lt
    have qBg0 := Bg_w14.out 0 _ rfl
    have qBg1 := Bg_w14.out 1 _ rfl
    have qBg2 := Bg_w14.out 2 _ rfl
    have tBg := Bg_w14.out.lt
    go_wp2_with fail
    clear qBx00 qBx01 tBx0 qBw0 qBw1 qBw2 tBw qXx00 qXx01 tXx0 qBg0 qBg1 qBg2 tBg
    refine (toIntsU (Hx3.out.later HB_w14.out) Sx3.out).mono ?_
    rintro e w15 ⟨a0x3q, n0x3q, c0x3q, rfl, hb, ho⟩
    have HL_w15 : Hid (Below w14.heap.size w14 w15) := hb
    have HB_w15 : Hid (Below w.heap.size w w15) := HB_w14.out.trans (HL_w15.out.mono HB_w14.out.size)
    have z_w15 : w14.heap.size ≤ w15.heap.size := HL_w15.out.size
    have Bx0_w15 : Hid (Bx w15 w.heap.size [.slice a0x0 n0x0 c0x0, .slice a1x0 n1x0 c1x0]) := Bx0_w14.out.later HL_w15.out
    have Dw_w15 : Hid (FsU w15 (.slice a0sw n0sw c0sw) (.slice a1sw n1sw c1sw) d2 (fun b => w4.heap.size ≤ b ∧ b < w5.heap.size)) := Dw_w14.out.later HL_w15.out
    have Bw_w15 : Hid (Bx w15 w5.heap.size [.int .i64 code, .slice a0sw n0sw c0sw, .slice a1sw n1sw c1sw]) := Bw_w14.out.later HL_w15.out
    have Px0_w15 : Hid (FsU w15 (.slice a0x0p n0x0p c0x0p) (.slice a1x0p n1x0p c1x0p) dx0 (fun b => w5.heap.size < b ∧ b < w6.heap.size)) := Px0_w14.out.later HL_w15.out
    have Xx0_w15 : Hid (Bx w15 w6.heap.size [.slice a0x0p n0x0p c0x0p, .slice a1x0p n1x0p c1x0p]) := Xx0_w14.out.later HL_w15.out
    have Px2_w15 : Hid (BytO w15 (.slice a0x2p n0x2p c0x2p) dx2 (fun b => w6.heap.size < b ∧ b < w7.heap.size)) := Px2_w14.out.later HL_w15.out
    have Px3_w15 : Hid (IntsO w15 (.slice a0x3p n0x3p c0x3p) dx3 (fun b => w7.heap.size ≤ b ∧ b < w8.heap.size)) := Px3_w14.out.later HL_w15.out
    have Dg_w15 : Hid (FsU w15 (.slice a0sg n0sg c0sg) (.slice a1sg n1sg c1sg) d2 (fun b => w8.heap.size ≤ b ∧ b < w9.heap.size)) := Dg_w14.out.later HL_w15.out
    have Bg_w15 : Hid (Bx w15 w9.heap.size [.int .i64 code, .slice a0sg n0sg c0sg, .slice a1sg n1sg c1sg]) := Bg_w14.out.later HL_w15.out
    have Qx3_w15 : Hid (IntsO w15 (.slice a0x3q n0x3q c0x3q) dx3 (fun b => w14.heap.size ≤ b ∧ b < w15.heap.size)) := ho
    clear Bx0_w14 Dw_w14 Bw_w14 Px0_w14 Xx0_w14 Px2_w14 Px3_w14 Dg_w14 Bg_w14 HB_w14 HL_w15
    clear hb ho
    have qBx00 := Bx0_w15.out 0 _ rfl
    have qBx01 := Bx0_w15.out 1 _ rfl
    have tBx0 := Bx0_w15.out.lt
    have qBw0 := Bw_w15.out 0 _ rfl
    have qBw1 := Bw_w15.out 1 _ rfl
    have qBw2 := Bw_w15.out 2 _ rfl
    have tBw := Bw_w15.out.lt
    have qXx00 := Xx0_w15.out 0 _ rfl
    have qXx01 := Xx0_w15.out 1 _ rfl
    have tXx0 := Xx0_w15.out.lt
    have qBg0 := Bg_w15.out 0 _ rfl
    have qBg1 := Bg_w15.out 1 _ rfl
    have qBg2 := Bg_w15.out 2 _ rfl
    have tBg := Bg_w15.out.lt
    go_wp2_with fail
    clear qBx00 qBx01 tBx0 qBw0 qBw1 qBw2 tBw qXx00 qXx01 tXx0 qBg0 qBg1 qBg2 tBg
    refine (eqIntsU Px3_w15.out.reads Qx3_w15.out.reads).mono ?_
    rintro e w16 ⟨rfl, hb⟩
    have HL_w16 : Hid (Below w15.heap.size w15 w16) := hb
    have HB_w16 : Hid (Below w.heap.size w w16) := HB_w15.out.trans (HL_w16.out.mono HB_w15.out.size)
    have z_w16 : w15.heap.size ≤ w16.heap.size := HL_w16.out.size
    have Bx0_w16 : Hid (Bx w16 w.heap.size [.slice a0x0 n0x0 c0x0, .slice a1x0 n1x0 c1x0]) := Bx0_w15.out.later HL_w16.out
    have Dw_w16 : Hid (FsU w16 (.slice a0sw n0sw c0sw) (.slice a1sw n1sw c1sw) d2 (fun b => w4.heap.size ≤ b ∧ b < w5.heap.size)) := Dw_w15.out.later HL_w16.out
    have Bw_w16 : Hid (Bx w16 w5.heap.size [.int .i64 code, .slice a0sw n0sw c0sw, .slice a1sw n1sw c1sw]) := Bw_w15.out.later HL_w16.out
    have Px0_w16 : Hid (FsU w16 (.slice a0x0p n0x0p c0x0p) (.slice a1x0p n1x0p c1x0p) dx0 (fun b => w5.heap.size < b ∧ b < w6.heap.size)) := Px0_w15.out.later HL_w16.out
    have Xx0_w16 : Hid (Bx w16 w6.heap.size [.slice a0x0p n0x0p c0x0p, .slice a1x0p n1x0p c1x0p]) := Xx0_w15.out.later HL_w16.out
    have Px2_w16 : Hid (BytO w16 (.slice a0x2p n0x2p c0x2p) dx2 (fun b => w6.heap.size < b ∧ b < w7.heap.size)) := Px2_w15.out.later HL_w16.out
    have Px3_w16 : Hid (IntsO w16 (.slice a0x3p n0x3p c0x3p) dx3 (fun b => w7.heap.size ≤ b ∧ b < w8.heap.size)) := Px3_w15.out.later HL_w16.out
    have Dg_w16 : Hid (FsU w16 (.slice a0sg n0sg c0sg) (.slice a1sg n1sg c1sg) d2 (fun b => w8.heap.size ≤ b ∧ b < w9.heap.size)) := Dg_w15.out.later HL_w16.out
    have Bg_w16 : Hid (Bx w16 w9.heap.size [.int .i64 code, .slice a0sg n0sg c0sg, .slice a1sg n1sg c1sg]) := Bg_w15.out.later HL_w16.out
    clear Bx0_w15 Dw_w15 Bw_w15 Px0_w15 Xx0_w15 Px2_w15 Px3_w15 Dg_w15 Bg_w15 Qx3_w15 HB_w15 HL_w16
    clear hb
    have qBx00 := Bx0_w16.out 0 _ rfl
    have qBx01 := Bx0_w16.out 1 _ rfl
    have tBx0 := Bx0_w16.out.lt
    have qBw0 := Bw_w16.out 0 _ rfl
    have qBw1 := Bw_w16.out 1 _ rfl
    have qBw2 := Bw_w16.out 2 _ rfl
    have tBw := Bw_w16.out.lt
    have qXx00 := Xx0_w16.out 0 _ rfl
    have qXx01 := Xx0_w16.out 1 _ rfl
    have tXx0 := Xx0_w16.out.lt
    have qBg0 := Bg_w16.out 0 _ rfl
    have qBg1 := Bg_w16.out 1 _ rfl
    have qBg2 := Bg_w16.out 2 _ rfl
    have tBg := Bg_w16.out.lt
    go_wp2_with fail
    clear qBx00 qBx01 tBx0 qBw0 qBw1 qBw2 tBw qXx00 qXx01 tXx0 qBg0 qBg1 qBg2 tBg
    refine (markFsU _ _ _ dx0 _ _ Px0_w16.out (by omega) (by omega)).mono ?_
    rintro e w17 ⟨rfl, hc⟩
    have HB_w17 : Hid (Below w.heap.size w w17) := HB_w16.out.trans (hc.below HB_w16.out.size (fun b h => by have := HB_w16.out.size; omega))
    have z_w17 : w16.heap.size ≤ w17.heap.size := hc.size
    have Bx0_w17 : Hid (Bx w17 w.heap.size [.slice a0x0 n0x0 c0x0, .slice a1x0 n1x0 c1x0]) := Bx0_w16.out.chg hc (by omega)
    have Dw_w17 : Hid (FsU w17 (.slice a0sw n0sw c0sw) (.slice a1sw n1sw c1sw) d2 (fun b => w4.heap.size ≤ b ∧ b < w5.heap.size)) := Dw_w16.out.chg hc (fun b h h' => by omega)
    have Bw_w17 : Hid (Bx w17 w5.heap.size [.int .i64 code, .slice a0sw n0sw c0sw, .slice a1sw n1sw c1sw]) := Bw_w16.out.chg hc (by omega)
    have Xx0_w17 : Hid (Bx w17 w6.heap.size [.slice a0x0p n0x0p c0x0p, .slice a1x0p n1x0p c1x0p]) := Xx0_w16.out.chg hc (by omega)
    have Px2_w17 : Hid (BytO w17 (.slice a0x2p n0x2p c0x2p) dx2 (fun b => w6.heap.size < b ∧ b < w7.heap.size)) := Px2_w16.out.chg hc (fun b h h' => by omega)
    have Px3_w17 : Hid (IntsO w17 (.slice a0x3p n0x3p c0x3p) dx3 (fun b => w7.heap.size ≤ b ∧ b < w8.heap.size)) := Px3_w16.out.chg hc (fun b h h' => by omega)
    have Dg_w17 : Hid (FsU w17 (.slice a0sg n0sg c0sg) (.slice a1sg n1sg c1sg) d2 (fun b => w8.heap.size ≤ b ∧ b < w9.heap.size)) := Dg_w16.out.chg hc (fun b h h' => by omega)
    have Bg_w17 : Hid (Bx w17 w9.heap.size [.int .i64 code, .slice a0sg n0sg c0sg, .slice a1sg n1sg c1sg]) := Bg_w16.out.chg hc (by omega)
    clear HB_w16 Bx0_w16 Dw_w16 Bw_w16 Px0_w16 Xx0_w16 Px2_w16 Px3_w16 Dg_w16 Bg_w16
    clear hc
    have qBx00 := Bx0_w17.out 0 _ rfl
    have qBx01 := Bx0_w17.out 1 _ rfl
    have tBx0 := Bx0_w17.out.lt
    have qBw0 := Bw_w17.out 0 _ rfl
    have qBw1 := Bw_w17.out 1 _ rfl
    have qBw2 := Bw_w17.out 2 _ rfl
    have tBw := Bw_w17.out.lt
    have qXx00 := Xx0_w17.out 0 _ rfl
    have qXx01 := Xx0_w17.out 1 _ rfl
    have tXx0 := Xx0_w17.out.lt
    have qBg0 := Bg_w17.out 0 _ rfl
    have qBg1 := Bg_w17.out 1 _ rfl
    have qBg2 := Bg_w17.out 2 _ rfl
    have tBg := Bg_w17.out.lt
    go_wp2_with fail
    clear qBx00 qBx01 tBx0 qBw0 qBw1 qBw2 tBw qXx00 qXx01 tXx0 qBg0 qBg1 qBg2 tBg
    refine (markBytV _ Px2_w17.out (by omega) (by omega)).mono ?_
    rintro e w18 ⟨rfl, hc⟩
    have HB_w18 : Hid (Below w.heap.size w w18) := HB_w17.out.trans (hc.below HB_w17.out.size (fun b h => by have := HB_w17.out.size; omega))
    have z_w18 : w17.heap.size ≤ w18.heap.size := hc.size
    have Bx0_w18 : Hid (Bx w18 w.heap.size [.slice a0x0 n0x0 c0x0, .slice a1x0 n1x0 c1x0]) := Bx0_w17.out.chg hc (by omega)
    have Dw_w18 : Hid (FsU w18 (.slice a0sw n0sw c0sw) (.slice a1sw n1sw c1sw) d2 (fun b => w4.heap.size ≤ b ∧ b < w5.heap.size)) := Dw_w17.out.chg hc (fun b h h' => by omega)
    have Bw_w18 : Hid (Bx w18 w5.heap.size [.int .i64 code, .slice a0sw n0sw c0sw, .slice a1sw n1sw c1sw]) := Bw_w17.out.chg hc (by omega)
    have Xx0_w18 : Hid (Bx w18 w6.heap.size [.slice a0x0p n0x0p c0x0p, .slice a1x0p n1x0p c1x0p]) := Xx0_w17.out.chg hc (by omega)
    have Px3_w18 : Hid (IntsO w18 (.slice a0x3p n0x3p c0x3p) dx3 (fun b => w7.heap.size ≤ b ∧ b < w8.heap.size)) := Px3_w17.out.chg hc (fun b h h' => by omega)
    have Dg_w18 : Hid (FsU w18 (.slice a0sg n0sg c0sg) (.slice a1sg n1sg c1sg) d2 (fun b => w8.heap.size ≤ b ∧ b < w9.heap.size)) := Dg_w17.out.chg hc (fun b h h' => by omega)
    have Bg_w18 : Hid (Bx w18 w9.heap.size [.int .i64 code, .slice a0sg n0sg c0sg, .slice a1sg n1sg c1sg]) := Bg_w17.out.chg hc (by omega)
    clear HB_w17 Bx0_w17 Dw_w17 Bw_w17 Xx0_w17 Px2_w17 Px3_w17 Dg_w17 Bg_w17
    clear hc
    have qBx00 := Bx0_w18.out 0 _ rfl
    have qBx01 := Bx0_w18.out 1 _ rfl
    have tBx0 := Bx0_w18.out.lt
    have qBw0 := Bw_w18.out 0 _ rfl
    have qBw1 := Bw_w18.out 1 _ rfl
    have qBw2 := Bw_w18.out 2 _ rfl
    have tBw := Bw_w18.out.lt
    have qXx00 := Xx0_w18.out 0 _ rfl
    have qXx01 := Xx0_w18.out 1 _ rfl
    have tXx0 := Xx0_w18.out.lt
    have qBg0 := Bg_w18.out 0 _ rfl
    have qBg1 := Bg_w18.out 1 _ rfl
    have qBg2 := Bg_w18.out 2 _ rfl
    have tBg := Bg_w18.out.lt
    go_wp2_with fail
    clear qBx00 qBx01 tBx0 qBw0 qBw1 qBw2 tBw qXx00 qXx01 tXx0 qBg0 qBg1 qBg2 tBg
    refine (markIntsU _ Px3_w18.out (by omega) (by omega)).mono ?_
    rintro e w19 ⟨rfl, hc⟩
    have HB_w19 : Hid (Below w.heap.size w w19) := HB_w18.out.trans (hc.below HB_w18.out.size (fun b h => by have := HB_w18.out.size; omega))
    have z_w19 : w18.heap.size ≤ w19.heap.size := hc.size
    have Bx0_w19 : Hid (Bx w19 w.heap.size [.slice a0x0 n0x0 c0x0, .slice a1x0 n1x0 c1x0]) := Bx0_w18.out.chg hc (by omega)
    have Dw_w19 : Hid (FsU w19 (.slice a0sw n0sw c0sw) (.slice a1sw n1sw c1sw) d2 (fun b => w4.heap.size ≤ b ∧ b < w5.heap.size)) := Dw_w18.out.chg hc (fun b h h' => by omega)
    have Bw_w19 : Hid (Bx w19 w5.heap.size [.int .i64 code, .slice a0sw n0sw c0sw, .slice a1sw n1sw c1sw]) := Bw_w18.out.chg hc (by omega)
    have Xx0_w19 : Hid (Bx w19 w6.heap.size [.slice a0x0p n0x0p c0x0p, .slice a1x0p n1x0p c1x0p]) := Xx0_w18.out.chg hc (by omega)
    have Dg_w19 : Hid (FsU w19 (.slice a0sg n0sg c0sg) (.slice a1sg n1sg c1sg) d2 (fun b => w8.heap.size ≤ b ∧ b < w9.heap.size)) := Dg_w18.out.chg hc (fun b h h' => by omega)
    have Bg_w19 : Hid (Bx w19 w9.heap.size [.int .i64 code, .slice a0sg n0sg c0sg, .slice a1sg n1sg c1sg]) := Bg_w18.out.chg hc (by omega)
    clear HB_w18 Bx0_w18 Dw_w18 Bw_w18 Xx0_w18 Px3_w18 Dg_w18 Bg_w18
    clear hc
    have hk : decide ((1 + (spanFs dx0 : Nat) + (List.length dx2 : Nat) + (List.length dx3 : Nat) : Int) < 0) = false := by simp; omega
    have qBx00 := Bx0_w19.out 0 _ rfl
    have qBx01 := Bx0_w19.out 1 _ rfl
    have tBx0 := Bx0_w19.out.lt
    have qBw0 := Bw_w19.out 0 _ rfl
    have qBw1 := Bw_w19.out 1 _ rfl
    have qBw2 := Bw_w19.out 2 _ rfl
    have tBw := Bw_w19.out.lt
    have qXx00 := Xx0_w19.out 0 _ rfl
    have qXx01 := Xx0_w19.out 1 _ rfl
    have tXx0 := Xx0_w19.out.lt
    have qBg0 := Bg_w19.out 0 _ rfl
    have qBg1 := Bg_w19.out 1 _ rfl
    have qBg2 := Bg_w19.out 2 _ rfl
    have tBg := Bg_w19.out.lt
    go_wp2_with fail
    clear qBx00 qBx01 tBx0 qBw0 qBw1 qBw2 tBw qXx00 qXx01 tXx0 qBg0 qBg1 qBg2 tBg
    refine (eqFsResultU _ code _ _ _ _ d2 Dg_w19.out.reads Dw_w19.out.reads).mono ?_
    rintro e w20 ⟨rfl, hb⟩
    have HL_w20 : Hid (Below w19.heap.size w19 w20) := hb
    have HB_w20 : Hid (Below w.heap.size w w20) := HB_w19.out.trans (HL_w20.out.mono HB_w19.out.size)
    have z_w20 : w19.heap.size ≤ w20.heap.size := HL_w20.out.size
    have Bx0_w20 : Hid (Bx w20 w.heap.size [.slice a0x0 n0x0 c0x0, .slice a1x0 n1x0 c1x0]) := Bx0_w19.out.later HL_w20.out
    have Dw_w20 : Hid (FsU w20 (.slice a0sw n0sw c0sw) (.slice a1sw n1sw c1sw) d2 (fun b => w4.heap.size ≤ b ∧ b < w5.heap.size)) := Dw_w19.out.later HL_w20.out
    have Bw_w20 : Hid (Bx w20 w5.heap.size [.int .i64 code, .slice a0sw n0sw c0sw, .slice a1sw n1sw c1sw]) := Bw_w19.out.later HL_w20.out
    have Xx0_w20 : Hid (Bx w20 w6.heap.size [.slice a0x0p n0x0p c0x0p, .slice a1x0p n1x0p c1x0p]) := Xx0_w19.out.later HL_w20.out
    have Dg_w20 : Hid (FsU w20 (.slice a0sg n0sg c0sg) (.slice a1sg n1sg c1sg) d2 (fun b => w8.heap.size ≤ b ∧ b < w9.heap.size)) := Dg_w19.out.later HL_w20.out
    have Bg_w20 : Hid (Bx w20 w9.heap.size [.int .i64 code, .slice a0sg n0sg c0sg, .slice a1sg n1sg c1sg]) := Bg_w19.out.later HL_w20.out
    clear Bx0_w19 Dw_w19 Bw_w19 Xx0_w19 Dg_w19 Bg_w19 HB_w19 HL_w20
    clear hb
    have qBx00 := Bx0_w20.out 0 _ rfl
    have qBx01 := Bx0_w20.out 1 _ rfl
    have tBx0 := Bx0_w20.out.lt
    have qBw0 := Bw_w20.out 0 _ rfl
    have qBw1 := Bw_w20.out 1 _ rfl
    have qBw2 := Bw_w20.out 2 _ rfl
    have tBw := Bw_w20.out.lt
    have qXx00 := Xx0_w20.out 0 _ rfl
    have qXx01 := Xx0_w20.out 1 _ rfl
    have tXx0 := Xx0_w20.out.lt
    have qBg0 := Bg_w20.out 0 _ rfl
    have qBg1 := Bg_w20.out 1 _ rfl
    have qBg2 := Bg_w20.out 2 _ rfl
    have tBg := Bg_w20.out.lt
    go_wp2_with fail
    clear qBx00 qBx01 tBx0 qBw0 qBw1 qBw2 tBw qXx00 qXx01 tXx0 qBg0 qBg1 qBg2 tBg
    refine (markFsResultU _ code _ _ d2 _ 1 Dg_w20.out (by omega) (by omega)).mono ?_
    rintro e w21 ⟨rfl, hm, hc⟩
    have HB_w21 : Hid (Below w.heap.size w w21) := HB_w20.out.trans (hc.below HB_w20.out.size (fun b h => by have := HB_w20.out.size; omega))
    have z_w21 : w20.heap.size ≤ w21.heap.size := hc.size
    have Bx0_w21 : Hid (Bx w21 w.heap.size [.slice a0x0 n0x0 c0x0, .slice a1x0 n1x0 c1x0]) := Bx0_w20.out.chg hc (by omega)
    have Dw_w21 : Hid (FsU w21 (.slice a0sw n0sw c0sw) (.slice a1sw n1sw c1sw) d2 (fun b => w4.heap.size ≤ b ∧ b < w5.heap.size)) := Dw_w20.out.chg hc (fun b h h' => by omega)
    have Bw_w21 : Hid (Bx w21 w5.heap.size [.int .i64 code, .slice a0sw n0sw c0sw, .slice a1sw n1sw c1sw]) := Bw_w20.out.chg hc (by omega)
    have Xx0_w21 : Hid (Bx w21 w6.heap.size [.slice a0x0p n0x0p c0x0p, .slice a1x0p n1x0p c1x0p]) := Xx0_w20.out.chg hc (by omega)
    have Bg_w21 : Hid (Bx w21 w9.heap.size [.int .i64 code, .slice a0sg n0sg c0sg, .slice a1sg n1sg c1sg]) := Bg_w20.out.chg hc (by omega)
    have Dm_w21 : Hid (FsU w21 (.slice a0sg n0sg c0sg) (.slice a1sg n1sg c1sg) (mkFs 1 d2) (fun b => w8.heap.size ≤ b ∧ b < w9.heap.size)) := hm
    clear HB_w20 Bx0_w20 Dw_w20 Bw_w20 Xx0_w20 Dg_w20 Bg_w20
    clear hm hc
    generalize hK : (1 : Int) + (spanFs d2 : Nat) = K at *
    have hKK : (K != K) = false := by simp
    have hK0 : ¬ K < 0 := by omega
    have hK1 : K ≤ 4294967296 := by omega
    have HK : Hid ((1 : Int) + (spanFs d2 : Nat) = K) := hK
    clear hK
    have qBx00 := Bx0_w21.out 0 _ rfl
    have qBx01 := Bx0_w21.out 1 _ rfl
    have tBx0 := Bx0_w21.out.lt
    have qBw0 := Bw_w21.out 0 _ rfl
    have qBw1 := Bw_w21.out 1 _ rfl
    have qBw2 := Bw_w21.out 2 _ rfl
    have tBw := Bw_w21.out.lt
    have qXx00 := Xx0_w21.out 0 _ rfl
    have qXx01 := Xx0_w21.out 1 _ rfl
    have tXx0 := Xx0_w21.out.lt
    have qBg0 := Bg_w21.out 0 _ rfl
    have qBg1 := Bg_w21.out 1 _ rfl
    have qBg2 := Bg_w21.out 2 _ rfl
    have tBg := Bg_w21.out.lt
    go_wp2_with fail
    clear qBx00 qBx01 tBx0 qBw0 qBw1 qBw2 tBw qXx00 qXx01 tXx0 qBg0 qBg1 qBg2 tBg
    refine (heldFsResultU _ code _ _ d2 _ 1 Dm_w21.out (by omega) (by rw [HK.out]; exact hK1)).mono ?_
    rw [HK.out]
    rintro e w22 ⟨rfl, hb⟩
    have HL_w22 : Hid (Below w21.heap.size w21 w22) := hb
    have HB_w22 : Hid (Below w.heap.size w w22) := HB_w21.out.trans (HL_w22.out.mono HB_w21.out.size)
    have z_w22 : w21.heap.size ≤ w22.heap.size := HL_w22.out.size
    have Bx0_w22 : Hid (Bx w22 w.heap.size [.slice a0x0 n0x0 c0x0, .slice a1x0 n1x0 c1x0]) := Bx0_w21.out.later HL_w22.out
    have Dw_w22 : Hid (FsU w22 (.slice a0sw n0sw c0sw) (.slice a1sw n1sw c1sw) d2 (fun b => w4.heap.size ≤ b ∧ b < w5.heap.size)) := Dw_w21.out.later HL_w22.out
    have Bw_w22 : Hid (Bx w22 w5.heap.size [.int .i64 code, .slice a0sw n0sw c0sw, .slice a1sw n1sw c1sw]) := Bw_w21.out.later HL_w22.out
    have Xx0_w22 : Hid (Bx w22 w6.heap.size [.slice a0x0p n0x0p c0x0p, .slice a1x0p n1x0p c1x0p]) := Xx0_w21.out.later HL_w22.out
    have Bg_w22 : Hid (Bx w22 w9.heap.size [.int .i64 code, .slice a0sg n0sg c0sg, .slice a1sg n1sg c1sg]) := Bg_w21.out.later HL_w22.out
    have Dm_w22 : Hid (FsU w22 (.slice a0sg n0sg c0sg) (.slice a1sg n1sg c1sg) (mkFs 1 d2) (fun b => w8.heap.size ≤ b ∧ b < w9.heap.size)) := Dm_w21.out.later HL_w22.out
    clear Bx0_w21 Dw_w21 Bw_w21 Xx0_w21 Bg_w21 Dm_w21 HB_w21 HL_w22
    clear hb
    have qBx00 := Bx0_w22.out 0 _ rfl
    have qBx01 := Bx0_w22.out 1 _ rfl
    have tBx0 := Bx0_w22.out.lt
    have qBw0 := Bw_w22.out 0 _ rfl
    have qBw1 := Bw_w22.out 1 _ rfl
    have qBw2 := Bw_w22.out 2 _ rfl
    have tBw := Bw_w22.out.lt
    have qXx00 := Xx0_w22.out 0 _ rfl
    have qXx01 := Xx0_w22.out 1 _ rfl
    have tXx0 := Xx0_w22.out.lt
    have qBg0 := Bg_w22.out 0 _ rfl
    have qBg1 := Bg_w22.out 1 _ rfl
    have qBg2 := Bg_w22.out 2 _ rfl
    have tBg := Bg_w22.out.lt
    go_wp2_with fail
    clear qBx00 qBx01 tBx0 qBw0 qBw1 qBw2 tBw qXx00 qXx01 tXx0 qBg0 qBg1 qBg2 tBg
    refine (toFsU _ _ _ _ _ _ _ dx0 (Hx0.out.later HB_w22.out) Sx0.out).mono ?_
    rintro e w23 ⟨a0x0h, n0x0h, c0x0h, a1x0h, n1x0h, c1x0h, rfl, hb, ho⟩
    have HL_w23 : Hid (Below w22.heap.size w22 w23) := hb
    have HB_w23 : Hid (Below w.heap.size w w23) := HB_w22.out.trans (HL_w23.out.mono HB_w22.out.size)
    have z_w23 : w22.heap.size ≤ w23.heap.size := HL_w23.out.size
    have Bx0_w23 : Hid (Bx w23 w.heap.size [.slice a0x0 n0x0 c0x0, .slice a1x0 n1x0 c1x0]) := Bx0_w22.out.later HL_w23.out
    have Dw_w23 : Hid (FsU w23 (.slice a0sw n0sw c0sw) (.slice a1sw n1sw c1sw) d2 (fun b => w4.heap.size ≤ b ∧ b < w5.heap.size)) := Dw_w22.out.later HL_w23.out
    have Bw_w23 : Hid (Bx w23 w5.heap.size [.int .i64 code, .slice a0sw n0sw c0sw, .slice a1sw n1sw c1sw]) := Bw_w22.out.later HL_w23.out
    have Xx0_w23 : Hid (Bx w23 w6.heap.size [.slice a0x0p n0x0p c0x0p, .slice a1x0p n1x0p c1x0p]) := Xx0_w22.out.later HL_w23.out
    have Bg_w23 : Hid (Bx w23 w9.heap.size [.int .i64 code, .slice a0sg n0sg c0sg, .slice a1sg n1sg c1sg]) := Bg_w22.out.later HL_w23.out
    have Dm_w23 : Hid (FsU w23 (.slice a0sg n0sg c0sg) (.slice a1sg n1sg c1sg) (mkFs 1 d2) (fun b => w8.heap.size ≤ b ∧ b < w9.heap.size)) := Dm_w22.out.later HL_w23.out
    have Vx0_w23 : Hid (FsU w23 (.slice a0x0h n0x0h c0x0h) (.slice a1x0h n1x0h c1x0h) dx0 (fun b => w22.heap.size ≤ b ∧ b < w23.heap.size)) := ho
    clear Bx0_w22 Dw_w22 Bw_w22 Xx0_w22 Bg_w22 Dm_w22 HB_w22 HL_w23
    clear hb ho
    have qBx00 := Bx0_w23.out 0 _ rfl
    have qBx01 := Bx0_w23.out 1 _ rfl
    have tBx0 := Bx0_w23.out.lt
    have qBw0 := Bw_w23.out 0 _ rfl
    have qBw1 := Bw_w23.out 1 _ rfl
    have qBw2 := Bw_w23.out 2 _ rfl
    have tBw := Bw_w23.out.lt
    have qXx00 := Xx0_w23.out 0 _ rfl
    have qXx01 := Xx0_w23.out 1 _ rfl
    have tXx0 := Xx0_w23.out.lt
    have qBg0 := Bg_w23.out 0 _ rfl
    have qBg1 := Bg_w23.out 1 _ rfl
    have qBg2 := Bg_w23.out 2 _ rfl
    have tBg := Bg_w23.out.lt
    go_wp2_with fail
    clear qBx00 qBx01 tBx0 qBw0 qBw1 qBw2 tBw qXx00 qXx01 tXx0 qBg0 qBg1 qBg2 tBg
    refine (toBytU (Hx2.out.later HB_w23.out) Sx2.out).mono ?_
    rintro e w24 ⟨a0x2h, n0x2h, c0x2h, rfl, hb, ho⟩
    have HL_w24 : Hid (Below w23.heap.size w23 w24) := hb
    have HB_w24 : Hid (Below w.heap.size w w24) := HB_w23.out.trans (HL_w24.out.mono HB_w23.out.size)
    have z_w24 : w23.heap.size ≤ w24.heap.size := HL_w24.out.size
    have Bx0_w24 : Hid (Bx w24 w.heap.size [.slice a0x0 n0x0 c0x0, .slice a1x0 n1x0 c1x0]) := Bx0_w23.out.later HL_w24.out
    have Dw_w24 : Hid (FsU w24 (.slice a0sw n0sw c0sw) (.slice a1sw n1sw c1sw) d2 (fun b => w4.heap.size ≤ b ∧ b < w5.heap.size)) := Dw_w23.out.later HL_w24.out
    have Bw_w24 : Hid (Bx w24 w5.heap.size [.int .i64 code, .slice a0sw n0sw c0sw, .slice a1sw n1sw c1sw]) := Bw_w23.out.later HL_w24.out
    have Xx0_w24 : Hid (Bx w24 w6.heap.size [.slice a0x0p n0x0p c0x0p, .slice a1x0p n1x0p c1x0p]) := Xx0_w23.out.later HL_w24.out
    have Bg_w24 : Hid (Bx w24 w9.heap.size [.int .i64 code, .slice a0sg n0sg c0sg, .slice a1sg n1sg c1sg]) := Bg_w23.out.later HL_w24.out
    have Dm_w24 : Hid (FsU w24 (.slice a0sg n0sg c0sg) (.slice a1sg n1sg c1sg) (mkFs 1 d2) (fun b => w8.heap.size ≤ b ∧ b < w9.heap.size)) := Dm_w23.out.later HL_w24.out
    have Vx0_w24 : Hid (FsU w24 (.slice a0x0h n0x0h c0x0h) (.slice a1x0h n1x0h c1x0h) dx0 (fun b => w22.heap.size ≤ b ∧ b < w23.heap.size)) := Vx0_w23.out.later HL_w24.out
    have Vx2_w24 : Hid (BytO w24 (.slice a0x2h n0x2h c0x2h) dx2 (fun b => w23.heap.size ≤ b ∧ b < w24.heap.size)) := ho
    clear Bx0_w23 Dw_w23 Bw_w23 Xx0_w23 Bg_w23 Dm_w23 Vx0_w23 HB_w23 HL_w24
    clear hb ho
    have qBx00 := Bx0_w24.out 0 _ rfl
    have qBx01 := Bx0_w24.out 1 _ rfl
    have tBx0 := Bx0_w24.out.lt
    have qBw0 := Bw_w24.out 0 _ rfl
    have qBw1 := Bw_w24.out 1 _ rfl
    have qBw2 := Bw_w24.out 2 _ rfl
    have tBw := Bw_w24.out.lt
    have qXx00 := Xx0_w24.out 0 _ rfl
    have qXx01 := Xx0_w24.out 1 _ rfl
    have tXx0 := Xx0_w24.out.lt
    have qBg0 := Bg_w24.out 0 _ rfl
    have qBg1 := Bg_w24.out 1 _ rfl
    have qBg2 := Bg_w24.out 2 _ rfl
    have tBg := Bg_w24.out.lt
    go_wp2_with fail
    clear qBx00 qBx01 tBx0 qBw0 qBw1 qBw2 tBw qXx00 qXx01 tXx0 qBg0 qBg1 qBg2 tBg
    refine (toIntsU (Hx3.out.later HB_w24.out) Sx3.out).mono ?_
    rintro e w25 ⟨a0x3h, n0x3h, c0x3h, rfl, hb, ho⟩
    have HL_w25 : Hid (Below w24.heap.size w24 w25) := hb
    have HB_w25 : Hid (Below w.heap.size w w25) := HB_w24.out.trans (HL_w25.out.mono HB_w24.out.size)
    have z_w25 : w24.heap.size ≤ w25.heap.size := HL_w25.out.size
    have Bx0_w25 : Hid (Bx w25 w.heap.size [.slice a0x0 n0x0 c0x0, .slice a1x0 n1x0 c1x0]) := Bx0_w24.out.later HL_w25.out
    have Dw_w25 : Hid (FsU w25 (.slice a0sw n0sw c0sw) (.slice a1sw n1sw c1sw) d2 (fun b => w4.heap.size ≤ b ∧ b < w5.heap.size)) := Dw_w24.out.later HL_w25.out
    have Bw_w25 : Hid (Bx w25 w5.heap.size [.int .i64 code, .slice a0sw n0sw c0sw, .slice a1sw n1sw c1sw]) := Bw_w24.out.later HL_w25.out
    have Xx0_w25 : Hid (Bx w25 w6.heap.size [.slice a0x0p n0x0p c0x0p, .slice a1x0p n1x0p c1x0p]) := Xx0_w24.out.later HL_w25.out
    have Bg_w25 : Hid (Bx w25 w9.heap.size [.int .i64 code, .slice a0sg n0sg c0sg, .slice a1sg n1sg c1sg]) := Bg_w24.out.later HL_w25.out
    have Dm_w25 : Hid (FsU w25 (.slice a0sg n0sg c0sg) (.slice a1sg n1sg c1sg) (mkFs 1 d2) (fun b => w8.heap.size ≤ b ∧ b < w9.heap.size)) := Dm_w24.out.later HL_w25.out
    have Vx0_w25 : Hid (FsU w25 (.slice a0x0h n0x0h c0x0h) (.slice a1x0h n1x0h c1x0h) dx0 (fun b => w22.heap.size ≤ b ∧ b < w23.heap.size)) := Vx0_w24.out.later HL_w25.out
    have Vx2_w25 : Hid (BytO w25 (.slice a0x2h n0x2h c0x2h) dx2 (fun b => w23.heap.size ≤ b ∧ b < w24.heap.size)) := Vx2_w24.out.later HL_w25.out
    have Vx3_w25 : Hid (IntsO w25 (.slice a0x3h n0x3h c0x3h) dx3 (fun b => w24.heap.size ≤ b ∧ b < w25.heap.size)) := ho
    clear Bx0_w24 Dw_w24 Bw_w24 Xx0_w24 Bg_w24 Dm_w24 Vx0_w24 Vx2_w24 HB_w24 HL_w25
    clear hb ho
    have qBx00 := Bx0_w25.out 0 _ rfl
    have qBx01 := Bx0_w25.out 1 _ rfl
    have tBx0 := Bx0_w25.out.lt
    have qBw0 := Bw_w25.out 0 _ rfl
    have qBw1 := Bw_w25.out 1 _ rfl
    have qBw2 := Bw_w25.out 2 _ rfl
    have tBw := Bw_w25.out.lt
    have qXx00 := Xx0_w25.out 0 _ rfl
    have qXx01 := Xx0_w25.out 1 _ rfl
    have tXx0 := Xx0_w25.out.lt
    have qBg0 := Bg_w25.out 0 _ rfl
    have qBg1 := Bg_w25.out 1 _ rfl
    have qBg2 := Bg_w25.out 2 _ rfl
    have tBg := Bg_w25.out.lt
    go_wp2_with fail
    clear qBx00 qBx01 tBx0 qBw0 qBw1 qBw2 tBw qXx00 qXx01 tXx0 qBg0 qBg1 qBg2 tBg
    refine (implSetU _ _ _ _ _ _ _ dx0 x1 _ _ _ dx2 _ _ _ dx3 Vx0_w25.out.reads Vx2_w25.out.reads Vx3_w25.out.reads Sx0.out Sx2.out Sx3.out).mono ?_
    rw [HR.out]
    rintro e w26 ⟨a0sh, n0sh, c0sh, a1sh, n1sh, c1sh, rfl, hb, ho⟩
    have HL_w26 : Hid (Below w25.heap.size w25 w26) := hb
    have HB_w26 : Hid (Below w.heap.size w w26) := HB_w25.out.trans (HL_w26.out.mono HB_w25.out.size)
    have z_w26 : w25.heap.size ≤ w26.heap.size := HL_w26.out.size
    have Bx0_w26 : Hid (Bx w26 w.heap.size [.slice a0x0 n0x0 c0x0, .slice a1x0 n1x0 c1x0]) := Bx0_w25.out.later HL_w26.out
    have Dw_w26 : Hid (FsU w26 (.slice a0sw n0sw c0sw) (.slice a1sw n1sw c1sw) d2 (fun b => w4.heap.size ≤ b ∧ b < w5.heap.size)) := Dw_w25.out.later HL_w26.out
    have Bw_w26 : Hid (Bx w26 w5.heap.size [.int .i64 code, .slice a0sw n0sw c0sw, .slice a1sw n1sw c1sw]) := Bw_w25.out.later HL_w26.out
    have Xx0_w26 : Hid (Bx w26 w6.heap.size [.slice a0x0p n0x0p c0x0p, .slice a1x0p n1x0p c1x0p]) := Xx0_w25.out.later HL_w26.out
    have Bg_w26 : Hid (Bx w26 w9.heap.size [.int .i64 code, .slice a0sg n0sg c0sg, .slice a1sg n1sg c1sg]) := Bg_w25.out.later HL_w26.out
    have Dm_w26 : Hid (FsU w26 (.slice a0sg n0sg c0sg) (.slice a1sg n1sg c1sg) (mkFs 1 d2) (fun b => w8.heap.size ≤ b ∧ b < w9.heap.size)) := Dm_w25.out.later HL_w26.out
    have Dh_w26 : Hid (FsU w26 (.slice a0sh n0sh c0sh) (.slice a1sh n1sh c1sh) d2 (fun b => w25.heap.size ≤ b ∧ b < w26.heap.size)) := ho
    clear Bx0_w25 Dw_w25 Bw_w25 Xx0_w25 Bg_w25 Dm_w25 Vx0_w25 Vx2_w25 Vx3_w25 HB_w25 HL_w26
    clear hb ho
    have qBx00 := Bx0_w26.out 0 _ rfl
    have qBx01 := Bx0_w26.out 1 _ rfl
    have tBx0 := Bx0_w26.out.lt
    have qBw0 := Bw_w26.out 0 _ rfl
    have qBw1 := Bw_w26.out 1 _ rfl
    have qBw2 := Bw_w26.out 2 _ rfl
    have tBw := Bw_w26.out.lt
    have qXx00 := Xx0_w26.out 0 _ rfl
    have qXx01 := Xx0_w26.out 1 _ rfl
    have tXx0 := Xx0_w26.out.lt
    have qBg0 := Bg_w26.out 0 _ rfl
    have qBg1 := Bg_w26.out 1 _ rfl
    have qBg2 := Bg_w26.out 2 _ rfl
    have tBg := Bg_w26.out.lt
    go_wp2_with fail
    clear qBx00 qBx01 tBx0 qBw0 qBw1 qBw2 tBw qXx00 qXx01 tXx0 qBg0 qBg1 qBg2 tBg
    refine (eqFsResultU _ code _ _ _ _ d2 (Dh_w26.out.later (later1 _ _)).reads (Dw_w26.out.later (later1 _ _)).reads).mono ?_
    rintro e w27 ⟨rfl, hb⟩
    have HL_w27 : Hid (Below w26.heap.size w26 w27) := (later1 _ _).trans (hb.mono (by simp))
    have HB_w27 : Hid (Below w.heap.size w w27) := HB_w26.out.trans (HL_w27.out.mono HB_w26.out.size)
    have z_w27 : w26.heap.size ≤ w27.heap.size := HL_w27.out.size
    have Bx0_w27 : Hid (Bx w27 w.heap.size [.slice a0x0 n0x0 c0x0, .slice a1x0 n1x0 c1x0]) := Bx0_w26.out.later HL_w27.out
    have Dw_w27 : Hid (FsU w27 (.slice a0sw n0sw c0sw) (.slice a1sw n1sw c1sw) d2 (fun b => w4.heap.size ≤ b ∧ b < w5.heap.size)) := Dw_w26.out.later HL_w27.out
    have Bw_w27 : Hid (Bx w27 w5.heap.size [.int .i64 code, .slice a0sw n0sw c0sw, .slice a1sw n1sw c1sw]) := Bw_w26.out.later HL_w27.out
    have Xx0_w27 : Hid (Bx w27 w6.heap.size [.slice a0x0p n0x0p c0x0p, .slice a1x0p n1x0p c1x0p]) := Xx0_w26.out.later HL_w27.out
    have Bg_w27 : Hid (Bx w27 w9.heap.size [.int .i64 code, .slice a0sg n0sg c0sg, .slice a1sg n1sg c1sg]) := Bg_w26.out.later HL_w27.out
    have Dm_w27 : Hid (FsU w27 (.slice a0sg n0sg c0sg) (.slice a1sg n1sg c1sg) (mkFs 1 d2) (fun b => w8.heap.size ≤ b ∧ b < w9.heap.size)) := Dm_w26.out.later HL_w27.out
    have Dh_w27 : Hid (FsU w27 (.slice a0sh n0sh c0sh) (.slice a1sh n1sh c1sh) d2 (fun b => w25.heap.size ≤ b ∧ b < w26.heap.size)) := Dh_w26.out.later HL_w27.out
    have Bh_w27 : Hid (Bx w27 w26.heap.size [.int .i64 code, .slice a0sh n0sh c0sh, .slice a1sh n1sh c1sh]) := (Bx.new _ [.int .i64 code, .slice a0sh n0sh c0sh, .slice a1sh n1sh c1sh] _).later hb
    have y_Bh : w26.heap.size < w27.heap.size := Bh_w27.out.lt
    clear Bx0_w26 Dw_w26 Bw_w26 Xx0_w26 Bg_w26 Dm_w26 Dh_w26 HB_w26 HL_w27
    clear hb
    have qBx00 := Bx0_w27.out 0 _ rfl
    have qBx01 := Bx0_w27.out 1 _ rfl
    have tBx0 := Bx0_w27.out.lt
    have qBw0 := Bw_w27.out 0 _ rfl
    have qBw1 := Bw_w27.out 1 _ rfl
    have qBw2 := Bw_w27.out 2 _ rfl
    have tBw := Bw_w27.out.lt
    have qXx00 := Xx0_w27.out 0 _ rfl
    have qXx01 := Xx0_w27.out 1 _ rfl
    have tXx0 := Xx0_w27.out.lt
    have qBg0 := Bg_w27.out 0 _ rfl
    have qBg1 := Bg_w27.out 1 _ rfl
    have qBg2 := Bg_w27.out 2 _ rfl
    have tBg := Bg_w27.out.lt
    have qBh0 := Bh_w27.out 0 _ rfl
    have qBh1 := Bh_w27.out 1 _ rfl
    have qBh2 := Bh_w27.out 2 _ rfl
    have tBh := Bh_w27.out.lt
    go_wp2_with fail
    clear qBx00 qBx01 tBx0 qBw0 qBw1 qBw2 tBw qXx00 qXx01 tXx0 qBg0 qBg1 qBg2 tBg qBh0 qBh1 qBh2 tBh
    refine (heldFsResultU _ code _ _ d2 _ 1 Dm_w27.out (by omega) (by rw [HK.out]; exact hK1)).mono ?_
    rw [HK.out]
    rintro e w28 ⟨rfl, hb⟩
    have HL_w28 : Hid (Below w27.heap.size w27 w28) := hb
    have HB_w28 : Hid (Below w.heap.size w w28) := HB_w27.out.trans (HL_w28.out.mono HB_w27.out.size)
    have z_w28 : w27.heap.size ≤ w28.heap.size := HL_w28.out.size
    have Bx0_w28 : Hid (Bx w28 w.heap.size [.slice a0x0 n0x0 c0x0, .slice a1x0 n1x0 c1x0]) := Bx0_w27.out.later HL_w28.out
    have Dw_w28 : Hid (FsU w28 (.slice a0sw n0sw c0sw) (.slice a1sw n1sw c1sw) d2 (fun b => w4.heap.size ≤ b ∧ b < w5.heap.size)) := Dw_w27.out.later HL_w28.out
    have Bw_w28 : Hid (Bx w28 w5.heap.size [.int .i64 code, .slice a0sw n0sw c0sw, .slice a1sw n1sw c1sw]) := Bw_w27.out.later HL_w28.out
    have Xx0_w28 : Hid (Bx w28 w6.heap.size [.slice a0x0p n0x0p c0x0p, .slice a1x0p n1x0p c1x0p]) := Xx0_w27.out.later HL_w28.out
    have Bg_w28 : Hid (Bx w28 w9.heap.size [.int .i64 code, .slice a0sg n0sg c0sg, .slice a1sg n1sg c1sg]) := Bg_w27.out.later HL_w28.out
    have Dm_w28 : Hid (FsU w28 (.slice a0sg n0sg c0sg) (.slice a1sg n1sg c1sg) (mkFs 1 d2) (fun b => w8.heap.size ≤ b ∧ b < w9.heap.size)) := Dm_w27.out.later HL_w28.out
    have Dh_w28 : Hid (FsU w28 (.slice a0sh n0sh c0sh) (.slice a1sh n1sh c1sh) d2 (fun b => w25.heap.size ≤ b ∧ b < w26.heap.size)) := Dh_w27.out.later HL_w28.out
    have Bh_w28 : Hid (Bx w28 w26.heap.size [.int .i64 code, .slice a0sh n0sh c0sh, .slice a1sh n1sh c1sh]) := Bh_w27.out.later HL_w28.out
    clear Bx0_w27 Dw_w27 Bw_w27 Xx0_w27 Bg_w27 Dm_w27 Dh_w27 Bh_w27 HB_w27 HL_w28
    clear hb
    have qBx00 := Bx0_w28.out 0 _ rfl
    have qBx01 := Bx0_w28.out 1 _ rfl
    have tBx0 := Bx0_w28.out.lt
    have qBw0 := Bw_w28.out 0 _ rfl
    have qBw1 := Bw_w28.out 1 _ rfl
    have qBw2 := Bw_w28.out 2 _ rfl
    have tBw := Bw_w28.out.lt
    have qXx00 := Xx0_w28.out 0 _ rfl
    have qXx01 := Xx0_w28.out 1 _ rfl
    have tXx0 := Xx0_w28.out.lt
    have qBg0 := Bg_w28.out 0 _ rfl
    have qBg1 := Bg_w28.out 1 _ rfl
    have qBg2 := Bg_w28.out 2 _ rfl
    have tBg := Bg_w28.out.lt
    have qBh0 := Bh_w28.out 0 _ rfl
    have qBh1 := Bh_w28.out 1 _ rfl
    have qBh2 := Bh_w28.out 2 _ rfl
    have tBh := Bh_w28.out.lt
    go_wp2
    go_ret
    exact ⟨rfl, HB_w28.out⟩

theorem lawSetBytes_any (w : World) (v0x0 : Value) (v1x0 : Value) (dx0 : FD) (x1 : Int) (v0x2 : Value) (dx2 : List UInt8) (v0x3 : Value) (dx3 : List Int) (hx0 : FsR w v0x0 v1x0 dx0) (hx2 : Byt w v0x2 dx2) (hx3 : Ints w v0x3 dx3) :
    Calls Tryz.prog 3 #[.agg #[v0x0, v1x0], .int .i64 x1, v0x2, v0x3] w fun e w' => e = .returned (.bool true) ∧ Below w.heap.size w w' := by
  obtain ⟨_, _, rfl, _, _⟩ := hx0.1.open'
  obtain ⟨_, _, rfl, _, _⟩ := hx0.2.open'
  have hhx2 := hx2
  obtain ⟨_, _, rfl, _, _⟩ := hhx2
  obtain ⟨_, _, rfl, _, _⟩ := hx3.open'
  by_cases kx2 : dx2.length ≤ 1048576
  rotate_left
  · exact lawSetBytes_long0 w _ _ _ _ _ _ x1 _ _ _ _ _ _  (by omega)
  by_cases kx3 : dx3.length ≤ 1048576
  rotate_left
  · exact lawSetBytes_long1 w _ _ _ _ _ _ x1 _ _ _ _ _ _ kx2 (by omega)
  by_cases kx0 : sizeFs dx0 ≤ 1048576
  rotate_left
  · exact lawSetBytes_big w _ _ _ _ _ _ dx0 x1 _ _ _ _ _ _ kx2 kx3 hx0 (by omega)
  exact lawSetBytes_small w _ _ _ _ _ _ dx0 x1 _ _ _ dx2 _ _ _ dx3 hx0 hx2 hx3 kx2 rfl kx3 rfl kx0
end Go.Proofs.YtjabimfinanjoaaGreat

/- The law of RoomOf: at every argument the program answers as the specification, leaves its arguments as they were, and its answer owns its memory. -/
import Derived.Test.YtlacppjlclfpmaaM15
import Derived.Test.YtlacppjlclfpmaaM13
import Derived.Test.YtlacppjlclfpmaaM12
namespace Go.Proofs.Ytlacppjlclfpmaa
open Go.RowKit
set_option maxRecDepth 100000

set_option maxHeartbeats 1600000 in
theorem lawRoomOf_long0 (w : World) (a0x0 : Option Addr) (n0x0 c0x0 : Nat) (a1x0 : Option Addr) (n1x0 c1x0 : Nat) (a0x1 : Option Addr) (n0x1 c0x1 : Nat) (hn : 1048576 < n0x1) :
    Calls Try.prog 4 #[.agg #[.slice a0x0 n0x0 c0x0, .slice a1x0 n1x0 c1x0], .slice a0x1 n0x1 c0x1] w fun e w' => e = .returned (.bool true) ∧ Below w.heap.size w w' := by
  have hn' : (1048576 : Int) < (n0x1 : Int) := by omega
  go_enter Try.func4, Try.ntmps4
  go_wp2
  go_ret
  exact ⟨rfl, later1 _ _⟩

set_option maxHeartbeats 1600000 in
theorem lawRoomOf_big (w : World) (a0x0 : Option Addr) (n0x0 c0x0 : Nat) (a1x0 : Option Addr) (n1x0 c1x0 : Nat) (dx0 : FD) (a0x1 : Option Addr) (n0x1 c0x1 : Nat) (lx1 : n0x1 ≤ 1048576) (hx0 : FsR w (.slice a0x0 n0x0 c0x0) (.slice a1x0 n1x0 c1x0) dx0) (hsz : 1048576 < sizeFs dx0) :
    Calls Try.prog 4 #[.agg #[.slice a0x0 n0x0 c0x0, .slice a1x0 n1x0 c1x0], .slice a0x1 n0x1 c0x1] w fun e w' => e = .returned (.bool true) ∧ Below w.heap.size w w' := by
  have Hx0 : Hid (FsR w (.slice a0x0 n0x0 c0x0) (.slice a1x0 n1x0 c1x0) dx0) := hx0
  have HS : Hid (szf 1048576 (sizeFs dx0) = -1) := szf_no (by omega)
  have lx1' : decide ((1048576 : Int) < (n0x1 : Int)) = false := by simp; omega
  clear hx0 hsz lx1
  go_enter Try.func4, Try.ntmps4
  go_wp2_with fail
  refine (szFsU _ _ _ _ _ _ _ dx0 (Hx0.out.later (later1 _ _)) 1048576 (by omega) (by omega)).mono ?_
  rw [HS.out]
  rintro e w1 ⟨rfl, hb1⟩
  have HBw1 : Hid (Below w.heap.size w w1) := (later1 _ _).trans (hb1.mono (by simp))
  clear hb1
  go_wp2
  go_ret
  exact ⟨rfl, HBw1.out⟩

set_option maxHeartbeats 12800000 in
theorem lawRoomOf_small (w : World) (a0x0 : Option Addr) (n0x0 c0x0 : Nat) (a1x0 : Option Addr) (n1x0 c1x0 : Nat) (dx0 : FD) (a0x1 : Option Addr) (n0x1 c0x1 : Nat) (dx1 : List Int) (hx0 : FsR w (.slice a0x0 n0x0 c0x0) (.slice a1x0 n1x0 c1x0) dx0) (hx1 : Ints w (.slice a0x1 n0x1 c0x1) dx1) (lx1 : n0x1 ≤ 1048576) (mx1 : dx1.length = n0x1) (sx0 : sizeFs dx0 ≤ 1048576) :
    Calls Try.prog 4 #[.agg #[.slice a0x0 n0x0 c0x0, .slice a1x0 n1x0 c1x0], .slice a0x1 n0x1 c0x1] w fun e w' => e = .returned (.bool true) ∧ Below w.heap.size w w' := by
  have Hx0 : Hid (FsR w (.slice a0x0 n0x0 c0x0) (.slice a1x0 n1x0 c1x0) dx0) := hx0
  have Hx1 : Hid (Ints w (.slice a0x1 n0x1 c0x1) dx1) := hx1
  have Sx0 : Hid (sizeFs dx0 ≤ 1048576) := sx0
  have HSx0 : Hid (szf 1048576 (sizeFs dx0) = 1048576 - (sizeFs dx0 : Nat)) := szf_yes (by omega)
  have hposx0 : ¬ (1048576 - ((sizeFs dx0 : Nat) : Int) < 0) := by omega
  have hspx0 : ((spanFs dx0 : Nat) : Int) ≤ 4194304 := by have := spanFs_le dx0; omega
  have Sx1 : Hid (dx1.length ≤ 1048576) := by unfold Hid; omega
  have lx1' : decide ((1048576 : Int) < (n0x1 : Int)) = false := by simp; omega
  have hspx1 : ((List.length dx1 : Nat) : Int) ≤ 1048576 := by omega
  generalize hr : roomR dx0 dx1 = r at *
  have HR : Hid (roomR dx0 dx1 = r) := hr
  obtain ⟨code, val⟩ := r
  clear hr hx0 hx1 sx0 lx1 mx1
  go_enter Try.func4, Try.ntmps4
  go_wp2_with fail
  refine (szFsU _ _ _ _ _ _ _ dx0 (Hx0.out.later (later1 _ _)) 1048576 (by omega) (by omega)).mono ?_
  rw [HSx0.out]
  rintro e w1 ⟨rfl, hb⟩
  have HL_w1 : Hid (Below w.heap.size w w1) := (later1 _ _).trans (hb.mono (by simp))
  have HB_w1 : Hid (Below w.heap.size w w1) := HL_w1.out
  have z_w1 : w.heap.size ≤ w1.heap.size := HL_w1.out.size
  have Bx0_w1 : Hid (Bx w1 w.heap.size [.slice a0x0 n0x0 c0x0, .slice a1x0 n1x0 c1x0]) := (Bx.new _ [.slice a0x0 n0x0 c0x0, .slice a1x0 n1x0 c1x0] _).later hb
  have y_Bx0 : w.heap.size < w1.heap.size := Bx0_w1.out.lt
  clear HL_w1
  clear hb
  have qBx00 := Bx0_w1.out 0 _ rfl
  have qBx01 := Bx0_w1.out 1 _ rfl
  have tBx0 := Bx0_w1.out.lt
  go_wp2_with fail
  clear qBx00 qBx01 tBx0
  refine (toFsU _ _ _ _ _ _ _ dx0 (Hx0.out.later HB_w1.out) Sx0.out).mono ?_
  rintro e w2 ⟨a0x0s, n0x0s, c0x0s, a1x0s, n1x0s, c1x0s, rfl, hb, ho⟩
  have HL_w2 : Hid (Below w1.heap.size w1 w2) := hb
  have HB_w2 : Hid (Below w.heap.size w w2) := HB_w1.out.trans (HL_w2.out.mono HB_w1.out.size)
  have z_w2 : w1.heap.size ≤ w2.heap.size := HL_w2.out.size
  have Bx0_w2 : Hid (Bx w2 w.heap.size [.slice a0x0 n0x0 c0x0, .slice a1x0 n1x0 c1x0]) := Bx0_w1.out.later HL_w2.out
  have Tx0_w2 : Hid (FsU w2 (.slice a0x0s n0x0s c0x0s) (.slice a1x0s n1x0s c1x0s) dx0 (fun b => w1.heap.size ≤ b ∧ b < w2.heap.size)) := ho
  clear Bx0_w1 HB_w1 HL_w2
  clear hb ho
  have qBx00 := Bx0_w2.out 0 _ rfl
  have qBx01 := Bx0_w2.out 1 _ rfl
  have tBx0 := Bx0_w2.out.lt
  go_wp2_with fail
  clear qBx00 qBx01 tBx0
  refine (toIntsU (Hx1.out.later HB_w2.out) Sx1.out).mono ?_
  rintro e w3 ⟨a0x1s, n0x1s, c0x1s, rfl, hb, ho⟩
  have HL_w3 : Hid (Below w2.heap.size w2 w3) := hb
  have HB_w3 : Hid (Below w.heap.size w w3) := HB_w2.out.trans (HL_w3.out.mono HB_w2.out.size)
  have z_w3 : w2.heap.size ≤ w3.heap.size := HL_w3.out.size
  have Bx0_w3 : Hid (Bx w3 w.heap.size [.slice a0x0 n0x0 c0x0, .slice a1x0 n1x0 c1x0]) := Bx0_w2.out.later HL_w3.out
  have Tx0_w3 : Hid (FsU w3 (.slice a0x0s n0x0s c0x0s) (.slice a1x0s n1x0s c1x0s) dx0 (fun b => w1.heap.size ≤ b ∧ b < w2.heap.size)) := Tx0_w2.out.later HL_w3.out
  have Tx1_w3 : Hid (IntsO w3 (.slice a0x1s n0x1s c0x1s) dx1 (fun b => w2.heap.size ≤ b ∧ b < w3.heap.size)) := ho
  clear Bx0_w2 Tx0_w2 HB_w2 HL_w3
  clear hb ho
  have qBx00 := Bx0_w3.out 0 _ rfl
  have qBx01 := Bx0_w3.out 1 _ rfl
  have tBx0 := Bx0_w3.out.lt
  go_wp2_with fail
  clear qBx00 qBx01 tBx0
  refine (specRoomU _ _ _ _ _ _ _ dx0 _ _ _ dx1 Tx0_w3.out.reads Tx1_w3.out.reads Sx0.out Sx1.out).mono ?_
  rw [HR.out]
  rintro e w4 ⟨rfl, hb⟩
  have HL_w4 : Hid (Below w3.heap.size w3 w4) := hb
  have HB_w4 : Hid (Below w.heap.size w w4) := HB_w3.out.trans (HL_w4.out.mono HB_w3.out.size)
  have z_w4 : w3.heap.size ≤ w4.heap.size := HL_w4.out.size
  have Bx0_w4 : Hid (Bx w4 w.heap.size [.slice a0x0 n0x0 c0x0, .slice a1x0 n1x0 c1x0]) := Bx0_w3.out.later HL_w4.out
  clear Bx0_w3 Tx0_w3 Tx1_w3 HB_w3 HL_w4
  clear hb
  have qBx00 := Bx0_w4.out 0 _ rfl
  have qBx01 := Bx0_w4.out 1 _ rfl
  have tBx0 := Bx0_w4.out.lt
  go_wp2_with fail
  clear qBx00 qBx01 tBx0
  refine (toFsU _ _ _ _ _ _ _ dx0 ((Hx0.out.later HB_w4.out).later (later1 _ _)) Sx0.out).mono ?_
  rintro e w5 ⟨a0x0p, n0x0p, c0x0p, a1x0p, n1x0p, c1x0p, rfl, hb, ho⟩
  have HL_w5 : Hid (Below w4.heap.size w4 w5) := (later1 _ _).trans (hb.mono (by simp))
  have HB_w5 : Hid (Below w.heap.size w w5) := HB_w4.out.trans (HL_w5.out.mono HB_w4.out.size)
  have z_w5 : w4.heap.size ≤ w5.heap.size := HL_w5.out.size
  have Bx0_w5 : Hid (Bx w5 w.heap.size [.slice a0x0 n0x0 c0x0, .slice a1x0 n1x0 c1x0]) := Bx0_w4.out.later HL_w5.out
  have Bw_w5 : Hid (Bx w5 w4.heap.size [.int .i64 code, .int .i64 val]) := (Bx.new _ [.int .i64 code, .int .i64 val] _).later hb
  have y_Bw : w4.heap.size < w5.heap.size := Bw_w5.out.lt
  have Px0_w5 : Hid (FsU w5 (.slice a0x0p n0x0p c0x0p) (.slice a1x0p n1x0p c1x0p) dx0 (fun b => w4.heap.size < b ∧ b < w5.heap.size)) := ho.mono fun b hb => ⟨by have := hb.1; simp at this; omega, hb.2⟩
  clear Bx0_w4 HB_w4 HL_w5
  clear hb ho
  have qBx00 := Bx0_w5.out 0 _ rfl
  have qBx01 := Bx0_w5.out 1 _ rfl
  have tBx0 := Bx0_w5.out.lt
  have qBw0 := Bw_w5.out 0 _ rfl
  have qBw1 := Bw_w5.out 1 _ rfl
  have tBw := Bw_w5.out.lt
  go_wp2_with fail
  clear qBx00 qBx01 tBx0 qBw0 qBw1 tBw
  refine (toIntsU ((Hx1.out.later HB_w5.out).later (later1 _ _)) Sx1.out).mono ?_
  rintro e w6 ⟨a0x1p, n0x1p, c0x1p, rfl, hb, ho⟩
  have HL_w6 : Hid (Below w5.heap.size w5 w6) := (later1 _ _).trans (hb.mono (by simp))
  have HB_w6 : Hid (Below w.heap.size w w6) := HB_w5.out.trans (HL_w6.out.mono HB_w5.out.size)
  have z_w6 : w5.heap.size ≤ w6.heap.size := HL_w6.out.size
  have Bx0_w6 : Hid (Bx w6 w.heap.size [.slice a0x0 n0x0 c0x0, .slice a1x0 n1x0 c1x0]) := Bx0_w5.out.later HL_w6.out
  have Bw_w6 : Hid (Bx w6 w4.heap.size [.int .i64 code, .int .i64 val]) := Bw_w5.out.later HL_w6.out
  have Px0_w6 : Hid (FsU w6 (.slice a0x0p n0x0p c0x0p) (.slice a1x0p n1x0p c1x0p) dx0 (fun b => w4.heap.size < b ∧ b < w5.heap.size)) := Px0_w5.out.later HL_w6.out
  have Xx0_w6 : Hid (Bx w6 w5.heap.size [.slice a0x0p n0x0p c0x0p, .slice a1x0p n1x0p c1x0p]) := (Bx.new _ [.slice a0x0p n0x0p c0x0p, .slice a1x0p n1x0p c1x0p] _).later hb
  have y_Xx0 : w5.heap.size < w6.heap.size := Xx0_w6.out.lt
  have Px1_w6 : Hid (IntsO w6 (.slice a0x1p n0x1p c0x1p) dx1 (fun b => w5.heap.size < b ∧ b < w6.heap.size)) := ho.mono fun b hb => ⟨by have := hb.1; simp at this; omega, hb.2⟩
  clear Bx0_w5 Bw_w5 Px0_w5 HB_w5 HL_w6
  clear hb ho
  have qBx00 := Bx0_w6.out 0 _ rfl
  have qBx01 := Bx0_w6.out 1 _ rfl
  have tBx0 := Bx0_w6.out.lt
  have qBw0 := Bw_w6.out 0 _ rfl
  have qBw1 := Bw_w6.out 1 _ rfl
  have tBw := Bw_w6.out.lt
  have qXx00 := Xx0_w6.out 0 _ rfl
  have qXx01 := Xx0_w6.out 1 _ rfl
  have tXx0 := Xx0_w6.out.lt
  go_wp2_with fail
  clear qBx00 qBx01 tBx0 qBw0 qBw1 tBw qXx00 qXx01 tXx0
  refine (implRoomU _ _ _ _ _ _ _ dx0 _ _ _ dx1 Px0_w6.out.reads Px1_w6.out.reads Sx0.out Sx1.out).mono ?_
  rw [HR.out]
  rintro e w7 ⟨rfl, hb⟩
  have HL_w7 : Hid (Below w6.heap.size w6 w7) := hb
  have HB_w7 : Hid (Below w.heap.size w w7) := HB_w6.out.trans (HL_w7.out.mono HB_w6.out.size)
  have z_w7 : w6.heap.size ≤ w7.heap.size := HL_w7.out.size
  have Bx0_w7 : Hid (Bx w7 w.heap.size [.slice a0x0 n0x0 c0x0, .slice a1x0 n1x0 c1x0]) := Bx0_w6.out.later HL_w7.out
  have Bw_w7 : Hid (Bx w7 w4.heap.size [.int .i64 code, .int .i64 val]) := Bw_w6.out.later HL_w7.out
  have Px0_w7 : Hid (FsU w7 (.slice a0x0p n0x0p c0x0p) (.slice a1x0p n1x0p c1x0p) dx0 (fun b => w4.heap.size < b ∧ b < w5.heap.size)) := Px0_w6.out.later HL_w7.out
  have Xx0_w7 : Hid (Bx w7 w5.heap.size [.slice a0x0p n0x0p c0x0p, .slice a1x0p n1x0p c1x0p]) := Xx0_w6.out.later HL_w7.out
  have Px1_w7 : Hid (IntsO w7 (.slice a0x1p n0x1p c0x1p) dx1 (fun b => w5.heap.size < b ∧ b < w6.heap.size)) := Px1_w6.out.later HL_w7.out
  clear Bx0_w6 Bw_w6 Px0_w6 Xx0_w6 Px1_w6 HB_w6 HL_w7
  clear hb
  have qBx00 := Bx0_w7.out 0 _ rfl
  have qBx01 := Bx0_w7.out 1 _ rfl
  have tBx0 := Bx0_w7.out.lt
  have qBw0 := Bw_w7.out 0 _ rfl
  have qBw1 := Bw_w7.out 1 _ rfl
  have tBw := Bw_w7.out.lt
  have qXx00 := Xx0_w7.out 0 _ rfl
  have qXx01 := Xx0_w7.out 1 _ rfl
  have tXx0 := Xx0_w7.out.lt
  go_wp2_with fail
  clear qBx00 qBx01 tBx0 qBw0 qBw1 tBw qXx00 qXx01 tXx0
  refine (eqIntResultU _ code val).mono ?_
  rintro e w8 ⟨rfl, hb⟩
  have HL_w8 : Hid (Below w7.heap.size w7 w8) := (later1 _ _).trans (hb.mono (by simp))
  have HB_w8 : Hid (Below w.heap.size w w8) := HB_w7.out.trans (HL_w8.out.mono HB_w7.out.size)
  have z_w8 : w7.heap.size ≤ w8.heap.size := HL_w8.out.size
  have Bx0_w8 : Hid (Bx w8 w.heap.size [.slice a0x0 n0x0 c0x0, .slice a1x0 n1x0 c1x0]) := Bx0_w7.out.later HL_w8.out
  have Bw_w8 : Hid (Bx w8 w4.heap.size [.int .i64 code, .int .i64 val]) := Bw_w7.out.later HL_w8.out
  have Px0_w8 : Hid (FsU w8 (.slice a0x0p n0x0p c0x0p) (.slice a1x0p n1x0p c1x0p) dx0 (fun b => w4.heap.size < b ∧ b < w5.heap.size)) := Px0_w7.out.later HL_w8.out
  have Xx0_w8 : Hid (Bx w8 w5.heap.size [.slice a0x0p n0x0p c0x0p, .slice a1x0p n1x0p c1x0p]) := Xx0_w7.out.later HL_w8.out
  have Px1_w8 : Hid (IntsO w8 (.slice a0x1p n0x1p c0x1p) dx1 (fun b => w5.heap.size < b ∧ b < w6.heap.size)) := Px1_w7.out.later HL_w8.out
  have Bg_w8 : Hid (Bx w8 w7.heap.size [.int .i64 code, .int .i64 val]) := (Bx.new _ [.int .i64 code, .int .i64 val] _).later hb
  have y_Bg : w7.heap.size < w8.heap.size := Bg_w8.out.lt
  clear Bx0_w7 Bw_w7 Px0_w7 Xx0_w7 Px1_w7 HB_w7 HL_w8
  clear hb
  have qBx00 := Bx0_w8.out 0 _ rfl
  have qBx01 := Bx0_w8.out 1 _ rfl
  have tBx0 := Bx0_w8.out.lt
  have qBw0 := Bw_w8.out 0 _ rfl
  have qBw1 := Bw_w8.out 1 _ rfl
  have tBw := Bw_w8.out.lt
  have qXx00 := Xx0_w8.out 0 _ rfl
  have qXx01 := Xx0_w8.out 1 _ rfl
  have tXx0 := Xx0_w8.out.lt
  have qBg0 := Bg_w8.out 0 _ rfl
  have qBg1 := Bg_w8.out 1 _ rfl
  have tBg := Bg_w8.out.lt
  go_wp2_with fail
  go_region_with (first
    | (go_at_call 10; refine (toFsU _ _ _ _ _ _ _ dx0 ?_ Sx0.out).mono ?_; exact Hx0.out.later HB_w8.out.drew; rintro e w9 ⟨a0x0q, n0x0q, c0x0q, a1x0q, n1x0q, c1x0q, rfl, hb, ho⟩; have y0 := cell_later hb qXx00; have y1 := cell_later hb qXx01; have HL : Hid (Below w8.heap.size w8 w9) := (Below.refl _ _).drew.trans hb; have HO : Hid (FsR w9 (.slice a0x0q n0x0q c0x0q) (.slice a1x0q n1x0q c1x0q) dx0) := ho.reads; clear hb ho)
    | (go_at_call 13; refine (eqFsU _ _ _ _ _ dx0 ?_ ?_).mono ?_; exact Px0_w8.out.reads.later HL.out; exact HO.out; rintro e w10 ⟨rfl, hb⟩; have HL2 : Hid (Below w9.heap.size w9 w10) := hb; clear hb))
  all_goals
    have hb : Below w8.heap.size w8 w10 := HL.out.trans (HL2.out.mono HL.out.size)
    clear qBx00 qBx01 tBx0 qBw0 qBw1 tBw qXx00 qXx01 tXx0 qBg0 qBg1 tBg HL HL2 HO y0 y1
    have HL_w10 : Hid (Below w8.heap.size w8 w10) := hb
    have HB_w10 : Hid (Below w.heap.size w w10) := HB_w8.out.trans (HL_w10.out.mono HB_w8.out.size)
    have z_w10 : w8.heap.size ≤ w10.heap.size := HL_w10.out.size
    have Bx0_w10 : Hid (Bx w10 w.heap.size [.slice a0x0 n0x0 c0x0, .slice a1x0 n1x0 c1x0]) := Bx0_w8.out.later HL_w10.out
    have Bw_w10 : Hid (Bx w10 w4.heap.size [.int .i64 code, .int .i64 val]) := Bw_w8.out.later HL_w10.out
    have Px0_w10 : Hid (FsU w10 (.slice a0x0p n0x0p c0x0p) (.slice a1x0p n1x0p c1x0p) dx0 (fun b => w4.heap.size < b ∧ b < w5.heap.size)) := Px0_w8.out.later HL_w10.out
    have Xx0_w10 : Hid (Bx w10 w5.heap.size [.slice a0x0p n0x0p c0x0p, .slice a1x0p n1x0p c1x0p]) := Xx0_w8.out.later HL_w10.out
    have Px1_w10 : Hid (IntsO w10 (.slice a0x1p n0x1p c0x1p) dx1 (fun b => w5.heap.size < b ∧ b < w6.heap.size)) := Px1_w8.out.later HL_w10.out
    have Bg_w10 : Hid (Bx w10 w7.heap.size [.int .i64 code, .int .i64 val]) := Bg_w8.out.later HL_w10.out
    clear Bx0_w8 Bw_w8 Px0_w8 Xx0_w8 Px1_w8 Bg_w8 HB_w8 HL_w10
    clear hb
    have qBx00 := Bx0_w10.out 0 _ rfl
    have qBx01 := Bx0_w10.out 1 _ rfl
    have tBx0 := Bx0_w10.out.lt
    have qBw0 := Bw_w10.out 0 _ rfl
    have qBw1 := Bw_w10.out 1 _ rfl
    have tBw := Bw_w10.out.lt
    have qXx00 := Xx0_w10.out 0 _ rfl
    have qXx01 := Xx0_w10.out 1 _ rfl
    have tXx0 := Xx0_w10.out.lt
    have qBg0 := Bg_w10.out 0 _ rfl
    have qBg1 := Bg_w10.out 1 _ rfl
    have tBg := Bg_w10.out.lt
    go_wp2_with fail
    clear qBx00 qBx01 tBx0 qBw0 qBw1 tBw qXx00 qXx01 tXx0 qBg0 qBg1 tBg
    refine (toIntsU (Hx1.out.later HB_w10.out) Sx1.out).mono ?_
    rintro e w11 ⟨a0x1q, n0x1q, c0x1q, rfl, hb, ho⟩
    have HL_w11 : Hid (Below w10.heap.size w10 w11) := hb
    have HB_w11 : Hid (Below w.heap.size w w11) := HB_w10.out.trans (HL_w11.out.mono HB_w10.out.size)
    have z_w11 : w10.heap.size ≤ w11.heap.size := HL_w11.out.size
    have Bx0_w11 : Hid (Bx w11 w.heap.size [.slice a0x0 n0x0 c0x0, .slice a1x0 n1x0 c1x0]) := Bx0_w10.out.later HL_w11.out
    have Bw_w11 : Hid (Bx w11 w4.heap.size [.int .i64 code, .int .i64 val]) := Bw_w10.out.later HL_w11.out
    have Px0_w11 : Hid (FsU w11 (.slice a0x0p n0x0p c0x0p) (.slice a1x0p n1x0p c1x0p) dx0 (fun b => w4.heap.size < b ∧ b < w5.heap.size)) := Px0_w10.out.later HL_w11.out
    have Xx0_w11 : Hid (Bx w11 w5.heap.size [.slice a0x0p n0x0p c0x0p, .slice a1x0p n1x0p c1x0p]) := Xx0_w10.out.later HL_w11.out
    have Px1_w11 : Hid (IntsO w11 (.slice a0x1p n0x1p c0x1p) dx1 (fun b => w5.heap.size < b ∧ b < w6.heap.size)) := Px1_w10.out.later HL_w11.out
    have Bg_w11 : Hid (Bx w11 w7.heap.size [.int .i64 code, .int .i64 val]) := Bg_w10.out.later HL_w11.out
    have Qx1_w11 : Hid (IntsO w11 (.slice a0x1q n0x1q c0x1q) dx1 (fun b => w10.heap.size ≤ b ∧ b < w11.heap.size)) := ho
    clear Bx0_w10 Bw_w10 Px0_w10 Xx0_w10 Px1_w10 Bg_w10 HB_w10 HL_w11
    clear hb ho
    have qBx00 := Bx0_w11.out 0 _ rfl
    have qBx01 := Bx0_w11.out 1 _ rfl
    have tBx0 := Bx0_w11.out.lt
    have qBw0 := Bw_w11.out 0 _ rfl
    have qBw1 := Bw_w11.out 1 _ rfl
    have tBw := Bw_w11.out.lt
    have qXx00 := Xx0_w11.out 0 _ rfl
    have qXx01 := Xx0_w11.out 1 _ rfl
    have tXx0 := Xx0_w11.out.lt
    have qBg0 := Bg_w11.out 0 _ rfl
    have qBg1 := Bg_w11.out 1 _ rfl
    have tBg := Bg_w11.out.lt
    go_wp2_with fail
    clear qBx00 qBx01 tBx0 qBw0 qBw1 tBw qXx00 qXx01 tXx0 qBg0 qBg1 tBg
    refine (eqIntsU Px1_w11.out.reads Qx1_w11.out.reads).mono ?_
    rintro e w12 ⟨rfl, hb⟩
    have HL_w12 : Hid (Below w11.heap.size w11 w12) := hb
    have HB_w12 : Hid (Below w.heap.size w w12) := HB_w11.out.trans (HL_w12.out.mono HB_w11.out.size)
    have z_w12 : w11.heap.size ≤ w12.heap.size := HL_w12.out.size
    have Bx0_w12 : Hid (Bx w12 w.heap.size [.slice a0x0 n0x0 c0x0, .slice a1x0 n1x0 c1x0]) := Bx0_w11.out.later HL_w12.out
    have Bw_w12 : Hid (Bx w12 w4.heap.size [.int .i64 code, .int .i64 val]) := Bw_w11.out.later HL_w12.out
    have Px0_w12 : Hid (FsU w12 (.slice a0x0p n0x0p c0x0p) (.slice a1x0p n1x0p c1x0p) dx0 (fun b => w4.heap.size < b ∧ b < w5.heap.size)) := Px0_w11.out.later HL_w12.out
    have Xx0_w12 : Hid (Bx w12 w5.heap.size [.slice a0x0p n0x0p c0x0p, .slice a1x0p n1x0p c1x0p]) := Xx0_w11.out.later HL_w12.out
    have Px1_w12 : Hid (IntsO w12 (.slice a0x1p n0x1p c0x1p) dx1 (fun b => w5.heap.size < b ∧ b < w6.heap.size)) := Px1_w11.out.later HL_w12.out
    have Bg_w12 : Hid (Bx w12 w7.heap.size [.int .i64 code, .int .i64 val]) := Bg_w11.out.later HL_w12.out
    clear Bx0_w11 Bw_w11 Px0_w11 Xx0_w11 Px1_w11 Bg_w11 Qx1_w11 HB_w11 HL_w12
    clear hb
    have qBx00 := Bx0_w12.out 0 _ rfl
    have qBx01 := Bx0_w12.out 1 _ rfl
    have tBx0 := Bx0_w12.out.lt
    have qBw0 := Bw_w12.out 0 _ rfl
    have qBw1 := Bw_w12.out 1 _ rfl
    have tBw := Bw_w12.out.lt
    have qXx00 := Xx0_w12.out 0 _ rfl
    have qXx01 := Xx0_w12.out 1 _ rfl
    have tXx0 := Xx0_w12.out.lt
    have qBg0 := Bg_w12.out 0 _ rfl
    have qBg1 := Bg_w12.out 1 _ rfl
    have tBg := Bg_w12.out.lt
    go_wp2
    go_ret
    exact ⟨rfl, HB_w12.out⟩

theorem lawRoomOf_any (w : World) (v0x0 : Value) (v1x0 : Value) (dx0 : FD) (v0x1 : Value) (dx1 : List Int) (hx0 : FsR w v0x0 v1x0 dx0) (hx1 : Ints w v0x1 dx1) :
    Calls Try.prog 4 #[.agg #[v0x0, v1x0], v0x1] w fun e w' => e = .returned (.bool true) ∧ Below w.heap.size w w' := by
  obtain ⟨_, _, rfl, _, _⟩ := hx0.1.open'
  obtain ⟨_, _, rfl, _, _⟩ := hx0.2.open'
  obtain ⟨_, _, rfl, _, _⟩ := hx1.open'
  by_cases kx1 : dx1.length ≤ 1048576
  rotate_left
  · exact lawRoomOf_long0 w _ _ _ _ _ _ _ _ _  (by omega)
  by_cases kx0 : sizeFs dx0 ≤ 1048576
  rotate_left
  · exact lawRoomOf_big w _ _ _ _ _ _ dx0 _ _ _ kx1 hx0 (by omega)
  exact lawRoomOf_small w _ _ _ _ _ _ dx0 _ _ _ dx1 hx0 hx1 kx1 rfl kx0
end Go.Proofs.Ytlacppjlclfpmaa

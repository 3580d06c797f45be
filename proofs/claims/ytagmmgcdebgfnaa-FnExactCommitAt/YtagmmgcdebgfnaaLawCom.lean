/- The law of CommitAt: at every argument the program answers as the specification, leaves its arguments as they were, and its answer owns its memory. -/
import Derived.Test.YtagmmgcdebgfnaaM05
import Derived.Test.YtagmmgcdebgfnaaM06
namespace Go.Proofs.Ytagmmgcdebgfnaa
open Go.RowKit
set_option maxRecDepth 100000

set_option maxHeartbeats 1600000 in
theorem lawCommitAt_big (w : World) (a0x0 : Option Addr) (n0x0 c0x0 : Nat) (dx0 : List SD) (hx0 : Stps w (.slice a0x0 n0x0 c0x0) dx0) (hsz : 1048576 < sizeStps dx0) :
    Calls Try.prog 4 #[.slice a0x0 n0x0 c0x0] w fun e w' => e = .returned (.bool true) ∧ Below w.heap.size w w' := by
  have Hx0 : Hid (Stps w (.slice a0x0 n0x0 c0x0) dx0) := hx0
  have HS : Hid (szf 1048576 (sizeStps dx0) = -1) := szf_no (by omega)
  clear hx0 hsz
  go_enter Try.func4, Try.ntmps4
  go_wp2_with fail
  refine (szStpsU _ _ _ _ dx0 (Hx0.out.later (Below.refl _ _)) 1048576 (by omega) (by omega)).mono ?_
  rw [HS.out]
  rintro e w1 ⟨rfl, hb1⟩
  have HBw1 : Hid (Below w.heap.size w w1) := (Below.refl _ _).trans (hb1.mono (by simp))
  clear hb1
  go_wp2
  go_ret
  exact ⟨rfl, HBw1.out⟩

set_option maxHeartbeats 12800000 in
theorem lawCommitAt_small (w : World) (a0x0 : Option Addr) (n0x0 c0x0 : Nat) (dx0 : List SD) (hx0 : Stps w (.slice a0x0 n0x0 c0x0) dx0) (sx0 : sizeStps dx0 ≤ 1048576) :
    Calls Try.prog 4 #[.slice a0x0 n0x0 c0x0] w fun e w' => e = .returned (.bool true) ∧ Below w.heap.size w w' := by
  have Hx0 : Hid (Stps w (.slice a0x0 n0x0 c0x0) dx0) := hx0
  have Sx0 : Hid (sizeStps dx0 ≤ 1048576) := sx0
  have HSx0 : Hid (szf 1048576 (sizeStps dx0) = 1048576 - (sizeStps dx0 : Nat)) := szf_yes (by omega)
  have hposx0 : ¬ (1048576 - ((sizeStps dx0 : Nat) : Int) < 0) := by omega
  have hspx0 : ((spanStps dx0 : Nat) : Int) ≤ 4194304 := by have := spanStps_le dx0; omega
  generalize hr : comR dx0 = r at *
  have HR : Hid (comR dx0 = r) := hr
  obtain ⟨code, val⟩ := r
  clear hr hx0 sx0
  go_enter Try.func4, Try.ntmps4
  go_wp2_with fail
  refine (szStpsU _ _ _ _ dx0 Hx0.out 1048576 (by omega) (by omega)).mono ?_
  rw [HSx0.out]
  rintro e w1 ⟨rfl, hb⟩
  have HL_w1 : Hid (Below w.heap.size w w1) := hb
  have HB_w1 : Hid (Below w.heap.size w w1) := HL_w1.out
  have z_w1 : w.heap.size ≤ w1.heap.size := HL_w1.out.size
  clear HL_w1
  clear hb
  go_wp2_with fail
  refine (toStpsU (Hx0.out.later HB_w1.out) Sx0.out).mono ?_
  rintro e w2 ⟨a0x0s, n0x0s, c0x0s, rfl, hb, ho⟩
  have HL_w2 : Hid (Below w1.heap.size w1 w2) := hb
  have HB_w2 : Hid (Below w.heap.size w w2) := HB_w1.out.trans (HL_w2.out.mono HB_w1.out.size)
  have z_w2 : w1.heap.size ≤ w2.heap.size := HL_w2.out.size
  have Tx0_w2 : Hid (StpsO w2 (.slice a0x0s n0x0s c0x0s) dx0 (fun b => w1.heap.size ≤ b ∧ b < w2.heap.size)) := ho
  clear HB_w1 HL_w2
  clear hb ho
  go_wp2_with fail
  refine (specComU _ _ _ _ dx0 Tx0_w2.out.reads Sx0.out).mono ?_
  rw [HR.out]
  rintro e w3 ⟨rfl, hb⟩
  have HL_w3 : Hid (Below w2.heap.size w2 w3) := hb
  have HB_w3 : Hid (Below w.heap.size w w3) := HB_w2.out.trans (HL_w3.out.mono HB_w2.out.size)
  have z_w3 : w2.heap.size ≤ w3.heap.size := HL_w3.out.size
  clear Tx0_w2 HB_w2 HL_w3
  clear hb
  go_wp2_with fail
  refine (toStpsU ((Hx0.out.later HB_w3.out).later (later1 _ _)) Sx0.out).mono ?_
  rintro e w4 ⟨a0x0p, n0x0p, c0x0p, rfl, hb, ho⟩
  have HL_w4 : Hid (Below w3.heap.size w3 w4) := (later1 _ _).trans (hb.mono (by simp))
  have HB_w4 : Hid (Below w.heap.size w w4) := HB_w3.out.trans (HL_w4.out.mono HB_w3.out.size)
  have z_w4 : w3.heap.size ≤ w4.heap.size := HL_w4.out.size
  have Bw_w4 : Hid (Bx w4 w3.heap.size [.int .i64 code, .int .i64 val]) := (Bx.new _ [.int .i64 code, .int .i64 val] _).later hb
  have y_Bw : w3.heap.size < w4.heap.size := Bw_w4.out.lt
  have Px0_w4 : Hid (StpsO w4 (.slice a0x0p n0x0p c0x0p) dx0 (fun b => w3.heap.size < b ∧ b < w4.heap.size)) := ho.mono fun b hb => ⟨by have := hb.1; simp at this; omega, hb.2⟩
  clear HB_w3 HL_w4
  clear hb ho
  have qBw0 := Bw_w4.out 0 _ rfl
  have qBw1 := Bw_w4.out 1 _ rfl
  have tBw := Bw_w4.out.lt
  go_wp2_with fail
  clear qBw0 qBw1 tBw
  refine (implComU _ _ _ _ dx0 Px0_w4.out.reads Sx0.out).mono ?_
  rw [HR.out]
  rintro e w5 ⟨rfl, hb⟩
  have HL_w5 : Hid (Below w4.heap.size w4 w5) := hb
  have HB_w5 : Hid (Below w.heap.size w w5) := HB_w4.out.trans (HL_w5.out.mono HB_w4.out.size)
  have z_w5 : w4.heap.size ≤ w5.heap.size := HL_w5.out.size
  have Bw_w5 : Hid (Bx w5 w3.heap.size [.int .i64 code, .int .i64 val]) := Bw_w4.out.later HL_w5.out
  have Px0_w5 : Hid (StpsO w5 (.slice a0x0p n0x0p c0x0p) dx0 (fun b => w3.heap.size < b ∧ b < w4.heap.size)) := Px0_w4.out.later HL_w5.out
  clear Bw_w4 Px0_w4 HB_w4 HL_w5
  clear hb
  have qBw0 := Bw_w5.out 0 _ rfl
  have qBw1 := Bw_w5.out 1 _ rfl
  have tBw := Bw_w5.out.lt
  go_wp2_with fail
  clear qBw0 qBw1 tBw
  refine (eqIntResultU _ code val).mono ?_
  rintro e w6 ⟨rfl, hb⟩
  have HL_w6 : Hid (Below w5.heap.size w5 w6) := (later1 _ _).trans (hb.mono (by simp))
  have HB_w6 : Hid (Below w.heap.size w w6) := HB_w5.out.trans (HL_w6.out.mono HB_w5.out.size)
  have z_w6 : w5.heap.size ≤ w6.heap.size := HL_w6.out.size
  have Bw_w6 : Hid (Bx w6 w3.heap.size [.int .i64 code, .int .i64 val]) := Bw_w5.out.later HL_w6.out
  have Px0_w6 : Hid (StpsO w6 (.slice a0x0p n0x0p c0x0p) dx0 (fun b => w3.heap.size < b ∧ b < w4.heap.size)) := Px0_w5.out.later HL_w6.out
  have Bg_w6 : Hid (Bx w6 w5.heap.size [.int .i64 code, .int .i64 val]) := (Bx.new _ [.int .i64 code, .int .i64 val] _).later hb
  have y_Bg : w5.heap.size < w6.heap.size := Bg_w6.out.lt
  clear Bw_w5 Px0_w5 HB_w5 HL_w6
  clear hb
  have qBw0 := Bw_w6.out 0 _ rfl
  have qBw1 := Bw_w6.out 1 _ rfl
  have tBw := Bw_w6.out.lt
  have qBg0 := Bg_w6.out 0 _ rfl
  have qBg1 := Bg_w6.out 1 _ rfl
  have tBg := Bg_w6.out.lt
  go_wp2_with fail
  clear qBw0 qBw1 tBw qBg0 qBg1 tBg
  refine (toStpsU (Hx0.out.later HB_w6.out) Sx0.out).mono ?_
  rintro e w7 ⟨a0x0q, n0x0q, c0x0q, rfl, hb, ho⟩
  have HL_w7 : Hid (Below w6.heap.size w6 w7) := hb
  have HB_w7 : Hid (Below w.heap.size w w7) := HB_w6.out.trans (HL_w7.out.mono HB_w6.out.size)
  have z_w7 : w6.heap.size ≤ w7.heap.size := HL_w7.out.size
  have Bw_w7 : Hid (Bx w7 w3.heap.size [.int .i64 code, .int .i64 val]) := Bw_w6.out.later HL_w7.out
  have Px0_w7 : Hid (StpsO w7 (.slice a0x0p n0x0p c0x0p) dx0 (fun b => w3.heap.size < b ∧ b < w4.heap.size)) := Px0_w6.out.later HL_w7.out
  have Bg_w7 : Hid (Bx w7 w5.heap.size [.int .i64 code, .int .i64 val]) := Bg_w6.out.later HL_w7.out
  have Qx0_w7 : Hid (StpsO w7 (.slice a0x0q n0x0q c0x0q) dx0 (fun b => w6.heap.size ≤ b ∧ b < w7.heap.size)) := ho
  clear Bw_w6 Px0_w6 Bg_w6 HB_w6 HL_w7
  clear hb ho
  have qBw0 := Bw_w7.out 0 _ rfl
  have qBw1 := Bw_w7.out 1 _ rfl
  have tBw := Bw_w7.out.lt
  have qBg0 := Bg_w7.out 0 _ rfl
  have qBg1 := Bg_w7.out 1 _ rfl
  have tBg := Bg_w7.out.lt
  go_wp2_with fail
  clear qBw0 qBw1 tBw qBg0 qBg1 tBg
  refine (eqStpsU Px0_w7.out.reads Qx0_w7.out.reads).mono ?_
  rintro e w8 ⟨rfl, hb⟩
  have HL_w8 : Hid (Below w7.heap.size w7 w8) := hb
  have HB_w8 : Hid (Below w.heap.size w w8) := HB_w7.out.trans (HL_w8.out.mono HB_w7.out.size)
  have z_w8 : w7.heap.size ≤ w8.heap.size := HL_w8.out.size
  have Bw_w8 : Hid (Bx w8 w3.heap.size [.int .i64 code, .int .i64 val]) := Bw_w7.out.later HL_w8.out
  have Px0_w8 : Hid (StpsO w8 (.slice a0x0p n0x0p c0x0p) dx0 (fun b => w3.heap.size < b ∧ b < w4.heap.size)) := Px0_w7.out.later HL_w8.out
  have Bg_w8 : Hid (Bx w8 w5.heap.size [.int .i64 code, .int .i64 val]) := Bg_w7.out.later HL_w8.out
  clear Bw_w7 Px0_w7 Bg_w7 Qx0_w7 HB_w7 HL_w8
  clear hb
  have qBw0 := Bw_w8.out 0 _ rfl
  have qBw1 := Bw_w8.out 1 _ rfl
  have tBw := Bw_w8.out.lt
  have qBg0 := Bg_w8.out 0 _ rfl
  have qBg1 := Bg_w8.out 1 _ rfl
  have tBg := Bg_w8.out.lt
  go_wp2
  go_ret
  exact ⟨rfl, HB_w8.out⟩

theorem lawCommitAt_any (w : World) (v0x0 : Value) (dx0 : List SD) (hx0 : Stps w v0x0 dx0) :
    Calls Try.prog 4 #[v0x0] w fun e w' => e = .returned (.bool true) ∧ Below w.heap.size w w' := by
  obtain ⟨_, _, rfl, _, _⟩ := hx0.open'
  by_cases kx0 : sizeStps dx0 ≤ 1048576
  rotate_left
  · exact lawCommitAt_big w _ _ _ dx0  hx0 (by omega)
  exact lawCommitAt_small w _ _ _ dx0 hx0  kx0
end Go.Proofs.Ytagmmgcdebgfnaa

/- The law of StatOf: at every argument the program answers as the specification, leaves its arguments as they were, and its answer owns its memory. -/
import Derived.Test.YtaibcofendjnnaaGreatDoorM27
import Derived.Test.YtaibcofendjnnaaGreatDoorM05
namespace Go.Proofs.YtaibcofendjnnaaGreatDoor
open Go.RowKit
set_option maxRecDepth 100000

set_option maxHeartbeats 1600000 in
theorem lawStatOf_text0 (w : World) (a0x0 : Option Addr) (n0x0 c0x0 : Nat) (a1x0 : Option Addr) (n1x0 c1x0 : Nat) (x1 : ByteArray) (hmx1 : x1.size ≤ maxLen) (hn : 1048576 < x1.size) :
    Calls Tryz.prog 5 #[.agg #[.slice a0x0 n0x0 c0x0, .slice a1x0 n1x0 c1x0], .string x1] w fun e w' => e = .returned (.bool true) ∧ Below w.heap.size w w' := by
  unfold maxLen at hmx1
  go_enter Tryz.func5, Tryz.ntmps5
  go_wp2
  go_ret
  exact ⟨rfl, later1 _ _⟩

set_option maxHeartbeats 1600000 in
theorem lawStatOf_big (w : World) (a0x0 : Option Addr) (n0x0 c0x0 : Nat) (a1x0 : Option Addr) (n1x0 c1x0 : Nat) (dx0 : FD) (x1 : ByteArray) (lx1 : x1.size ≤ 1048576) (hx0 : FsR w (.slice a0x0 n0x0 c0x0) (.slice a1x0 n1x0 c1x0) dx0) (hsz : 1048576 < sizeFs dx0) :
    Calls Tryz.prog 5 #[.agg #[.slice a0x0 n0x0 c0x0, .slice a1x0 n1x0 c1x0], .string x1] w fun e w' => e = .returned (.bool true) ∧ Below w.heap.size w w' := by
  have Hx0 : Hid (FsR w (.slice a0x0 n0x0 c0x0) (.slice a1x0 n1x0 c1x0) dx0) := hx0
  have HS : Hid (szf 1048576 (sizeFs dx0) = -1) := szf_no (by omega)
  have lx1' : decide ((1048576 : Int) < (x1.size : Int)) = false := by simp; omega
  have lx1'' : decide (1048576 < x1.size) = false := by simp; omega
  clear hx0 hsz
  go_enter Tryz.func5, Tryz.ntmps5
  go_wp2_with fail
  refine (szFsU _ _ _ _ _ _ _ dx0 (Hx0.out.later (later1 _ _)) 1048576 (by omega) (by omega)).mono ?_
  rw [HS.out]
  rintro e w1 ⟨rfl, hb1⟩
  have HBw1 : Hid (Below w.heap.size w w1) := (later1 _ _).trans (hb1.mono (by simp))
  clear hb1
  go_wp2
  go_ret
  exact ⟨rfl, HBw1.out⟩

set_option maxHeartbeats 12800000 in
theorem lawStatOf_small (w : World) (a0x0 : Option Addr) (n0x0 c0x0 : Nat) (a1x0 : Option Addr) (n1x0 c1x0 : Nat) (dx0 : FD) (x1 : ByteArray) (lx1 : x1.size ≤ 1048576) (hx0 : FsR w (.slice a0x0 n0x0 c0x0) (.slice a1x0 n1x0 c1x0) dx0) (sx0 : sizeFs dx0 ≤ 1048576) (hgl : Gl w) :
    Calls Tryz.prog 5 #[.agg #[.slice a0x0 n0x0 c0x0, .slice a1x0 n1x0 c1x0], .string x1] w fun e w' => e = .returned (.bool true) ∧ Below w.heap.size w w' := by
  have HGL : Hid (Gl w) := hgl
  clear hgl
  have Hx0 : Hid (FsR w (.slice a0x0 n0x0 c0x0) (.slice a1x0 n1x0 c1x0) dx0) := hx0
  have Sx0 : Hid (sizeFs dx0 ≤ 1048576) := sx0
  have HSx0 : Hid (szf 1048576 (sizeFs dx0) = 1048576 - (sizeFs dx0 : Nat)) := szf_yes (by omega)
  have hposx0 : ¬ (1048576 - ((sizeFs dx0 : Nat) : Int) < 0) := by omega
  have hspx0 : ((spanFs dx0 : Nat) : Int) ≤ 4194304 := by have := spanFs_le dx0; omega
  have Sx1 : Hid (x1.size ≤ 1048576) := lx1
  have lx1' : decide ((1048576 : Int) < (x1.size : Int)) = false := by simp; omega
  have lx1'' : decide (1048576 < x1.size) = false := by simp; omega
  clear lx1
  generalize hr : statR dx0 x1 = r at *
  have HR : Hid (statR dx0 x1 = r) := hr
  obtain ⟨code, va, vb, vc, vd⟩ := r
  clear hr hx0 sx0
  go_enter Tryz.func5, Tryz.ntmps5
  go_wp2_with fail
  refine (szFsU _ _ _ _ _ _ _ dx0 (Hx0.out.later (later1 _ _)) 1048576 (by omega) (by omega)).mono ?_
  rw [HSx0.out]
  rintro e w1 ⟨rfl, hb⟩
  have HL_w1 : Hid (Below w.heap.size w w1) := (later1 _ _).trans (hb.mono (by simp))
  have HB_w1 : Hid (Below w.heap.size w w1) := HL_w1.out
  have z_w1 : w.heap.size ≤ w1.heap.size := HL_w1.out.size
  have Bx0_w1 : Hid (Bx w1 w.heap.size [.slice a0x0 n0x0 c0x0, .slice a1x0 n1x0 c1x0]) := (Bx.new _ [.slice a0x0 n0x0 c0x0, .slice a1x0 n1x0 c1x0] _).later hb
  have y_Bx0 : w.heap.size < w1.heap.size := Bx0_w1.out.lt
  clear HL_w1
  clear hb
  have qBx00 := Bx0_w1.out 0 _ rfl
  have qBx01 := Bx0_w1.out 1 _ rfl
  have tBx0 := Bx0_w1.out.lt
  go_wp2_with fail
  clear qBx00 qBx01 tBx0
  refine (toFsU _ _ _ _ _ _ _ dx0 (Hx0.out.later HB_w1.out) Sx0.out).mono ?_
  rintro e w2 ⟨a0x0s, n0x0s, c0x0s, a1x0s, n1x0s, c1x0s, rfl, hb, ho⟩
  have HL_w2 : Hid (Below w1.heap.size w1 w2) := hb
  have HB_w2 : Hid (Below w.heap.size w w2) := HB_w1.out.trans (HL_w2.out.mono HB_w1.out.size)
  have z_w2 : w1.heap.size ≤ w2.heap.size := HL_w2.out.size
  have Bx0_w2 : Hid (Bx w2 w.heap.size [.slice a0x0 n0x0 c0x0, .slice a1x0 n1x0 c1x0]) := Bx0_w1.out.later HL_w2.out
  have Tx0_w2 : Hid (FsU w2 (.slice a0x0s n0x0s c0x0s) (.slice a1x0s n1x0s c1x0s) dx0 (fun b => w1.heap.size ≤ b ∧ b < w2.heap.size)) := ho
  clear Bx0_w1 HB_w1 HL_w2
  clear hb ho
  have qBx00 := Bx0_w2.out 0 _ rfl
  have qBx01 := Bx0_w2.out 1 _ rfl
  have tBx0 := Bx0_w2.out.lt
  go_wp2_with fail
  clear qBx00 qBx01 tBx0
  refine (specStatU _ _ _ _ _ _ _ dx0 x1 Tx0_w2.out.reads Sx0.out Sx1.out).mono ?_
  rw [HR.out]
  rintro e w3 ⟨rfl, hb⟩
  have HL_w3 : Hid (Below w2.heap.size w2 w3) := hb
  have HB_w3 : Hid (Below w.heap.size w w3) := HB_w2.out.trans (HL_w3.out.mono HB_w2.out.size)
  have z_w3 : w2.heap.size ≤ w3.heap.size := HL_w3.out.size
  have Bx0_w3 : Hid (Bx w3 w.heap.size [.slice a0x0 n0x0 c0x0, .slice a1x0 n1x0 c1x0]) := Bx0_w2.out.later HL_w3.out
  clear Bx0_w2 Tx0_w2 HB_w2 HL_w3
  clear hb
  have qBx00 := Bx0_w3.out 0 _ rfl
  have qBx01 := Bx0_w3.out 1 _ rfl
  have tBx0 := Bx0_w3.out.lt
  go_wp2_with fail
  clear qBx00 qBx01 tBx0
  refine (toFsU _ _ _ _ _ _ _ dx0 ((Hx0.out.later HB_w3.out).later (later1 _ _)) Sx0.out).mono ?_
  rintro e w4 ⟨a0x0p, n0x0p, c0x0p, a1x0p, n1x0p, c1x0p, rfl, hb, ho⟩
  have HL_w4 : Hid (Below w3.heap.size w3 w4) := (later1 _ _).trans (hb.mono (by simp))
  have HB_w4 : Hid (Below w.heap.size w w4) := HB_w3.out.trans (HL_w4.out.mono HB_w3.out.size)
  have z_w4 : w3.heap.size ≤ w4.heap.size := HL_w4.out.size
  have Bx0_w4 : Hid (Bx w4 w.heap.size [.slice a0x0 n0x0 c0x0, .slice a1x0 n1x0 c1x0]) := Bx0_w3.out.later HL_w4.out
  have Bw_w4 : Hid (Bx w4 w3.heap.size [.int .i64 code, .int .i64 va, .int .i64 vb, .int .i64 vc, .int .i64 vd]) := (Bx.new _ [.int .i64 code, .int .i64 va, .int .i64 vb, .int .i64 vc, .int .i64 vd] _).later hb
  have y_Bw : w3.heap.size < w4.heap.size := Bw_w4.out.lt
  have Px0_w4 : Hid (FsU w4 (.slice a0x0p n0x0p c0x0p) (.slice a1x0p n1x0p c1x0p) dx0 (fun b => w3.heap.size < b ∧ b < w4.heap.size)) := ho.mono fun b hb => ⟨by have := hb.1; simp at this; omega, hb.2⟩
  clear Bx0_w3 HB_w3 HL_w4
  clear hb ho
  have qBx00 := Bx0_w4.out 0 _ rfl
  have qBx01 := Bx0_w4.out 1 _ rfl
  have tBx0 := Bx0_w4.out.lt
  have qBw0 := Bw_w4.out 0 _ rfl
  have qBw1 := Bw_w4.out 1 _ rfl
  have qBw2 := Bw_w4.out 2 _ rfl
  have qBw3 := Bw_w4.out 3 _ rfl
  have qBw4 := Bw_w4.out 4 _ rfl
  have tBw := Bw_w4.out.lt
  go_wp2_with fail
  clear qBx00 qBx01 tBx0 qBw0 qBw1 qBw2 qBw3 qBw4 tBw
  refine (implStatU _ _ _ _ _ _ _ dx0 x1 (Px0_w4.out.later (later1 _ _)).reads Sx0.out Sx1.out (by first | exact HGL.out.later HB_w4.out | exact HGL.out.later (HB_w4.out.trans ((later1 _ _).mono HB_w4.out.size)) | exact HGL.out.later (HB_w4.out.trans ((later2 _ _ _).mono HB_w4.out.size)))).mono ?_
  rw [HR.out]
  rintro e w5 ⟨rfl, hb⟩
  have HL_w5 : Hid (Below w4.heap.size w4 w5) := (later1 _ _).trans (hb.mono (by simp))
  have HB_w5 : Hid (Below w.heap.size w w5) := HB_w4.out.trans (HL_w5.out.mono HB_w4.out.size)
  have z_w5 : w4.heap.size ≤ w5.heap.size := HL_w5.out.size
  have Bx0_w5 : Hid (Bx w5 w.heap.size [.slice a0x0 n0x0 c0x0, .slice a1x0 n1x0 c1x0]) := Bx0_w4.out.later HL_w5.out
  have Bw_w5 : Hid (Bx w5 w3.heap.size [.int .i64 code, .int .i64 va, .int .i64 vb, .int .i64 vc, .int .i64 vd]) := Bw_w4.out.later HL_w5.out
  have Px0_w5 : Hid (FsU w5 (.slice a0x0p n0x0p c0x0p) (.slice a1x0p n1x0p c1x0p) dx0 (fun b => w3.heap.size < b ∧ b < w4.heap.size)) := Px0_w4.out.later HL_w5.out
  have Xx0_w5 : Hid (Bx w5 w4.heap.size [.slice a0x0p n0x0p c0x0p, .slice a1x0p n1x0p c1x0p]) := (Bx.new _ [.slice a0x0p n0x0p c0x0p, .slice a1x0p n1x0p c1x0p] _).later hb
  have y_Xx0 : w4.heap.size < w5.heap.size := Xx0_w5.out.lt
  clear Bx0_w4 Bw_w4 Px0_w4 HB_w4 HL_w5
  clear hb
  have qBx00 := Bx0_w5.out 0 _ rfl
  have qBx01 := Bx0_w5.out 1 _ rfl
  have tBx0 := Bx0_w5.out.lt
  have qBw0 := Bw_w5.out 0 _ rfl
  have qBw1 := Bw_w5.out 1 _ rfl
  have qBw2 := Bw_w5.out 2 _ rfl
  have qBw3 := Bw_w5.out 3 _ rfl
  have qBw4 := Bw_w5.out 4 _ rfl
  have tBw := Bw_w5.out.lt
  have qXx00 := Xx0_w5.out 0 _ rfl
  have qXx01 := Xx0_w5.out 1 _ rfl
  have tXx0 := Xx0_w5.out.lt
  go_wp2_with fail
  clear qBx00 qBx01 tBx0 qBw0 qBw1 qBw2 qBw3 qBw4 tBw qXx00 qXx01 tXx0
  refine (eqStatResultU _ code va vb vc vd).mono ?_
  rintro e w6 ⟨rfl, hb⟩
  have HL_w6 : Hid (Below w5.heap.size w5 w6) := (later1 _ _).trans (hb.mono (by simp))
  have HB_w6 : Hid (Below w.heap.size w w6) := HB_w5.out.trans (HL_w6.out.mono HB_w5.out.size)
  have z_w6 : w5.heap.size ≤ w6.heap.size := HL_w6.out.size
  have Bx0_w6 : Hid (Bx w6 w.heap.size [.slice a0x0 n0x0 c0x0, .slice a1x0 n1x0 c1x0]) := Bx0_w5.out.later HL_w6.out
  have Bw_w6 : Hid (Bx w6 w3.heap.size [.int .i64 code, .int .i64 va, .int .i64 vb, .int .i64 vc, .int .i64 vd]) := Bw_w5.out.later HL_w6.out
  have Px0_w6 : Hid (FsU w6 (.slice a0x0p n0x0p c0x0p) (.slice a1x0p n1x0p c1x0p) dx0 (fun b => w3.heap.size < b ∧ b < w4.heap.size)) := Px0_w5.out.later HL_w6.out
  have Xx0_w6 : Hid (Bx w6 w4.heap.size [.slice a0x0p n0x0p c0x0p, .slice a1x0p n1x0p c1x0p]) := Xx0_w5.out.later HL_w6.out
  have Bg_w6 : Hid (Bx w6 w5.heap.size [.int .i64 code, .int .i64 va, .int .i64 vb, .int .i64 vc, .int .i64 vd]) := (Bx.new _ [.int .i64 code, .int .i64 va, .int .i64 vb, .int .i64 vc, .int .i64 vd] _).later hb
  have y_Bg : w5.heap.size < w6.heap.size := Bg_w6.out.lt
  clear Bx0_w5 Bw_w5 Px0_w5 Xx0_w5 HB_w5 HL_w6
  clear hb
  have qBx00 := Bx0_w6.out 0 _ rfl
  have qBx01 := Bx0_w6.out 1 _ rfl
  have tBx0 := Bx0_w6.out.lt
  have qBw0 := Bw_w6.out 0 _ rfl
  have qBw1 := Bw_w6.out 1 _ rfl
  have qBw2 := Bw_w6.out 2 _ rfl
  have qBw3 := Bw_w6.out 3 _ rfl
  have qBw4 := Bw_w6.out 4 _ rfl
  have tBw := Bw_w6.out.lt
  have qXx00 := Xx0_w6.out 0 _ rfl
  have qXx01 := Xx0_w6.out 1 _ rfl
  have tXx0 := Xx0_w6.out.lt
  have qBg0 := Bg_w6.out 0 _ rfl
  have qBg1 := Bg_w6.out 1 _ rfl
  have qBg2 := Bg_w6.out 2 _ rfl
  have qBg3 := Bg_w6.out 3 _ rfl
  have qBg4 := Bg_w6.out 4 _ rfl
  have tBg := Bg_w6.out.lt
  go_wp2_with fail
  go_region_with (first
    | (go_at_call 9; refine (toFsU _ _ _ _ _ _ _ dx0 ?_ Sx0.out).mono ?_; exact Hx0.out.later HB_w6.out.drew; rintro e w7 ⟨a0x0q, n0x0q, c0x0q, a1x0q, n1x0q, c1x0q, rfl, hb, ho⟩; have y0 := cell_later hb qXx00; have y1 := cell_later hb qXx01; have HL : Hid (Below w6.heap.size w6 w7) := (Below.refl _ _).drew.trans hb; have HO : Hid (FsR w7 (.slice a0x0q n0x0q c0x0q) (.slice a1x0q n1x0q c1x0q) dx0) := ho.reads; clear hb ho)
    | (go_at_call 12; refine (eqFsU _ _ _ _ _ dx0 ?_ ?_).mono ?_; exact Px0_w6.out.reads.later HL.out; exact HO.out; rintro e w8 ⟨rfl, hb⟩; have HL2 : Hid (Below w7.heap.size w7 w8) := hb; clear hb))
  all_goals
    have hb : Below w6.heap.size w6 w8 := HL.out.trans (HL2.out.mono HL.out.size)
    clear qBx00 qBx01 tBx0 qBw0 qBw1 qBw2 qBw3 qBw4 tBw qXx00 qXx01 tXx0 qBg0 qBg1 qBg2 qBg3 qBg4 tBg HL HL2 HO y0 y1
    have HL_w8 : Hid (Below w6.heap.size w6 w8) := hb
    have HB_w8 : Hid (Below w.heap.size w w8) := HB_w6.out.trans (HL_w8.out.mono HB_w6.out.size)
    have z_w8 : w6.heap.size ≤ w8.heap.size := HL_w8.out.size
    have Bx0_w8 : Hid (Bx w8 w.heap.size [.slice a0x0 n0x0 c0x0, .slice a1x0 n1x0 c1x0]) := Bx0_w6.out.later HL_w8.out
    have Bw_w8 : Hid (Bx w8 w3.heap.size [.int .i64 code, .int .i64 va, .int .i64 vb, .int .i64 vc, .int .i64 vd]) := Bw_w6.out.later HL_w8.out
    have Px0_w8 : Hid (FsU w8 (.slice a0x0p n0x0p c0x0p) (.slice a1x0p n1x0p c1x0p) dx0 (fun b => w3.heap.size < b ∧ b < w4.heap.size)) := Px0_w6.out.later HL_w8.out
    have Xx0_w8 : Hid (Bx w8 w4.heap.size [.slice a0x0p n0x0p c0x0p, .slice a1x0p n1x0p c1x0p]) := Xx0_w6.out.later HL_w8.out
    have Bg_w8 : Hid (Bx w8 w5.heap.size [.int .i64 code, .int .i64 va, .int .i64 vb, .int .i64 vc, .int .i64 vd]) := Bg_w6.out.later HL_w8.out
    clear Bx0_w6 Bw_w6 Px0_w6 Xx0_w6 Bg_w6 HB_w6 HL_w8
    clear hb
    have qBx00 := Bx0_w8.out 0 _ rfl
    have qBx01 := Bx0_w8.out 1 _ rfl
    have tBx0 := Bx0_w8.out.lt
    have qBw0 := Bw_w8.out 0 _ rfl
    have qBw1 := Bw_w8.out 1 _ rfl
    have qBw2 := Bw_w8.out 2 _ rfl
    have qBw3 := Bw_w8.out 3 _ rfl
    have qBw4 := Bw_w8.out 4 _ rfl
    have tBw := Bw_w8.out.lt
    have qXx00 := Xx0_w8.out 0 _ rfl
    have qXx01 := Xx0_w8.out 1 _ rfl
    have tXx0 := Xx0_w8.out.lt
    have qBg0 := Bg_w8.out 0 _ rfl
    have qBg1 := Bg_w8.out 1 _ rfl
    have qBg2 := Bg_w8.out 2 _ rfl
    have qBg3 := Bg_w8.out 3 _ rfl
    have qBg4 := Bg_w8.out 4 _ rfl
    have tBg := Bg_w8.out.lt
    go_wp2
    go_ret
    exact ⟨rfl, HB_w8.out⟩

theorem lawStatOf_any (w : World) (v0x0 : Value) (v1x0 : Value) (dx0 : FD) (x1 : ByteArray) (hx0 : FsR w v0x0 v1x0 dx0) (hmx1 : x1.size ≤ maxLen) (hgl : Gl w) :
    Calls Tryz.prog 5 #[.agg #[v0x0, v1x0], .string x1] w fun e w' => e = .returned (.bool true) ∧ Below w.heap.size w w' := by
  obtain ⟨_, _, rfl, _, _⟩ := hx0.1.open'
  obtain ⟨_, _, rfl, _, _⟩ := hx0.2.open'
  by_cases kx1 : x1.size ≤ 1048576
  rotate_left
  · exact lawStatOf_text0 w _ _ _ _ _ _ x1 hmx1 (by omega)
  by_cases kx0 : sizeFs dx0 ≤ 1048576
  rotate_left
  · exact lawStatOf_big w _ _ _ _ _ _ dx0 x1  kx1 hx0 (by omega)
  exact lawStatOf_small w _ _ _ _ _ _ dx0 x1 kx1 hx0  kx0 hgl
end Go.Proofs.YtaibcofendjnnaaGreatDoor

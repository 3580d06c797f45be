
/- The law of StepFault: at every argument the program answers as the specification, leaves its arguments as they were, and its answer owns its memory. -/
import Derived.Test.YtagmmgcdebgfnaaStA
namespace Go.Proofs.Ytagmmgcdebgfnaa
open Go.RowKit
set_option maxRecDepth 100000

set_option maxHeartbeats 1600000 in
theorem lawStepFault_big (w : World) (z0x0 : Bool) (z1x0 : Int) (a2x0 : Option Addr) (n2x0 c2x0 : Nat) (dx0 : SD) (hx0 : SteR w (.bool z0x0) (.int .i64 z1x0) (.slice a2x0 n2x0 c2x0) dx0) (hsz : 1048576 < sizeSte dx0) :
    Calls Try.prog 3 #[.agg #[.bool z0x0, .int .i64 z1x0, .slice a2x0 n2x0 c2x0]] w fun e w' => e = .returned (.bool true) ∧ Below w.heap.size w w' := by
  have Hx0 : Hid (SteR w (.bool z0x0) (.int .i64 z1x0) (.slice a2x0 n2x0 c2x0) dx0) := hx0
  have HS : Hid (szf 1048576 (sizeSte dx0) = -1) := szf_no (by omega)
  clear hx0 hsz
  go_enter Try.func3, Try.ntmps3
  go_wp2_with fail
  refine (szStepU _ _ _ _ _ _ dx0 (Hx0.out.later (later1 _ _)) 1048576 (by omega) (by omega)).mono ?_
  rw [HS.out]
  rintro e w1 ⟨rfl, hb1⟩
  have HBw1 : Hid (Below w.heap.size w w1) := (later1 _ _).trans (hb1.mono (by simp))
  clear hb1
  go_wp2
  go_ret
  exact ⟨rfl, HBw1.out⟩

set_option maxHeartbeats 12800000 in
theorem lawStepFault_small (w : World) (z0x0 : Bool) (z1x0 : Int) (a2x0 : Option Addr) (n2x0 c2x0 : Nat) (dx0 : SD) (hx0 : SteR w (.bool z0x0) (.int .i64 z1x0) (.slice a2x0 n2x0 c2x0) dx0) (sx0 : sizeSte dx0 ≤ 1048576) :
    Calls Try.prog 3 #[.agg #[.bool z0x0, .int .i64 z1x0, .slice a2x0 n2x0 c2x0]] w fun e w' => e = .returned (.bool true) ∧ Below w.heap.size w w' := by
  have Hx0 : Hid (SteR w (.bool z0x0) (.int .i64 z1x0) (.slice a2x0 n2x0 c2x0) dx0) := hx0
  have Sx0 : Hid (sizeSte dx0 ≤ 1048576) := sx0
  have HSx0 : Hid (szf 1048576 (sizeSte dx0) = 1048576 - (sizeSte dx0 : Nat)) := szf_yes (by omega)
  have hposx0 : ¬ (1048576 - ((sizeSte dx0 : Nat) : Int) < 0) := by omega
  have hspx0 : ((spanSte dx0 : Nat) : Int) ≤ 4194304 := by have := spanSte_le dx0; omega
  generalize hr : stepF dx0 = r at *
  have HR : Hid (stepF dx0 = r) := hr
  have hrr : (r != r) = false := by simp
  clear hr hx0 sx0
  go_enter Try.func3, Try.ntmps3
  go_wp2_with fail
  refine (szStepU _ _ _ _ _ _ dx0 (Hx0.out.later (later1 _ _)) 1048576 (by omega) (by omega)).mono ?_
  rw [HSx0.out]
  rintro e w1 ⟨rfl, hb⟩
  have HL_w1 : Hid (Below w.heap.size w w1) := (later1 _ _).trans (hb.mono (by simp))
  have HB_w1 : Hid (Below w.heap.size w w1) := HL_w1.out
  have z_w1 : w.heap.size ≤ w1.heap.size := HL_w1.out.size
  have Bx0_w1 : Hid (Bx w1 w.heap.size [.bool z0x0, .int .i64 z1x0, .slice a2x0 n2x0 c2x0]) := (Bx.new _ [.bool z0x0, .int .i64 z1x0, .slice a2x0 n2x0 c2x0] _).later hb
  have y_Bx0 : w.heap.size < w1.heap.size := Bx0_w1.out.lt
  clear HL_w1
  clear hb
  have qBx00 := Bx0_w1.out 0 _ rfl
  have qBx01 := Bx0_w1.out 1 _ rfl
  have qBx02 := Bx0_w1.out 2 _ rfl
  have tBx0 := Bx0_w1.out.lt
  go_wp2_with fail
  clear qBx00 qBx01 qBx02 tBx0
  refine (toStepU _ _ _ _ _ _ dx0 (Hx0.out.later HB_w1.out) Sx0.out).mono ?_
  rintro e w2 ⟨z0x0s, z1x0s, a2x0s, n2x0s, c2x0s, rfl, hb, ho⟩
  have HL_w2 : Hid (Below w1.heap.size w1 w2) := hb
  have HB_w2 : Hid (Below w.heap.size w w2) := HB_w1.out.trans (HL_w2.out.mono HB_w1.out.size)
  have z_w2 : w1.heap.size ≤ w2.heap.size := HL_w2.out.size
  have Bx0_w2 : Hid (Bx w2 w.heap.size [.bool z0x0, .int .i64 z1x0, .slice a2x0 n2x0 c2x0]) := Bx0_w1.out.later HL_w2.out
  have Tx0_w2 : Hid (SteU w2 (.bool z0x0s) (.int .i64 z1x0s) (.slice a2x0s n2x0s c2x0s) dx0 (fun b => w1.heap.size ≤ b ∧ b < w2.heap.size)) := ho
  clear Bx0_w1 HB_w1 HL_w2
  clear hb ho
  have qBx00 := Bx0_w2.out 0 _ rfl
  have qBx01 := Bx0_w2.out 1 _ rfl
  have qBx02 := Bx0_w2.out 2 _ rfl
  have tBx0 := Bx0_w2.out.lt
  go_wp2_with fail
  clear qBx00 qBx01 qBx02 tBx0
  refine (specStepFU _ _ _ _ _ _ dx0 Tx0_w2.out.reads Sx0.out).mono ?_
  rw [HR.out]
  rintro e w3 ⟨rfl, hb⟩
  have HL_w3 : Hid (Below w2.heap.size w2 w3) := hb
  have HB_w3 : Hid (Below w.heap.size w w3) := HB_w2.out.trans (HL_w3.out.mono HB_w2.out.size)
  have z_w3 : w2.heap.size ≤ w3.heap.size := HL_w3.out.size
  have Bx0_w3 : Hid (Bx w3 w.heap.size [.bool z0x0, .int .i64 z1x0, .slice a2x0 n2x0 c2x0]) := Bx0_w2.out.later HL_w3.out
  clear Bx0_w2 Tx0_w2 HB_w2 HL_w3
  clear hb
  have qBx00 := Bx0_w3.out 0 _ rfl
  have qBx01 := Bx0_w3.out 1 _ rfl
  have qBx02 := Bx0_w3.out 2 _ rfl
  have tBx0 := Bx0_w3.out.lt
  go_wp2_with fail
  clear qBx00 qBx01 qBx02 tBx0
  refine (toStepU _ _ _ _ _ _ dx0 (Hx0.out.later HB_w3.out) Sx0.out).mono ?_
  rintro e w4 ⟨z0x0p, z1x0p, a2x0p, n2x0p, c2x0p, rfl, hb, ho⟩
  have HL_w4 : Hid (Below w3.heap.size w3 w4) := hb
  have HB_w4 : Hid (Below w.heap.size w w4) := HB_w3.out.trans (HL_w4.out.mono HB_w3.out.size)
  have z_w4 : w3.heap.size ≤ w4.heap.size := HL_w4.out.size
  have Bx0_w4 : Hid (Bx w4 w.heap.size [.bool z0x0, .int .i64 z1x0, .slice a2x0 n2x0 c2x0]) := Bx0_w3.out.later HL_w4.out
  have Px0_w4 : Hid (SteU w4 (.bool z0x0p) (.int .i64 z1x0p) (.slice a2x0p n2x0p c2x0p) dx0 (fun b => w3.heap.size ≤ b ∧ b < w4.heap.size)) := ho
  clear Bx0_w3 HB_w3 HL_w4
  clear hb ho
  have qBx00 := Bx0_w4.out 0 _ rfl
  have qBx01 := Bx0_w4.out 1 _ rfl
  have qBx02 := Bx0_w4.out 2 _ rfl
  have tBx0 := Bx0_w4.out.lt
  go_wp2_with fail
  clear qBx00 qBx01 qBx02 tBx0
  refine (implStepFU _ _ _ _ _ _ dx0 (Px0_w4.out.later (later1 _ _)).reads Sx0.out).mono ?_
  rw [HR.out]
  rintro e w5 ⟨rfl, hb⟩
  have HL_w5 : Hid (Below w4.heap.size w4 w5) := (later1 _ _).trans (hb.mono (by simp))
  have HB_w5 : Hid (Below w.heap.size w w5) := HB_w4.out.trans (HL_w5.out.mono HB_w4.out.size)
  have z_w5 : w4.heap.size ≤ w5.heap.size := HL_w5.out.size
  have Bx0_w5 : Hid (Bx w5 w.heap.size [.bool z0x0, .int .i64 z1x0, .slice a2x0 n2x0 c2x0]) := Bx0_w4.out.later HL_w5.out
  have Px0_w5 : Hid (SteU w5 (.bool z0x0p) (.int .i64 z1x0p) (.slice a2x0p n2x0p c2x0p) dx0 (fun b => w3.heap.size ≤ b ∧ b < w4.heap.size)) := Px0_w4.out.later HL_w5.out
  have Xx0_w5 : Hid (Bx w5 w4.heap.size [.bool z0x0p, .int .i64 z1x0p, .slice a2x0p n2x0p c2x0p]) := (Bx.new _ [.bool z0x0p, .int .i64 z1x0p, .slice a2x0p n2x0p c2x0p] _).later hb
  have y_Xx0 : w4.heap.size < w5.heap.size := Xx0_w5.out.lt
  clear Bx0_w4 Px0_w4 HB_w4 HL_w5
  clear hb
  have qBx00 := Bx0_w5.out 0 _ rfl
  have qBx01 := Bx0_w5.out 1 _ rfl
  have qBx02 := Bx0_w5.out 2 _ rfl
  have tBx0 := Bx0_w5.out.lt
  have qXx00 := Xx0_w5.out 0 _ rfl
  have qXx01 := Xx0_w5.out 1 _ rfl
  have qXx02 := Xx0_w5.out 2 _ rfl
  have tXx0 := Xx0_w5.out.lt
  go_wp2_with fail
  go_region_with (first
    | (go_at_call 11; refine (toStepU _ _ _ _ _ _ dx0 ?_ Sx0.out).mono ?_; exact Hx0.out.later HB_w5.out.drew; rintro e w6 ⟨z0x0q, z1x0q, a2x0q, n2x0q, c2x0q, rfl, hb, ho⟩; have y0 := cell_later hb qXx00; have y1 := cell_later hb qXx01; have y2 := cell_later hb qXx02; have HL : Hid (Below w5.heap.size w5 w6) := (Below.refl _ _).drew.trans hb; have HO : Hid (SteR w6 (.bool z0x0q) (.int .i64 z1x0q) (.slice a2x0q n2x0q c2x0q) dx0) := ho.reads; clear hb ho)
    | (go_at_call 13; refine (eqStepU _ _ _ _ _ _ _ dx0 ?_ ?_).mono ?_; exact Px0_w5.out.reads.later HL.out; exact HO.out; rintro e w7 ⟨rfl, hb⟩; have HL2 : Hid (Below w6.heap.size w6 w7) := hb; clear hb))
  all_goals
    have hb : Below w5.heap.size w5 w7 := HL.out.trans (HL2.out.mono HL.out.size)
    clear qBx00 qBx01 qBx02 tBx0 qXx00 qXx01 qXx02 tXx0 HL HL2 HO y0 y1 y2
    have HL_w7 : Hid (Below w5.heap.size w5 w7) := hb
    have HB_w7 : Hid (Below w.heap.size w w7) := HB_w5.out.trans (HL_w7.out.mono HB_w5.out.size)
    have z_w7 : w5.heap.size ≤ w7.heap.size := HL_w7.out.size
    have Bx0_w7 : Hid (Bx w7 w.heap.size [.bool z0x0, .int .i64 z1x0, .slice a2x0 n2x0 c2x0]) := Bx0_w5.out.later HL_w7.out
    have Px0_w7 : Hid (SteU w7 (.bool z0x0p) (.int .i64 z1x0p) (.slice a2x0p n2x0p c2x0p) dx0 (fun b => w3.heap.size ≤ b ∧ b < w4.heap.size)) := Px0_w5.out.later HL_w7.out
    have Xx0_w7 : Hid (Bx w7 w4.heap.size [.bool z0x0p, .int .i64 z1x0p, .slice a2x0p n2x0p c2x0p]) := Xx0_w5.out.later HL_w7.out
    clear Bx0_w5 Px0_w5 Xx0_w5 HB_w5 HL_w7
    clear hb
    have qBx00 := Bx0_w7.out 0 _ rfl
    have qBx01 := Bx0_w7.out 1 _ rfl
    have qBx02 := Bx0_w7.out 2 _ rfl
    have tBx0 := Bx0_w7.out.lt
    have qXx00 := Xx0_w7.out 0 _ rfl
    have qXx01 := Xx0_w7.out 1 _ rfl
    have qXx02 := Xx0_w7.out 2 _ rfl
    have tXx0 := Xx0_w7.out.lt
    go_wp2
    go_ret
    exact ⟨rfl, HB_w7.out⟩

theorem lawStepFault_any (w : World) (v0x0 : Value) (v1x0 : Value) (v2x0 : Value) (dx0 : SD) (hx0 : SteR w v0x0 v1x0 v2x0 dx0) :
    Calls Try.prog 3 #[.agg #[v0x0, v1x0, v2x0]] w fun e w' => e = .returned (.bool true) ∧ Below w.heap.size w w' := by
  obtain ⟨rfl, rfl⟩ := hx0.1
  obtain ⟨_, _, rfl, _⟩ := hx0.2.shape
  by_cases kx0 : sizeSte dx0 ≤ 1048576
  rotate_left
  · exact lawStepFault_big w _ _ _ _ _ dx0  hx0 (by omega)
  exact lawStepFault_small w _ _ _ _ _ dx0 hx0  kx0
end Go.Proofs.Ytagmmgcdebgfnaa

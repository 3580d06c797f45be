/- The law of NewWorld: at every argument the program answers as the specification, leaves its arguments as they were, and its answer owns its memory. -/
import Derived.Test.YtlacppjlclfpmaaGreatM19
namespace Go.Proofs.YtlacppjlclfpmaaGreat
open Go.RowKit
set_option maxRecDepth 100000

set_option maxHeartbeats 12800000 in
theorem lawNewWorld_small (w : World) (x0 : Int) :
    Calls Tryz.prog 3 #[.int .i64 x0] w fun e w' => e = .returned (.bool true) ∧ Below w.heap.size w w' := by
  generalize hr : newWR x0 = r at *
  have HR : Hid (newWR x0 = r) := hr
  obtain ⟨code, d2⟩ := r
  have hspr : ((spanWrs d2 : Nat) : Int) ≤ 100000000 := by have := newWR_span x0; rw [hr] at this; dsimp only at this; omega
  clear hr
  go_enter Tryz.func3, Tryz.ntmps3
  go_wp2_with fail
  refine (specNewWU _ x0  ).mono ?_
  rw [HR.out]
  rintro e w1 ⟨z0sw, z1sw, z2sw, a3sw, n3sw, c3sw, a4sw, n4sw, c4sw, a5sw, n5sw, c5sw, a6sw, n6sw, c6sw, a7sw, n7sw, c7sw, a8sw, n8sw, c8sw, a9sw, n9sw, c9sw, a10sw, n10sw, c10sw, a11sw, n11sw, c11sw, a12sw, n12sw, c12sw, rfl, hb, ho⟩
  have HL_w1 : Hid (Below w.heap.size w w1) := hb
  have HB_w1 : Hid (Below w.heap.size w w1) := HL_w1.out
  have z_w1 : w.heap.size ≤ w1.heap.size := HL_w1.out.size
  have Dw_w1 : Hid (WrsU w1 (.int .i64 z0sw) (.int .i64 z1sw) (.int .i64 z2sw) (.slice a3sw n3sw c3sw) (.slice a4sw n4sw c4sw) (.slice a5sw n5sw c5sw) (.slice a6sw n6sw c6sw) (.slice a7sw n7sw c7sw) (.slice a8sw n8sw c8sw) (.slice a9sw n9sw c9sw) (.slice a10sw n10sw c10sw) (.slice a11sw n11sw c11sw) (.slice a12sw n12sw c12sw) d2 (fun b => w.heap.size ≤ b ∧ b < w1.heap.size)) := ho
  clear HL_w1
  clear hb ho
  go_wp2_with fail
  refine (implNewWU _ x0  ).mono ?_
  rw [HR.out]
  rintro e w2 ⟨z0sg, z1sg, z2sg, a3sg, n3sg, c3sg, a4sg, n4sg, c4sg, a5sg, n5sg, c5sg, a6sg, n6sg, c6sg, a7sg, n7sg, c7sg, a8sg, n8sg, c8sg, a9sg, n9sg, c9sg, a10sg, n10sg, c10sg, a11sg, n11sg, c11sg, a12sg, n12sg, c12sg, rfl, hb, ho⟩
  have HL_w2 : Hid (Below w1.heap.size w1 w2) := (later1 _ _).trans (hb.mono (by simp))
  have HB_w2 : Hid (Below w.heap.size w w2) := HB_w1.out.trans (HL_w2.out.mono HB_w1.out.size)
  have z_w2 : w1.heap.size ≤ w2.heap.size := HL_w2.out.size
  have Dw_w2 : Hid (WrsU w2 (.int .i64 z0sw) (.int .i64 z1sw) (.int .i64 z2sw) (.slice a3sw n3sw c3sw) (.slice a4sw n4sw c4sw) (.slice a5sw n5sw c5sw) (.slice a6sw n6sw c6sw) (.slice a7sw n7sw c7sw) (.slice a8sw n8sw c8sw) (.slice a9sw n9sw c9sw) (.slice a10sw n10sw c10sw) (.slice a11sw n11sw c11sw) (.slice a12sw n12sw c12sw) d2 (fun b => w.heap.size ≤ b ∧ b < w1.heap.size)) := Dw_w1.out.later HL_w2.out
  have Bw_w2 : Hid (Bx w2 w1.heap.size [.int .i64 code, .int .i64 z0sw, .int .i64 z1sw, .int .i64 z2sw, .slice a3sw n3sw c3sw, .slice a4sw n4sw c4sw, .slice a5sw n5sw c5sw, .slice a6sw n6sw c6sw, .slice a7sw n7sw c7sw, .slice a8sw n8sw c8sw, .slice a9sw n9sw c9sw, .slice a10sw n10sw c10sw, .slice a11sw n11sw c11sw, .slice a12sw n12sw c12sw]) := (Bx.new _ [.int .i64 code, .int .i64 z0sw, .int .i64 z1sw, .int .i64 z2sw, .slice a3sw n3sw c3sw, .slice a4sw n4sw c4sw, .slice a5sw n5sw c5sw, .slice a6sw n6sw c6sw, .slice a7sw n7sw c7sw, .slice a8sw n8sw c8sw, .slice a9sw n9sw c9sw, .slice a10sw n10sw c10sw, .slice a11sw n11sw c11sw, .slice a12sw n12sw c12sw] _).later hb
  have y_Bw : w1.heap.size < w2.heap.size := Bw_w2.out.lt
  have Dg_w2 : Hid (WrsU w2 (.int .i64 z0sg) (.int .i64 z1sg) (.int .i64 z2sg) (.slice a3sg n3sg c3sg) (.slice a4sg n4sg c4sg) (.slice a5sg n5sg c5sg) (.slice a6sg n6sg c6sg) (.slice a7sg n7sg c7sg) (.slice a8sg n8sg c8sg) (.slice a9sg n9sg c9sg) (.slice a10sg n10sg c10sg) (.slice a11sg n11sg c11sg) (.slice a12sg n12sg c12sg) d2 (fun b => w1.heap.size < b ∧ b < w2.heap.size)) := ho.mono fun b hb => ⟨by have := hb.1; simp at this; omega, hb.2⟩
  clear Dw_w1 HB_w1 HL_w2
  clear hb ho
  have qBw0 := Bw_w2.out 0 _ rfl
  have qBw1 := Bw_w2.out 1 _ rfl
  have qBw2 := Bw_w2.out 2 _ rfl
  have qBw3 := Bw_w2.out 3 _ rfl
  have qBw4 := Bw_w2.out 4 _ rfl
  have qBw5 := Bw_w2.out 5 _ rfl
  have qBw6 := Bw_w2.out 6 _ rfl
  have qBw7 := Bw_w2.out 7 _ rfl
  have qBw8 := Bw_w2.out 8 _ rfl
  have qBw9 := Bw_w2.out 9 _ rfl
  have qBw10 := Bw_w2.out 10 _ rfl
  have qBw11 := Bw_w2.out 11 _ rfl
  have qBw12 := Bw_w2.out 12 _ rfl
  have qBw13 := Bw_w2.out 13 _ rfl
  have tBw := Bw_w2.out.lt
  go_wp2_with fail
  clear qBw0 qBw1 qBw2 qBw3 qBw4 qBw5 qBw6 qBw7 qBw8 qBw9 qBw10 qBw11 qBw12 qBw13 tBw
  refine (eqWorldResultU _ code _ _ _ _ _ _ _ _ _ _ _ _ _ _ _ _ _ _ _ _ _ _ _ _ _ _ d2 (Dg_w2.out.later (later1 _ _)).reads (Dw_w2.out.later (later1 _ _)).reads).mono ?_
  rintro e w3 ⟨rfl, hb⟩
  have HL_w3 : Hid (Below w2.heap.size w2 w3) := (later1 _ _).trans (hb.mono (by simp))
  have HB_w3 : Hid (Below w.heap.size w w3) := HB_w2.out.trans (HL_w3.out.mono HB_w2.out.size)
  have z_w3 : w2.heap.size ≤ w3.heap.size := HL_w3.out.size
  have Dw_w3 : Hid (WrsU w3 (.int .i64 z0sw) (.int .i64 z1sw) (.int .i64 z2sw) (.slice a3sw n3sw c3sw) (.slice a4sw n4sw c4sw) (.slice a5sw n5sw c5sw) (.slice a6sw n6sw c6sw) (.slice a7sw n7sw c7sw) (.slice a8sw n8sw c8sw) (.slice a9sw n9sw c9sw) (.slice a10sw n10sw c10sw) (.slice a11sw n11sw c11sw) (.slice a12sw n12sw c12sw) d2 (fun b => w.heap.size ≤ b ∧ b < w1.heap.size)) := Dw_w2.out.later HL_w3.out
  have Bw_w3 : Hid (Bx w3 w1.heap.size [.int .i64 code, .int .i64 z0sw, .int .i64 z1sw, .int .i64 z2sw, .slice a3sw n3sw c3sw, .slice a4sw n4sw c4sw, .slice a5sw n5sw c5sw, .slice a6sw n6sw c6sw, .slice a7sw n7sw c7sw, .slice a8sw n8sw c8sw, .slice a9sw n9sw c9sw, .slice a10sw n10sw c10sw, .slice a11sw n11sw c11sw, .slice a12sw n12sw c12sw]) := Bw_w2.out.later HL_w3.out
  have Dg_w3 : Hid (WrsU w3 (.int .i64 z0sg) (.int .i64 z1sg) (.int .i64 z2sg) (.slice a3sg n3sg c3sg) (.slice a4sg n4sg c4sg) (.slice a5sg n5sg c5sg) (.slice a6sg n6sg c6sg) (.slice a7sg n7sg c7sg) (.slice a8sg n8sg c8sg) (.slice a9sg n9sg c9sg) (.slice a10sg n10sg c10sg) (.slice a11sg n11sg c11sg) (.slice a12sg n12sg c12sg) d2 (fun b => w1.heap.size < b ∧ b < w2.heap.size)) := Dg_w2.out.later HL_w3.out
  have Bg_w3 : Hid (Bx w3 w2.heap.size [.int .i64 code, .int .i64 z0sg, .int .i64 z1sg, .int .i64 z2sg, .slice a3sg n3sg c3sg, .slice a4sg n4sg c4sg, .slice a5sg n5sg c5sg, .slice a6sg n6sg c6sg, .slice a7sg n7sg c7sg, .slice a8sg n8sg c8sg, .slice a9sg n9sg c9sg, .slice a10sg n10sg c10sg, .slice a11sg n11sg c11sg, .slice a12sg n12sg c12sg]) := (Bx.new _ [.int .i64 code, .int .i64 z0sg, .int .i64 z1sg, .int .i64 z2sg, .slice a3sg n3sg c3sg, .slice a4sg n4sg c4sg, .slice a5sg n5sg c5sg, .slice a6sg n6sg c6sg, .slice a7sg n7sg c7sg, .slice a8sg n8sg c8sg, .slice a9sg n9sg c9sg, .slice a10sg n10sg c10sg, .slice a11sg n11sg c11sg, .slice a12sg n12sg c12sg] _).later hb
  have y_Bg : w2.heap.size < w3.heap.size := Bg_w3.out.lt
  clear Dw_w2 Bw_w2 Dg_w2 HB_w2 HL_w3
  clear hb
  have qBw0 := Bw_w3.out 0 _ rfl
  have qBw1 := Bw_w3.out 1 _ rfl
  have qBw2 := Bw_w3.out 2 _ rfl
  have qBw3 := Bw_w3.out 3 _ rfl
  have qBw4 := Bw_w3.out 4 _ rfl
  have qBw5 := Bw_w3.out 5 _ rfl
  have qBw6 := Bw_w3.out 6 _ rfl
  have qBw7 := Bw_w3.out 7 _ rfl
  have qBw8 := Bw_w3.out 8 _ rfl
  have qBw9 := Bw_w3.out 9 _ rfl
  have qBw10 := Bw_w3.out 10 _ rfl
  have qBw11 := Bw_w3.out 11 _ rfl
  have qBw12 := Bw_w3.out 12 _ rfl
  have qBw13 := Bw_w3.out 13 _ rfl
  have tBw := Bw_w3.out.lt
  have qBg0 := Bg_w3.out 0 _ rfl
  have qBg1 := Bg_w3.out 1 _ rfl
  have qBg2 := Bg_w3.out 2 _ rfl
  have qBg3 := Bg_w3.out 3 _ rfl
  have qBg4 := Bg_w3.out 4 _ rfl
  have qBg5 := Bg_w3.out 5 _ rfl
  have qBg6 := Bg_w3.out 6 _ rfl
  have qBg7 := Bg_w3.out 7 _ rfl
  have qBg8 := Bg_w3.out 8 _ rfl
  have qBg9 := Bg_w3.out 9 _ rfl
  have qBg10 := Bg_w3.out 10 _ rfl
  have qBg11 := Bg_w3.out 11 _ rfl
  have qBg12 := Bg_w3.out 12 _ rfl
  have qBg13 := Bg_w3.out 13 _ rfl
  have tBg := Bg_w3.out.lt
  go_wp2_with fail
  clear qBw0 qBw1 qBw2 qBw3 qBw4 qBw5 qBw6 qBw7 qBw8 qBw9 qBw10 qBw11 qBw12 qBw13 tBw qBg0 qBg1 qBg2 qBg3 qBg4 qBg5 qBg6 qBg7 qBg8 qBg9 qBg10 qBg11 qBg12 qBg13 tBg
  refine (markWorldResultU _ code _ _ _ _ _ _ _ _ _ _ _ _ _ d2 _ 1 Dg_w3.out (by omega) (by omega)).mono ?_
  rintro e w4 ⟨rfl, hm, hc⟩
  have HB_w4 : Hid (Below w.heap.size w w4) := HB_w3.out.trans (hc.below HB_w3.out.size (fun b h => by have := HB_w3.out.size; omega))
  have z_w4 : w3.heap.size ≤ w4.heap.size := hc.size
  have Dw_w4 : Hid (WrsU w4 (.int .i64 z0sw) (.int .i64 z1sw) (.int .i64 z2sw) (.slice a3sw n3sw c3sw) (.slice a4sw n4sw c4sw) (.slice a5sw n5sw c5sw) (.slice a6sw n6sw c6sw) (.slice a7sw n7sw c7sw) (.slice a8sw n8sw c8sw) (.slice a9sw n9sw c9sw) (.slice a10sw n10sw c10sw) (.slice a11sw n11sw c11sw) (.slice a12sw n12sw c12sw) d2 (fun b => w.heap.size ≤ b ∧ b < w1.heap.size)) := Dw_w3.out.chg hc (fun b h h' => by omega)
  have Bw_w4 : Hid (Bx w4 w1.heap.size [.int .i64 code, .int .i64 z0sw, .int .i64 z1sw, .int .i64 z2sw, .slice a3sw n3sw c3sw, .slice a4sw n4sw c4sw, .slice a5sw n5sw c5sw, .slice a6sw n6sw c6sw, .slice a7sw n7sw c7sw, .slice a8sw n8sw c8sw, .slice a9sw n9sw c9sw, .slice a10sw n10sw c10sw, .slice a11sw n11sw c11sw, .slice a12sw n12sw c12sw]) := Bw_w3.out.chg hc (by omega)
  have Bg_w4 : Hid (Bx w4 w2.heap.size [.int .i64 code, .int .i64 z0sg, .int .i64 z1sg, .int .i64 z2sg, .slice a3sg n3sg c3sg, .slice a4sg n4sg c4sg, .slice a5sg n5sg c5sg, .slice a6sg n6sg c6sg, .slice a7sg n7sg c7sg, .slice a8sg n8sg c8sg, .slice a9sg n9sg c9sg, .slice a10sg n10sg c10sg, .slice a11sg n11sg c11sg, .slice a12sg n12sg c12sg]) := Bg_w3.out.chg hc (by omega)
  have Dm_w4 : Hid (WrsU w4 (.int .i64 z0sg) (.int .i64 z1sg) (.int .i64 z2sg) (.slice a3sg n3sg c3sg) (.slice a4sg n4sg c4sg) (.slice a5sg n5sg c5sg) (.slice a6sg n6sg c6sg) (.slice a7sg n7sg c7sg) (.slice a8sg n8sg c8sg) (.slice a9sg n9sg c9sg) (.slice a10sg n10sg c10sg) (.slice a11sg n11sg c11sg) (.slice a12sg n12sg c12sg) (mkWrs 1 d2) (fun b => w1.heap.size < b ∧ b < w2.heap.size)) := hm
  clear HB_w3 Dw_w3 Bw_w3 Dg_w3 Bg_w3
  clear hm hc
  generalize hK : (1 : Int) + (spanWrs d2 : Nat) = K at *
  have hKK : (K != K) = false := by simp
  have hK0 : ¬ K < 0 := by omega
  have hK1 : K ≤ 4294967296 := by omega
  have HK : Hid ((1 : Int) + (spanWrs d2 : Nat) = K) := hK
  clear hK
  have qBw0 := Bw_w4.out 0 _ rfl
  have qBw1 := Bw_w4.out 1 _ rfl
  have qBw2 := Bw_w4.out 2 _ rfl
  have qBw3 := Bw_w4.out 3 _ rfl
  have qBw4 := Bw_w4.out 4 _ rfl
  have qBw5 := Bw_w4.out 5 _ rfl
  have qBw6 := Bw_w4.out 6 _ rfl
  have qBw7 := Bw_w4.out 7 _ rfl
  have qBw8 := Bw_w4.out 8 _ rfl
  have qBw9 := Bw_w4.out 9 _ rfl
  have qBw10 := Bw_w4.out 10 _ rfl
  have qBw11 := Bw_w4.out 11 _ rfl
  have qBw12 := Bw_w4.out 12 _ rfl
  have qBw13 := Bw_w4.out 13 _ rfl
  have tBw := Bw_w4.out.lt
  have qBg0 := Bg_w4.out 0 _ rfl
  have qBg1 := Bg_w4.out 1 _ rfl
  have qBg2 := Bg_w4.out 2 _ rfl
  have qBg3 := Bg_w4.out 3 _ rfl
  have qBg4 := Bg_w4.out 4 _ rfl
  have qBg5 := Bg_w4.out 5 _ rfl
  have qBg6 := Bg_w4.out 6 _ rfl
  have qBg7 := Bg_w4.out 7 _ rfl
  have qBg8 := Bg_w4.out 8 _ rfl
  have qBg9 := Bg_w4.out 9 _ rfl
  have qBg10 := Bg_w4.out 10 _ rfl
  have qBg11 := Bg_w4.out 11 _ rfl
  have qBg12 := Bg_w4.out 12 _ rfl
  have qBg13 := Bg_w4.out 13 _ rfl
  have tBg := Bg_w4.out.lt
  go_wp2_with fail
  clear qBw0 qBw1 qBw2 qBw3 qBw4 qBw5 qBw6 qBw7 qBw8 qBw9 qBw10 qBw11 qBw12 qBw13 tBw qBg0 qBg1 qBg2 qBg3 qBg4 qBg5 qBg6 qBg7 qBg8 qBg9 qBg10 qBg11 qBg12 qBg13 tBg
  refine (heldWorldResultU _ code _ _ _ _ _ _ _ _ _ _ _ _ _ d2 _ 1 Dm_w4.out (by omega) (by rw [HK.out]; exact hK1)).mono ?_
  rw [HK.out]
  rintro e w5 ⟨rfl, hb⟩
  have HL_w5 : Hid (Below w4.heap.size w4 w5) := hb
  have HB_w5 : Hid (Below w.heap.size w w5) := HB_w4.out.trans (HL_w5.out.mono HB_w4.out.size)
  have z_w5 : w4.heap.size ≤ w5.heap.size := HL_w5.out.size
  have Dw_w5 : Hid (WrsU w5 (.int .i64 z0sw) (.int .i64 z1sw) (.int .i64 z2sw) (.slice a3sw n3sw c3sw) (.slice a4sw n4sw c4sw) (.slice a5sw n5sw c5sw) (.slice a6sw n6sw c6sw) (.slice a7sw n7sw c7sw) (.slice a8sw n8sw c8sw) (.slice a9sw n9sw c9sw) (.slice a10sw n10sw c10sw) (.slice a11sw n11sw c11sw) (.slice a12sw n12sw c12sw) d2 (fun b => w.heap.size ≤ b ∧ b < w1.heap.size)) := Dw_w4.out.later HL_w5.out
  have Bw_w5 : Hid (Bx w5 w1.heap.size [.int .i64 code, .int .i64 z0sw, .int .i64 z1sw, .int .i64 z2sw, .slice a3sw n3sw c3sw, .slice a4sw n4sw c4sw, .slice a5sw n5sw c5sw, .slice a6sw n6sw c6sw, .slice a7sw n7sw c7sw, .slice a8sw n8sw c8sw, .slice a9sw n9sw c9sw, .slice a10sw n10sw c10sw, .slice a11sw n11sw c11sw, .slice a12sw n12sw c12sw]) := Bw_w4.out.later HL_w5.out
  have Bg_w5 : Hid (Bx w5 w2.heap.size [.int .i64 code, .int .i64 z0sg, .int .i64 z1sg, .int .i64 z2sg, .slice a3sg n3sg c3sg, .slice a4sg n4sg c4sg, .slice a5sg n5sg c5sg, .slice a6sg n6sg c6sg, .slice a7sg n7sg c7sg, .slice a8sg n8sg c8sg, .slice a9sg n9sg c9sg, .slice a10sg n10sg c10sg, .slice a11sg n11sg c11sg, .slice a12sg n12sg c12sg]) := Bg_w4.out.later HL_w5.out
  have Dm_w5 : Hid (WrsU w5 (.int .i64 z0sg) (.int .i64 z1sg) (.int .i64 z2sg) (.slice a3sg n3sg c3sg) (.slice a4sg n4sg c4sg) (.slice a5sg n5sg c5sg) (.slice a6sg n6sg c6sg) (.slice a7sg n7sg c7sg) (.slice a8sg n8sg c8sg) (.slice a9sg n9sg c9sg) (.slice a10sg n10sg c10sg) (.slice a11sg n11sg c11sg) (.slice a12sg n12sg c12sg) (mkWrs 1 d2) (fun b => w1.heap.size < b ∧ b < w2.heap.size)) := Dm_w4.out.later HL_w5.out
  clear Dw_w4 Bw_w4 Bg_w4 Dm_w4 HB_w4 HL_w5
  clear hb
  have qBw0 := Bw_w5.out 0 _ rfl
  have qBw1 := Bw_w5.out 1 _ rfl
  have qBw2 := Bw_w5.out 2 _ rfl
  have qBw3 := Bw_w5.out 3 _ rfl
  have qBw4 := Bw_w5.out 4 _ rfl
  have qBw5 := Bw_w5.out 5 _ rfl
  have qBw6 := Bw_w5.out 6 _ rfl
  have qBw7 := Bw_w5.out 7 _ rfl
  have qBw8 := Bw_w5.out 8 _ rfl
  have qBw9 := Bw_w5.out 9 _ rfl
  have qBw10 := Bw_w5.out 10 _ rfl
  have qBw11 := Bw_w5.out 11 _ rfl
  have qBw12 := Bw_w5.out 12 _ rfl
  have qBw13 := Bw_w5.out 13 _ rfl
  have tBw := Bw_w5.out.lt
  have qBg0 := Bg_w5.out 0 _ rfl
  have qBg1 := Bg_w5.out 1 _ rfl
  have qBg2 := Bg_w5.out 2 _ rfl
  have qBg3 := Bg_w5.out 3 _ rfl
  have qBg4 := Bg_w5.out 4 _ rfl
  have qBg5 := Bg_w5.out 5 _ rfl
  have qBg6 := Bg_w5.out 6 _ rfl
  have qBg7 := Bg_w5.out 7 _ rfl
  have qBg8 := Bg_w5.out 8 _ rfl
  have qBg9 := Bg_w5.out 9 _ rfl
  have qBg10 := Bg_w5.out 10 _ rfl
  have qBg11 := Bg_w5.out 11 _ rfl
  have qBg12 := Bg_w5.out 12 _ rfl
  have qBg13 := Bg_w5.out 13 _ rfl
  have tBg := Bg_w5.out.lt
  go_wp2_with fail
  clear qBw0 qBw1 qBw2 qBw3 qBw4 qBw5 qBw6 qBw7 qBw8 qBw9 qBw10 qBw11 qBw12 qBw13 tBw qBg0 qBg1 qBg2 qBg3 qBg4 qBg5 qBg6 qBg7 qBg8 qBg9 qBg10 qBg11 qBg12 qBg13 tBg
  refine (implNewWU _ x0  ).mono ?_
  rw [HR.out]
  rintro e w6 ⟨z0sh, z1sh, z2sh, a3sh, n3sh, c3sh, a4sh, n4sh, c4sh, a5sh, n5sh, c5sh, a6sh, n6sh, c6sh, a7sh, n7sh, c7sh, a8sh, n8sh, c8sh, a9sh, n9sh, c9sh, a10sh, n10sh, c10sh, a11sh, n11sh, c11sh, a12sh, n12sh, c12sh, rfl, hb, ho⟩
  have HL_w6 : Hid (Below w5.heap.size w5 w6) := hb
  have HB_w6 : Hid (Below w.heap.size w w6) := HB_w5.out.trans (HL_w6.out.mono HB_w5.out.size)
  have z_w6 : w5.heap.size ≤ w6.heap.size := HL_w6.out.size
  have Dw_w6 : Hid (WrsU w6 (.int .i64 z0sw) (.int .i64 z1sw) (.int .i64 z2sw) (.slice a3sw n3sw c3sw) (.slice a4sw n4sw c4sw) (.slice a5sw n5sw c5sw) (.slice a6sw n6sw c6sw) (.slice a7sw n7sw c7sw) (.slice a8sw n8sw c8sw) (.slice a9sw n9sw c9sw) (.slice a10sw n10sw c10sw) (.slice a11sw n11sw c11sw) (.slice a12sw n12sw c12sw) d2 (fun b => w.heap.size ≤ b ∧ b < w1.heap.size)) := Dw_w5.out.later HL_w6.out
  have Bw_w6 : Hid (Bx w6 w1.heap.size [.int .i64 code, .int .i64 z0sw, .int .i64 z1sw, .int .i64 z2sw, .slice a3sw n3sw c3sw, .slice a4sw n4sw c4sw, .slice a5sw n5sw c5sw, .slice a6sw n6sw c6sw, .slice a7sw n7sw c7sw, .slice a8sw n8sw c8sw, .slice a9sw n9sw c9sw, .slice a10sw n10sw c10sw, .slice a11sw n11sw c11sw, .slice a12sw n12sw c12sw]) := Bw_w5.out.later HL_w6.out
  have Bg_w6 : Hid (Bx w6 w2.heap.size [.int .i64 code, .int .i64 z0sg, .int .i64 z1sg, .int .i64 z2sg, .slice a3sg n3sg c3sg, .slice a4sg n4sg c4sg, .slice a5sg n5sg c5sg, .slice a6sg n6sg c6sg, .slice a7sg n7sg c7sg, .slice a8sg n8sg c8sg, .slice a9sg n9sg c9sg, .slice a10sg n10sg c10sg, .slice a11sg n11sg c11sg, .slice a12sg n12sg c12sg]) := Bg_w5.out.later HL_w6.out
  have Dm_w6 : Hid (WrsU w6 (.int .i64 z0sg) (.int .i64 z1sg) (.int .i64 z2sg) (.slice a3sg n3sg c3sg) (.slice a4sg n4sg c4sg) (.slice a5sg n5sg c5sg) (.slice a6sg n6sg c6sg) (.slice a7sg n7sg c7sg) (.slice a8sg n8sg c8sg) (.slice a9sg n9sg c9sg) (.slice a10sg n10sg c10sg) (.slice a11sg n11sg c11sg) (.slice a12sg n12sg c12sg) (mkWrs 1 d2) (fun b => w1.heap.size < b ∧ b < w2.heap.size)) := Dm_w5.out.later HL_w6.out
  have Dh_w6 : Hid (WrsU w6 (.int .i64 z0sh) (.int .i64 z1sh) (.int .i64 z2sh) (.slice a3sh n3sh c3sh) (.slice a4sh n4sh c4sh) (.slice a5sh n5sh c5sh) (.slice a6sh n6sh c6sh) (.slice a7sh n7sh c7sh) (.slice a8sh n8sh c8sh) (.slice a9sh n9sh c9sh) (.slice a10sh n10sh c10sh) (.slice a11sh n11sh c11sh) (.slice a12sh n12sh c12sh) d2 (fun b => w5.heap.size ≤ b ∧ b < w6.heap.size)) := ho
  clear Dw_w5 Bw_w5 Bg_w5 Dm_w5 HB_w5 HL_w6
  clear hb ho
  have qBw0 := Bw_w6.out 0 _ rfl
  have qBw1 := Bw_w6.out 1 _ rfl
  have qBw2 := Bw_w6.out 2 _ rfl
  have qBw3 := Bw_w6.out 3 _ rfl
  have qBw4 := Bw_w6.out 4 _ rfl
  have qBw5 := Bw_w6.out 5 _ rfl
  have qBw6 := Bw_w6.out 6 _ rfl
  have qBw7 := Bw_w6.out 7 _ rfl
  have qBw8 := Bw_w6.out 8 _ rfl
  have qBw9 := Bw_w6.out 9 _ rfl
  have qBw10 := Bw_w6.out 10 _ rfl
  have qBw11 := Bw_w6.out 11 _ rfl
  have qBw12 := Bw_w6.out 12 _ rfl
  have qBw13 := Bw_w6.out 13 _ rfl
  have tBw := Bw_w6.out.lt
  have qBg0 := Bg_w6.out 0 _ rfl
  have qBg1 := Bg_w6.out 1 _ rfl
  have qBg2 := Bg_w6.out 2 _ rfl
  have qBg3 := Bg_w6.out 3 _ rfl
  have qBg4 := Bg_w6.out 4 _ rfl
  have qBg5 := Bg_w6.out 5 _ rfl
  have qBg6 := Bg_w6.out 6 _ rfl
  have qBg7 := Bg_w6.out 7 _ rfl
  have qBg8 := Bg_w6.out 8 _ rfl
  have qBg9 := Bg_w6.out 9 _ rfl
  have qBg10 := Bg_w6.out 10 _ rfl
  have qBg11 := Bg_w6.out 11 _ rfl
  have qBg12 := Bg_w6.out 12 _ rfl
  have qBg13 := Bg_w6.out 13 _ rfl
  have tBg := Bg_w6.out.lt
  go_wp2_with fail
  clear qBw0 qBw1 qBw2 qBw3 qBw4 qBw5 qBw6 qBw7 qBw8 qBw9 qBw10 qBw11 qBw12 qBw13 tBw qBg0 qBg1 qBg2 qBg3 qBg4 qBg5 qBg6 qBg7 qBg8 qBg9 qBg10 qBg11 qBg12 qBg13 tBg
  refine (eqWorldResultU _ code _ _ _ _ _ _ _ _ _ _ _ _ _ _ _ _ _ _ _ _ _ _ _ _ _ _ d2 (Dh_w6.out.later (later1 _ _)).reads (Dw_w6.out.later (later1 _ _)).reads).mono ?_
  rintro e w7 ⟨rfl, hb⟩
  have HL_w7 : Hid (Below w6.heap.size w6 w7) := (later1 _ _).trans (hb.mono (by simp))
  have HB_w7 : Hid (Below w.heap.size w w7) := HB_w6.out.trans (HL_w7.out.mono HB_w6.out.size)
  have z_w7 : w6.heap.size ≤ w7.heap.size := HL_w7.out.size
  have Dw_w7 : Hid (WrsU w7 (.int .i64 z0sw) (.int .i64 z1sw) (.int .i64 z2sw) (.slice a3sw n3sw c3sw) (.slice a4sw n4sw c4sw) (.slice a5sw n5sw c5sw) (.slice a6sw n6sw c6sw) (.slice a7sw n7sw c7sw) (.slice a8sw n8sw c8sw) (.slice a9sw n9sw c9sw) (.slice a10sw n10sw c10sw) (.slice a11sw n11sw c11sw) (.slice a12sw n12sw c12sw) d2 (fun b => w.heap.size ≤ b ∧ b < w1.heap.size)) := Dw_w6.out.later HL_w7.out
  have Bw_w7 : Hid (Bx w7 w1.heap.size [.int .i64 code, .int .i64 z0sw, .int .i64 z1sw, .int .i64 z2sw, .slice a3sw n3sw c3sw, .slice a4sw n4sw c4sw, .slice a5sw n5sw c5sw, .slice a6sw n6sw c6sw, .slice a7sw n7sw c7sw, .slice a8sw n8sw c8sw, .slice a9sw n9sw c9sw, .slice a10sw n10sw c10sw, .slice a11sw n11sw c11sw, .slice a12sw n12sw c12sw]) := Bw_w6.out.later HL_w7.out
  have Bg_w7 : Hid (Bx w7 w2.heap.size [.int .i64 code, .int .i64 z0sg, .int .i64 z1sg, .int .i64 z2sg, .slice a3sg n3sg c3sg, .slice a4sg n4sg c4sg, .slice a5sg n5sg c5sg, .slice a6sg n6sg c6sg, .slice a7sg n7sg c7sg, .slice a8sg n8sg c8sg, .slice a9sg n9sg c9sg, .slice a10sg n10sg c10sg, .slice a11sg n11sg c11sg, .slice a12sg n12sg c12sg]) := Bg_w6.out.later HL_w7.out
  have Dm_w7 : Hid (WrsU w7 (.int .i64 z0sg) (.int .i64 z1sg) (.int .i64 z2sg) (.slice a3sg n3sg c3sg) (.slice a4sg n4sg c4sg) (.slice a5sg n5sg c5sg) (.slice a6sg n6sg c6sg) (.slice a7sg n7sg c7sg) (.slice a8sg n8sg c8sg) (.slice a9sg n9sg c9sg) (.slice a10sg n10sg c10sg) (.slice a11sg n11sg c11sg) (.slice a12sg n12sg c12sg) (mkWrs 1 d2) (fun b => w1.heap.size < b ∧ b < w2.heap.size)) := Dm_w6.out.later HL_w7.out
  have Dh_w7 : Hid (WrsU w7 (.int .i64 z0sh) (.int .i64 z1sh) (.int .i64 z2sh) (.slice a3sh n3sh c3sh) (.slice a4sh n4sh c4sh) (.slice a5sh n5sh c5sh) (.slice a6sh n6sh c6sh) (.slice a7sh n7sh c7sh) (.slice a8sh n8sh c8sh) (.slice a9sh n9sh c9sh) (.slice a10sh n10sh c10sh) (.slice a11sh n11sh c11sh) (.slice a12sh n12sh c12sh) d2 (fun b => w5.heap.size ≤ b ∧ b < w6.heap.size)) := Dh_w6.out.later HL_w7.out
  have Bh_w7 : Hid (Bx w7 w6.heap.size [.int .i64 code, .int .i64 z0sh, .int .i64 z1sh, .int .i64 z2sh, .slice a3sh n3sh c3sh, .slice a4sh n4sh c4sh, .slice a5sh n5sh c5sh, .slice a6sh n6sh c6sh, .slice a7sh n7sh c7sh, .slice a8sh n8sh c8sh, .slice a9sh n9sh c9sh, .slice a10sh n10sh c10sh, .slice a11sh n11sh c11sh, .slice a12sh n12sh c12sh]) := (Bx.new _ [.int .i64 code, .int .i64 z0sh, .int .i64 z1sh, .int .i64 z2sh, .slice a3sh n3sh c3sh, .slice a4sh n4sh c4sh, .slice a5sh n5sh c5sh, .slice a6sh n6sh c6sh, .slice a7sh n7sh c7sh, .slice a8sh n8sh c8sh, .slice a9sh n9sh c9sh, .slice a10sh n10sh c10sh, .slice a11sh n11sh c11sh, .slice a12sh n12sh c12sh] _).later hb
  have y_Bh : w6.heap.size < w7.heap.size := Bh_w7.out.lt
  clear Dw_w6 Bw_w6 Bg_w6 Dm_w6 Dh_w6 HB_w6 HL_w7
  clear hb
  have qBw0 := Bw_w7.out 0 _ rfl
  have qBw1 := Bw_w7.out 1 _ rfl
  have qBw2 := Bw_w7.out 2 _ rfl
  have qBw3 := Bw_w7.out 3 _ rfl
  have qBw4 := Bw_w7.out 4 _ rfl
  have qBw5 := Bw_w7.out 5 _ rfl
  have qBw6 := Bw_w7.out 6 _ rfl
  have qBw7 := Bw_w7.out 7 _ rfl
  have qBw8 := Bw_w7.out 8 _ rfl
  have qBw9 := Bw_w7.out 9 _ rfl
  have qBw10 := Bw_w7.out 10 _ rfl
  have qBw11 := Bw_w7.out 11 _ rfl
  have qBw12 := Bw_w7.out 12 _ rfl
  have qBw13 := Bw_w7.out 13 _ rfl
  have tBw := Bw_w7.out.lt
  have qBg0 := Bg_w7.out 0 _ rfl
  have qBg1 := Bg_w7.out 1 _ rfl
  have qBg2 := Bg_w7.out 2 _ rfl
  have qBg3 := Bg_w7.out 3 _ rfl
  have qBg4 := Bg_w7.out 4 _ rfl
  have qBg5 := Bg_w7.out 5 _ rfl
  have qBg6 := Bg_w7.out 6 _ rfl
  have qBg7 := Bg_w7.out 7 _ rfl
  have qBg8 := Bg_w7.out 8 _ rfl
  have qBg9 := Bg_w7.out 9 _ rfl
  have qBg10 := Bg_w7.out 10 _ rfl
  have qBg11 := Bg_w7.out 11 _ rfl
  have qBg12 := Bg_w7.out 12 _ rfl
  have qBg13 := Bg_w7.out 13 _ rfl
  have tBg := Bg_w7.out.lt
  have qBh0 := Bh_w7.out 0 _ rfl
  have qBh1 := Bh_w7.out 1 _ rfl
  have qBh2 := Bh_w7.out 2 _ rfl
  have qBh3 := Bh_w7.out 3 _ rfl
  have qBh4 := Bh_w7.out 4 _ rfl
  have qBh5 := Bh_w7.out 5 _ rfl
  have qBh6 := Bh_w7.out 6 _ rfl
  have qBh7 := Bh_w7.out 7 _ rfl
  have qBh8 := Bh_w7.out 8 _ rfl
  have qBh9 := Bh_w7.out 9 _ rfl
  have qBh10 := Bh_w7.out 10 _ rfl
  have qBh11 := Bh_w7.out 11 _ rfl
  have qBh12 := Bh_w7.out 12 _ rfl
  have qBh13 := Bh_w7.out 13 _ rfl
  have tBh := Bh_w7.out.lt
  go_wp2_with fail
  clear qBw0 qBw1 qBw2 qBw3 qBw4 qBw5 qBw6 qBw7 qBw8 qBw9 qBw10 qBw11 qBw12 qBw13 tBw qBg0 qBg1 qBg2 qBg3 qBg4 qBg5 qBg6 qBg7 qBg8 qBg9 qBg10 qBg11 qBg12 qBg13 tBg qBh0 qBh1 qBh2 qBh3 qBh4 qBh5 qBh6 qBh7 qBh8 qBh9 qBh10 qBh11 qBh12 qBh13 tBh
  refine (heldWorldResultU _ code _ _ _ _ _ _ _ _ _ _ _ _ _ d2 _ 1 Dm_w7.out (by omega) (by rw [HK.out]; exact hK1)).mono ?_
  rw [HK.out]
  rintro e w8 ⟨rfl, hb⟩
  have HL_w8 : Hid (Below w7.heap.size w7 w8) := hb
  have HB_w8 : Hid (Below w.heap.size w w8) := HB_w7.out.trans (HL_w8.out.mono HB_w7.out.size)
  have z_w8 : w7.heap.size ≤ w8.heap.size := HL_w8.out.size
  have Dw_w8 : Hid (WrsU w8 (.int .i64 z0sw) (.int .i64 z1sw) (.int .i64 z2sw) (.slice a3sw n3sw c3sw) (.slice a4sw n4sw c4sw) (.slice a5sw n5sw c5sw) (.slice a6sw n6sw c6sw) (.slice a7sw n7sw c7sw) (.slice a8sw n8sw c8sw) (.slice a9sw n9sw c9sw) (.slice a10sw n10sw c10sw) (.slice a11sw n11sw c11sw) (.slice a12sw n12sw c12sw) d2 (fun b => w.heap.size ≤ b ∧ b < w1.heap.size)) := Dw_w7.out.later HL_w8.out
  have Bw_w8 : Hid (Bx w8 w1.heap.size [.int .i64 code, .int .i64 z0sw, .int .i64 z1sw, .int .i64 z2sw, .slice a3sw n3sw c3sw, .slice a4sw n4sw c4sw, .slice a5sw n5sw c5sw, .slice a6sw n6sw c6sw, .slice a7sw n7sw c7sw, .slice a8sw n8sw c8sw, .slice a9sw n9sw c9sw, .slice a10sw n10sw c10sw, .slice a11sw n11sw c11sw, .slice a12sw n12sw c12sw]) := Bw_w7.out.later HL_w8.out
  have Bg_w8 : Hid (Bx w8 w2.heap.size [.int .i64 code, .int .i64 z0sg, .int .i64 z1sg, .int .i64 z2sg, .slice a3sg n3sg c3sg, .slice a4sg n4sg c4sg, .slice a5sg n5sg c5sg, .slice a6sg n6sg c6sg, .slice a7sg n7sg c7sg, .slice a8sg n8sg c8sg, .slice a9sg n9sg c9sg, .slice a10sg n10sg c10sg, .slice a11sg n11sg c11sg, .slice a12sg n12sg c12sg]) := Bg_w7.out.later HL_w8.out
  have Dm_w8 : Hid (WrsU w8 (.int .i64 z0sg) (.int .i64 z1sg) (.int .i64 z2sg) (.slice a3sg n3sg c3sg) (.slice a4sg n4sg c4sg) (.slice a5sg n5sg c5sg) (.slice a6sg n6sg c6sg) (.slice a7sg n7sg c7sg) (.slice a8sg n8sg c8sg) (.slice a9sg n9sg c9sg) (.slice a10sg n10sg c10sg) (.slice a11sg n11sg c11sg) (.slice a12sg n12sg c12sg) (mkWrs 1 d2) (fun b => w1.heap.size < b ∧ b < w2.heap.size)) := Dm_w7.out.later HL_w8.out
  have Dh_w8 : Hid (WrsU w8 (.int .i64 z0sh) (.int .i64 z1sh) (.int .i64 z2sh) (.slice a3sh n3sh c3sh) (.slice a4sh n4sh c4sh) (.slice a5sh n5sh c5sh) (.slice a6sh n6sh c6sh) (.slice a7sh n7sh c7sh) (.slice a8sh n8sh c8sh) (.slice a9sh n9sh c9sh) (.slice a10sh n10sh c10sh) (.slice a11sh n11sh c11sh) (.slice a12sh n12sh c12sh) d2 (fun b => w5.heap.size ≤ b ∧ b < w6.heap.size)) := Dh_w7.out.later HL_w8.out
  have Bh_w8 : Hid (Bx w8 w6.heap.size [.int .i64 code, .int .i64 z0sh, .int .i64 z1sh, .int .i64 z2sh, .slice a3sh n3sh c3sh, .slice a4sh n4sh c4sh, .slice a5sh n5sh c5sh, .slice a6sh n6sh c6sh, .slice a7sh n7sh c7sh, .slice a8sh n8sh c8sh, .slice a9sh n9sh c9sh, .slice a10sh n10sh c10sh, .slice a11sh n11sh c11sh, .slice a12sh n12sh c12sh]) := Bh_w7.out.later HL_w8.out
  clear Dw_w7 Bw_w7 Bg_w7 Dm_w7 Dh_w7 Bh_w7 HB_w7 HL_w8
  clear hb
  have qBw0 := Bw_w8.out 0 _ rfl
  have qBw1 := Bw_w8.out 1 _ rfl
  have qBw2 := Bw_w8.out 2 _ rfl
  have qBw3 := Bw_w8.out 3 _ rfl
  have qBw4 := Bw_w8.out 4 _ rfl
  have qBw5 := Bw_w8.out 5 _ rfl
  have qBw6 := Bw_w8.out 6 _ rfl
  have qBw7 := Bw_w8.out 7 _ rfl
  have qBw8 := Bw_w8.out 8 _ rfl
  have qBw9 := Bw_w8.out 9 _ rfl
  have qBw10 := Bw_w8.out 10 _ rfl
  have qBw11 := Bw_w8.out 11 _ rfl
  have qBw12 := Bw_w8.out 12 _ rfl
  have qBw13 := Bw_w8.out 13 _ rfl
  have tBw := Bw_w8.out.lt
  have qBg0 := Bg_w8.out 0 _ rfl
  have qBg1 := Bg_w8.out 1 _ rfl
  have qBg2 := Bg_w8.out 2 _ rfl
  have qBg3 := Bg_w8.out 3 _ rfl
  have qBg4 := Bg_w8.out 4 _ rfl
  have qBg5 := Bg_w8.out 5 _ rfl
  have qBg6 := Bg_w8.out 6 _ rfl
  have qBg7 := Bg_w8.out 7 _ rfl
  have qBg8 := Bg_w8.out 8 _ rfl
  have qBg9 := Bg_w8.out 9 _ rfl
  have qBg10 := Bg_w8.out 10 _ rfl
  have qBg11 := Bg_w8.out 11 _ rfl
  have qBg12 := Bg_w8.out 12 _ rfl
  have qBg13 := Bg_w8.out 13 _ rfl
  have tBg := Bg_w8.out.lt
  have qBh0 := Bh_w8.out 0 _ rfl
  have qBh1 := Bh_w8.out 1 _ rfl
  have qBh2 := Bh_w8.out 2 _ rfl
  have qBh3 := Bh_w8.out 3 _ rfl
  have qBh4 := Bh_w8.out 4 _ rfl
  have qBh5 := Bh_w8.out 5 _ rfl
  have qBh6 := Bh_w8.out 6 _ rfl
  have qBh7 := Bh_w8.out 7 _ rfl
  have qBh8 := Bh_w8.out 8 _ rfl
  have qBh9 := Bh_w8.out 9 _ rfl
  have qBh10 := Bh_w8.out 10 _ rfl
  have qBh11 := Bh_w8.out 11 _ rfl
  have qBh12 := Bh_w8.out 12 _ rfl
  have qBh13 := Bh_w8.out 13 _ rfl
  have tBh := Bh_w8.out.lt
  go_wp2
  go_ret
  exact ⟨rfl, HB_w8.out⟩

theorem lawNewWorld_any (w : World) (x0 : Int) :
    Calls Tryz.prog 3 #[.int .i64 x0] w fun e w' => e = .returned (.bool true) ∧ Below w.heap.size w w' := by
  exact lawNewWorld_small w x0   
end Go.Proofs.YtlacppjlclfpmaaGreat

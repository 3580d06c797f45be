/- The law of FormatDisk: at every argument the program answers as the specification, leaves its arguments as they were, and its answer owns its memory. -/
import Derived.Test.YtlohgnidbkechaaM13
namespace Go.Proofs.Ytlohgnidbkechaa
open Go.RowKit
set_option maxRecDepth 100000

set_option maxHeartbeats 12800000 in
theorem lawFormatDisk_small (w : World) (x0 : Int) :
    Calls Try.prog 3 #[.int .i64 x0] w fun e w' => e = .returned (.bool true) ∧ Below w.heap.size w w' := by
  generalize hr : formR x0 = r at *
  have HR : Hid (formR x0 = r) := hr
  obtain ⟨code, d2⟩ := r
  have hspr : ((spanDisk d2 : Nat) : Int) ≤ 100000000 := by have := formR_span x0; rw [hr] at this; dsimp only at this; omega
  clear hr
  go_enter Try.func3, Try.ntmps3
  go_wp2_with fail
  refine (specFormU _ x0  ).mono ?_
  rw [HR.out]
  rintro e w1 ⟨a0sw, n0sw, c0sw, a1sw, n1sw, c1sw, rfl, hb, ho⟩
  have HL_w1 : Hid (Below w.heap.size w w1) := hb
  have HB_w1 : Hid (Below w.heap.size w w1) := HL_w1.out
  have z_w1 : w.heap.size ≤ w1.heap.size := HL_w1.out.size
  have Dw_w1 : Hid (DiskU w1 (.slice a0sw n0sw c0sw) (.slice a1sw n1sw c1sw) d2 (fun b => w.heap.size ≤ b ∧ b < w1.heap.size)) := ho
  clear HL_w1
  clear hb ho
  go_wp2_with fail
  refine (implFormU _ x0  ).mono ?_
  rw [HR.out]
  rintro e w2 ⟨a0sg, n0sg, c0sg, a1sg, n1sg, c1sg, rfl, hb, ho⟩
  have HL_w2 : Hid (Below w1.heap.size w1 w2) := (later1 _ _).trans (hb.mono (by simp))
  have HB_w2 : Hid (Below w.heap.size w w2) := HB_w1.out.trans (HL_w2.out.mono HB_w1.out.size)
  have z_w2 : w1.heap.size ≤ w2.heap.size := HL_w2.out.size
  have Dw_w2 : Hid (DiskU w2 (.slice a0sw n0sw c0sw) (.slice a1sw n1sw c1sw) d2 (fun b => w.heap.size ≤ b ∧ b < w1.heap.size)) := Dw_w1.out.later HL_w2.out
  have Bw_w2 : Hid (Bx w2 w1.heap.size [.int .i64 code, .slice a0sw n0sw c0sw, .slice a1sw n1sw c1sw]) := (Bx.new _ [.int .i64 code, .slice a0sw n0sw c0sw, .slice a1sw n1sw c1sw] _).later hb
  have y_Bw : w1.heap.size < w2.heap.size := Bw_w2.out.lt
  have Dg_w2 : Hid (DiskU w2 (.slice a0sg n0sg c0sg) (.slice a1sg n1sg c1sg) d2 (fun b => w1.heap.size < b ∧ b < w2.heap.size)) := ho.mono fun b hb => ⟨by have := hb.1; simp at this; omega, hb.2⟩
  clear Dw_w1 HB_w1 HL_w2
  clear hb ho
  have qBw0 := Bw_w2.out 0 _ rfl
  have qBw1 := Bw_w2.out 1 _ rfl
  have qBw2 := Bw_w2.out 2 _ rfl
  have tBw := Bw_w2.out.lt
  go_wp2_with fail
  clear qBw0 qBw1 qBw2 tBw
  refine (eqDiskResultU _ code _ _ _ _ d2 (Dg_w2.out.later (later1 _ _)).reads (Dw_w2.out.later (later1 _ _)).reads).mono ?_
  rintro e w3 ⟨rfl, hb⟩
  have HL_w3 : Hid (Below w2.heap.size w2 w3) := (later1 _ _).trans (hb.mono (by simp))
  have HB_w3 : Hid (Below w.heap.size w w3) := HB_w2.out.trans (HL_w3.out.mono HB_w2.out.size)
  have z_w3 : w2.heap.size ≤ w3.heap.size := HL_w3.out.size
  have Dw_w3 : Hid (DiskU w3 (.slice a0sw n0sw c0sw) (.slice a1sw n1sw c1sw) d2 (fun b => w.heap.size ≤ b ∧ b < w1.heap.size)) := Dw_w2.out.later HL_w3.out
  have Bw_w3 : Hid (Bx w3 w1.heap.size [.int .i64 code, .slice a0sw n0sw c0sw, .slice a1sw n1sw c1sw]) := Bw_w2.out.later HL_w3.out
  have Dg_w3 : Hid (DiskU w3 (.slice a0sg n0sg c0sg) (.slice a1sg n1sg c1sg) d2 (fun b => w1.heap.size < b ∧ b < w2.heap.size)) := Dg_w2.out.later HL_w3.out
  have Bg_w3 : Hid (Bx w3 w2.heap.size [.int .i64 code, .slice a0sg n0sg c0sg, .slice a1sg n1sg c1sg]) := (Bx.new _ [.int .i64 code, .slice a0sg n0sg c0sg, .slice a1sg n1sg c1sg] _).later hb
  have y_Bg : w2.heap.size < w3.heap.size := Bg_w3.out.lt
  clear Dw_w2 Bw_w2 Dg_w2 HB_w2 HL_w3
  clear hb
  have qBw0 := Bw_w3.out 0 _ rfl
  have qBw1 := Bw_w3.out 1 _ rfl
  have qBw2 := Bw_w3.out 2 _ rfl
  have tBw := Bw_w3.out.lt
  have qBg0 := Bg_w3.out 0 _ rfl
  have qBg1 := Bg_w3.out 1 _ rfl
  have qBg2 := Bg_w3.out 2 _ rfl
  have tBg := Bg_w3.out.lt
  go_wp2_with fail
  clear qBw0 qBw1 qBw2 tBw qBg0 qBg1 qBg2 tBg
  refine (markDiskResultU _ code _ _ d2 _ 1 Dg_w3.out (by omega) (by omega)).mono ?_
  rintro e w4 ⟨rfl, hm, hc⟩
  have HB_w4 : Hid (Below w.heap.size w w4) := HB_w3.out.trans (hc.below HB_w3.out.size (fun b h => by have := HB_w3.out.size; omega))
  have z_w4 : w3.heap.size ≤ w4.heap.size := hc.size
  have Dw_w4 : Hid (DiskU w4 (.slice a0sw n0sw c0sw) (.slice a1sw n1sw c1sw) d2 (fun b => w.heap.size ≤ b ∧ b < w1.heap.size)) := Dw_w3.out.chg hc (fun b h h' => by omega)
  have Bw_w4 : Hid (Bx w4 w1.heap.size [.int .i64 code, .slice a0sw n0sw c0sw, .slice a1sw n1sw c1sw]) := Bw_w3.out.chg hc (by omega)
  have Bg_w4 : Hid (Bx w4 w2.heap.size [.int .i64 code, .slice a0sg n0sg c0sg, .slice a1sg n1sg c1sg]) := Bg_w3.out.chg hc (by omega)
  have Dm_w4 : Hid (DiskU w4 (.slice a0sg n0sg c0sg) (.slice a1sg n1sg c1sg) (mkDisk 1 d2) (fun b => w1.heap.size < b ∧ b < w2.heap.size)) := hm
  clear HB_w3 Dw_w3 Bw_w3 Dg_w3 Bg_w3
  clear hm hc
  generalize hK : (1 : Int) + (spanDisk d2 : Nat) = K at *
  have hKK : (K != K) = false := by simp
  have hK0 : ¬ K < 0 := by omega
  have hK1 : K ≤ 4611686018427387904 := by omega
  have HK : Hid ((1 : Int) + (spanDisk d2 : Nat) = K) := hK
  clear hK
  have qBw0 := Bw_w4.out 0 _ rfl
  have qBw1 := Bw_w4.out 1 _ rfl
  have qBw2 := Bw_w4.out 2 _ rfl
  have tBw := Bw_w4.out.lt
  have qBg0 := Bg_w4.out 0 _ rfl
  have qBg1 := Bg_w4.out 1 _ rfl
  have qBg2 := Bg_w4.out 2 _ rfl
  have tBg := Bg_w4.out.lt
  go_wp2_with fail
  clear qBw0 qBw1 qBw2 tBw qBg0 qBg1 qBg2 tBg
  refine (heldDiskResultU _ code _ _ d2 _ 1 Dm_w4.out (by omega) (by rw [HK.out]; exact hK1)).mono ?_
  rw [HK.out]
  rintro e w5 ⟨rfl, hb⟩
  have HL_w5 : Hid (Below w4.heap.size w4 w5) := hb
  have HB_w5 : Hid (Below w.heap.size w w5) := HB_w4.out.trans (HL_w5.out.mono HB_w4.out.size)
  have z_w5 : w4.heap.size ≤ w5.heap.size := HL_w5.out.size
  have Dw_w5 : Hid (DiskU w5 (.slice a0sw n0sw c0sw) (.slice a1sw n1sw c1sw) d2 (fun b => w.heap.size ≤ b ∧ b < w1.heap.size)) := Dw_w4.out.later HL_w5.out
  have Bw_w5 : Hid (Bx w5 w1.heap.size [.int .i64 code, .slice a0sw n0sw c0sw, .slice a1sw n1sw c1sw]) := Bw_w4.out.later HL_w5.out
  have Bg_w5 : Hid (Bx w5 w2.heap.size [.int .i64 code, .slice a0sg n0sg c0sg, .slice a1sg n1sg c1sg]) := Bg_w4.out.later HL_w5.out
  have Dm_w5 : Hid (DiskU w5 (.slice a0sg n0sg c0sg) (.slice a1sg n1sg c1sg) (mkDisk 1 d2) (fun b => w1.heap.size < b ∧ b < w2.heap.size)) := Dm_w4.out.later HL_w5.out
  clear Dw_w4 Bw_w4 Bg_w4 Dm_w4 HB_w4 HL_w5
  clear hb
  have qBw0 := Bw_w5.out 0 _ rfl
  have qBw1 := Bw_w5.out 1 _ rfl
  have qBw2 := Bw_w5.out 2 _ rfl
  have tBw := Bw_w5.out.lt
  have qBg0 := Bg_w5.out 0 _ rfl
  have qBg1 := Bg_w5.out 1 _ rfl
  have qBg2 := Bg_w5.out 2 _ rfl
  have tBg := Bg_w5.out.lt
  go_wp2_with fail
  clear qBw0 qBw1 qBw2 tBw qBg0 qBg1 qBg2 tBg
  refine (implFormU _ x0  ).mono ?_
  rw [HR.out]
  rintro e w6 ⟨a0sh, n0sh, c0sh, a1sh, n1sh, c1sh, rfl, hb, ho⟩
  have HL_w6 : Hid (Below w5.heap.size w5 w6) := hb
  have HB_w6 : Hid (Below w.heap.size w w6) := HB_w5.out.trans (HL_w6.out.mono HB_w5.out.size)
  have z_w6 : w5.heap.size ≤ w6.heap.size := HL_w6.out.size
  have Dw_w6 : Hid (DiskU w6 (.slice a0sw n0sw c0sw) (.slice a1sw n1sw c1sw) d2 (fun b => w.heap.size ≤ b ∧ b < w1.heap.size)) := Dw_w5.out.later HL_w6.out
  have Bw_w6 : Hid (Bx w6 w1.heap.size [.int .i64 code, .slice a0sw n0sw c0sw, .slice a1sw n1sw c1sw]) := Bw_w5.out.later HL_w6.out
  have Bg_w6 : Hid (Bx w6 w2.heap.size [.int .i64 code, .slice a0sg n0sg c0sg, .slice a1sg n1sg c1sg]) := Bg_w5.out.later HL_w6.out
  have Dm_w6 : Hid (DiskU w6 (.slice a0sg n0sg c0sg) (.slice a1sg n1sg c1sg) (mkDisk 1 d2) (fun b => w1.heap.size < b ∧ b < w2.heap.size)) := Dm_w5.out.later HL_w6.out
  have Dh_w6 : Hid (DiskU w6 (.slice a0sh n0sh c0sh) (.slice a1sh n1sh c1sh) d2 (fun b => w5.heap.size ≤ b ∧ b < w6.heap.size)) := ho
  clear Dw_w5 Bw_w5 Bg_w5 Dm_w5 HB_w5 HL_w6
  clear hb ho
  have qBw0 := Bw_w6.out 0 _ rfl
  have qBw1 := Bw_w6.out 1 _ rfl
  have qBw2 := Bw_w6.out 2 _ rfl
  have tBw := Bw_w6.out.lt
  have qBg0 := Bg_w6.out 0 _ rfl
  have qBg1 := Bg_w6.out 1 _ rfl
  have qBg2 := Bg_w6.out 2 _ rfl
  have tBg := Bg_w6.out.lt
  go_wp2_with fail
  clear qBw0 qBw1 qBw2 tBw qBg0 qBg1 qBg2 tBg
  refine (eqDiskResultU _ code _ _ _ _ d2 (Dh_w6.out.later (later1 _ _)).reads (Dw_w6.out.later (later1 _ _)).reads).mono ?_
  rintro e w7 ⟨rfl, hb⟩
  have HL_w7 : Hid (Below w6.heap.size w6 w7) := (later1 _ _).trans (hb.mono (by simp))
  have HB_w7 : Hid (Below w.heap.size w w7) := HB_w6.out.trans (HL_w7.out.mono HB_w6.out.size)
  have z_w7 : w6.heap.size ≤ w7.heap.size := HL_w7.out.size
  have Dw_w7 : Hid (DiskU w7 (.slice a0sw n0sw c0sw) (.slice a1sw n1sw c1sw) d2 (fun b => w.heap.size ≤ b ∧ b < w1.heap.size)) := Dw_w6.out.later HL_w7.out
  have Bw_w7 : Hid (Bx w7 w1.heap.size [.int .i64 code, .slice a0sw n0sw c0sw, .slice a1sw n1sw c1sw]) := Bw_w6.out.later HL_w7.out
  have Bg_w7 : Hid (Bx w7 w2.heap.size [.int .i64 code, .slice a0sg n0sg c0sg, .slice a1sg n1sg c1sg]) := Bg_w6.out.later HL_w7.out
  have Dm_w7 : Hid (DiskU w7 (.slice a0sg n0sg c0sg) (.slice a1sg n1sg c1sg) (mkDisk 1 d2) (fun b => w1.heap.size < b ∧ b < w2.heap.size)) := Dm_w6.out.later HL_w7.out
  have Dh_w7 : Hid (DiskU w7 (.slice a0sh n0sh c0sh) (.slice a1sh n1sh c1sh) d2 (fun b => w5.heap.size ≤ b ∧ b < w6.heap.size)) := Dh_w6.out.later HL_w7.out
  have Bh_w7 : Hid (Bx w7 w6.heap.size [.int .i64 code, .slice a0sh n0sh c0sh, .slice a1sh n1sh c1sh]) := (Bx.new _ [.int .i64 code, .slice a0sh n0sh c0sh, .slice a1sh n1sh c1sh] _).later hb
  have y_Bh : w6.heap.size < w7.heap.size := Bh_w7.out.lt
  clear Dw_w6 Bw_w6 Bg_w6 Dm_w6 Dh_w6 HB_w6 HL_w7
  clear hb
  have qBw0 := Bw_w7.out 0 _ rfl
  have qBw1 := Bw_w7.out 1 _ rfl
  have qBw2 := Bw_w7.out 2 _ rfl
  have tBw := Bw_w7.out.lt
  have qBg0 := Bg_w7.out 0 _ rfl
  have qBg1 := Bg_w7.out 1 _ rfl
  have qBg2 := Bg_w7.out 2 _ rfl
  have tBg := Bg_w7.out.lt
  have qBh0 := Bh_w7.out 0 _ rfl
  have qBh1 := Bh_w7.out 1 _ rfl
  have qBh2 := Bh_w7.out 2 _ rfl
  have tBh := Bh_w7.out.lt
  go_wp2_with fail
  clear qBw0 qBw1 qBw2 tBw qBg0 qBg1 qBg2 tBg qBh0 qBh1 qBh2 tBh
  refine (heldDiskResultU _ code _ _ d2 _ 1 Dm_w7.out (by omega) (by rw [HK.out]; exact hK1)).mono ?_
  rw [HK.out]
  rintro e w8 ⟨rfl, hb⟩
  have HL_w8 : Hid (Below w7.heap.size w7 w8) := hb
  have HB_w8 : Hid (Below w.heap.size w w8) := HB_w7.out.trans (HL_w8.out.mono HB_w7.out.size)
  have z_w8 : w7.heap.size ≤ w8.heap.size := HL_w8.out.size
  have Dw_w8 : Hid (DiskU w8 (.slice a0sw n0sw c0sw) (.slice a1sw n1sw c1sw) d2 (fun b => w.heap.size ≤ b ∧ b < w1.heap.size)) := Dw_w7.out.later HL_w8.out
  have Bw_w8 : Hid (Bx w8 w1.heap.size [.int .i64 code, .slice a0sw n0sw c0sw, .slice a1sw n1sw c1sw]) := Bw_w7.out.later HL_w8.out
  have Bg_w8 : Hid (Bx w8 w2.heap.size [.int .i64 code, .slice a0sg n0sg c0sg, .slice a1sg n1sg c1sg]) := Bg_w7.out.later HL_w8.out
  have Dm_w8 : Hid (DiskU w8 (.slice a0sg n0sg c0sg) (.slice a1sg n1sg c1sg) (mkDisk 1 d2) (fun b => w1.heap.size < b ∧ b < w2.heap.size)) := Dm_w7.out.later HL_w8.out
  have Dh_w8 : Hid (DiskU w8 (.slice a0sh n0sh c0sh) (.slice a1sh n1sh c1sh) d2 (fun b => w5.heap.size ≤ b ∧ b < w6.heap.size)) := Dh_w7.out.later HL_w8.out
  have Bh_w8 : Hid (Bx w8 w6.heap.size [.int .i64 code, .slice a0sh n0sh c0sh, .slice a1sh n1sh c1sh]) := Bh_w7.out.later HL_w8.out
  clear Dw_w7 Bw_w7 Bg_w7 Dm_w7 Dh_w7 Bh_w7 HB_w7 HL_w8
  clear hb
  have qBw0 := Bw_w8.out 0 _ rfl
  have qBw1 := Bw_w8.out 1 _ rfl
  have qBw2 := Bw_w8.out 2 _ rfl
  have tBw := Bw_w8.out.lt
  have qBg0 := Bg_w8.out 0 _ rfl
  have qBg1 := Bg_w8.out 1 _ rfl
  have qBg2 := Bg_w8.out 2 _ rfl
  have tBg := Bg_w8.out.lt
  have qBh0 := Bh_w8.out 0 _ rfl
  have qBh1 := Bh_w8.out 1 _ rfl
  have qBh2 := Bh_w8.out 2 _ rfl
  have tBh := Bh_w8.out.lt
  go_wp2
  go_ret
  exact ⟨rfl, HB_w8.out⟩

theorem lawFormatDisk_any (w : World) (x0 : Int) :
    Calls Try.prog 3 #[.int .i64 x0] w fun e w' => e = .returned (.bool true) ∧ Below w.heap.size w w' := by
  exact lawFormatDisk_small w x0   
end Go.Proofs.Ytlohgnidbkechaa

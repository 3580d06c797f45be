/- The program's StatOf. -/
import Derived.Test.YtpfafcodihhdfaaGreatDoorM22
import Derived.BigQuiet
namespace Go.Proofs.YtpfafcodihhdfaaGreatDoor
open Go.RowKit
set_option maxRecDepth 100000

set_option maxHeartbeats 6400000 in
theorem implStatU (w : World) (a1 : Option Addr) (n1 c1 : Nat) (a2 : Option Addr) (n2 c2 : Nat) (d : FD) (s : ByteArray) (h : FsR w (.slice a1 n1 c1) (.slice a2 n2 c2) d) (hs : sizeFs d ≤ 1048576) (hl : s.size ≤ 1048576) (hgl : Gl w) :
    Calls Tryz.prog 10 #[.agg #[.slice a1 n1 c1, .slice a2 n2 c2], .string s] w fun e w' => e = .returned (.agg #[.int .i64 (statR d s).1, .int .i64 (statR d s).2.1, .int .i64 (statR d s).2.2.1, .int .i64 (statR d s).2.2.2.1, .int .i64 (statR d s).2.2.2.2]) ∧ Below w.heap.size w w' := by
  have HB0 : Hid (Below w.heap.size w ((w.alloc (.cells #[.slice a1 n1 c1, .slice a2 n2 c2] 32)).alloc (.cells #[.int .i64 0, .int .i64 0, .int .i64 0, .int .i64 0, .int .i64 0] 28))) := later2 _ _ _
  have HX : Hid (Bx ((w.alloc (.cells #[.slice a1 n1 c1, .slice a2 n2 c2] 32)).alloc (.cells #[.int .i64 0, .int .i64 0, .int .i64 0, .int .i64 0, .int .i64 0] 28)) w.heap.size [.slice a1 n1 c1, .slice a2 n2 c2]) := (Bx.new w [.slice a1 n1 c1, .slice a2 n2 c2] _).later (later1 _ _)
  have HRS : Hid (OwnRow ((w.alloc (.cells #[.slice a1 n1 c1, .slice a2 n2 c2] 32)).alloc (.cells #[.int .i64 0, .int .i64 0, .int .i64 0, .int .i64 0, .int .i64 0] 28)) (w.heap.size + 1) 5 (fun _ => .int .i64 0)) := by
    have p2 := zeros5 (w.alloc (.cells #[.slice a1 n1 c1, .slice a2 n2 c2] 32)) 28
    rw [World.size_alloc] at p2
    exact p2
  have HW : Hid (∀ W, Below w.heap.size w W → Calls Tryz.prog 36 #[.agg #[.slice a1 n1 c1, .slice a2 n2 c2], .string s] W fun e w' => e = .returned (.agg #[.int .i64 (walkR d s).1, .int .i64 (walkR d s).2]) ∧ Below W.heap.size W w') := fun W hW => implWalkV W a1 n1 c1 a2 n2 c2 d s (h.later hW) hs hl (hgl.later hW)
  have HST : Hid (statR d s = if (walkR d s).1 = 0 then statI d (walkR d s).2.toNat else ((walkR d s).1, 0, 0, 0, 0)) := rfl
  rw [HST.out]
  have HK : Hid ((walkR d s).1 = 0 → ∃ y : Nat, (walkR d s).2 = (y : Int) ∧ y < d.1.length ∧ d.1.length ≤ 10) := fun h0 => by
    obtain ⟨hok, y, h1, h2⟩ := walk_place h0
    exact ⟨y, h1, h2, hok.ten⟩
  obtain ⟨_, _, e1, -, hAt⟩ := h.1.open'
  simp only [Value.slice.injEq] at e1
  obtain ⟨rfl, rfl, rfl⟩ := e1
  have HAT : Hid (AtI w a1 d.1.length d.1) := hAt
  clear h hs hl hgl HST hAt
  generalize walkR d s = pr at *
  obtain ⟨pc, pv⟩ := pr
  dsimp only at HW HK ⊢
  have x0 := HX.out 0 _ rfl
  have x1 := HX.out 1 _ rfl
  by_cases hk : pc = 0
  rotate_left
  · rw [if_neg hk]
    have hkb : (pc != 0) = true := by simpa using hk
    clear hk HK HAT
    generalize d.1.length = nn at *
    go_enter Tryz.func10, Tryz.ntmps10
    go_wp2_with fail
    generalize ((w.alloc (.cells #[.slice a1 nn c1, .slice a2 n2 c2] 32)).alloc (.cells #[.int .i64 0, .int .i64 0, .int .i64 0, .int .i64 0, .int .i64 0] 28)) = W0 at *
    refine (HW.out _ HB0.out).mono ?_
    rintro e w1 ⟨rfl, hb1⟩
    have HBF : Hid (Below w.heap.size w w1) := HB0.out.trans (hb1.mono HB0.out.size)
    have hrr := HRS.out.later hb1
    have hlw : w.heap.size + 1 < w1.heap.size := hrr.lt
    have t0 : w1.cell? ⟨w.heap.size + 1, 0, none⟩ = some (.int .i64 0) := hrr.cell (i := 0) (by omega)
    have t1 : w1.cell? ⟨w.heap.size + 1, 1, none⟩ = some (.int .i64 0) := hrr.cell (i := 1) (by omega)
    have t2 : w1.cell? ⟨w.heap.size + 1, 2, none⟩ = some (.int .i64 0) := hrr.cell (i := 2) (by omega)
    have t3 : w1.cell? ⟨w.heap.size + 1, 3, none⟩ = some (.int .i64 0) := hrr.cell (i := 3) (by omega)
    have t4 : w1.cell? ⟨w.heap.size + 1, 4, none⟩ = some (.int .i64 0) := hrr.cell (i := 4) (by omega)
    have s0 := hrr.frozen 0
    have s1 := hrr.frozen 1
    have s2 := hrr.frozen 2
    have s3 := hrr.frozen 3
    have s4 := hrr.frozen 4
    clear hb1 hrr x0 x1
    go_wp2
    exact bodyPost_ret (v := .agg #[.int .i64 pc, .int .i64 0, .int .i64 0, .int .i64 0, .int .i64 0]) (by simp [results, Tryz.results10, go_sem, t0, t1, t2, t3, t4, hlw]) rfl ⟨rfl, (below5 HBF.out (by omega) _ _ _ _ _).alloc (by have := HBF.out.size; simpa [World.setCell] using this) _⟩
  · rw [if_pos hk]
    obtain ⟨y, hy, hyl, h10⟩ := HK.out hk
    subst hy
    subst hk
    rw [Int.toNat_natCast]
    obtain ⟨b0, o0, rfl, hI⟩ := HAT.out y hyl
    obtain ⟨aB, cB, aE, cE, k0, k1, k2, k3, k4, -⟩ := hI
    have HK0 : Hid (_ = _) := k0
    have HK1 : Hid (_ = _) := k1
    have HK2 : Hid (_ = _) := k2
    have HK3 : Hid (_ = _) := k3
    have HK4 : Hid (_ = _) := k4
    have hyI : (y : Int) < ((d.1.length : Nat) : Int) := by omega
    have hbl : b0 < w.heap.size := World.block_lt_of_cell? _ _ k0
    unfold statI
    dsimp only
    clear HK HAT k0 k1 k2 k3 k4
    generalize (d.1[y]?.getD id0).1 = kd at *
    generalize (d.1[y]?.getD id0).2.1 = kl at *
    generalize (d.1[y]?.getD id0).2.2.1 = ks at *
    generalize (d.1[y]?.getD id0).2.2.2.1.length = kb at *
    generalize (d.1[y]?.getD id0).2.2.2.2.length = ke at *
    generalize d.1.length = nn at *
    by_cases h2 : kd = 2
    · rw [if_pos h2, if_pos h2]
      have h2b : (kd == 2) = true := by simpa using h2
      clear h2
      go_enter Tryz.func10, Tryz.ntmps10
      go_wp2_with fail
      generalize ((w.alloc (.cells #[.slice (some ⟨b0, o0, none⟩) nn c1, .slice a2 n2 c2] 32)).alloc (.cells #[.int .i64 0, .int .i64 0, .int .i64 0, .int .i64 0, .int .i64 0] 28)) = W0 at *
      refine (HW.out _ HB0.out).mono ?_
      rintro e w1 ⟨rfl, hb1⟩
      have HBF : Hid (Below w.heap.size w w1) := HB0.out.trans (hb1.mono HB0.out.size)
      have hrr := HRS.out.later hb1
      have hlw : w.heap.size + 1 < w1.heap.size := hrr.lt
      have hlw0 : w.heap.size < w1.heap.size := by omega
      have t0 : w1.cell? ⟨w.heap.size + 1, 0, none⟩ = some (.int .i64 0) := hrr.cell (i := 0) (by omega)
      have t1 : w1.cell? ⟨w.heap.size + 1, 1, none⟩ = some (.int .i64 0) := hrr.cell (i := 1) (by omega)
      have t2 : w1.cell? ⟨w.heap.size + 1, 2, none⟩ = some (.int .i64 0) := hrr.cell (i := 2) (by omega)
      have t3 : w1.cell? ⟨w.heap.size + 1, 3, none⟩ = some (.int .i64 0) := hrr.cell (i := 3) (by omega)
      have t4 : w1.cell? ⟨w.heap.size + 1, 4, none⟩ = some (.int .i64 0) := hrr.cell (i := 4) (by omega)
      have s0 := hrr.frozen 0
      have s1 := hrr.frozen 1
      have s2 := hrr.frozen 2
      have s3 := hrr.frozen 3
      have s4 := hrr.frozen 4
      have y0 := (HX.out.later hb1) 0 _ rfl
      have g0 := cell_later HBF.out HK0.out
      have g1 := cell_later HBF.out HK1.out
      have g2 := cell_later HBF.out HK2.out
      have g3 := cell_later HBF.out HK3.out
      have g4 := cell_later HBF.out HK4.out
      have hbw : b0 < w1.heap.size := by omega
      clear hb1 hrr x0 x1
      go_wp2_with fail

      have hA : w1.heap.size + 1 + 1 ≠ w1.heap.size + 1 := by omega
      have hB : w1.heap.size + 1 ≠ w1.heap.size + 1 + 1 := by omega
      go_region_with (fail)
      all_goals
        go_wp2
        exact bodyPost_ret (v := .agg #[.int .i64 0, .int .i64 (y : Int), .int .i64 kd, .int .i64 1, .int .i64 ((ke : Nat) : Int)]) (by simp [results, Tryz.results10, go_sem, t0, t1, t2, t3, t4, hlw, hlw0, show w.heap.size < w1.heap.size + 1 by omega]) rfl ⟨rfl, by
          have h5 := below5 HBF.out (g := w.heap.size + 1) (by omega) (.int .i64 0) (.int .i64 (y : Int)) (.int .i64 kd) (.int .i64 1) (.int .i64 ((ke : Nat) : Int))
          have hz := h5.size
          have h8 := ((h5.alloc hz (.cells #[.int .i64 0, .int .i64 (y : Int)] 72)).alloc (by simpa using Nat.le_succ_of_le hz) (.cells #[.int .i64 kd, .int .i64 kl, .int .i64 ks, .slice aB kb cB, .slice aE ke cE] 68)).alloc (by simpa using Nat.le_succ_of_le (Nat.le_succ_of_le hz)) (.cells #[.int .i64 0, .int .i64 (y : Int), .int .i64 kd, .int .i64 1, .int .i64 ((ke : Nat) : Int)] 28)
          first
            | exact h8.drew
            | exact h8⟩
    · rw [if_neg h2, if_neg h2]
      have h2b : (kd == 2) = false := by simpa using h2
      clear h2
      go_enter Tryz.func10, Tryz.ntmps10
      go_wp2_with fail
      generalize ((w.alloc (.cells #[.slice (some ⟨b0, o0, none⟩) nn c1, .slice a2 n2 c2] 32)).alloc (.cells #[.int .i64 0, .int .i64 0, .int .i64 0, .int .i64 0, .int .i64 0] 28)) = W0 at *
      refine (HW.out _ HB0.out).mono ?_
      rintro e w1 ⟨rfl, hb1⟩
      have HBF : Hid (Below w.heap.size w w1) := HB0.out.trans (hb1.mono HB0.out.size)
      have hrr := HRS.out.later hb1
      have hlw : w.heap.size + 1 < w1.heap.size := hrr.lt
      have hlw0 : w.heap.size < w1.heap.size := by omega
      have t0 : w1.cell? ⟨w.heap.size + 1, 0, none⟩ = some (.int .i64 0) := hrr.cell (i := 0) (by omega)
      have t1 : w1.cell? ⟨w.heap.size + 1, 1, none⟩ = some (.int .i64 0) := hrr.cell (i := 1) (by omega)
      have t2 : w1.cell? ⟨w.heap.size + 1, 2, none⟩ = some (.int .i64 0) := hrr.cell (i := 2) (by omega)
      have t3 : w1.cell? ⟨w.heap.size + 1, 3, none⟩ = some (.int .i64 0) := hrr.cell (i := 3) (by omega)
      have t4 : w1.cell? ⟨w.heap.size + 1, 4, none⟩ = some (.int .i64 0) := hrr.cell (i := 4) (by omega)
      have s0 := hrr.frozen 0
      have s1 := hrr.frozen 1
      have s2 := hrr.frozen 2
      have s3 := hrr.frozen 3
      have s4 := hrr.frozen 4
      have y0 := (HX.out.later hb1) 0 _ rfl
      have g0 := cell_later HBF.out HK0.out
      have g1 := cell_later HBF.out HK1.out
      have g2 := cell_later HBF.out HK2.out
      have g3 := cell_later HBF.out HK3.out
      have g4 := cell_later HBF.out HK4.out
      have hbw : b0 < w1.heap.size := by omega
      clear hb1 hrr x0 x1
      go_wp2_with fail

      exact bodyPost_ret (v := .agg #[.int .i64 0, .int .i64 (y : Int), .int .i64 kd, .int .i64 kl, .int .i64 ks]) (by simp [results, Tryz.results10, go_sem, t0, t1, t2, t3, t4, hlw, hlw0, show w.heap.size < w1.heap.size + 1 by omega]) rfl ⟨rfl, by
        have h5 := below5 HBF.out (g := w.heap.size + 1) (by omega) (.int .i64 0) (.int .i64 (y : Int)) (.int .i64 kd) (.int .i64 kl) (.int .i64 ks)
        have hz := h5.size
        exact ((h5.alloc hz _).alloc (by simpa using Nat.le_succ_of_le hz) _).alloc (by simpa using Nat.le_succ_of_le (Nat.le_succ_of_le hz)) _⟩
end Go.Proofs.YtpfafcodihhdfaaGreatDoor

/- StatOf: what it tells, of the program and of the specification. Rows that grow by append, each element with bytes of its own. The specification's copying of a file system. -/
import Derived.Test.YtaibcofendjnnaaGreatDoorM20
import Derived.BigQuiet
import Derived.Test.YtaibcofendjnnaaGreatDoorM07
import Derived.Test.YtaibcofendjnnaaGreatDoorM00
import Derived.Test.YtaibcofendjnnaaGreatDoorM10
import Derived.Test.YtaibcofendjnnaaGreatDoorM13
import Derived.Deep.RegionHeld3
import Derived.Deep.RegionLaw
namespace Go.Proofs.YtaibcofendjnnaaGreatDoor
open Go.RowKit
set_option maxRecDepth 100000

/-- What StatOf tells: a code, a place, its kind, its links, its size. -/
abbrev ST := Int × Int × Int × Int × Int
def statI (d : FD) (y : Nat) : ST := (0, (y : Int), (d.1[y]?.getD id0).1, if (d.1[y]?.getD id0).1 = 2 then 1 else (d.1[y]?.getD id0).2.1, if (d.1[y]?.getD id0).1 = 2 then (((d.1[y]?.getD id0).2.2.2.2.length : Nat) : Int) else (d.1[y]?.getD id0).2.2.1)
def statR (d : FD) (s : ByteArray) : ST := if (walkR d s).1 = 0 then statI d (walkR d s).2.toNat else ((walkR d s).1, 0, 0, 0, 0)
set_option maxHeartbeats 1600000 in
theorem eqStatResultU (w : World) (a b c d e : Int) :
    Calls Tryz.prog 17 #[.agg #[.int .i64 a, .int .i64 b, .int .i64 c, .int .i64 d, .int .i64 e], .agg #[.int .i64 a, .int .i64 b, .int .i64 c, .int .i64 d, .int .i64 e]] w fun e w' => e = .returned (.bool true) ∧ Below w.heap.size w w' := by
  have h0 : (a != a) = false := by simp
  have h1 : (b != b) = false := by simp
  have h2 : (c != c) = false := by simp
  have h3 : (d != d) = false := by simp
  have h4 : (e != e) = false := by simp
  go_enter Tryz.func17, Tryz.ntmps17
  go_wp2
  go_ret
  exact ⟨rfl, later2 _ _ _⟩
theorem walk_place {d : FD} {s : ByteArray} (h : (walkR d s).1 = 0) : FsOk d ∧ ∃ y : Nat, (walkR d s).2 = (y : Int) ∧ y < d.1.length := by
  unfold walkR at h ⊢
  by_cases h0 : ntwC d s.data.toList = 0
  · rw [if_pos h0] at h ⊢
    have hok := fsE_ok (fsF_E (ntw_ok h0).1)
    exact ⟨hok, wkR_lt hok.rng _ 0 hok.pos h⟩
  · rw [if_neg h0] at h; exact absurd h h0
theorem zeros5 (w : World) (t : TypeId) : OwnRow (w.alloc (.cells #[.int .i64 0, .int .i64 0, .int .i64 0, .int .i64 0, .int .i64 0] t)) w.heap.size 5 (fun _ => .int .i64 0) :=
  ⟨_, t, World.alloc_heap_new w _, by simp, fun i hi => by
    match i, hi with
    | 0, _ => rfl
    | 1, _ => rfl
    | 2, _ => rfl
    | 3, _ => rfl
    | 4, _ => rfl⟩
theorem below5 {w W : World} {g : Nat} (hB : Below w.heap.size w W) (hg : w.heap.size ≤ g) (a b c d e : Value) : Below w.heap.size w (((((W.setCell ⟨g, 0, none⟩ a).setCell ⟨g, 1, none⟩ b).setCell ⟨g, 2, none⟩ c).setCell ⟨g, 3, none⟩ d).setCell ⟨g, 4, none⟩ e) := ((((hB.setCell hg _).setCell hg _).setCell hg _).setCell hg _).setCell hg _
set_option maxHeartbeats 3200000 in
theorem specStatU (w : World) (a1 : Option Addr) (n1 c1 : Nat) (a2 : Option Addr) (n2 c2 : Nat) (d : FD) (s : ByteArray) (h : FsR w (.slice a1 n1 c1) (.slice a2 n2 c2) d) (hs : sizeFs d ≤ 1048576) (hl : s.size ≤ 1048576) :
    Calls Tryz.prog 15 #[.agg #[.slice a1 n1 c1, .slice a2 n2 c2], .string s] w fun e w' => e = .returned (.agg #[.int .i64 (statR d s).1, .int .i64 (statR d s).2.1, .int .i64 (statR d s).2.2.1, .int .i64 (statR d s).2.2.2.1, .int .i64 (statR d s).2.2.2.2]) ∧ Below w.heap.size w w' := by
  obtain ⟨hx0, -, -⟩ := FsX.box h 32
  have HB0 : Hid (Below w.heap.size w ((w.alloc (.cells #[.slice a1 n1 c1, .slice a2 n2 c2] 32)).alloc (.cells #[.int .i64 0, .int .i64 0, .int .i64 0, .int .i64 0, .int .i64 0] 38))) := later2 _ _ _
  have HX : Hid (Bx ((w.alloc (.cells #[.slice a1 n1 c1, .slice a2 n2 c2] 32)).alloc (.cells #[.int .i64 0, .int .i64 0, .int .i64 0, .int .i64 0, .int .i64 0] 38)) w.heap.size [.slice a1 n1 c1, .slice a2 n2 c2]) := (Bx.new w [.slice a1 n1 c1, .slice a2 n2 c2] _).later (later1 _ _)
  have HRS : Hid (OwnRow ((w.alloc (.cells #[.slice a1 n1 c1, .slice a2 n2 c2] 32)).alloc (.cells #[.int .i64 0, .int .i64 0, .int .i64 0, .int .i64 0, .int .i64 0] 38)) (w.heap.size + 1) 5 (fun _ => .int .i64 0)) := by
    have p2 := zeros5 (w.alloc (.cells #[.slice a1 n1 c1, .slice a2 n2 c2] 32)) 38
    rw [World.size_alloc] at p2
    exact p2
  have hsp : s.data.toList.length = s.size := Array.length_toList
  have HF : Hid (Calls Tryz.prog 26 #[.pointer (some ⟨w.heap.size, 0, none⟩)] ((w.alloc (.cells #[.slice a1 n1 c1, .slice a2 n2 c2] 32)).alloc (.cells #[.int .i64 0, .int .i64 0, .int .i64 0, .int .i64 0, .int .i64 0] 38)) fun e w' => e = .returned (.int .i64 (fsF d)) ∧ Below ((w.alloc (.cells #[.slice a1 n1 c1, .slice a2 n2 c2] 32)).alloc (.cells #[.int .i64 0, .int .i64 0, .int .i64 0, .int .i64 0, .int .i64 0] 38)).heap.size ((w.alloc (.cells #[.slice a1 n1 c1, .slice a2 n2 c2] 32)).alloc (.cells #[.int .i64 0, .int .i64 0, .int .i64 0, .int .i64 0, .int .i64 0] 38)) w') := l6Fault_any _ _ _ d _ _ _ _ (hx0.later (later1 _ _)) (by unfold sizeFs at hs; omega)
  have HP : Hid (fsF d = 0 → ∀ W, Below ((w.alloc (.cells #[.slice a1 n1 c1, .slice a2 n2 c2] 32)).alloc (.cells #[.int .i64 0, .int .i64 0, .int .i64 0, .int .i64 0, .int .i64 0] 38)).heap.size ((w.alloc (.cells #[.slice a1 n1 c1, .slice a2 n2 c2] 32)).alloc (.cells #[.int .i64 0, .int .i64 0, .int .i64 0, .int .i64 0, .int .i64 0] 38)) W → Calls Tryz.prog 27 #[.pointer (some ⟨w.heap.size, 0, none⟩), .string s] W fun e w' => e = .returned (.tuple #[.int .i64 (pthR d s.data.toList).2, .int .i64 (pthR d s.data.toList).1]) ∧ Below W.heap.size W w') := fun hf W hW => by
    have := l9Path_any W w.heap.size d _ _ _ _ ((hx0.later (later1 _ _)).later hW) (fsE_ok (fsF_E hf)) s.data.toList (by omega)
    rw [mkB_data] at this
    exact this
  have HST : Hid (statR d s = if (walkR d s).1 = 0 then statI d (walkR d s).2.toNat else ((walkR d s).1, 0, 0, 0, 0)) := rfl
  by_cases hf : fsF d = 0
  rotate_left
  · have hw : walkR d s = (fsF d, 0) := by rw [walk_pth, if_neg hf]
    have e1 : statR d s = (fsF d, 0, 0, 0, 0) := by rw [HST.out, hw, if_neg hf]
    rw [e1]
    have hb : (fsF d != 0) = true := by simpa using hf
    clear hf HP hx0 h hs hl hsp HST hw e1
    generalize fsF d = r at *
    go_enter Tryz.func15, Tryz.ntmps15
    go_wp2_with fail
    generalize ((w.alloc (.cells #[.slice a1 n1 c1, .slice a2 n2 c2] 32)).alloc (.cells #[.int .i64 0, .int .i64 0, .int .i64 0, .int .i64 0, .int .i64 0] 38)) = W0 at *
    refine HF.out.mono ?_
    rintro e w1 ⟨rfl, hb1⟩
    have HB1 : Hid (Below w.heap.size w w1) := HB0.out.trans (hb1.mono HB0.out.size)
    have hrr := HRS.out.later hb1
    have t0 : w1.cell? ⟨w.heap.size + 1, 0, none⟩ = some (.int .i64 0) := hrr.cell (i := 0) (by omega)
    have t1 : w1.cell? ⟨w.heap.size + 1, 1, none⟩ = some (.int .i64 0) := hrr.cell (i := 1) (by omega)
    have t2 : w1.cell? ⟨w.heap.size + 1, 2, none⟩ = some (.int .i64 0) := hrr.cell (i := 2) (by omega)
    have t3 : w1.cell? ⟨w.heap.size + 1, 3, none⟩ = some (.int .i64 0) := hrr.cell (i := 3) (by omega)
    have t4 : w1.cell? ⟨w.heap.size + 1, 4, none⟩ = some (.int .i64 0) := hrr.cell (i := 4) (by omega)
    have s0 := hrr.frozen 0
    have s1 := hrr.frozen 1
    have s2 := hrr.frozen 2
    have s3 := hrr.frozen 3
    have s4 := hrr.frozen 4
    clear hb1 hrr
    go_wp2
    exact bodyPost_ret (v := .agg #[.int .i64 r, .int .i64 0, .int .i64 0, .int .i64 0, .int .i64 0]) (by simp [results, Tryz.results15, go_sem, t0, t1, t2, t3, t4]) rfl ⟨rfl, below5 HB1.out (by omega) _ _ _ _ _⟩
  · have hw : walkR d s = pthR d s.data.toList := by rw [walk_pth, if_pos hf]
    rw [HST.out, hw]
    have HPP : Hid (∀ W, Below ((w.alloc (.cells #[.slice a1 n1 c1, .slice a2 n2 c2] 32)).alloc (.cells #[.int .i64 0, .int .i64 0, .int .i64 0, .int .i64 0, .int .i64 0] 38)).heap.size ((w.alloc (.cells #[.slice a1 n1 c1, .slice a2 n2 c2] 32)).alloc (.cells #[.int .i64 0, .int .i64 0, .int .i64 0, .int .i64 0, .int .i64 0] 38)) W → Calls Tryz.prog 27 #[.pointer (some ⟨w.heap.size, 0, none⟩), .string s] W fun e w' => e = .returned (.tuple #[.int .i64 (pthR d s.data.toList).2, .int .i64 (pthR d s.data.toList).1]) ∧ Below W.heap.size W w') := HP.out hf
    rw [hf] at HF
    have HK : Hid ((pthR d s.data.toList).1 = 0 → ∃ y : Nat, (pthR d s.data.toList).2 = (y : Int) ∧ y < d.1.length ∧ d.1.length ≤ 10) := fun h0 => by
      obtain ⟨hok, y, h1, h2⟩ := walk_place (d := d) (s := s) (by rw [hw]; exact h0)
      rw [hw] at h1
      exact ⟨y, h1, h2, hok.ten⟩
    obtain ⟨_, _, e1, -, hAt⟩ := h.1.open'
    simp only [Value.slice.injEq] at e1
    obtain ⟨rfl, rfl, rfl⟩ := e1
    have HAT : Hid (AtI w a1 d.1.length d.1) := hAt
    clear hf HP hx0 h hs hl hsp HST hw hAt
    generalize pthR d s.data.toList = pr at *
    obtain ⟨pc, pv⟩ := pr
    dsimp only at HPP HK ⊢
    by_cases hk : pc = 0
    rotate_left
    · rw [if_neg hk]
      have hkb : (pc != 0) = true := by simpa using hk
      clear hk HK HAT
      generalize d.1.length = nn at *
      go_enter Tryz.func15, Tryz.ntmps15
      go_wp2_with fail
      generalize ((w.alloc (.cells #[.slice a1 nn c1, .slice a2 n2 c2] 32)).alloc (.cells #[.int .i64 0, .int .i64 0, .int .i64 0, .int .i64 0, .int .i64 0] 38)) = W0 at *
      refine HF.out.mono ?_
      rintro e w1 ⟨rfl, hb1⟩
      have HBW : Hid (Below W0.heap.size W0 w1) := hb1
      clear hb1
      go_wp2_with fail
      refine (HPP.out _ HBW.out).mono ?_
      rintro e w2 ⟨rfl, hb2⟩
      have HB2 : Hid (Below W0.heap.size W0 w2) := HBW.out.trans (hb2.mono HBW.out.size)
      have HBF : Hid (Below w.heap.size w w2) := HB0.out.trans (HB2.out.mono HB0.out.size)
      have hrr := HRS.out.later HB2.out
      have t0 : w2.cell? ⟨w.heap.size + 1, 0, none⟩ = some (.int .i64 0) := hrr.cell (i := 0) (by omega)
      have t1 : w2.cell? ⟨w.heap.size + 1, 1, none⟩ = some (.int .i64 0) := hrr.cell (i := 1) (by omega)
      have t2 : w2.cell? ⟨w.heap.size + 1, 2, none⟩ = some (.int .i64 0) := hrr.cell (i := 2) (by omega)
      have t3 : w2.cell? ⟨w.heap.size + 1, 3, none⟩ = some (.int .i64 0) := hrr.cell (i := 3) (by omega)
      have t4 : w2.cell? ⟨w.heap.size + 1, 4, none⟩ = some (.int .i64 0) := hrr.cell (i := 4) (by omega)
      have s0 := hrr.frozen 0
      have s1 := hrr.frozen 1
      have s2 := hrr.frozen 2
      have s3 := hrr.frozen 3
      have s4 := hrr.frozen 4
      clear hb2 hrr
      go_wp2
      exact bodyPost_ret (v := .agg #[.int .i64 pc, .int .i64 0, .int .i64 0, .int .i64 0, .int .i64 0]) (by simp [results, Tryz.results15, go_sem, t0, t1, t2, t3, t4]) rfl ⟨rfl, below5 HBF.out (by omega) _ _ _ _ _⟩
    · rw [if_pos hk]
      obtain ⟨y, hy, hyl, h10⟩ := HK.out hk
      subst hy
      subst hk
      rw [Int.toNat_natCast]
      obtain ⟨b0, o0, rfl, hI⟩ := HAT.out y hyl
      obtain ⟨aB, cB, aE, cE, k0, k1, k2, -, k4, -⟩ := hI
      have HK0 : Hid (_ = _) := k0
      have HK1 : Hid (_ = _) := k1
      have HK2 : Hid (_ = _) := k2
      have HK4 : Hid (_ = _) := k4
      have hyI : (y : Int) < ((d.1.length : Nat) : Int) := by omega
      have hbl : b0 < w.heap.size := World.block_lt_of_cell? _ _ k0
      have hbn : w.heap.size + 1 ≠ b0 := by omega
      have hbm : b0 ≠ w.heap.size + 1 := by omega
      unfold statI
      dsimp only
      clear HK HAT k0 k1 k2 k4
      generalize (d.1[y]?.getD id0).1 = kd at *
      generalize (d.1[y]?.getD id0).2.1 = kl at *
      generalize (d.1[y]?.getD id0).2.2.1 = ks at *
      generalize (d.1[y]?.getD id0).2.2.2.2.length = ke at *
      generalize d.1.length = nn at *
      by_cases h2 : kd = 2
      · rw [if_pos h2, if_pos h2]
        have h2b : (kd == 2) = true := by simpa using h2
        clear h2
        go_enter Tryz.func15, Tryz.ntmps15
        go_wp2_with fail
        generalize ((w.alloc (.cells #[.slice (some ⟨b0, o0, none⟩) nn c1, .slice a2 n2 c2] 32)).alloc (.cells #[.int .i64 0, .int .i64 0, .int .i64 0, .int .i64 0, .int .i64 0] 38)) = W0 at *
        refine HF.out.mono ?_
        rintro e w1 ⟨rfl, hb1⟩
        have HBW : Hid (Below W0.heap.size W0 w1) := hb1
        clear hb1
        go_wp2_with fail
        refine (HPP.out _ HBW.out).mono ?_
        rintro e w2 ⟨rfl, hb2⟩
        have HB2 : Hid (Below W0.heap.size W0 w2) := HBW.out.trans (hb2.mono HBW.out.size)
        have HBF : Hid (Below w.heap.size w w2) := HB0.out.trans (HB2.out.mono HB0.out.size)
        have hrr := HRS.out.later HB2.out
        have t0 : w2.cell? ⟨w.heap.size + 1, 0, none⟩ = some (.int .i64 0) := hrr.cell (i := 0) (by omega)
        have t1 : w2.cell? ⟨w.heap.size + 1, 1, none⟩ = some (.int .i64 0) := hrr.cell (i := 1) (by omega)
        have t2 : w2.cell? ⟨w.heap.size + 1, 2, none⟩ = some (.int .i64 0) := hrr.cell (i := 2) (by omega)
        have t3 : w2.cell? ⟨w.heap.size + 1, 3, none⟩ = some (.int .i64 0) := hrr.cell (i := 3) (by omega)
        have t4 : w2.cell? ⟨w.heap.size + 1, 4, none⟩ = some (.int .i64 0) := hrr.cell (i := 4) (by omega)
        have s0 := hrr.frozen 0
        have s1 := hrr.frozen 1
        have s2 := hrr.frozen 2
        have s3 := hrr.frozen 3
        have s4 := hrr.frozen 4
        have y0 := (HX.out.later HB2.out) 0 _ rfl
        have g0 := cell_later HBF.out HK0.out
        have g1 := cell_later HBF.out HK1.out
        have g2 := cell_later HBF.out HK2.out
        have g4 := cell_later HBF.out HK4.out
        clear hb2 hrr
        go_wp2_with fail
        go_region_held3 (fun W => W.cell? ⟨b0, o0 + y * 5, none⟩ = some (.int .i64 kd) ∧ W.cell? ⟨b0, o0 + y * 5 + 4, none⟩ = some (.slice aE ke cE)) (go_keep) (fail)
        all_goals
          go_wp2
          exact bodyPost_ret (v := .agg #[.int .i64 0, .int .i64 (y : Int), .int .i64 kd, .int .i64 1, .int .i64 ((ke : Nat) : Int)]) (by simp [results, Tryz.results15, go_sem, t0, t1, t2, t3, t4]) rfl ⟨rfl, by first | exact below5 HBF.out (by omega) _ _ _ _ _ | exact (below5 HBF.out (by omega) _ _ _ _ _).drew | exact below5 HBF.out.drew (by omega) _ _ _ _ _⟩
      · rw [if_neg h2, if_neg h2]
        have h2b : (kd == 2) = false := by simpa using h2
        clear h2
        go_enter Tryz.func15, Tryz.ntmps15
        go_wp2_with fail
        generalize ((w.alloc (.cells #[.slice (some ⟨b0, o0, none⟩) nn c1, .slice a2 n2 c2] 32)).alloc (.cells #[.int .i64 0, .int .i64 0, .int .i64 0, .int .i64 0, .int .i64 0] 38)) = W0 at *
        refine HF.out.mono ?_
        rintro e w1 ⟨rfl, hb1⟩
        have HBW : Hid (Below W0.heap.size W0 w1) := hb1
        clear hb1
        go_wp2_with fail
        refine (HPP.out _ HBW.out).mono ?_
        rintro e w2 ⟨rfl, hb2⟩
        have HB2 : Hid (Below W0.heap.size W0 w2) := HBW.out.trans (hb2.mono HBW.out.size)
        have HBF : Hid (Below w.heap.size w w2) := HB0.out.trans (HB2.out.mono HB0.out.size)
        have hrr := HRS.out.later HB2.out
        have t0 : w2.cell? ⟨w.heap.size + 1, 0, none⟩ = some (.int .i64 0) := hrr.cell (i := 0) (by omega)
        have t1 : w2.cell? ⟨w.heap.size + 1, 1, none⟩ = some (.int .i64 0) := hrr.cell (i := 1) (by omega)
        have t2 : w2.cell? ⟨w.heap.size + 1, 2, none⟩ = some (.int .i64 0) := hrr.cell (i := 2) (by omega)
        have t3 : w2.cell? ⟨w.heap.size + 1, 3, none⟩ = some (.int .i64 0) := hrr.cell (i := 3) (by omega)
        have t4 : w2.cell? ⟨w.heap.size + 1, 4, none⟩ = some (.int .i64 0) := hrr.cell (i := 4) (by omega)
        have s0 := hrr.frozen 0
        have s1 := hrr.frozen 1
        have s2 := hrr.frozen 2
        have s3 := hrr.frozen 3
        have s4 := hrr.frozen 4
        have y0 := (HX.out.later HB2.out) 0 _ rfl
        have g0 := cell_later HBF.out HK0.out
        have g1 := cell_later HBF.out HK1.out
        have g2 := cell_later HBF.out HK2.out
        have g4 := cell_later HBF.out HK4.out
        clear hb2 hrr
        go_wp2_with fail
        go_region_held3 (fun W => W.cell? ⟨b0, o0 + y * 5, none⟩ = some (.int .i64 kd) ∧ W.cell? ⟨b0, o0 + y * 5 + 1, none⟩ = some (.int .i64 kl) ∧ W.cell? ⟨b0, o0 + y * 5 + 2, none⟩ = some (.int .i64 ks)) (go_keep) (fail)
        all_goals
          go_wp2
          exact bodyPost_ret (v := .agg #[.int .i64 0, .int .i64 (y : Int), .int .i64 kd, .int .i64 kl, .int .i64 ks]) (by simp [results, Tryz.results15, go_sem, t0, t1, t2, t3, t4]) rfl ⟨rfl, by first | exact below5 HBF.out (by omega) _ _ _ _ _ | exact (below5 HBF.out (by omega) _ _ _ _ _).drew | exact below5 HBF.out.drew (by omega) _ _ _ _ _⟩
end Go.Proofs.YtaibcofendjnnaaGreatDoor

namespace Go.Proofs.YtaibcofendjnnaaGreatDoor
open Go.RowKit
set_option maxRecDepth 100000

/-- A row of n elements that the call owns; element i is told by C i (u i), where u i is a list of its own in block k i. -/
structure YRow (C : Nat → Value → List Value) (w : World) (base lo : Nat) (e : TypeId) (size : Nat) (v : Value) (n : Nat) (f : Nat → List UInt8) (k : Nat → Nat) (u : Nat → Value) : Prop where
  own : w.ownsRow base e size v n ((List.range n).flatMap fun i => C i (u i))
  lo : ∀ i, i < n → lo ≤ k i ∧ k i < w.heap.size
  ne : ∀ i, i < n → v.ownBlock ≠ some (k i)
  inj : ∀ i j, i < n → j < n → i ≠ j → k i ≠ k j
  sh : ∀ i, i < n → ∃ a c, u i = .slice a (f i).length c
  at' : ∀ i, i < n → BytO w (u i) (f i) (fun c => c = k i)

theorem YRow.nil {C : Nat → Value → List Value} (w : World) (base lo : Nat) (e : TypeId) (size : Nat) (f : Nat → List UInt8) : YRow C w base lo e size (.slice none 0 0) 0 f (fun _ => 0) (fun _ => .slice none 0 0) :=
  ⟨World.ownsRow_nil _ _ _ _, fun i hi => by omega, fun i hi => by omega, fun i j hi => by omega, fun i hi => by omega, fun i hi => by omega⟩
theorem YRow.keep {C : Nat → Value → List Value} {w w' : World} {base lo : Nat} {e : TypeId} {size : Nat} {v : Value} {n : Nat} {f : Nat → List UInt8} {k : Nat → Nat} {u : Nat → Value} (h : YRow C w base lo e size v n f k u) (hs : w.heap.size ≤ w'.heap.size)
    (hrow : ∀ g, v.ownBlock = some g → w'.heap[g]? = w.heap[g]?) (hk : ∀ i, i < n → w'.heap[k i]? = w.heap[k i]?) : YRow C w' base lo e size v n f k u := by
  refine ⟨?_, fun i hi => ⟨(h.lo i hi).1, Nat.lt_of_lt_of_le (h.lo i hi).2 hs⟩, h.ne, h.inj, h.sh, fun i hi => (h.at' i hi).keep fun b hb _ => by rw [hb]; exact hk i hi⟩
  obtain ⟨h1, h2⟩ := h.own
  refine ⟨h1, ?_⟩
  rcases h2 with h2 | ⟨g, cap, cur, hv, hg, hh, r⟩
  · exact Or.inl h2
  · exact Or.inr ⟨g, cap, cur, hv, hg, by rw [hrow g (by rw [hv]; rfl)]; exact hh, r⟩
theorem YRow.later {C : Nat → Value → List Value} {w w' : World} {base lo : Nat} {e : TypeId} {size : Nat} {v : Value} {n : Nat} {f : Nat → List UInt8} {k : Nat → Nat} {u : Nat → Value} (h : YRow C w base lo e size v n f k u) (hb : Below w.heap.size w w') : YRow C w' base lo e size v n f k u :=
  h.keep hb.size (fun g hg => hb.block g (h.own.lt g hg).2) (fun i hi => hb.block _ (h.lo i hi).2)
theorem YRow.store {C : Nat → Value → List Value} {w : World} {base lo : Nat} {e : TypeId} {size : Nat} {v : Value} {n : Nat} {f : Nat → List UInt8} {k : Nat → Nat} {u : Nat → Value} (h : YRow C w base lo e size v n f k u) {p : Addr} (h1 : p.block < base) (h2 : p.block < lo) (x : Value) : YRow C (w.setCell p x) base lo e size v n f k u :=
  h.keep (by simp [World.setCell]) (fun g hg => Below.heap_setCell _ _ _ _ (by have := (h.own.lt g hg).1; omega)) (fun i hi => Below.heap_setCell _ _ _ _ (by have := (h.lo i hi).1; omega))
theorem YRow.shape {C : Nat → Value → List Value} {w : World} {base lo : Nat} {e : TypeId} {size : Nat} {v : Value} {n : Nat} {f : Nat → List UInt8} {k : Nat → Nat} {u : Nat → Value} (h : YRow C w base lo e size v n f k u) : ∃ a c, v = .slice a n c := by
  rcases h.own.2 with ⟨rfl, rfl⟩ | ⟨g, c, cur, rfl, _⟩
  · exact ⟨_, _, rfl⟩
  · exact ⟨_, _, rfl⟩

/-- What 'append' of one element comes to. -/
theorem YRow.append {C : Nat → Value → List Value} (w w1 : World) (t ty e : TypeId) (i : TypeInfo) (z : Value) (size bytes : Nat) (ht : Tryz.prog.underlying t = some (.slice e)) (hi : Tryz.prog.info? e = some i) (hz : i.zero = some z) (hsize : i.size = size) (hby : i.bytes = bytes) (hzs : z.cells.size = size) (hsz : 0 < size) (hbb : bytes ≤ 1000)
    (base lo n : Nat) (v : Value) (f : Nat → List UInt8) (k : Nat → Nat) (u : Nat → Value) (h : YRow C w base lo e size v n f k u) (hb : base ≤ w.heap.size) (hn : n ≤ 1048600) (hb1 : Below w.heap.size w w1)
    (a : Option Addr) (c : Nat) (hlen : (C n (.slice a (f n).length c)).length = size) (hone : ∀ x ∈ C n (.slice a (f n).length c), x.oneCell' = true) (kb : Nat) (hk1 : lo ≤ kb) (hk2 : kb ≤ w1.heap.size) (hk3 : v.ownBlock ≠ some kb) (hk4 : ∀ i, i < n → k i ≠ kb) (hf : BytO w1 (.slice a (f n).length c) (f n) (fun x => x = kb)) :
    ∃ g cap X, (Builtin.append_ #[t, t] ty #[v, .slice (some ⟨w1.heap.size, 0, none⟩) 1 1]).run Tryz.prog (w1.alloc (.cells (C n (.slice a (f n).length c)).toArray e)) = .ok (.slice (some ⟨g, 0, none⟩) (n + 1) cap) X ∧
      (∀ b, b < w1.heap.size → v.ownBlock ≠ some b → X.heap[b]? = w1.heap[b]?) ∧ Below base w X ∧ w1.heap.size < X.heap.size ∧
      YRow C X base lo e size (.slice (some ⟨g, 0, none⟩) (n + 1) cap) (n + 1) f (fun j => if j = n then kb else k j) (fun j => if j = n then .slice a (f n).length c else u j) := by
  have hsz1 := hb1.size
  have hbW : Below w.heap.size w (w1.alloc (.cells (C n (.slice a (f n).length c)).toArray e)) := hb1.trans ((later1 _ _).mono hb1.size)
  have hW := h.later hbW
  obtain ⟨g, cap, X, hr, ho, hg, hat, hgX⟩ := run_append_lies (P := Tryz.prog) (w1.alloc (.cells (C n (.slice a (f n).length c)).toArray e)) t ty base e i z size bytes ht hi hz hsize hby hzs hsz v n _ hW.own ⟨w1.heap.size, 0, none⟩ 1 1 (C n (.slice a (f n).length c)) (by rw [hlen, Nat.one_mul])
    (fun j x hx => by
      rw [add_plain', Nat.zero_add, new_cell]
      simpa using hx) hone (by decide) (by unfold maxLen; omega) (by have : (n + 1) * bytes ≤ 1048601 * 1000 := Nat.mul_le_mul (by omega) hbb; omega) (by simp; omega) (w1.heap.size + 1) (by simp)
  have hrow : ∀ g, v.ownBlock = some g → g < w.heap.size := fun g hg => (h.own.lt g hg).2
  have hrowb : ∀ g, v.ownBlock = some g → base ≤ g := fun g hg => (h.own.lt g hg).1
  have hXb : ∀ b, b < w1.heap.size → v.ownBlock ≠ some b → X.heap[b]? = w1.heap[b]? := fun b hb' hne => (hg.block b (by simp; omega) (fun e => hne e.symm)).trans ((later1 _ _).block b hb')
  have hne : ∀ b, b ≤ w1.heap.size → v.ownBlock ≠ some b → g ≠ b := by
    intro b hb' hb2 e
    subst e
    rcases hat with h | h
    · exact hb2 h
    · omega
  have old : ∀ b, b < w.heap.size → v.ownBlock ≠ some b → X.heap[b]? = w.heap[b]? := fun b hb' hne => (hXb b (by omega) hne).trans (hb1.block b hb')
  have hXs : w1.heap.size < X.heap.size := by have := hg.size; simp at this; omega
  refine ⟨g, cap, X, hr, hXb, (hbW.mono hb).trans (below_grown hg (by simp; omega) (fun g hg' => hrowb g hg')), hXs, ⟨?_, fun j hj => ?_, fun j hj => ?_, fun j j' hj hj' e => ?_, fun j hj => ?_, fun j hj => ?_⟩⟩
  · rw [List.range_succ, List.flatMap_append]
    have e1 : (List.range n).flatMap (fun i => C i (if i = n then .slice a (f n).length c else u i)) = (List.range n).flatMap (fun i => C i (u i)) := by
      have e0 : (List.range n).map (fun i => C i (if i = n then .slice a (f n).length c else u i)) = (List.range n).map (fun i => C i (u i)) := List.map_congr_left fun i hi => by rw [if_neg (by have := List.mem_range.1 hi; omega)]
      rw [List.flatMap_def, List.flatMap_def, e0]
    have e2 : [n].flatMap (fun i => C i (if i = n then .slice a (f n).length c else u i)) = C n (.slice a (f n).length c) := by simp only [List.flatMap_cons, List.flatMap_nil, List.append_nil, if_true]
    rw [e1, e2]
    exact ho
  · by_cases e : j = n
    · subst e; simp; omega
    · have := h.lo j (by omega); simp [e]; omega
  · by_cases e : j = n
    · subst e
      simp only [if_true]
      exact fun e => hne kb hk2 hk3 (by simpa [Value.ownBlock] using e)
    · have hj' : j < n := by omega
      have hl := h.lo j hj'
      simp only [e, if_false]
      exact fun e => hne (k j) (by omega) (h.ne j hj') (by simpa [Value.ownBlock] using e)
  · by_cases e1 : j = n
    · by_cases e2 : j' = n
      · omega
      · simp [e1, e2]; exact fun e => hk4 j' (by omega) e.symm
    · by_cases e2 : j' = n
      · simp [e1, e2]; exact hk4 j (by omega)
      · simp [e1, e2]; exact h.inj j j' (by omega) (by omega) e
  · by_cases e : j = n
    · subst e; exact ⟨a, c, by simp⟩
    · simp only [e, if_false]; exact h.sh j (by omega)
  · by_cases e : j = n
    · subst e
      simp only [if_true]
      exact hf.keep fun b hb' hlt' => by subst hb'; exact hXb _ hlt' hk3
    · have hj' : j < n := by omega
      simp only [e, if_false]
      exact (h.at' j hj').keep fun b hb' hlt' => by rw [hb']; exact old _ (h.lo j hj').2 (h.ne j hj')

/-- The one block of a list that is fresh. -/
theorem BytO.one {w w1 : World} {v : Value} {zs : List UInt8} (h : BytO w1 v zs (fresh w w1)) (hlt : w.heap.size < w1.heap.size) : ∃ kb, w.heap.size ≤ kb ∧ kb < w1.heap.size ∧ BytO w1 v zs (fun c => c = kb) := by
  rcases h with h | ⟨b, cap, hF, r⟩
  · exact ⟨w.heap.size, Nat.le_refl _, hlt, Or.inl h⟩
  · exact ⟨b, hF.1, hF.2, Or.inr ⟨b, cap, rfl, r⟩⟩

/-- The cells of such a row. -/
theorem YRow.cells {C : Nat → Value → List Value} {w : World} {base lo : Nat} {e : TypeId} {size : Nat} {v : Value} {n : Nat} {f : Nat → List UInt8} {k : Nat → Nat} {u : Nat → Value} (h : YRow C w base lo e size v n f k u) (hsz : 0 < size) (hC : ∀ i, (C i (u i)).length = size) (hn : 0 < n) :
    ∃ g cap, v = .slice (some ⟨g, 0, none⟩) n cap ∧ base ≤ g ∧ g < w.heap.size ∧ n ≤ maxLen ∧ n ≤ cap ∧ OwnRow w g (n * size) (fun c => (C (c / size) (u (c / size)))[c % size]?.getD undef) := by
  obtain ⟨hl, h2 | ⟨g, cap, cur, rfl, hb, hh, hnc, hcm, hcs, htake⟩⟩ := h.own
  · omega
  · have hle : n * size ≤ cap * size := Nat.mul_le_mul_right _ hnc
    refine ⟨g, cap, rfl, hb, (Array.getElem?_eq_some_iff.1 hh).1, by omega, hnc, cur, e, hh, by omega, fun c hc => ?_⟩
    have hd : c / size < n := by rw [Nat.div_lt_iff_lt_mul hsz]; exact hc
    have hm : c % size < size := Nat.mod_lt _ hsz
    have hg := flat_get hsz u hC n (c / size) (c % size) hd hm
    rw [Nat.div_add_mod'] at hg
    have h1 : ((List.range n).flatMap fun i => C i (u i))[c]? = cur[c]? := by rw [← htake, List.getElem?_take, if_pos hc, Array.getElem?_toList]
    rw [h1] at hg
    have hlt : c < cur.size := by omega
    show cur[c]? = some ((C (c / size) (u (c / size)))[c % size]?.getD undef)
    rw [← hg, Array.getElem?_eq_getElem hlt]; rfl

theorem YRow.byts {w : World} {base lo : Nat} {e : TypeId} {v : Value} {n : Nat} {k : Nat → Nat} {u : Nat → Value} {zss : List (List UInt8)} (h : YRow C1 w base lo e 1 v n (fun i => zss[i]?.getD []) k u) (hn : zss.length = n) (F : Nat → Prop) (hF : ∀ c, base ≤ c → c < w.heap.size → F c) (hF' : ∀ c, lo ≤ c → c < w.heap.size → F c) : BytsO w v zss F := by
  subst hn
  by_cases h0 : zss.length = 0
  · obtain ⟨a, c, rfl⟩ := h.shape
    exact Or.inl ⟨List.eq_nil_of_length_eq_zero h0, a, c, by rw [h0]⟩
  · obtain ⟨g, cap, rfl, hb, hg, hm, hnc, hrow⟩ := h.cells (by decide) (fun _ => rfl) (by omega)
    refine Or.inr ⟨g, cap, u, fun i c => i < zss.length ∧ c = k i, hF g hb hg, fun i c hc => ?_, fun i j c e h1 h2 => h.inj i j h1.1 h2.1 e (h1.2.symm.trans h2.2), rfl, ⟨hm, hnc⟩, ?_, fun i hi => (h.at' i hi).mono fun c hc => ⟨hi, hc⟩⟩
    · have hl := h.lo i hc.1
      have hne := h.ne i hc.1
      rw [hc.2]
      exact ⟨hF' _ hl.1 hl.2, fun e => hne (by simp [Value.ownBlock, e])⟩
    · rw [Nat.mul_one] at hrow
      exact hrow.congr fun i hi => by simp [C1, Nat.mod_one]
end Go.Proofs.YtaibcofendjnnaaGreatDoor

namespace Go.Proofs.YtaibcofendjnnaaGreatDoor
open Go.RowKit
set_option maxRecDepth 100000

theorem Tryz.infoU8L' : ∃ i, Tryz.prog.info? 41 = some i ∧ i.zero = some (.slice none 0 0) ∧ i.size = 1 ∧ i.bytes = 24 := by
  have h : (Tryz.prog.info? 41).map (fun i => (i.zero, i.size, i.bytes)) = some (some (.slice none 0 0), 1, 24) := by kernel_rfl
  rw [Option.map_eq_some_iff] at h
  obtain ⟨i, hi, e⟩ := h
  simp only [Prod.mk.injEq] at e
  exact ⟨i, hi, e.1, e.2.1, e.2.2⟩
/-- A list's bytes copied, and the copy appended. -/
theorem rndYL (wr : World) (base n : Nat) (v : Value) (zss : List (List UInt8)) (k : Nat → Nat) (u : Nat → Value) (h : YRow C1 wr base base 41 1 v n (fun i => zss[i]?.getD []) k u) (hb : base ≤ wr.heap.size) (hn : n ≤ 1048576) (ua : Option Addr) (uc : Nat)
    (hy : Byt wr (.slice ua (zss[n]?.getD []).length uc) (zss[n]?.getD [])) (hl : (zss[n]?.getD []).length ≤ 1048576) :
    ∃ na nc X1 g cap X k' u', (Builtin.append_ #[41, 41] 41 #[.slice (some ⟨wr.heap.size, 0, none⟩) 0 0, .slice ua (zss[n]?.getD []).length uc]).run Tryz.prog (wr.drew.alloc (.cells #[] 5)) = .ok (.slice na (zss[n]?.getD []).length nc) X1 ∧
      (Builtin.append_ #[23, 23] 23 #[v, .slice (some ⟨X1.heap.size, 0, none⟩) 1 1]).run Tryz.prog (X1.alloc (.cells #[.slice na (zss[n]?.getD []).length nc] 41)) = .ok (.slice (some ⟨g, 0, none⟩) (n + 1) cap) X ∧
      Below wr.heap.size wr X1 ∧ Below base wr X ∧ YRow C1 X base base 41 1 (.slice (some ⟨g, 0, none⟩) (n + 1) cap) (n + 1) (fun i => zss[i]?.getD []) k' u' := by
  have hb0 : Below wr.heap.size wr (wr.drew.alloc (.cells #[] 5)) := (Below.refl _ _).drew.trans (by simpa using later1 wr.drew (.cells #[] 5))
  obtain ⟨v', X1, hr1, hw1, hB1⟩ := append_y (wr.drew.alloc (.cells #[] 5)) wr.heap.size _ [] (zss[n]?.getD []) ua _ uc (WdY.lit0 wr.drew wr.heap.size (by simp)) (by simp) (by simp) hl (hy.later hb0)
  rw [List.nil_append] at hw1
  obtain ⟨na, nc, rfl⟩ := hw1.shape
  have hbX1 : Below wr.heap.size wr X1 := hb0.trans hB1
  have hlt : wr.heap.size < X1.heap.size := by have := hB1.size; simp at this; omega
  obtain ⟨kb, hk1, hk2, hkf⟩ := (hw1.own (w0 := wr) (Nat.le_refl _)).one hlt
  obtain ⟨i, hi, h1, h2, h3⟩ := Tryz.infoU8L'
  obtain ⟨g, cap, X, hr2, _, hBX, _, hLX⟩ := YRow.append wr X1 23 23 41 i _ 1 24 Tryz.underlying23 hi h1 h2 h3 rfl (by decide) (by decide) base base n _ _ k u h hb (by omega) hbX1 na nc rfl (fun x hx => by simp [C1] at hx; subst hx; rfl) kb (Nat.le_trans hb hk1) (Nat.le_of_lt hk2) (fun e => by have := (h.own.lt kb e).2; omega) (fun i hi e => by have := (h.lo i hi).2; omega) hkf
  refine ⟨na, nc, X1, g, cap, X, _, _, ?_, hr2, hbX1, hBX, hLX⟩
  simpa using hr1

/-- What stands at the head of each round of the inodes. -/
def CpI (w : World) (d : FD) (vI vD : Value) (wr : World) (j : Nat) : Prop :=
  Below w.heap.size w wr ∧ w.heap.size + 3 ≤ wr.heap.size ∧ OwnRow wr w.heap.size 2 (fun i => if i = 0 then vI else vD) ∧ OwnRow wr (w.heap.size + 1) 2 (fun _ => .slice none 0 0) ∧
    ∃ aX cX u G, OwnRow wr (w.heap.size + 2) 2 (fun i => if i = 0 then .slice aX j cX else .slice none 0 0) ∧ IRow wr (w.heap.size + 3) (.slice aX j cX) j (fun i => d.1[i]?.getD id0) u G
theorem CpI.next {w wr X : World} {d : FD} {vI vD : Value} {j g cap : Nat} {u' : Nat → Value × Value} {G' : Nat → Nat → Prop} (h : CpI w d vI vD wr j) (hX : Below (w.heap.size + 3) wr X) (hL : IRow X (w.heap.size + 3) (.slice (some ⟨g, 0, none⟩) (j + 1) cap) (j + 1) (fun i => d.1[i]?.getD id0) u' G') :
    CpI w d vI vD (X.setCell ⟨w.heap.size + 2, 0, none⟩ (.slice (some ⟨g, 0, none⟩) (j + 1) cap)) (j + 1) := by
  obtain ⟨h1, h2, h3, h4, aX, cX, u, G, h5, _⟩ := h
  refine ⟨(h1.trans (hX.mono (by omega))).setCell (by simp) _, ?_, (h3.block (hX.block _ (by omega))).store (by simp) _, (h4.block (hX.block _ (by omega))).store (by simp) _, some ⟨g, 0, none⟩, cap, u', G', ((h5.block (hX.block _ (by omega))).set 0 _).congr fun i hi => ?_, hL.store (by simp) _⟩
  · have := hX.size; simp [World.setCell]; omega
  · match i, hi with
    | 0, _ => rfl
    | 1, _ => rfl
theorem CpI.row {w wr : World} {d : FD} {vI vD : Value} {j : Nat} (h : CpI w d vI vD wr j) : ∃ aX cX, (wr.cell? ⟨w.heap.size, 0, none⟩ = some vI ∧ wr.cell? ⟨w.heap.size, 1, none⟩ = some vD ∧ wr.cell? ⟨w.heap.size + 2, 0, none⟩ = some (.slice aX j cX) ∧ wr.frozen? ⟨w.heap.size + 2, 0, none⟩ = false) ∧ ∃ u G, IRow wr (w.heap.size + 3) (.slice aX j cX) j (fun i => d.1[i]?.getD id0) u G := by
  obtain ⟨_, _, h3, _, aX, cX, u, G, h5, h6⟩ := h
  exact ⟨aX, cX, ⟨h3.cell (i := 0) (by omega), h3.cell (i := 1) (by omega), h5.cell (i := 0) (by omega), h5.frozen 0⟩, u, G, h6⟩
/-- What stands at the head of each round of the data. -/
def CpD (w : World) (d : FD) (vI vD : Value) (mid : Nat) (wr : World) (j : Nat) : Prop :=
  Below w.heap.size w wr ∧ (w.heap.size + 3 ≤ mid ∧ mid ≤ wr.heap.size) ∧ OwnRow wr w.heap.size 2 (fun i => if i = 0 then vI else vD) ∧ OwnRow wr (w.heap.size + 1) 2 (fun _ => .slice none 0 0) ∧
    ∃ aI cI aX cX k u, OwnRow wr (w.heap.size + 2) 2 (fun i => if i = 0 then .slice aI d.1.length cI else .slice aX j cX) ∧ InosO wr (.slice aI d.1.length cI) d.1 (fun c => w.heap.size + 3 ≤ c ∧ c < mid) ∧ YRow C1 wr mid mid 41 1 (.slice aX j cX) j (fun i => d.2[i]?.getD []) k u
theorem CpD.start {w wr : World} {d : FD} {vI vD : Value} (h : CpI w d vI vD wr d.1.length) : CpD w d vI vD wr.heap.size wr 0 := by
  obtain ⟨h1, h2, h3, h4, aX, cX, u, G, h5, h6⟩ := h
  exact ⟨h1, ⟨h2, Nat.le_refl _⟩, h3, h4, aX, cX, none, 0, fun _ => 0, fun _ => .slice none 0 0, h5, (h6.inos rfl).mono fun c hc => ⟨hc.1, hc.2.1⟩, YRow.nil _ _ _ _ _ _⟩
theorem CpD.next {w wr X : World} {d : FD} {vI vD : Value} {mid j g cap : Nat} {k' : Nat → Nat} {u' : Nat → Value} (h : CpD w d vI vD mid wr j) (hX : Below mid wr X) (hL : YRow C1 X mid mid 41 1 (.slice (some ⟨g, 0, none⟩) (j + 1) cap) (j + 1) (fun i => d.2[i]?.getD []) k' u') :
    CpD w d vI vD mid (X.setCell ⟨w.heap.size + 2, 1, none⟩ (.slice (some ⟨g, 0, none⟩) (j + 1) cap)) (j + 1) := by
  obtain ⟨h1, h2, h3, h4, aI, cI, aX, cX, k, u, h5, h6, _⟩ := h
  refine ⟨(h1.trans (hX.mono (by omega))).setCell (by simp) _, ⟨h2.1, ?_⟩, (h3.block (hX.block _ (by omega))).store (by simp) _, (h4.block (hX.block _ (by omega))).store (by simp) _, aI, cI, some ⟨g, 0, none⟩, cap, k', u', ((h5.block (hX.block _ (by omega))).set 1 _).congr fun i hi => ?_, h6.keep fun c hc _ => ?_, hL.store (by simp; omega) (by simp; omega) _⟩
  · have := hX.size; simp [World.setCell]; omega
  · match i, hi with
    | 0, _ => rfl
    | 1, _ => rfl
  · rw [Below.heap_setCell _ _ _ _ (by simp; omega), hX.block c hc.2]
theorem CpD.row {w wr : World} {d : FD} {vI vD : Value} {mid j : Nat} (h : CpD w d vI vD mid wr j) : ∃ aI cI aX cX, (wr.cell? ⟨w.heap.size, 1, none⟩ = some vD ∧ wr.cell? ⟨w.heap.size + 2, 0, none⟩ = some (.slice aI d.1.length cI) ∧ wr.cell? ⟨w.heap.size + 2, 1, none⟩ = some (.slice aX j cX) ∧ wr.frozen? ⟨w.heap.size + 2, 1, none⟩ = false) ∧ InosO wr (.slice aI d.1.length cI) d.1 (fun c => w.heap.size + 3 ≤ c ∧ c < mid) ∧ ∃ k u, YRow C1 wr mid mid 41 1 (.slice aX j cX) j (fun i => d.2[i]?.getD []) k u := by
  obtain ⟨_, _, h3, _, aI, cI, aX, cX, k, u, h5, h6, h7⟩ := h
  exact ⟨aI, cI, aX, cX, ⟨h3.cell (i := 1) (by omega), h5.cell (i := 0) (by omega), h5.cell (i := 1) (by omega), h5.frozen 1⟩, h6, k, u, h7⟩

set_option maxHeartbeats 6400000 in
theorem l6Copy_any (w : World) (a1 : Option Addr) (n1 c1 : Nat) (a2 : Option Addr) (n2 c2 : Nat) (d : FD) (h : FsR w (.slice a1 n1 c1) (.slice a2 n2 c2) d) (hs : sizeFs d ≤ 1048576) :
    Calls Tryz.prog 68 #[.agg #[.slice a1 n1 c1, .slice a2 n2 c2]] w (AnsFs w d) := by
  obtain ⟨_, _, e1, hm1, hAt⟩ := h.1.open'
  obtain ⟨_, _, e2, hm2, hBt⟩ := h.2.open'
  simp only [Value.slice.injEq] at e1 e2
  obtain ⟨rfl, rfl, rfl⟩ := e1
  obtain ⟨rfl, rfl, rfl⟩ := e2
  have HAT : Hid (AtI w a1 d.1.length d.1) := hAt
  have HBT : Hid (AtYs w a2 d.2.length d.2) := hBt
  have hsz : d.1.length + (isz d.1).sum + (d.2.length + (ylens d.2).sum) ≤ 1048576 := hs
  have HSI : Hid (∀ k : Nat, (d.1[k]?.getD id0).2.2.2.1.length ≤ 1048576 ∧ (d.1[k]?.getD id0).2.2.2.2.length ≤ 1048576) := fun k => by
    have := isz_le d.1 k
    unfold sizeIno sizeN at this
    omega
  have HSY : Hid (∀ k : Nat, (d.2[k]?.getD []).length ≤ 1048576) := fun k => by have := ylens_le d.2 k; omega
  have hn1 : d.1.length ≤ 1048576 := by omega
  have hn2 : d.2.length ≤ 1048576 := by omega
  have HST : Hid (CpI w d (.slice a1 d.1.length c1) (.slice a2 d.2.length c2) (((w.alloc (.cells #[.slice a1 d.1.length c1, .slice a2 d.2.length c2] 32)).alloc (.cells #[.slice none 0 0, .slice none 0 0] 32)).alloc (.cells #[.slice none 0 0, .slice none 0 0] 32)) 0) := by
    have p1 := OwnRow.two w (.slice a1 d.1.length c1) (.slice a2 d.2.length c2) 32
    have p2 := OwnRow.two (w.alloc (.cells #[.slice a1 d.1.length c1, .slice a2 d.2.length c2] 32)) (.slice none 0 0) (.slice none 0 0) 32
    have p3 := OwnRow.two ((w.alloc (.cells #[.slice a1 d.1.length c1, .slice a2 d.2.length c2] 32)).alloc (.cells #[.slice none 0 0, .slice none 0 0] 32)) (.slice none 0 0) (.slice none 0 0) 32
    rw [World.size_alloc] at p2
    rw [World.size_alloc, World.size_alloc] at p3
    exact ⟨later3 _ _ _ _, by simp, p1.later (later2 _ _ _), (p2.later (later1 _ _)).congr fun i _ => by simp, none, 0, _, _, p3, IRow.nil _ _ _⟩
  have HLN : Hid (d.1.length = d.1.length ∧ d.2.length = d.2.length) := ⟨rfl, rfl⟩
  obtain ⟨n, hn⟩ : ∃ n, d.1.length = n := ⟨_, rfl⟩
  obtain ⟨m, hm⟩ : ∃ m, d.2.length = m := ⟨_, rfl⟩
  have HN : Hid (d.1.length = n) := hn
  have HM : Hid (d.2.length = m) := hm
  rw [hn] at HAT HST hn1 ⊢
  rw [hm] at HBT HST hn2 ⊢
  clear h hs hsz hAt hBt hm1 hm2 HLN hn hm
  go_enter Tryz.func68, Tryz.ntmps68
  go_wp2_with fail
  go_loopw [4] (fun i wr => ∃ j : Nat, j ≤ n ∧ i = .int .i64 j ∧ CpI w d (.slice a1 n c1) (.slice a2 m c2) wr j) (fun i _ => n - (intOf i).toNat)
  case atStart => exact ⟨0, Nat.zero_le _, rfl, HST.out⟩
  case round =>
    clear HST
    obtain ⟨j, hj, rfl, hsp⟩ := hrel
    have HSP : Hid (CpI w d (.slice a1 n c1) (.slice a2 m c2) wr j) := hsp
    obtain ⟨aX, cX, ⟨q0, q1, q2, q3⟩, u, G, hy⟩ := hsp.row
    have HY : Hid (IRow wr (w.heap.size + 3) (.slice aX j cX) j (fun i => d.1[i]?.getD id0) u G) := hy
    have hbig : w.heap.size + 3 ≤ wr.heap.size := hsp.2.1
    have HBW : Hid (Below w.heap.size w wr) := hsp.1
    clear hsp hy
    by_cases hlt : j < n
    · obtain ⟨b, off, e, hI⟩ := HAT.out j hlt
      subst e
      obtain ⟨aB, cB, aE, cE, p0, p1, p2, p3, p4, p5⟩ := hI.later HBW.out
      have hbl : b < wr.heap.size := lt_of_cell p0
      have HCP : Hid (Calls Tryz.prog 109 #[.agg #[.int .i64 (d.1[j]?.getD id0).1, .int .i64 (d.1[j]?.getD id0).2.1, .int .i64 (d.1[j]?.getD id0).2.2.1, .slice aB (d.1[j]?.getD id0).2.2.2.1.length cB, .slice aE (d.1[j]?.getD id0).2.2.2.2.length cE]] wr.drew fun e w1 => ∃ b1 m1 e1 b2 m2 e2 g cap X u' G', e = .returned (.agg #[.int .i64 (d.1[j]?.getD id0).1, .int .i64 (d.1[j]?.getD id0).2.1, .int .i64 (d.1[j]?.getD id0).2.2.1, .slice b1 m1 e1, .slice b2 m2 e2]) ∧ Hid (Below wr.heap.size wr w1) ∧
          Hid ((Builtin.append_ #[30, 30] 30 #[.slice aX j cX, .slice (some ⟨w1.heap.size, 0, none⟩) 1 1]).run Tryz.prog (w1.alloc (.cells #[.int .i64 (d.1[j]?.getD id0).1, .int .i64 (d.1[j]?.getD id0).2.1, .int .i64 (d.1[j]?.getD id0).2.2.1, .slice b1 m1 e1, .slice b2 m2 e2] 70)) = .ok (.slice (some ⟨g, 0, none⟩) (j + 1) cap) X) ∧ Hid (Below (w.heap.size + 3) wr X) ∧ Hid (IRow X (w.heap.size + 3) (.slice (some ⟨g, 0, none⟩) (j + 1) cap) (j + 1) (fun i => d.1[i]?.getD id0) u' G')) := by
        refine (l4Copy_any wr.drew aB _ cB aE _ cE (d.1[j]?.getD id0) (p5.later (Below.refl _ _).drew) (HSI.out j).1 (HSI.out j).2).mono ?_
        rintro e w1 ⟨b1, m1, e1, b2, m2, e2, rfl, hb1', ho1⟩
        have hb1 : Below wr.heap.size wr w1 := (Below.refl _ _).drew.trans hb1'
        obtain ⟨g, cap, X, u', G', hr, hBX, _, hL⟩ := IRow.append wr w1 30 (w.heap.size + 3) j _ _ u G HY.out hbig (by omega) hb1 b1 m1 e1 b2 m2 e2 ho1
        exact ⟨b1, m1, e1, b2, m2, e2, g, cap, X, u', G', rfl, hb1, hr, hBX, hL⟩
      clear hI p5 HAT HY HSI
      generalize (d.1[j]?.getD id0).2.2.2.1.length = lB at *
      generalize (d.1[j]?.getD id0).2.2.2.2.length = lE at *
      generalize (d.1[j]?.getD id0).1 = z0 at *
      generalize (d.1[j]?.getD id0).2.1 = z1 at *
      generalize (d.1[j]?.getD id0).2.2.1 = z2 at *
      go_wp2_with fail
      go_region_law (first
        | (refine step_append_run rfl _ _ 30 rfl _ _ rfl rfl _ _ HR.out ?_)
        | (try go_simp; go_at_call 109; refine HCP.out.mono ?_; rintro e w1 ⟨b1, m1, e1, b2, m2, e2, g, cap, X, u', G', rfl, HB1, HR, HBX, HL⟩
           have y2 := cell_later HB1.out q2
           have hw1 : w.heap.size + 2 < w1.heap.size := by have := HB1.out.size; omega
           have x0 : X.cell? ⟨w.heap.size + 2, 0, none⟩ = some (.slice aX j cX) := (HBX.out.cell (p := ⟨w.heap.size + 2, 0, none⟩) (by simp)).trans q2
           have x1 : X.frozen? ⟨w.heap.size + 2, 0, none⟩ = false := (HBX.out.frozen (p := ⟨w.heap.size + 2, 0, none⟩) (by simp)).trans q3))
      all_goals
        clear HCP HR
        go_wp2
        go_roundw
        case rel => exact ⟨j + 1, by omega, by go_num, HSP.out.next HBX.out HL.out⟩
        case measure => simp [intOf]; omega
    · have e : j = n := by omega
      subst e
      clear HY hlt hj HAT HSI hn1
      have HSD : Hid (CpD w d (.slice a1 j c1) (.slice a2 m c2) wr.heap.size wr 0) := CpD.start (by rw [HN.out]; exact HSP.out)
      clear HSP q2 q3 HBW
      generalize wr.heap.size = mid at *
      go_wp2_with fail
      go_loopw [5] (fun i wq => ∃ q : Nat, q ≤ m ∧ i = .int .i64 q ∧ CpD w d (.slice a1 j c1) (.slice a2 m c2) mid wq q) (fun i _ => m - (intOf i).toNat)
      case atStart => exact ⟨0, Nat.zero_le _, rfl, HSD.out⟩
      case round =>
        clear HSD q0 q1
        obtain ⟨q, hq, rfl, hsp⟩ := hrel
        have HSP : Hid (CpD w d (.slice a1 j c1) (.slice a2 m c2) mid wr q) := hsp
        obtain ⟨aI, cI, aX, cX, ⟨q0, q1, q2, q3⟩, hio, k, u, hy⟩ := hsp.row
        have hbig : w.heap.size + 3 ≤ mid ∧ mid ≤ wr.heap.size := hsp.2.1
        have hbig2 : w.heap.size + 2 < wr.heap.size := by omega
        have hbig0 : w.heap.size < wr.heap.size := by omega
        by_cases hlt : q < m
        · obtain ⟨b, off, ua, uc, e, c1', i1⟩ := HBT.out q hlt
          subst e
          have hbl : b < w.heap.size := lt_of_cell c1'
          have hbr : b < wr.heap.size := by omega
          replace c1' := cell_later hsp.1 c1'
          obtain ⟨na, nc, X1, g, cap, X, k', u', hr1, hr2, hb1, hBX, hL⟩ := rndYL wr mid q _ d.2 k u hy hbig.2 (by omega) ua uc (i1.later hsp.1) (HSY.out q)
          have HR1 : Hid (_ = _) := hr1
          have HR2 : Hid (_ = _) := hr2
          have HBX : Hid (Below mid wr X) := hBX
          have HL : Hid (YRow C1 X mid mid 41 1 (.slice (some ⟨g, 0, none⟩) (q + 1) cap) (q + 1) (fun i => d.2[i]?.getD []) k' u') := hL
          have z0 := cell_later hb1 q2
          have z1 := cell_later hb1 c1'
          have z2 := cell_later hb1 q0
          have hw1 : w.heap.size + 2 < X1.heap.size := Nat.lt_of_lt_of_le hbig2 hb1.size
          have hw2 : b < X1.heap.size := by omega
          have hw0 : w.heap.size < X1.heap.size := by omega
          have x0 : X.cell? ⟨w.heap.size + 2, 1, none⟩ = some (.slice aX q cX) := (hBX.cell (p := ⟨w.heap.size + 2, 1, none⟩) (by show w.heap.size + 2 < mid; omega)).trans q2
          have x1 : X.frozen? ⟨w.heap.size + 2, 1, none⟩ = false := (hBX.frozen (p := ⟨w.heap.size + 2, 1, none⟩) (by show w.heap.size + 2 < mid; omega)).trans q3
          clear hsp hy hr1 hr2 hb1 hBX hL i1 hio
          generalize (d.2[q]?.getD []).length = ln at *
          go_wp2_with fail
          go_region_law (first
            | (refine step_append_run rfl _ _ 41 rfl _ _ rfl rfl _ _ HR1.out ?_)
            | (refine step_append_run rfl _ _ 23 rfl _ _ rfl rfl _ _ HR2.out ?_))
          all_goals
            go_wp2
            go_roundw
            case rel => exact ⟨q + 1, by omega, by go_num, HSP.out.next HBX.out HL.out⟩
            case measure => simp [intOf]; omega
        · have e : q = m := by omega
          subst e
          have HIO : Hid (InosO wr (.slice aI d.1.length cI) d.1 (fun c => w.heap.size + 3 ≤ c ∧ c < mid)) := hio
          have HYO : Hid (BytsO wr (.slice aX q cX) d.2 (fun c => mid ≤ c ∧ c < wr.heap.size)) := hy.byts HM.out _ (fun c h1 h2 => ⟨h1, h2⟩) (fun c h1 h2 => ⟨h1, h2⟩)
          have HBW : Hid (Below w.heap.size w wr) := hsp.1
          have hrow := hsp.2.2.2.1
          have t0 := hrow.cell (i := 0) (by omega)
          have t1 := hrow.cell (i := 1) (by omega)
          have s0 := hrow.frozen 0
          have s1 := hrow.frozen 1
          clear hsp hy hio hrow HSP
          generalize d.1.length = nn at *
          go_wp2
          refine bodyPost_ret (v := .agg #[.slice aI nn cI, .slice aX q cX]) (by simp [results, Tryz.results68, go_sem, t0, t1]) rfl ⟨aI, nn, cI, aX, q, cX, rfl, (HBW.out.setCell (by simp) _).setCell (by simp) _, (fun c => w.heap.size + 3 ≤ c ∧ c < mid), (fun c => mid ≤ c ∧ c < wr.heap.size), HIO.out.keep fun b hb _ => ?_, HYO.out.keep fun b hb _ => ?_, fun b h1 h2 => by omega, fun b hb => ?_⟩
          · rw [Below.heap_setCell _ _ _ _ (by simp; omega), Below.heap_setCell _ _ _ _ (by simp; omega)]
          · rw [Below.heap_setCell _ _ _ _ (by simp; omega), Below.heap_setCell _ _ _ _ (by simp; omega)]
          · unfold fresh
            simp only [World.setCell, Array.size_modify]
            rcases hb with hb | hb <;> omega
end Go.Proofs.YtaibcofendjnnaaGreatDoor

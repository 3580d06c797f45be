/- DataPuts, both sides. From the reading of an argument to the lists that it holds. No program is named here. What the rows of this seat share: how a disk that came in is opened. How inodes that came in are opened. How lists of inodes that came in are opened. How file systems that came in are opened. How many bytes the files of a file system have together; both sides. -/
import Derived.Test.YtlacppjlclfpmaaM14
import Derived.Test.YtlacppjlclfpmaaM13
import Derived.Test.YtlacppjlclfpmaaM00
import Derived.ProofKit
import Derived.Deep.Slices
import Derived.Deep.SlicePairs
import Derived.Lib.SmallJoins
import Derived.Test.YtlacppjlclfpmaaRows
import Derived.Test.YtlacppjlclfpmaaM03
import Derived.Test.YtlacppjlclfpmaaM04
namespace Go.Proofs.Ytlacppjlclfpmaa
open Go.RowKit
set_option maxRecDepth 100000

def datPutsR (d : FD) : Int × List (Int × List Int) := if fsF d = 0 then (0, datPuts d) else (fsF d, [])
theorem AnsPR.later {w W W' : World} {r : Int × List (Int × List Int)} {e : Ending} (h : AnsPR w r e W) (hb : Below W.heap.size W W') : AnsPR w r e W' := by
  obtain ⟨a, n, c, h1, h2, h3⟩ := h
  exact ⟨a, n, c, h1, h2.trans (hb.mono h2.size), (h3.later hb).mono fun b hb' => ⟨hb'.1, Nat.lt_of_lt_of_le hb'.2 hb.size⟩⟩
theorem FD.byt_le {d : FD} (hs : sizeFs d ≤ 1048576) (i : Nat) : (d.2[i]?.getD []).length ≤ 1048576 := by
  have h1 := ylens_le d.2 i
  unfold sizeFs sizeByts at hs
  omega
theorem datW_len {d : FD} (hs : sizeFs d ≤ 1048576) (b : Int) : (datW d b).length ≤ 1048576 := by
  unfold datW
  rw [List.length_map]
  exact FD.byt_le hs _
theorem sum_le_mul (l : List Nat) (B : Nat) (h : ∀ x ∈ l, x ≤ B) : l.sum ≤ l.length * B := by
  induction l with
  | nil => simp
  | cons a l ih =>
    have h1 := ih fun x hx => h x (List.mem_cons_of_mem _ hx)
    have h2 := h a (List.mem_cons_self)
    rw [List.sum_cons, List.length_cons, Nat.succ_mul]
    omega
theorem datPutsR_span (d : FD) (hs : sizeFs d ≤ 1048576) : spanPs (datPutsR d).2 ≤ 30000000 := by
  unfold datPutsR
  by_cases h : fsF d = 0
  · rw [if_pos h]
    show spanPs (datPuts d) ≤ 30000000
    have hl : (datPuts d).length ≤ 20 := by unfold datPuts; rw [List.length_map]; exact selL_len _ _
    have h2 := sum_le_mul (wlens (datPuts d)) 1048576 (fun x hx => by
      unfold wlens datPuts at hx
      simp only [List.map_map, List.mem_map, Function.comp_apply] at hx
      obtain ⟨b, _, rfl⟩ := hx
      exact datW_len hs b)
    have h3 : (wlens (datPuts d)).length = (datPuts d).length := by simp [wlens]
    unfold spanPs
    have h4 : (wlens (datPuts d)).length * 1048576 ≤ 20 * 1048576 := Nat.mul_le_mul_right _ (by omega)
    omega
  · rw [if_neg h]
    simp [spanPs, wlens]

set_option maxHeartbeats 3200000 in
theorem specDatPutsU (w : World) (a1 : Option Addr) (n1 c1 : Nat) (a2 : Option Addr) (n2 c2 : Nat) (d : FD) (h : FsR w (.slice a1 n1 c1) (.slice a2 n2 c2) d) (hs : sizeFs d ≤ 1048576) :
    Calls Try.prog 18 #[.agg #[.slice a1 n1 c1, .slice a2 n2 c2]] w (AnsPR w (datPutsR d)) := by
  obtain ⟨hx0, rfl, rfl⟩ := FsX.box h 32
  have hx := hx0.later (later1 _ (.cells #[.int .i64 0, .slice none 0 0] 44))
  have hsi : sizeInos d.1 ≤ 1048576 := by unfold sizeFs at hs; omega
  have HF : Hid (Calls Try.prog 33 _ _ _) := l6Fault_any _ _ _ d _ _ _ _ hx hsi
  have HU : Hid (fsF d = 0 → ∀ W, Below _ _ W → Calls Try.prog 42 _ W _) := fun hf W hW => l12Data_any W _ _ d _ _ _ _ (hx.later hW) hsi (fsE_ok (fsF_zero hf)).dat (fun i => FD.byt_le hs i)
  have HRA : Hid (fsF d = 0 → datPutsR d = (0, datPuts d)) := fun h1 => by unfold datPutsR; rw [if_pos h1]
  have HRC : Hid (¬ fsF d = 0 → datPutsR d = (fsF d, [])) := fun h1 => by unfold datPutsR; rw [if_neg h1]
  clear h hx hx0 hs hsi
  generalize datPuts d = PS at *
  generalize fsF d = r at *
  generalize datPutsR d = RES at *
  generalize d.1.length = n1 at *
  generalize d.2.length = n2 at *
  have HB0 : Hid (Below w.heap.size w ((w.alloc (.cells #[.slice a1 n1 c1, .slice a2 n2 c2] 32)).alloc (.cells #[.int .i64 0, .slice none 0 0] 44))) := later2 _ _ _
  have HX0 : Hid (Bx ((w.alloc (.cells #[.slice a1 n1 c1, .slice a2 n2 c2] 32)).alloc (.cells #[.int .i64 0, .slice none 0 0] 44)) (w.heap.size) [.slice a1 n1 c1, .slice a2 n2 c2]) := (Bx.new w [.slice a1 n1 c1, .slice a2 n2 c2] _).later (later1 _ _)
  have HR0 : Hid (OwnRow ((w.alloc (.cells #[.slice a1 n1 c1, .slice a2 n2 c2] 32)).alloc (.cells #[.int .i64 0, .slice none 0 0] 44)) (w.heap.size + 1) 2 (cel [.int .i64 0, .slice none 0 0])) := (show OwnRow ((w.alloc (.cells #[.slice a1 n1 c1, .slice a2 n2 c2] 32)).alloc (.cells #[.int .i64 0, .slice none 0 0] 44)) (w.heap.size + 1) 2 (cel [.int .i64 0, .slice none 0 0]) from by have := newCel (w.alloc (.cells #[.slice a1 n1 c1, .slice a2 n2 c2] 32)) [.int .i64 0, .slice none 0 0] 44; rw [World.size_alloc] at this; exact this)
  go_enter Try.func18, Try.ntmps18
  go_wp2_with fail
  refine HF.out.mono ?_
  rintro e w1 ⟨rfl, hb⟩
  have HL1 : Hid (Below _ _ w1) := hb
  have HB1 : Hid (Below w.heap.size w w1) := HB0.out.trans (hb.mono HB0.out.size)
  have HX1 : Hid (Bx w1 (w.heap.size) [.slice a1 n1 c1, .slice a2 n2 c2]) := HX0.out.later hb
  have HR1 : Hid (OwnRow w1 (w.heap.size + 1) 2 (cel [.int .i64 0, .slice none 0 0])) := HR0.out.later hb
  clear hb
  by_cases hf : r = 0
  · skip
    have hfb : (r != 0) = false := by simpa using hf
    have HE : Hid (RES = (0, PS)) := HRA.out hf
    go_wp2_with fail
    refine (HU.out hf _ HL1.out).mono ?_
    rintro e w2 ⟨av, nv, cv, rfl, hb, ho⟩
    have HB2 : Hid (Below w.heap.size w w2) := HB1.out.trans (hb.mono HB1.out.size)
    have HX2 : Hid (Bx w2 (w.heap.size) [.slice a1 n1 c1, .slice a2 n2 c2]) := HX1.out.later hb
    have HR2 : Hid (OwnRow w2 (w.heap.size + 1) 2 (cel [.int .i64 0, .slice none 0 0])) := HR1.out.later hb
    have HI : Hid (PutsO w2 (.slice av nv cv) PS (fun b => w.heap.size + 1 < b ∧ b < w2.heap.size)) := ho.mono fun b hb' => ⟨by have := hb'.1; have := HR1.out.lt; omega, hb'.2⟩
    clear hb ho
    have hrr := HR2.out
    have t0 : w2.cell? ⟨w.heap.size + 1, 0, none⟩ = some (.int .i64 0) := hrr.cell (i := 0) (by omega)
    have t1 : w2.cell? ⟨w.heap.size + 1, 1, none⟩ = some (.slice none 0 0) := hrr.cell (i := 1) (by omega)
    have f0 := hrr.frozen 0
    have f1 := hrr.frozen 1
    have hlr := hrr.lt
    clear hrr
    go_wp2
    exact bodyPost_ret (v := .agg #[.int .i64 0, .slice av nv cv]) (by simp [results, Try.results18, go_sem, t0, t1]) rfl (by rw [HE.out]; exact AnsPR.putB HB2.out (by omega) HI.out _ _)
  · skip
    have hbb : (r != 0) = true := by simpa using hf
    have HE : Hid (RES = (r, [])) := HRC.out hf
    have hrr := HR1.out
    have t0 : w1.cell? ⟨w.heap.size + 1, 0, none⟩ = some (.int .i64 0) := hrr.cell (i := 0) (by omega)
    have t1 : w1.cell? ⟨w.heap.size + 1, 1, none⟩ = some (.slice none 0 0) := hrr.cell (i := 1) (by omega)
    have f0 := hrr.frozen 0
    have f1 := hrr.frozen 1
    have hlr := hrr.lt
    clear hrr
    go_wp2
    exact bodyPost_ret (v := .agg #[.int .i64 r, .slice none 0 0]) (by simp [results, Try.results18, go_sem, t0, t1]) rfl (by rw [HE.out]; exact AnsPR.badB r HB1.out (by omega) _ _)

theorem ownsRow_made8 (w : World) : Wds (w.alloc (.cells (madeCells #[.int .i64 0] 8) 2)) w.heap.size (.slice (some ⟨w.heap.size, 0, none⟩) 0 8) [] :=
  ⟨by simp, Or.inr ⟨w.heap.size, 8, _, rfl, Nat.le_refl _, Go.Deep.blk_alloc_new _ _, by simp, by unfold maxLen; omega, by simp [size_madeCells], by simp⟩⟩
theorem run_make8 (w : World) : (Instr.makeSlice 37 (.int .i64 0) (.int .i64 8)).run Try.prog w = .ok (.slice (some ⟨w.heap.size, 0, none⟩) 0 8) (w.alloc (.cells (madeCells #[.int .i64 0] 8) 2)) := by
  obtain ⟨i, hi, h1, h2, h3⟩ := Try.infoInt'
  have hr := run_make (P := Try.prog) w 37 2 i _ Try.underlying37 hi h1 .i64 .i64 0 8 (by omega) (by omega) (by rw [h3]; omega) (by omega)
  simp only [show (8 : Int).toNat = 8 from rfl, h2, show (0 : Int).toNat = 0 from rfl] at hr
  exact hr
set_option maxHeartbeats 3200000 in
theorem dataWords_any (w : World) (a1 : Option Addr) (n1 c1 : Nat) (a2 : Option Addr) (n2 c2 : Nat) (d : FD) (y : Nat) (h : FsR w (.slice a1 n1 c1) (.slice a2 n2 c2) d) (hs : sizeFs d ≤ 1048576) (h20 : d.2.length = 20) (hy : y < 20) :
    Calls Try.prog 44 #[.agg #[.slice a1 n1 c1, .slice a2 n2 c2], .int .i64 (y : Int)] w fun e w' => ∃ a n c, e = .returned (.slice a n c) ∧ Below w.heap.size w w' ∧ IntsO w' (.slice a n c) (datW d (y : Int)) (fresh w w') := by
  obtain ⟨_, _, e2, hm2, hBt⟩ := h.2.open'
  simp only [Value.slice.injEq] at e2
  obtain ⟨rfl, rfl, rfl⟩ := e2
  rw [h20] at hBt ⊢
  obtain ⟨bD, oD, ua, uc, rfl, d0, iy⟩ := hBt y hy
  have h8y : (d.2[y]?.getD []).length ≤ 1048576 := FD.byt_le hs y
  have HDW : Hid (datW d (y : Int) = (d.2[y]?.getD []).map byteI) := by unfold Hid datW; rw [Int.toNat_natCast]
  rw [HDW.out]
  obtain ⟨a', cap', e', -, hat⟩ := iy
  simp only [Value.slice.injEq] at e'
  obtain ⟨rfl, -, rfl⟩ := e'
  clear h hBt hs h20 hm2 HDW
  generalize d.2[y]?.getD [] = ys at *
  have HYT : Hid (AtY w ua ys.length ys) := hat
  have HBI : Hid (∀ k, k < ys.length → (ys.map byteI).take (k + 1) = (ys.map byteI).take k ++ [(((ys[k]?.getD 0).toNat : Nat) : Int)]) := fun k hk => byteI_take ys k hk
  have HBZ : Hid (∀ k, k ≤ ys.length → ((ys.map byteI).take k).length = k) := fun k hk => by rw [List.length_take, List.length_map]; omega
  have HBE : Hid ((ys.map byteI).take ys.length = ys.map byteI) := List.take_of_length_le (by simp)
  clear hat
  generalize ys.map byteI = yz at *
  obtain ⟨ly, hly⟩ : ∃ ly, ys.length = ly := ⟨_, rfl⟩
  rw [hly] at HBI HBZ HBE HYT d0 h8y
  clear hly
  have HX : Hid (Bx (w.alloc (.cells #[.slice a1 n1 c1, .slice (some ⟨bD, oD, none⟩) 20 c2] 32)) w.heap.size [.slice a1 n1 c1, .slice (some ⟨bD, oD, none⟩) 20 c2]) := Bx.new w [.slice a1 n1 c1, .slice (some ⟨bD, oD, none⟩) 20 c2] _
  have hmk := ownsRow_made8 (w.alloc (.cells #[.slice a1 n1 c1, .slice (some ⟨bD, oD, none⟩) 20 c2] 32))
  rw [World.size_alloc] at hmk
  have HMK : Hid (Wds _ (w.heap.size + 1) _ []) := hmk
  have hbD := lt_of_cell d0
  have hy' : (y : Int) < 20 := by omega
  have u0 := HX.out.later (later1 _ (.cells (madeCells #[.int .i64 0] 8) 2))
  have v1 := u0 1 _ rfl
  have d1 := cell_later (later2 w (.cells #[.slice a1 n1 c1, .slice (some ⟨bD, oD, none⟩) 20 c2] 32) (.cells (madeCells #[.int .i64 0] 8) 2)) d0
  clear hmk u0
  have hmk8 := run_make8
  go_enter Try.func44, Try.ntmps44
  go_wp2
  clear hmk8
  go_loopw [5, 15] (fun v i wr => ∃ k : Nat, k ≤ ly ∧ i = .int .i64 k ∧ Below w.heap.size w wr ∧ Wds wr w.heap.size v (yz.take k)) (fun _ i _ => ly - (intOf i).toNat)
  case atStart => exact ⟨0, Nat.zero_le _, rfl, later2 _ _ _, by
    obtain ⟨h1, h2⟩ := HMK.out
    refine ⟨h1, ?_⟩
    rcases h2 with h2 | ⟨g, cap, cur, h3, h4, h5⟩
    · exact Or.inl h2
    · exact Or.inr ⟨g, cap, cur, h3, by omega, h5⟩⟩
  case round =>
    obtain ⟨k, hk, rfl, hbl, hw⟩ := hrel
    have hzk := HBZ.out k hk
    obtain ⟨av, cv, rfl⟩ := hw.shape
    rw [hzk] at hw ⊢
    have HBL : Hid (Below w.heap.size w wr) := hbl
    have HWV : Hid (Wds wr w.heap.size (.slice av k cv) (yz.take k)) := hw
    clear hw d1 v1
    by_cases hlk : k < ly
    · obtain ⟨bu, ou, rfl, t0⟩ := HYT.out k hlk
      have t1 := cell_later hbl t0
      have hzl : 0 ≤ (((ys[k]?.getD 0).toNat : Nat) : Int) ∧ (((ys[k]?.getD 0).toNat : Nat) : Int) ≤ 255 := by have := (ys[k]?.getD 0).toNat_lt; omega
      have HBK : Hid (yz.take (k + 1) = yz.take k ++ [(((ys[k]?.getD 0).toNat : Nat) : Int)]) := HBI.out k hlk
      have hz1 := HBZ.out (k + 1) (by omega)
      obtain ⟨a3, c3, X, hr, hx, hb, -⟩ := append_w1 wr w.heap.size _ (yz.take k) (((ys[k]?.getD 0).toNat : Nat) : Int) HWV.out hbl.size (by rw [hzk]; omega)
      rw [← HBK.out, hz1] at hr hx
      have HR : Hid (_ = _) := hr
      have HBX : Hid (Below w.heap.size w X) := hbl.trans hb
      have HWX : Hid (Wds X w.heap.size (.slice a3 (k + 1) c3) (yz.take (k + 1))) := hx
      clear hr hx hb hbl HBK HWV HBI HBZ hzk hz1
      go_wp2_with (at_builtin; refine wpList_append_run rfl _ _ 37 rfl _ _ rfl rfl _ _ HR.out ?_)
      go_roundw
      case rel => exact ⟨k + 1, by omega, by go_num, HBX.out, HWX.out⟩
      case measure => simp [intOf]; omega
    · have e : k = ly := by omega
      subst e
      have hwf := HWV.out
      rw [HBE.out] at hwf
      have HWF : Hid (IntsO wr (.slice av k cv) yz (fresh w wr)) := hwf.own' (Nat.le_refl _)
      clear hwf hbl
      go_wp2
      go_ret
      exact ⟨_, _, _, rfl, HBL.out, HWF.out⟩

set_option maxHeartbeats 3200000 in
theorem putsFromD_any (w : World) (first : Int) (a : Option Addr) (c : Nat) (zs : List Int) (fv : Value) (T : Int → List Int) (hz : Ints w (.slice a zs.length c) zs) (hl : zs.length ≤ 1048576) (h0 : 0 ≤ first ∧ first ≤ 1000) (hr : ∀ k, k < zs.length → 0 ≤ zs[k]?.getD 0 ∧ zs[k]?.getD 0 ≤ 1000)
    (hT : ∀ W, Below w.heap.size w W → ∀ k, k < zs.length → Calls Try.prog 44 #[fv, .int .i64 (zs[k]?.getD 0)] W fun e w' => ∃ a n c, e = .returned (.slice a n c) ∧ Below W.heap.size W w' ∧ IntsO w' (.slice a n c) (T (zs[k]?.getD 0)) (fresh W w')) :
    Calls Try.prog 43 #[.int .i64 first, .slice a zs.length c, .func (.func 44) #[fv] #[]] w fun e w' => ∃ a n c, e = .returned (.slice a n c) ∧ Below w.heap.size w w' ∧ PutsO w' (.slice a n c) (zs.map fun z => (first + z, T z)) (fresh w w') := by
  obtain ⟨_, _, e2, _, hat⟩ := hz.open'
  simp only [Value.slice.injEq] at e2
  obtain ⟨rfl, -, rfl⟩ := e2
  have HAT : Hid (At1 w a zs.length (fun k => .int .i64 (zs[k]?.getD 0))) := hat
  have HTT : Hid (∀ W, Below w.heap.size w W → ∀ k, k < zs.length → Calls Try.prog 44 #[fv, .int .i64 (zs[k]?.getD 0)] W _) := hT
  have HG : Hid (∀ k, k < zs.length → (zs.map fun z => (first + z, T z))[k]?.getD (0, []) = (first + zs[k]?.getD 0, T (zs[k]?.getD 0))) := fun k hk => by
    rw [List.getElem?_map, List.getElem?_eq_getElem hk]; rfl
  have HRG : Hid (∀ k, k < zs.length → 0 ≤ zs[k]?.getD 0 ∧ zs[k]?.getD 0 ≤ 1000) := hr
  have HL : Hid ((zs.map fun z => (first + z, T z)).length = zs.length) := by unfold Hid; simp
  obtain ⟨h1, h2⟩ := h0
  clear hT hat hz hr
  generalize (zs.map fun z => (first + z, T z)) = PS at *
  generalize hn : zs.length = n at *
  clear hn
  go_enter Try.func43, Try.ntmps43
  go_wp2
  go_loopw [7, 12] (fun q i wr => ∃ (j : Nat) (u : Nat → List Value) (G : Nat → Nat → Prop), j ≤ n ∧ i = .int .i64 j ∧ Below w.heap.size w wr ∧ GRow PutP wr w.heap.size 100 2 q j (fun k => PS[k]?.getD (0, [])) u G) (fun _ i _ => n - (intOf i).toNat)
  case atStart => exact ⟨0, _, _, Nat.zero_le _, rfl, Below.refl _ _, GRow.nil w _ _ _ _⟩
  case round =>
    obtain ⟨j, u, G, hj, rfl, hbl, hrow⟩ := hrel
    obtain ⟨aQ, cQ, rfl⟩ := hrow.shape
    have HBL : Hid (Below w.heap.size w wr) := hbl
    have HRW : Hid (GRow PutP wr w.heap.size 100 2 (.slice aQ j cQ) j (fun k => PS[k]?.getD (0, [])) u G) := hrow
    clear hrow
    by_cases hlt : j < n
    · have HGJ : Hid (PS[j]?.getD (0, []) = (first + zs[j]?.getD 0, T (zs[j]?.getD 0))) := HG.out j hlt
      obtain ⟨q1, q2⟩ := HRG.out j hlt
      have HTJ := HTT.out wr hbl j hlt
      have HTJ' : Hid (Calls Try.prog 44 #[fv, .int .i64 (zs[j]?.getD 0)] wr _) := HTJ
      obtain ⟨b, off, rfl, k0⟩ := HAT.out j hlt
      replace k0 : wr.cell? ⟨b, off + j, none⟩ = some (.int .i64 (zs[j]?.getD 0)) := cell_later hbl k0
      clear HTJ hbl
      generalize zs[j]?.getD 0 = z at *
      go_wp2_with fail
      refine HTJ'.out.mono ?_
      rintro e w1 ⟨av, m, cv, rfl, hb1, ho⟩
      obtain ⟨_, _, ev, _⟩ := ho.reads.shape
      simp only [Value.slice.injEq] at ev
      obtain ⟨-, hm, -⟩ := ev
      obtain ⟨g, cap, X, u', G', hr, hbx, _, hgx, -⟩ := append_putG wr w1 w.heap.size j _ _ u G HRW.out HBL.out.size (by omega) hb1 (first + z) av m cv (T z) HGJ.out (fresh wr w1) (fun c hc => hc) hm ho w1.heap.size rfl
      have HR : Hid (_ = _) := hr
      have HBX : Hid (Below w.heap.size w X) := (HBL.out.trans hbx)
      have HGX : Hid (GRow PutP X w.heap.size 100 2 _ (j + 1) (fun k => PS[k]?.getD (0, [])) u' G') := hgx
      clear hr hbx hgx hb1 ho HRW HGJ HTJ' hm
      go_wp2_with (at_builtin; refine wpList_append_run rfl _ _ 42 rfl _ _ rfl rfl _ _ HR.out ?_)
      go_roundw
      case rel => exact ⟨j + 1, _, _, by omega, by go_num, HBX.out, HGX.out⟩
      case measure => simp [intOf]; omega
    · have e : j = n := by omega
      subst e
      have HF : Hid (PutsO wr (.slice aQ j cQ) PS (fresh w wr)) := HRW.out.puts HL.out _ fun c h1 h2 => ⟨h1, h2⟩
      clear HRW HAT HG HTT hbl
      go_wp2
      go_ret
      exact ⟨_, _, _, rfl, HBL.out, HF.out⟩

set_option maxHeartbeats 3200000 in
theorem implDatPutsU (w : World) (a1 : Option Addr) (n1 c1 : Nat) (a2 : Option Addr) (n2 c2 : Nat) (d : FD) (h : FsR w (.slice a1 n1 c1) (.slice a2 n2 c2) d) (hs : sizeFs d ≤ 1048576) :
    Calls Try.prog 19 #[.agg #[.slice a1 n1 c1, .slice a2 n2 c2]] w (AnsPR w (datPutsR d)) := by
  have HF : Hid (∀ W, Below w.heap.size w W → Calls Try.prog 27 #[.agg #[.slice a1 n1 c1, .slice a2 n2 c2]] W (AnsIR W (busyR d))) := fun W hW => implBusyU W _ _ _ _ _ _ d (h.later hW) hs
  have HBA : Hid (fsF d = 0 → busyR d = (0, selL (usedP d.1) 20)) := fun hf => by unfold busyR; rw [if_pos hf]
  have HBC : Hid (¬ fsF d = 0 → busyR d = (fsF d, [])) := fun hf => by unfold busyR; rw [if_neg hf]
  have HU : Hid (fsF d = 0 → ∀ W ap n cp, Below w.heap.size w W → Ints W (.slice ap n cp) (selL (usedP d.1) 20) → Calls Try.prog 43 #[.int .i64 27, .slice ap n cp, .func (.func 44) #[.agg #[.slice a1 n1 c1, .slice a2 n2 c2]] #[]] W fun e w' => ∃ a n c, e = .returned (.slice a n c) ∧ Below W.heap.size W w' ∧ PutsO w' (.slice a n c) (datPuts d) (fresh W w')) := fun hf W ap n cp hW hi => by
    have hok := fsE_ok (fsF_zero hf)
    obtain ⟨_, _, e1, _⟩ := hi.shape
    simp only [Value.slice.injEq] at e1
    obtain ⟨rfl, rfl, rfl⟩ := e1
    have hl20 : (selL (usedP d.1) 20).length ≤ 20 := selL_len _ _
    exact putsFromD_any W 27 _ _ (selL (usedP d.1) 20) (.agg #[.slice a1 n1 c1, .slice a2 n2 c2]) (datW d) hi (by omega) (by omega) (fun k hk => by have := selL_lt (usedP d.1) 20 k hk; omega) (fun V hV k hk => by
      have hr := selL_lt (usedP d.1) 20 k hk
      obtain ⟨y, hy⟩ : ∃ y : Nat, (selL (usedP d.1) 20)[k]?.getD 0 = (y : Int) := ⟨((selL (usedP d.1) 20)[k]?.getD 0).toNat, by omega⟩
      rw [hy] at hr ⊢
      exact dataWords_any V _ _ _ _ _ _ d y (h.later (hW.trans (hV.mono hW.size))) hs hok.dat (by omega))
  have HRA : Hid (fsF d = 0 → datPutsR d = (0, datPuts d)) := fun h1 => by unfold datPutsR; rw [if_pos h1]
  have HRC : Hid (¬ fsF d = 0 → datPutsR d = (fsF d, [])) := fun h1 => by unfold datPutsR; rw [if_neg h1]
  clear h hs
  generalize busyR d = BR at *
  generalize selL (usedP d.1) 20 = zs at *
  generalize datPuts d = PS at *
  generalize fsF d = r at *
  generalize datPutsR d = RES at *
  have HB0 : Hid (Below w.heap.size w ((w.alloc (.cells #[.slice a1 n1 c1, .slice a2 n2 c2] 32)).alloc (.cells #[.int .i64 0, .slice none 0 0] 44))) := later2 _ _ _
  have HX0 : Hid (Bx ((w.alloc (.cells #[.slice a1 n1 c1, .slice a2 n2 c2] 32)).alloc (.cells #[.int .i64 0, .slice none 0 0] 44)) (w.heap.size) [.slice a1 n1 c1, .slice a2 n2 c2]) := (Bx.new w [.slice a1 n1 c1, .slice a2 n2 c2] _).later (later1 _ _)
  have HR0 : Hid (OwnRow ((w.alloc (.cells #[.slice a1 n1 c1, .slice a2 n2 c2] 32)).alloc (.cells #[.int .i64 0, .slice none 0 0] 44)) (w.heap.size + 1) 2 (cel [.int .i64 0, .slice none 0 0])) := (show OwnRow ((w.alloc (.cells #[.slice a1 n1 c1, .slice a2 n2 c2] 32)).alloc (.cells #[.int .i64 0, .slice none 0 0] 44)) (w.heap.size + 1) 2 (cel [.int .i64 0, .slice none 0 0]) from by have := newCel (w.alloc (.cells #[.slice a1 n1 c1, .slice a2 n2 c2] 32)) [.int .i64 0, .slice none 0 0] 44; rw [World.size_alloc] at this; exact this)
  go_enter Try.func19, Try.ntmps19
  have xHX0 := HX0.out 0 _ rfl
  have xHX1 := HX0.out 1 _ rfl
  go_wp2_with fail
  clear xHX0 xHX1
  by_cases hf : r = 0
  · skip
    have HB2E : Hid (BR = (0, zs)) := HBA.out hf
    have HE : Hid (RES = (0, PS)) := HRA.out hf
    rw [HB2E.out] at HF
    refine (HF.out _ HB0.out).mono ?_
    rintro e w1 ⟨av, nv, cv, rfl, hb, ho⟩
    have HA : Hid (IntsO w1 (.slice av nv cv) zs (fresh _ w1)) := ho
    clear ho
    have HB1 : Hid (Below w.heap.size w w1) := HB0.out.trans (hb.mono HB0.out.size)
    have HX1 : Hid (Bx w1 (w.heap.size) [.slice a1 n1 c1, .slice a2 n2 c2]) := HX0.out.later hb
    have HR1 : Hid (OwnRow w1 (w.heap.size + 1) 2 (cel [.int .i64 0, .slice none 0 0])) := HR0.out.later hb
    clear hb
    have hb := later1 w1 (.cells #[.int .i64 0, .slice av nv cv] 50)
    have HZI : Hid (Ints (w1.alloc (.cells #[.int .i64 0, .slice av nv cv] 50)) (.slice av nv cv) zs) := HA.out.reads.later hb
    have a0 : (w1.alloc (.cells #[.int .i64 0, .slice av nv cv] 50)).cell? ⟨w1.heap.size, 0, none⟩ = some (.int .i64 0) := Bx.new w1 [.int .i64 0, .slice av nv cv] _ 0 _ rfl
    have a1' : (w1.alloc (.cells #[.int .i64 0, .slice av nv cv] 50)).cell? ⟨w1.heap.size, 1, none⟩ = some (.slice av nv cv) := Bx.new w1 [.int .i64 0, .slice av nv cv] _ 1 _ rfl
    have HB2 : Hid (Below w.heap.size w (w1.alloc (.cells #[.int .i64 0, .slice av nv cv] 50))) := HB1.out.trans (hb.mono HB1.out.size)
    have HX2 : Hid (Bx (w1.alloc (.cells #[.int .i64 0, .slice av nv cv] 50)) (w.heap.size) [.slice a1 n1 c1, .slice a2 n2 c2]) := HX1.out.later hb
    have HR2 : Hid (OwnRow (w1.alloc (.cells #[.int .i64 0, .slice av nv cv] 50)) (w.heap.size + 1) 2 (cel [.int .i64 0, .slice none 0 0])) := HR1.out.later hb
    clear hb
    have HU2 : Hid (∀ W ap n cp, Below w.heap.size w W → Ints W (.slice ap n cp) zs → Calls Try.prog 43 #[.int .i64 27, .slice ap n cp, .func (.func 44) #[.agg #[.slice a1 n1 c1, .slice a2 n2 c2]] #[]] W _) := HU.out hf
    have xHX0 := HX2.out 0 _ rfl
    have xHX1 := HX2.out 1 _ rfl
    go_wp2_with fail
    clear xHX0 xHX1
    refine (HU2.out _ _ _ _ HB2.out HZI.out).mono ?_
    rintro e w3 ⟨ax, nx, cx, rfl, hb, ho⟩
    have HO3 : Hid (PutsO w3 (.slice ax nx cx) PS (fun b => w.heap.size + 1 < b ∧ b < w3.heap.size)) := ho.mono fun b hb' => ⟨by have := hb'.1; have := HR2.out.lt; omega, hb'.2⟩
    clear ho
    have HB3 : Hid (Below w.heap.size w w3) := HB2.out.trans (hb.mono HB2.out.size)
    have HX3 : Hid (Bx w3 (w.heap.size) [.slice a1 n1 c1, .slice a2 n2 c2]) := HX2.out.later hb
    have HR3 : Hid (OwnRow w3 (w.heap.size + 1) 2 (cel [.int .i64 0, .slice none 0 0])) := HR2.out.later hb
    clear hb
    have hrr := HR3.out
    have t0 : w3.cell? ⟨w.heap.size + 1, 0, none⟩ = some (.int .i64 0) := hrr.cell (i := 0) (by omega)
    have t1 : w3.cell? ⟨w.heap.size + 1, 1, none⟩ = some (.slice none 0 0) := hrr.cell (i := 1) (by omega)
    have f0 := hrr.frozen 0
    have f1 := hrr.frozen 1
    have hlr := hrr.lt
    clear hrr
    go_wp2
    exact bodyPost_ret (v := .agg #[.int .i64 0, .slice ax nx cx]) (by simp [results, Try.results19, go_sem, t0, t1]) rfl (by rw [HE.out]; exact AnsPR.putB HB3.out (by omega) HO3.out _ _)
  · skip
    have hbb : (r != 0) = true := by simpa using hf
    have HE : Hid (RES = (r, [])) := HRC.out hf
    have HB2E : Hid (BR = (r, [])) := HBC.out hf
    rw [HB2E.out] at HF
    refine (HF.out _ HB0.out).mono ?_
    rintro e w1 ⟨av, nv, cv, rfl, hb, -⟩
    have HB1 : Hid (Below w.heap.size w w1) := HB0.out.trans (hb.mono HB0.out.size)
    have HX1 : Hid (Bx w1 (w.heap.size) [.slice a1 n1 c1, .slice a2 n2 c2]) := HX0.out.later hb
    have HR1 : Hid (OwnRow w1 (w.heap.size + 1) 2 (cel [.int .i64 0, .slice none 0 0])) := HR0.out.later hb
    clear hb
    have hrr := HR1.out
    have t0 : w1.cell? ⟨w.heap.size + 1, 0, none⟩ = some (.int .i64 0) := hrr.cell (i := 0) (by omega)
    have t1 : w1.cell? ⟨w.heap.size + 1, 1, none⟩ = some (.slice none 0 0) := hrr.cell (i := 1) (by omega)
    have f0 := hrr.frozen 0
    have f1 := hrr.frozen 1
    have hlr := hrr.lt
    clear hrr
    go_wp2
    exact bodyPost_ret (v := .agg #[.int .i64 r, .slice none 0 0]) (by simp [results, Try.results19, go_sem, t0, t1, hlr]) rfl (by rw [HE.out]; exact (AnsPR.badB (rb := w.heap.size + 1) r HB1.out (by omega) _ _).later (later1 _ _))

end Go.Proofs.Ytlacppjlclfpmaa

namespace Go.Proofs.Ytlacppjlclfpmaa
open Go.ChangeShapes Go.WideShapes Go.ChangeAt Go.RowKit Go.Deep
set_option maxRecDepth 100000

section
variable {H : Type} {enc : TypeId × Value → H} {P : Program} {w : World} {base : Nat} {held : Bool}

theorem addr_of {a : Addr} {v : Value} (h : w.cell? (a.add 0) = some v) : a = ⟨a.block, a.off, none⟩ := by
  obtain ⟨b, o, s⟩ := a
  have : s = none := by simpa [Addr.add] using World.cell?_spot h
  subst this; rfl
theorem add_plain (b off k : Nat) : (⟨b, off, none⟩ : Addr).add k = ⟨b, off + k, none⟩ := by
  by_cases h : k = 0
  · subst h; simp [Addr.add]
  · simp [Addr.add, h]

theorem open_Ints {t e : TypeId} {fuel : Nat} {v : Value} {x : DataW H × List MemPlace} (ht : P.underlying t = some (.slice e)) (he : P.underlying e = some (.int .i64)) (ce : P.cellsOf e = 1) (h : DataW.trod enc P w base (fun _ => true) held fuel t [v] = some x) :
    ∃ zs, Ints w v zs := by
  rcases open_ints ht he ce h with ⟨hcs, _⟩ | ⟨a, len, cap, zs, hcs, _, hl, hm, hz, _, hcell, _⟩
  · simp only [List.cons.injEq, and_true] at hcs
    exact ⟨[], Or.inl ⟨rfl, none, 0, hcs⟩⟩
  · simp only [List.cons.injEq, and_true] at hcs
    simp only [if_true] at hz
    by_cases h0 : len = 0
    · subst h0; exact ⟨[], Or.inl ⟨rfl, some a, cap, hcs⟩⟩
    · have ha := addr_of (hcell 0 (by omega))
      refine ⟨zs.take len, Or.inr ⟨a.block, a.off, cap, ?_, ?_, fun k hk => ?_⟩⟩
      · rw [hcs, List.length_take, Nat.min_eq_left (by omega), ← ha]
      · rw [List.length_take]; omega
      · rw [List.length_take] at hk
        have h1 := hcell k (by omega)
        rw [ha, add_plain] at h1
        rw [h1, List.getElem?_take, if_pos (by omega)]
        rfl

theorem open_IntsS {t e q : TypeId} {fuel : Nat} {v : Value} {x : DataW H × List MemPlace} (ht : P.underlying t = some (.slice e)) (he : P.underlying e = some (.slice q)) (hq : P.underlying q = some (.int .i64)) (ce : P.cellsOf e = 1) (cq : P.cellsOf q = 1)
    (h : DataW.trod enc P w base (fun _ => true) held fuel t [v] = some x) : ∃ zss, IntsS w v zss := by
  rcases open_slice1 ht ce h with ⟨hcs, _⟩ | ⟨a, len, cap, m, n, V, D, Pl, hcs, _, hl, hm, hmm, _, hx⟩
  · simp only [List.cons.injEq, and_true] at hcs
    exact ⟨[], Or.inl ⟨rfl, none, 0, hcs⟩⟩
  · simp only [List.cons.injEq, and_true] at hcs
    simp only [if_true] at hmm
    by_cases h0 : len = 0
    · subst h0; exact ⟨[], Or.inl ⟨rfl, some a, cap, hcs⟩⟩
    · have ha := addr_of (hx 0 (by omega)).1
      obtain ⟨Z, hZ⟩ := choose_lt (α := List Int) (n := m) (p := fun i zs => Ints w (V i) zs) fun i hi => open_Ints he hq cq (hx i hi).2
      refine ⟨(List.range len).map Z, Or.inr ⟨a.block, a.off, cap, V, ?_, ?_, fun k hk => ?_⟩⟩
      · simp only [List.length_map, List.length_range]; rw [hcs, ← ha]
      · simp only [List.length_map, List.length_range]; omega
      · simp only [List.length_map, List.length_range] at hk
        have h1 := (hx k (by omega)).1
        rw [ha, add_plain] at h1
        refine ⟨h1, ?_⟩
        have := hZ k (by omega)
        simpa [hk] using this

theorem open_Puts {t e q : TypeId} {f0 f1 : Field} {fuel : Nat} {v : Value} {x : DataW H × List MemPlace} (ht : P.underlying t = some (.slice e)) (he : P.underlying e = some (.struct #[f0, f1]))
    (ce : P.cellsOf e = 2) (o0 : f0.offset = 0) (o1 : f1.offset = 1) (c0 : P.cellsOf f0.type = 1) (c1 : P.cellsOf f1.type = 1) (h0 : P.underlying f0.type = some (.int .i64)) (h1 : P.underlying f1.type = some (.slice q)) (hq : P.underlying q = some (.int .i64)) (cq : P.cellsOf q = 1)
    (h : DataW.trod enc P w base (fun _ => true) held fuel t [v] = some x) : ∃ ps, Puts w v ps := by
  rcases open_slice_pairs ht he ce o0 o1 c0 c1 h with ⟨hcs, _⟩ | ⟨a, len, cap, m, n, V0, V1, D0, D1, P0, P1, hcs, _, hl, hm, hmm, _, hx⟩
  · simp only [List.cons.injEq, and_true] at hcs
    exact ⟨[], Or.inl ⟨rfl, none, 0, hcs⟩⟩
  · simp only [List.cons.injEq, and_true] at hcs
    simp only [if_true] at hmm
    by_cases hl0 : len = 0
    · subst hl0; exact ⟨[], Or.inl ⟨rfl, some a, cap, hcs⟩⟩
    · have ha := addr_of (by simpa using (hx 0 (by omega)).1)
      obtain ⟨Z, hZ⟩ := choose_lt (α := Int × List Int) (n := m) (p := fun i z => V0 i = .int .i64 z.1 ∧ Ints w (V1 i) z.2) fun i hi => by
        obtain ⟨_, _, g0, g1⟩ := hx i hi
        obtain ⟨zs, hzs⟩ := open_Ints h1 hq cq g1
        obtain ⟨y, hy, _⟩ := DataW.trod_int h0 g0
        simp only [List.cons.injEq, and_true] at hy
        exact ⟨(y, zs), hy, hzs⟩
      refine ⟨(List.range len).map Z, Or.inr ⟨a.block, a.off, cap, V1, ?_, ?_, fun k hk => ?_⟩⟩
      · simp only [List.length_map, List.length_range]; rw [hcs, ← ha]
      · simp only [List.length_map, List.length_range]; omega
      · simp only [List.length_map, List.length_range] at hk
        obtain ⟨e0, e1, _, _⟩ := hx k (by omega)
        rw [ha, add_plain] at e0 e1
        obtain ⟨g0, g1⟩ := hZ k (by omega)
        rw [g0] at e0
        have hg : ((List.range len).map Z)[k]?.getD (0, []) = Z k := by simp [hk]
        rw [hg]
        exact ⟨e0, e1, g1⟩
end

end Go.Proofs.Ytlacppjlclfpmaa

namespace Go.Proofs.Ytlacppjlclfpmaa
open Go.ChangeShapes Go.WideShapes Go.ChangeAt Go.RowKit Go.Joins
set_option maxRecDepth 100000

theorem Try.own : ownKnob Try.prog.godebug = none := by kernel_rfl
theorem Try.laidOut : laidOutB Try.prog = true := by kernel_rfl
theorem Try.cellsInt : Try.prog.cellsOf 2 = 1 := by kernel_rfl
theorem Try.cellsInts : Try.prog.cellsOf 37 = 1 := by kernel_rfl

end Go.Proofs.Ytlacppjlclfpmaa

namespace Go.Proofs.Ytlacppjlclfpmaa
open Go.ChangeShapes Go.WideShapes Go.ChangeAt Go.RowKit Go.Joins Go.Deep
set_option maxRecDepth 100000

theorem open_Ents {H : Type} {enc : TypeId × Value → H} {P : Program} {w : World} {base : Nat} {held : Bool} {t e : TypeId} {f0 f1 : Field} {fuel : Nat} {v : Value} {x : DataW H × List MemPlace} (ht : P.underlying t = some (.slice e)) (he : P.underlying e = some (.struct #[f0, f1]))
    (ce : P.cellsOf e = 2) (o0 : f0.offset = 0) (o1 : f1.offset = 1) (c0 : P.cellsOf f0.type = 1) (c1 : P.cellsOf f1.type = 1) (h0 : P.underlying f0.type = some .string) (h1 : P.underlying f1.type = some (.int .i64))
    (h : DataW.trod enc P w base (fun _ => true) held fuel t [v] = some x) : ∃ es, Ents w v es := by
  rcases open_slice ht h with ⟨hcs, _⟩ | ⟨a, len, cap, m, n, D, Pl, hcs, hb, hl, hm, hmm, _, hx⟩
  · simp only [List.cons.injEq, and_true] at hcs
    exact ⟨[], by rw [hcs]; exact Ents.nil w none 0⟩
  · simp only [List.cons.injEq, and_true] at hcs
    simp only [if_true] at hmm
    by_cases hl0 : len = 0
    · subst hl0; exact ⟨[], by rw [hcs]; exact Ents.nil w (some a) cap⟩
    · have each : ∀ i, i < m → ∃ q : EN, w.cell? (a.add (i * 2)) = some (.string q.1) ∧ w.cell? (a.add (i * 2 + 1)) = some (.int .i64 q.2) ∧ q.1.size ≤ maxLen := by
        intro i hi
        obtain ⟨cs', k1, k2⟩ := hx i hi
        rw [ce] at k1
        obtain ⟨_, hlen, hcell⟩ := World.cells?_some k1
        obtain ⟨xs, k, hk, hxy, _, hxl, hf⟩ := DataW.trod_struct he k2
        match xs, hxl, cs', hlen with
        | [y0, y1], _, [v0, v1], _ =>
          have g0 := hf 0 f0 rfl
          have g1 := hf 1 f1 rfl
          simp [o0, o1, c0, c1] at g0 g1
          have e0 := hcell 0 (by omega)
          have e1 := hcell 1 (by omega)
          rw [add_add] at e0 e1
          obtain ⟨z0, hz0, _, hs⟩ := DataW.trod_string h0 g0
          obtain ⟨z1, hz1, _⟩ := DataW.trod_int h1 g1
          simp only [List.cons.injEq, and_true] at hz0 hz1
          subst hz0 hz1
          exact ⟨(z0, z1), by simpa using e0, by simpa using e1, hs⟩
      obtain ⟨q, hq⟩ := choose_lt each
      have ha := addr_of (by simpa using (hq 0 (by omega)).1)
      refine ⟨(List.range len).map q, some a, cap, ?_, ?_, fun k hk => ?_⟩
      · simp only [List.length_map, List.length_range]; exact hcs
      · simp only [List.length_map, List.length_range]
        refine ⟨by omega, by omega, fun k => ?_⟩
        by_cases hk : k < len
        · have hg : ((List.range len).map q)[k]?.getD en0 = q k := by simp [hk]
          rw [hg]
          exact (hq k (by omega)).2.2
        · rw [List.getElem?_eq_none (by simpa using Nat.le_of_not_lt hk)]
          simp [en0, ByteArray.size]
      · simp only [List.length_map, List.length_range] at hk
        obtain ⟨e0, e1, _⟩ := hq k (by omega)
        rw [ha, add_plain] at e0 e1
        have hg : ((List.range len).map q)[k]?.getD en0 = q k := by simp [hk]
        rw [hg]
        exact ⟨a.block, a.off, by rw [← ha], e0, e1⟩

theorem open_cap {H : Type} {enc : TypeId × Value → H} {P : Program} {w : World} {base : Nat} {held : Bool} {t e : TypeId} {fuel : Nat} {v : Value} {x : DataW H × List MemPlace} (ht : P.underlying t = some (.slice e)) (h : DataW.trod enc P w base (fun _ => true) held fuel t [v] = some x) : capOK v := by
  rcases DataW.trod_slice ht h with ⟨hcs, _⟩ | ⟨a, len, cap, _, _, _, _, hcs, _, _, hl, _⟩
  · simp only [List.cons.injEq, and_true] at hcs
    exact ⟨none, 0, 0, hcs, Nat.le_refl _⟩
  · simp only [List.cons.injEq, and_true] at hcs
    exact ⟨some a, len, cap, hcs, hl⟩
theorem Try.cellsStr : Try.prog.cellsOf 9 = 1 := by kernel_rfl
theorem Try.cellsEnt : Try.prog.cellsOf 123 = 2 := by kernel_rfl
theorem Try.cellsEnts : Try.prog.cellsOf 81 = 1 := by kernel_rfl
theorem Try.cellsIno : Try.prog.cellsOf 83 = 5 := by kernel_rfl
theorem array5 {α : Type} {a : Array α} (h : a.size = 5) : ∃ x0 x1 x2 x3 x4, a = #[x0, x1, x2, x3, x4] := by
  obtain ⟨l⟩ := a
  match l, h with
  | [x0, x1, x2, x3, x4], _ => exact ⟨x0, x1, x2, x3, x4, rfl⟩
theorem open_InoU {H : Type} {enc : TypeId × Value → H} {W : World} {r : Reach} {b0 : Nat} {v : Value} {d : DataW H} {p : List MemPlace} (hv : Value.okWide Try.prog W r b0 83 v) (h : DataW.Trod enc Try.prog W 0 (fun _ => true) true 83 v d p) :
    ∃ v0 v1 v2 vB vE id, v = .agg #[v0, v1, v2, vB, vE] ∧ InoR W v0 v1 v2 vB vE id := by
  obtain ⟨cs, rfl, hsz⟩ := okWide_struct Try.underlying83 hv
  obtain ⟨c0, c1, c2, c3, c4, rfl⟩ := array5 (hsz.trans Try.cellsIno)
  obtain ⟨fuel, hf⟩ := h
  obtain ⟨xs, k, hk, hxy, _, hxl, hg⟩ := DataW.trod_struct Try.underlying83 hf
  match xs, hxl with
  | [y0, y1, y2, y3, y4], _ =>
    have g0 : DataW.trod enc Try.prog W 0 (fun _ => true) true k 2 [c0] = some y0 := by simpa [Value.cells, Try.cellsInt] using hg 0 _ rfl
    have g1 : DataW.trod enc Try.prog W 0 (fun _ => true) true k 2 [c1] = some y1 := by simpa [Value.cells, Try.cellsInt] using hg 1 _ rfl
    have g2 : DataW.trod enc Try.prog W 0 (fun _ => true) true k 2 [c2] = some y2 := by simpa [Value.cells, Try.cellsInt] using hg 2 _ rfl
    have g3 : DataW.trod enc Try.prog W 0 (fun _ => true) true k 37 [c3] = some y3 := by simpa [Value.cells, Try.cellsInts] using hg 3 _ rfl
    have g4 : DataW.trod enc Try.prog W 0 (fun _ => true) true k 81 [c4] = some y4 := by simpa [Value.cells, Try.cellsEnts] using hg 4 _ rfl
    obtain ⟨z0, hz0, _⟩ := DataW.trod_int Try.underlying2 g0
    obtain ⟨z1, hz1, _⟩ := DataW.trod_int Try.underlying2 g1
    obtain ⟨z2, hz2, _⟩ := DataW.trod_int Try.underlying2 g2
    simp only [List.cons.injEq, and_true] at hz0 hz1 hz2
    obtain ⟨bs, hbs⟩ := open_Ints Try.underlying37 Try.underlying2 Try.cellsInt g3
    obtain ⟨es, hes⟩ := open_Ents Try.underlying81 Try.underlying123 Try.cellsEnt rfl rfl Try.cellsStr Try.cellsInt Try.underlying9 Try.underlying2 g4
    exact ⟨c0, c1, c2, c3, c4, (z0, z1, z2, bs, es), rfl, ⟨hz0, hz1, hz2, open_cap Try.underlying37 g3⟩, hbs, hes⟩
end Go.Proofs.Ytlacppjlclfpmaa

namespace Go.Proofs.Ytlacppjlclfpmaa
open Go.ChangeShapes Go.WideShapes Go.ChangeAt Go.RowKit Go.Joins Go.Deep
set_option maxRecDepth 100000

theorem open_Inos {H : Type} {enc : TypeId × Value → H} {w : World} {base : Nat} {held : Bool} {fuel : Nat} {v : Value} {x : DataW H × List MemPlace}
    (h : DataW.trod enc Try.prog w base (fun _ => true) held fuel 22 [v] = some x) : ∃ ds, Inos w v ds := by
  rcases open_slice Try.underlying22 h with ⟨hcs, _⟩ | ⟨a, len, cap, m, n, D, Pl, hcs, hb, hl, hm, hmm, _, hx⟩
  · simp only [List.cons.injEq, and_true] at hcs
    exact ⟨[], by rw [hcs]; exact Inos.nil w none 0⟩
  · simp only [List.cons.injEq, and_true] at hcs
    simp only [if_true] at hmm
    by_cases hl0 : len = 0
    · subst hl0; exact ⟨[], by rw [hcs]; exact Inos.nil w (some a) cap⟩
    · have each : ∀ i, i < m → ∃ q : ID, ∃ vB vE, w.cell? (a.add (i * 5)) = some (.int .i64 q.1) ∧ w.cell? (a.add (i * 5 + 1)) = some (.int .i64 q.2.1) ∧ w.cell? (a.add (i * 5 + 2)) = some (.int .i64 q.2.2.1) ∧ w.cell? (a.add (i * 5 + 3)) = some vB ∧ w.cell? (a.add (i * 5 + 4)) = some vE ∧ InoR w (.int .i64 q.1) (.int .i64 q.2.1) (.int .i64 q.2.2.1) vB vE q := by
        intro i hi
        obtain ⟨cs', k1, k2⟩ := hx i hi
        rw [Try.cellsIno] at k1
        obtain ⟨_, hlen, hcell⟩ := World.cells?_some k1
        obtain ⟨xs, k, hk, hxy, _, hxl, hg⟩ := DataW.trod_struct Try.underlying83 k2
        match xs, hxl, cs', hlen with
        | [y0, y1, y2, y3, y4], _, [c0, c1, c2, c3, c4], _ =>
          have g0 : DataW.trod enc Try.prog w base (fun _ => true) held k 2 [c0] = some y0 := by simpa [Try.cellsInt] using hg 0 _ rfl
          have g1 : DataW.trod enc Try.prog w base (fun _ => true) held k 2 [c1] = some y1 := by simpa [Try.cellsInt] using hg 1 _ rfl
          have g2 : DataW.trod enc Try.prog w base (fun _ => true) held k 2 [c2] = some y2 := by simpa [Try.cellsInt] using hg 2 _ rfl
          have g3 : DataW.trod enc Try.prog w base (fun _ => true) held k 37 [c3] = some y3 := by simpa [Try.cellsInts] using hg 3 _ rfl
          have g4 : DataW.trod enc Try.prog w base (fun _ => true) held k 81 [c4] = some y4 := by simpa [Try.cellsEnts] using hg 4 _ rfl
          have e0 := hcell 0 (by omega)
          have e1 := hcell 1 (by omega)
          have e2 := hcell 2 (by omega)
          have e3 := hcell 3 (by omega)
          have e4 := hcell 4 (by omega)
          rw [add_add] at e0 e1 e2 e3 e4
          obtain ⟨z0, hz0, _⟩ := DataW.trod_int Try.underlying2 g0
          obtain ⟨z1, hz1, _⟩ := DataW.trod_int Try.underlying2 g1
          obtain ⟨z2, hz2, _⟩ := DataW.trod_int Try.underlying2 g2
          simp only [List.cons.injEq, and_true] at hz0 hz1 hz2
          subst hz0 hz1 hz2
          obtain ⟨bs, hbs⟩ := open_Ints Try.underlying37 Try.underlying2 Try.cellsInt g3
          obtain ⟨es, hes⟩ := open_Ents Try.underlying81 Try.underlying123 Try.cellsEnt rfl rfl Try.cellsStr Try.cellsInt Try.underlying9 Try.underlying2 g4
          exact ⟨(z0, z1, z2, bs, es), c3, c4, by simpa using e0, by simpa using e1, by simpa using e2, by simpa using e3, by simpa using e4, ⟨rfl, rfl, rfl, open_cap Try.underlying37 g3⟩, hbs, hes⟩
      obtain ⟨q, hq⟩ := choose_lt each
      obtain ⟨_, _, hq0, _⟩ := hq 0 (by omega)
      have ha := addr_of (by simpa using hq0)
      refine ⟨(List.range len).map q, some a, cap, ?_, ?_, fun k hk => ?_⟩
      · simp only [List.length_map, List.length_range]; exact hcs
      · simp only [List.length_map, List.length_range]
        exact ⟨by omega, by omega⟩
      · simp only [List.length_map, List.length_range] at hk
        obtain ⟨vB, vE, e0, e1, e2, e3, e4, hR⟩ := hq k (by omega)
        rw [ha, add_plain] at e0 e1 e2 e3 e4
        have hg : ((List.range len).map q)[k]?.getD id0 = q k := by simp [hk]
        rw [hg]
        exact ⟨a.block, a.off, by rw [← ha], InoAt.mk' e0 e1 e2 e3 e4 hR⟩
end Go.Proofs.Ytlacppjlclfpmaa

namespace Go.Proofs.Ytlacppjlclfpmaa
open Go.ChangeShapes Go.WideShapes Go.ChangeAt Go.RowKit Go.Joins Go.Deep
set_option maxRecDepth 100000

theorem Try.cellsByteF : Try.prog.cellsOf 5 = 1 := by kernel_rfl
theorem Try.cellsBytF : Try.prog.cellsOf 85 = 1 := by kernel_rfl
theorem Try.cellsBytsF : Try.prog.cellsOf 23 = 1 := by kernel_rfl
theorem Try.cellsInosF : Try.prog.cellsOf 22 = 1 := by kernel_rfl
theorem Try.cellsFsF : Try.prog.cellsOf 25 = 2 := by kernel_rfl
theorem open_Byt {H : Type} {enc : TypeId × Value → H} {P : Program} {w : World} {base : Nat} {held : Bool} {t e : TypeId} {fuel : Nat} {v : Value} {x : DataW H × List MemPlace} (ht : P.underlying t = some (.slice e)) (he : P.underlying e = some (.int .u8)) (ce : P.cellsOf e = 1) (h : DataW.trod enc P w base (fun _ => true) held fuel t [v] = some x) :
    ∃ zs, Byt w v zs := by
  rcases open_slice1 ht ce h with ⟨hcs, _⟩ | ⟨a, len, cap, m, n, V, D, Pl, hcs, _, hl, hm, hmm, _, hx⟩
  · simp only [List.cons.injEq, and_true] at hcs
    exact ⟨[], by rw [hcs]; exact Byt.nil w none 0⟩
  · simp only [List.cons.injEq, and_true] at hcs
    simp only [if_true] at hmm
    by_cases h0 : len = 0
    · subst h0; exact ⟨[], by rw [hcs]; exact Byt.nil w (some a) cap⟩
    · have ha := addr_of (hx 0 (by omega)).1
      obtain ⟨Z, hZ⟩ := choose_lt (α := UInt8) (n := m) (p := fun i b => V i = .int .u8 ((b.toNat : Nat) : Int)) fun i hi => by
        obtain ⟨z, h1, _, hw⟩ := DataW.trod_int he (hx i hi).2
        have hz0 : IntKind.u8.min ≤ z ∧ z ≤ IntKind.u8.max := by simpa [Lit.wf] using hw
        have hz : 0 ≤ z ∧ z ≤ 255 := hz0
        refine ⟨UInt8.ofNat z.toNat, ?_⟩
        simp only [List.cons.injEq, and_true] at h1
        rw [h1]
        congr 1
        have : (UInt8.ofNat z.toNat).toNat = z.toNat := by simp; omega
        rw [this]; omega
      refine ⟨(List.range len).map Z, some a, cap, ?_, ?_, fun k hk => ?_⟩
      · simp only [List.length_map, List.length_range]; exact hcs
      · simp only [List.length_map, List.length_range]; exact ⟨by omega, by omega⟩
      · simp only [List.length_map, List.length_range] at hk
        have h1 := (hx k (by omega)).1
        rw [ha, add_plain] at h1
        refine ⟨a.block, a.off, by rw [← ha], ?_⟩
        rw [h1, hZ k (by omega)]
        simp [hk]
theorem open_Byts {H : Type} {enc : TypeId × Value → H} {P : Program} {w : World} {base : Nat} {held : Bool} {t e q : TypeId} {fuel : Nat} {v : Value} {x : DataW H × List MemPlace} (ht : P.underlying t = some (.slice e)) (he : P.underlying e = some (.slice q)) (hq : P.underlying q = some (.int .u8)) (ce : P.cellsOf e = 1) (cq : P.cellsOf q = 1)
    (h : DataW.trod enc P w base (fun _ => true) held fuel t [v] = some x) : ∃ zss, Byts w v zss := by
  rcases open_slice1 ht ce h with ⟨hcs, _⟩ | ⟨a, len, cap, m, n, V, D, Pl, hcs, _, hl, hm, hmm, _, hx⟩
  · simp only [List.cons.injEq, and_true] at hcs
    exact ⟨[], by rw [hcs]; exact Byts.nil w none 0⟩
  · simp only [List.cons.injEq, and_true] at hcs
    simp only [if_true] at hmm
    by_cases h0 : len = 0
    · subst h0; exact ⟨[], by rw [hcs]; exact Byts.nil w (some a) cap⟩
    · have ha := addr_of (hx 0 (by omega)).1
      obtain ⟨Z, hZ⟩ := choose_lt (α := List UInt8) (n := m) (p := fun i zs => Byt w (V i) zs) fun i hi => open_Byt he hq cq (hx i hi).2
      refine ⟨(List.range len).map Z, some a, cap, ?_, ?_, fun k hk => ?_⟩
      · simp only [List.length_map, List.length_range]; exact hcs
      · simp only [List.length_map, List.length_range]; exact ⟨by omega, by omega⟩
      · simp only [List.length_map, List.length_range] at hk
        have h1 := (hx k (by omega)).1
        rw [ha, add_plain] at h1
        have hg : ((List.range len).map Z)[k]?.getD [] = Z k := by simp [hk]
        rw [hg]
        obtain ⟨ua, uc, e1, e2, e3⟩ := hZ k (by omega)
        rw [e1] at h1
        exact ⟨a.block, a.off, ua, uc, by rw [← ha], h1, ua, uc, rfl, e2, e3⟩
theorem open_FsU {H : Type} {enc : TypeId × Value → H} {W : World} {r : Reach} {b0 : Nat} {v : Value} {d : DataW H} {p : List MemPlace} (hv : Value.okWide Try.prog W r b0 25 v) (h : DataW.Trod enc Try.prog W 0 (fun _ => true) true 25 v d p) :
    ∃ v0 v1 fd, v = .agg #[v0, v1] ∧ FsR W v0 v1 fd := by
  obtain ⟨cs, rfl, hsz⟩ := okWide_struct Try.underlying25 hv
  obtain ⟨c0, c1, rfl⟩ := array2 (hsz.trans Try.cellsFsF)
  obtain ⟨fuel, hf⟩ := h
  obtain ⟨xs, k, hk, hxy, _, hxl, hg⟩ := DataW.trod_struct Try.underlying25 hf
  match xs, hxl with
  | [y0, y1], _ =>
    have g0 : DataW.trod enc Try.prog W 0 (fun _ => true) true k 22 [c0] = some y0 := by simpa [Value.cells, Try.cellsInosF] using hg 0 _ rfl
    have g1 : DataW.trod enc Try.prog W 0 (fun _ => true) true k 23 [c1] = some y1 := by simpa [Value.cells, Try.cellsBytsF] using hg 1 _ rfl
    obtain ⟨ds, hds⟩ := open_Inos g0
    obtain ⟨zss, hz⟩ := open_Byts Try.underlying23 Try.underlying85 Try.underlying5 Try.cellsBytF Try.cellsByteF g1
    exact ⟨c0, c1, (ds, zss), rfl, hds, hz⟩
end Go.Proofs.Ytlacppjlclfpmaa

namespace Go.Proofs.Ytlacppjlclfpmaa
open Go.RowKit
set_option maxRecDepth 100000

/-- The sizes of the first k inodes, summed. -/
def sumS (ds : List ID) : Nat → Int
  | 0 => 0
  | k + 1 => sumS ds k + (ds[k]?.getD id0).2.2.1
def sizeR (d : FD) : Int × Int := if fsF d = 0 then (0, sumS d.1 d.1.length) else (fsF d, 0)
theorem sumS_in {ds : List ID} (h : insF ds = 0) : ∀ k, k ≤ ds.length → 0 ≤ sumS ds k ∧ sumS ds k ≤ 32 * (k : Int)
  | 0, _ => by simp [sumS]
  | k + 1, hk => by
    have h1 := sumS_in h k (by omega)
    have h2 := ino_size (ins_ino h k (by omega))
    unfold sumS
    omega

set_option maxHeartbeats 3200000 in
theorem specSizeOU (w : World) (a1 : Option Addr) (n1 c1 : Nat) (a2 : Option Addr) (n2 c2 : Nat) (d : FD) (h : FsR w (.slice a1 n1 c1) (.slice a2 n2 c2) d) (hs : sizeFs d ≤ 1048576) :
    Calls Try.prog 9 #[.agg #[.slice a1 n1 c1, .slice a2 n2 c2]] w fun e w' => e = .returned (.agg #[.int .i64 (sizeR d).1, .int .i64 (sizeR d).2]) ∧ Below w.heap.size w w' := by
  obtain ⟨hx0, rfl, rfl⟩ := FsX.box h 32
  have hx := hx0.later (later1 _ (.cells #[.int .i64 0, .int .i64 0] 28))
  have hsi : sizeInos d.1 ≤ 1048576 := by unfold sizeFs at hs; omega
  have hrow0 : OwnRow ((w.alloc (.cells #[.slice a1 d.1.length c1, .slice a2 d.2.length c2] 32)).alloc (.cells #[.int .i64 0, .int .i64 0] 28)) (w.heap.size + 1) 2 (fun i => if i = 0 then .int .i64 0 else .int .i64 0) := by
    have := OwnRow.newS (w.alloc (.cells #[.slice a1 d.1.length c1, .slice a2 d.2.length c2] 32)) (.int .i64 0) (.int .i64 0) 28
    rw [World.size_alloc] at this
    exact this
  have HB0 : Hid (Below w.heap.size w ((w.alloc (.cells #[.slice a1 d.1.length c1, .slice a2 d.2.length c2] 32)).alloc (.cells #[.int .i64 0, .int .i64 0] 28))) := later2 _ _ _
  have HRB : Hid (OwnRow _ (w.heap.size + 1) 2 _) := hrow0
  have HX : Hid (Bx ((w.alloc (.cells #[.slice a1 d.1.length c1, .slice a2 d.2.length c2] 32)).alloc (.cells #[.int .i64 0, .int .i64 0] 28)) w.heap.size [.slice a1 d.1.length c1, .slice a2 d.2.length c2]) := (Bx.new w [.slice a1 d.1.length c1, .slice a2 d.2.length c2] _).later (later1 _ _)
  have HR : Hid (sizeR d = if fsF d = 0 then (0, sumS d.1 d.1.length) else (fsF d, 0)) := rfl
  rw [HR.out]
  have HF : Hid (Calls Try.prog 33 _ _ _) := l6Fault_any _ _ _ d _ _ _ _ hx hsi
  obtain ⟨_, _, e2, _, hc⟩ := h.1.open'
  simp only [Value.slice.injEq] at e2
  obtain ⟨rfl, _, rfl⟩ := e2
  have HC : Hid (AtI w a1 d.1.length d.1) := hc
  have hnm : d.1.length ≤ 1048576 := by unfold sizeInos at hsi; omega
  have HSI : Hid (fsF d = 0 → ∀ k, k ≤ d.1.length → 0 ≤ sumS d.1 k ∧ sumS d.1 k ≤ 32 * (k : Int)) := fun hf => sumS_in (fsE_zero (fsF_zero hf)).1
  have HSN : Hid (∀ k, sumS d.1 (k + 1) = sumS d.1 k + (d.1[k]?.getD id0).2.2.1) := fun k => rfl
  have HS0 : Hid (sumS d.1 0 = 0) := rfl
  clear HR h hx hx0 hrow0 hs hsi hc
  generalize fsF d = r at *
  generalize d.1.length = n at *
  generalize sumS d.1 = S at *
  by_cases hf : r = 0
  rotate_left
  · rw [if_neg hf]
    have hb : (r != 0) = true := by simpa using hf
    clear hf
    go_enter Try.func9, Try.ntmps9
    go_wp2_with fail
    refine HF.out.mono ?_
    rintro e w1 ⟨rfl, hb1⟩
    have HB1 : Hid (Below w.heap.size w w1) := HB0.out.trans (hb1.mono HB0.out.size)
    have hrow := HRB.out.later hb1
    have t0 := hrow.cell (i := 0) (by omega)
    have t1 := hrow.cell (i := 1) (by omega)
    have s0 := hrow.frozen 0
    have s1 := hrow.frozen 1
    simp only [ite_self] at t0 t1
    clear hb1 hrow
    go_wp2
    exact bodyPost_ret (v := .agg #[.int .i64 r, .int .i64 0]) (by simp [results, Try.results9, go_sem, t0, t1]) rfl ⟨rfl, (HB1.out.setCell (by simp) _).setCell (by simp) _⟩
  · rw [if_pos hf]
    replace HSI : Hid (∀ k, k ≤ n → 0 ≤ S k ∧ S k ≤ 32 * (k : Int)) := HSI.out hf
    subst hf
    go_enter Try.func9, Try.ntmps9
    go_wp2_with fail
    refine HF.out.mono ?_
    rintro e w1 ⟨rfl, hb1⟩
    have HB1 : Hid (Below w.heap.size w w1) := HB0.out.trans (hb1.mono HB0.out.size)
    have HRW : Hid (OwnRow w1 (w.heap.size + 1) 2 _) := HRB.out.later hb1
    have HX1 : Hid (Bx w1 w.heap.size [.slice a1 n c1, .slice a2 d.2.length c2]) := HX.out.later hb1
    replace HC : Hid (AtI w1 a1 n d.1) := HC.out.later HB1.out
    have hw1 : w.heap.size + 2 ≤ w1.heap.size := by have := hb1.size; simp at this; omega
    clear hb1 HX HRB HF HB0
    go_wp2
    go_loopw [4, 5] (fun q i wr => ∃ j m : Nat, j ≤ n ∧ i = .int .i64 j ∧ q = .int .i64 (S j) ∧ wr = w1.drewN m) (fun _ i _ => n - (intOf i).toNat)
    case atStart => exact ⟨0, 0, Nat.zero_le _, rfl, by rw [HS0.out], rfl⟩
    case round =>
      obtain ⟨j, m, hj, rfl, rfl, rfl⟩ := hrel
      have x0 := HX1.out 0 _ rfl
      by_cases hlt : j < n
      · obtain ⟨b, o, rfl, hI⟩ := HC.out j hlt
        obtain ⟨_, _, _, _, _, _, k2, _, _, _⟩ := hI
        have HQ : Hid (S (j + 1) = S j + (d.1[j]?.getD id0).2.2.1) := HSN.out j
        have q0 := HSI.out j (by omega)
        have q1 := HSI.out (j + 1) (by omega)
        rw [HQ.out] at q1
        generalize S j = sj at *
        generalize (d.1[j]?.getD id0).2.2.1 = z at *
        obtain ⟨q2, q3⟩ := q0
        obtain ⟨q4, q5⟩ := q1
        go_wp2
        go_roundw
        case rel => exact ⟨j + 1, _, by omega, by go_num, by rw [HQ.out], rfl⟩
        case measure => simp [intOf]; omega
      · have HJ : Hid (S j = S n) := by unfold Hid; rw [show j = n by omega]
        have t0 := HRW.out.cell (i := 0) (by omega)
        have t1 := HRW.out.cell (i := 1) (by omega)
        have s0 := HRW.out.frozen 0
        have s1 := HRW.out.frozen 1
        simp only [ite_self] at t0 t1
        go_wp2
        exact bodyPost_ret (v := .agg #[.int .i64 0, .int .i64 (S j)]) (by simp [results, Try.results9, go_sem, t0, t1]) rfl ⟨by rw [HJ.out], ((below_drewN HB1.out _).setCell (by simp) _).setCell (by simp) _⟩

set_option maxHeartbeats 3200000 in
theorem implSizeOU (w : World) (a1 : Option Addr) (n1 c1 : Nat) (a2 : Option Addr) (n2 c2 : Nat) (d : FD) (h : FsR w (.slice a1 n1 c1) (.slice a2 n2 c2) d) (hs : sizeFs d ≤ 1048576) :
    Calls Try.prog 11 #[.agg #[.slice a1 n1 c1, .slice a2 n2 c2]] w fun e w' => e = .returned (.agg #[.int .i64 (sizeR d).1, .int .i64 (sizeR d).2]) ∧ Below w.heap.size w w' := by
  have hsi : sizeInos d.1 ≤ 1048576 := by unfold sizeFs at hs; omega
  have hrow0 : OwnRow ((w.alloc (.cells #[.slice a1 n1 c1, .slice a2 n2 c2] 32)).alloc (.cells #[.int .i64 0, .int .i64 0] 28)) (w.heap.size + 1) 2 (fun i => if i = 0 then .int .i64 0 else .int .i64 0) := by
    have := OwnRow.newS (w.alloc (.cells #[.slice a1 n1 c1, .slice a2 n2 c2] 32)) (.int .i64 0) (.int .i64 0) 28
    rw [World.size_alloc] at this
    exact this
  have HB0 : Hid (Below w.heap.size w ((w.alloc (.cells #[.slice a1 n1 c1, .slice a2 n2 c2] 32)).alloc (.cells #[.int .i64 0, .int .i64 0] 28))) := later2 _ _ _
  have HRB : Hid (OwnRow _ (w.heap.size + 1) 2 _) := hrow0
  have HX : Hid (Bx ((w.alloc (.cells #[.slice a1 n1 c1, .slice a2 n2 c2] 32)).alloc (.cells #[.int .i64 0, .int .i64 0] 28)) w.heap.size [.slice a1 n1 c1, .slice a2 n2 c2]) := (Bx.new w [.slice a1 n1 c1, .slice a2 n2 c2] _).later (later1 _ _)
  have HR : Hid (sizeR d = if fsF d = 0 then (0, sumS d.1 d.1.length) else (fsF d, 0)) := rfl
  rw [HR.out]
  have HF : Hid (∀ W, Below w.heap.size w W → Calls Try.prog 36 #[.agg #[.slice a1 n1 c1, .slice a2 n2 c2]] W fun e w' => e = .returned (.int .i64 (fsF d)) ∧ Below W.heap.size W w') := fun W hW => implFsU W _ _ _ _ _ _ d (h.later hW) hs
  obtain ⟨_, _, e2, _, hc⟩ := h.1.open'
  simp only [Value.slice.injEq] at e2
  obtain ⟨rfl, rfl, rfl⟩ := e2
  have HC : Hid (AtI w a1 d.1.length d.1) := hc
  have hnm : d.1.length ≤ 1048576 := by unfold sizeInos at hsi; omega
  have HSI : Hid (fsF d = 0 → ∀ k, k ≤ d.1.length → 0 ≤ sumS d.1 k ∧ sumS d.1 k ≤ 32 * (k : Int)) := fun hf => sumS_in (fsE_zero (fsF_zero hf)).1
  have HSN : Hid (∀ k, sumS d.1 (k + 1) = sumS d.1 k + (d.1[k]?.getD id0).2.2.1) := fun k => rfl
  have HS0 : Hid (sumS d.1 0 = 0) := rfl
  have x0 := HX.out 0 _ rfl
  have x1 := HX.out 1 _ rfl
  clear HR h hrow0 hs hsi hc
  generalize fsF d = r at *
  generalize d.1.length = n at *
  generalize sumS d.1 = S at *
  by_cases hf : r = 0
  rotate_left
  · rw [if_neg hf]
    have hb : (r != 0) = true := by simpa using hf
    clear hf
    go_enter Try.func11, Try.ntmps11
    go_wp2_with fail
    refine (HF.out _ HB0.out).mono ?_
    rintro e w1 ⟨rfl, hb1⟩
    have HB1 : Hid (Below w.heap.size w w1) := HB0.out.trans (hb1.mono HB0.out.size)
    have hrow := HRB.out.later hb1
    have t0 := hrow.cell (i := 0) (by omega)
    have t1 := hrow.cell (i := 1) (by omega)
    have s0 := hrow.frozen 0
    have s1 := hrow.frozen 1
    simp only [ite_self] at t0 t1
    clear hb1 hrow x0 x1
    go_wp2
    exact bodyPost_ret (v := .agg #[.int .i64 r, .int .i64 0]) (by simp [results, Try.results11, go_sem, t0, t1]) rfl ⟨rfl, (HB1.out.setCell (by simp) _).setCell (by simp) _⟩
  · rw [if_pos hf]
    replace HSI : Hid (∀ k, k ≤ n → 0 ≤ S k ∧ S k ≤ 32 * (k : Int)) := HSI.out hf
    subst hf
    go_enter Try.func11, Try.ntmps11
    go_wp2_with fail
    refine (HF.out _ HB0.out).mono ?_
    rintro e w1 ⟨rfl, hb1⟩
    have HB1 : Hid (Below w.heap.size w w1) := HB0.out.trans (hb1.mono HB0.out.size)
    have HRW : Hid (OwnRow w1 (w.heap.size + 1) 2 _) := HRB.out.later hb1
    have hw1 : w.heap.size + 2 ≤ w1.heap.size := by have := hb1.size; simp at this; omega
    replace x0 := (HX.out.later hb1) 0 _ rfl
    clear x1
    replace HC : Hid (AtI w1 a1 n d.1) := HC.out.later HB1.out
    clear hb1 HX HRB HF HB0
    go_wp2
    go_loopw [4, 16] (fun q i wr => ∃ j : Nat, j ≤ n ∧ i = .int .i64 j ∧ q = .int .i64 (S j) ∧ Below w1.heap.size w1 wr) (fun _ i _ => n - (intOf i).toNat)
    case atStart => exact ⟨0, Nat.zero_le _, rfl, by rw [HS0.out], Below.refl _ _⟩
    case round =>
      obtain ⟨j, hj, rfl, rfl, hbl⟩ := hrel
      have HBL : Hid (Below w1.heap.size w1 wr) := hbl
      have HBW : Hid (Below w.heap.size w wr) := HB1.out.trans (hbl.mono HB1.out.size)
      by_cases hlt : j < n
      · obtain ⟨b, o, rfl, hI⟩ := HC.out j hlt
        obtain ⟨_, _, _, _, k0, k1, k2, k3, k4, _⟩ := hI.later hbl
        have hbz := lt_of_cell k0
        have HQ : Hid (S (j + 1) = S j + (d.1[j]?.getD id0).2.2.1) := HSN.out j
        have q0 := HSI.out j (by omega)
        have q1 := HSI.out (j + 1) (by omega)
        rw [HQ.out] at q1
        generalize S j = sj at *
        generalize (d.1[j]?.getD id0).2.2.1 = z at *
        obtain ⟨q2, q3⟩ := q0
        obtain ⟨q4, q5⟩ := q1
        clear hbl x0
        go_wp2
        go_roundw
        case rel => exact ⟨j + 1, by omega, by go_num, by rw [HQ.out], HBL.out.trans ((later1 _ _).mono HBL.out.size)⟩
        case measure => simp [intOf]; omega
      · have HJ : Hid (S j = S n) := by unfold Hid; rw [show j = n by omega]
        have hrow := HRW.out.later hbl
        have t0 := hrow.cell (i := 0) (by omega)
        have t1 := hrow.cell (i := 1) (by omega)
        have s0 := hrow.frozen 0
        have s1 := hrow.frozen 1
        simp only [ite_self] at t0 t1
        clear hbl hrow x0
        go_wp2
        exact bodyPost_ret (v := .agg #[.int .i64 0, .int .i64 (S j)]) (by simp [results, Try.results11, go_sem, t0, t1]) rfl ⟨by rw [HJ.out], (HBW.out.setCell (by simp) _).setCell (by simp) _⟩
end Go.Proofs.Ytlacppjlclfpmaa

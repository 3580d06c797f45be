/- InodePuts, both sides. -/
import Derived.Test.YtlacppjlclfpmaaM15
import Derived.Test.YtlacppjlclfpmaaM14
namespace Go.Proofs.Ytlacppjlclfpmaa
open Go.RowKit
set_option maxRecDepth 100000

theorem field_inl (z : Int) (a : Option Addr) (n c : Nat) (w : World) : (Instr.field 50 (.agg #[.int .i64 z, .slice a n c]) 1).run Try.prog w = .ok (.slice a n c) w := by kernel_rfl
theorem packL_most (d : ID) : (packL d).length ≤ 4 + 2 * sizeIno d := by
  have h1 := entsW_len d.2.2.2.2
  have hd : sizeIno d = d.2.2.2.1.length + sizeN d.2.2.2.2 := rfl
  unfold packL
  rw [hd]
  by_cases h : d.1 = 2
  · rw [if_pos h]
    simp only [List.length_append, List.length_cons, List.length_nil]
    omega
  · rw [if_neg h]
    simp only [List.length_append, List.length_cons, List.length_nil]
    omega
theorem inoW_len {ds : List ID} (hs : sizeInos ds ≤ 1048576) (i : Nat) : (inoW ds i).length ≤ 2097156 := by
  unfold inoW
  by_cases h : i < ds.length
  · rw [if_pos h]
    have h1 := packL_most (ds[i]?.getD id0)
    have h2 := isz_le ds i
    unfold sizeInos at hs
    omega
  · rw [if_neg h]; simp
theorem inoPutsR_span (d : FD) (hs : sizeFs d ≤ 1048576) : spanPs (inoPutsR d).2 ≤ 30000000 := by
  have hsi : sizeInos d.1 ≤ 1048576 := by unfold sizeFs at hs; omega
  unfold inoPutsR
  by_cases h : fsF d = 0
  · rw [if_pos h]
    have h0 := inoW_len hsi 0
    have h1 := inoW_len hsi 1
    have h2 := inoW_len hsi 2
    have h3 := inoW_len hsi 3
    have h4 := inoW_len hsi 4
    have h5 := inoW_len hsi 5
    have h6 := inoW_len hsi 6
    have h7 := inoW_len hsi 7
    have h8 := inoW_len hsi 8
    have h9 := inoW_len hsi 9
    show spanPs (inoPuts d.1) ≤ 30000000
    simp only [spanPs, inoPuts, wlens, List.range, List.range.loop, List.map_cons, List.map_nil, List.length_cons, List.length_nil, List.sum_cons, List.sum_nil]
    omega
  · rw [if_neg h]
    simp [spanPs, wlens]

set_option maxHeartbeats 3200000 in
theorem specInoPutsU (w : World) (a1 : Option Addr) (n1 c1 : Nat) (a2 : Option Addr) (n2 c2 : Nat) (d : FD) (h : FsR w (.slice a1 n1 c1) (.slice a2 n2 c2) d) (hs : sizeFs d ≤ 1048576) :
    Calls Try.prog 24 #[.agg #[.slice a1 n1 c1, .slice a2 n2 c2]] w (AnsPR w (inoPutsR d)) := by
  obtain ⟨hx0, rfl, rfl⟩ := FsX.box h 32
  have hx := hx0.later (later1 _ (.cells #[.int .i64 0, .slice none 0 0] 44))
  have hsi : sizeInos d.1 ≤ 1048576 := by unfold sizeFs at hs; omega
  have HF : Hid (Calls Try.prog 33 _ _ _) := l6Fault_any _ _ _ d _ _ _ _ hx hsi
  have HU : Hid (∀ W, Below _ _ W → Calls Try.prog 50 _ W _) := fun W hW => l12Inodes_any W _ _ d _ _ _ _ (hx.later hW) hsi
  have HRA : Hid (fsF d = 0 → inoPutsR d = (0, inoPuts d.1)) := fun h1 => by unfold inoPutsR; rw [if_pos h1]
  have HRC : Hid (¬ fsF d = 0 → inoPutsR d = (fsF d, [])) := fun h1 => by unfold inoPutsR; rw [if_neg h1]
  clear h hx hx0 hs hsi
  generalize inoPuts d.1 = PS at *
  generalize fsF d = r at *
  generalize inoPutsR d = RES at *
  generalize d.1.length = n1 at *
  generalize d.2.length = n2 at *
  have HB0 : Hid (Below w.heap.size w ((w.alloc (.cells #[.slice a1 n1 c1, .slice a2 n2 c2] 32)).alloc (.cells #[.int .i64 0, .slice none 0 0] 44))) := later2 _ _ _
  have HX0 : Hid (Bx ((w.alloc (.cells #[.slice a1 n1 c1, .slice a2 n2 c2] 32)).alloc (.cells #[.int .i64 0, .slice none 0 0] 44)) (w.heap.size) [.slice a1 n1 c1, .slice a2 n2 c2]) := (Bx.new w [.slice a1 n1 c1, .slice a2 n2 c2] _).later (later1 _ _)
  have HR0 : Hid (OwnRow ((w.alloc (.cells #[.slice a1 n1 c1, .slice a2 n2 c2] 32)).alloc (.cells #[.int .i64 0, .slice none 0 0] 44)) (w.heap.size + 1) 2 (cel [.int .i64 0, .slice none 0 0])) := (show OwnRow ((w.alloc (.cells #[.slice a1 n1 c1, .slice a2 n2 c2] 32)).alloc (.cells #[.int .i64 0, .slice none 0 0] 44)) (w.heap.size + 1) 2 (cel [.int .i64 0, .slice none 0 0]) from by have := newCel (w.alloc (.cells #[.slice a1 n1 c1, .slice a2 n2 c2] 32)) [.int .i64 0, .slice none 0 0] 44; rw [World.size_alloc] at this; exact this)
  go_enter Try.func24, Try.ntmps24
  go_wp2_with fail
  refine HF.out.mono ?_
  rintro e w1 ⟨rfl, hb⟩
  have HL1 : Hid (Below _ _ w1) := hb
  have HB1 : Hid (Below w.heap.size w w1) := HB0.out.trans (hb.mono HB0.out.size)
  have HX1 : Hid (Bx w1 (w.heap.size) [.slice a1 n1 c1, .slice a2 n2 c2]) := HX0.out.later hb
  have HR1 : Hid (OwnRow w1 (w.heap.size + 1) 2 (cel [.int .i64 0, .slice none 0 0])) := HR0.out.later hb
  clear hb
  by_cases hf : r = 0
  · skip
    have hfb : (r != 0) = false := by simpa using hf
    have HE : Hid (RES = (0, PS)) := HRA.out hf
    go_wp2_with fail
    refine (HU.out _ HL1.out).mono ?_
    rintro e w2 ⟨av, nv, cv, rfl, hb, ho⟩
    have HB2 : Hid (Below w.heap.size w w2) := HB1.out.trans (hb.mono HB1.out.size)
    have HX2 : Hid (Bx w2 (w.heap.size) [.slice a1 n1 c1, .slice a2 n2 c2]) := HX1.out.later hb
    have HR2 : Hid (OwnRow w2 (w.heap.size + 1) 2 (cel [.int .i64 0, .slice none 0 0])) := HR1.out.later hb
    have HI : Hid (PutsO w2 (.slice av nv cv) PS (fun b => w.heap.size + 1 < b ∧ b < w2.heap.size)) := ho.mono fun b hb' => ⟨by have := hb'.1; have := HR1.out.lt; omega, hb'.2⟩
    clear hb ho
    have hrr := HR2.out
    have t0 : w2.cell? ⟨w.heap.size + 1, 0, none⟩ = some (.int .i64 0) := hrr.cell (i := 0) (by omega)
    have t1 : w2.cell? ⟨w.heap.size + 1, 1, none⟩ = some (.slice none 0 0) := hrr.cell (i := 1) (by omega)
    have f0 := hrr.frozen 0
    have f1 := hrr.frozen 1
    have hlr := hrr.lt
    clear hrr
    go_wp2
    exact bodyPost_ret (v := .agg #[.int .i64 0, .slice av nv cv]) (by simp [results, Try.results24, go_sem, t0, t1]) rfl (by rw [HE.out]; exact AnsPR.putB HB2.out (by omega) HI.out _ _)
  · skip
    have hbb : (r != 0) = true := by simpa using hf
    have HE : Hid (RES = (r, [])) := HRC.out hf
    have hrr := HR1.out
    have t0 : w1.cell? ⟨w.heap.size + 1, 0, none⟩ = some (.int .i64 0) := hrr.cell (i := 0) (by omega)
    have t1 : w1.cell? ⟨w.heap.size + 1, 1, none⟩ = some (.slice none 0 0) := hrr.cell (i := 1) (by omega)
    have f0 := hrr.frozen 0
    have f1 := hrr.frozen 1
    have hlr := hrr.lt
    clear hrr
    go_wp2
    exact bodyPost_ret (v := .agg #[.int .i64 r, .slice none 0 0]) (by simp [results, Try.results24, go_sem, t0, t1]) rfl (by rw [HE.out]; exact AnsPR.badB r HB1.out (by omega) _ _)

set_option maxHeartbeats 3200000 in
theorem inodeWords_any (w : World) (a1 : Option Addr) (n1 c1 : Nat) (a2 : Option Addr) (n2 c2 : Nat) (d : FD) (j : Nat) (h : FsR w (.slice a1 n1 c1) (.slice a2 n2 c2) d) (hs : sizeFs d ≤ 1048576) (hi : insF d.1 = 0) :
    Calls Try.prog 52 #[.agg #[.slice a1 n1 c1, .slice a2 n2 c2], .int .i64 (j : Int)] w fun e w' => ∃ a n c, e = .returned (.slice a n c) ∧ Below w.heap.size w w' ∧ IntsO w' (.slice a n c) (inoW d.1 j) (fresh w w') := by
  have hsi : sizeInos d.1 ≤ 1048576 := by unfold sizeFs at hs; omega
  have hss : (isz d.1).sum ≤ 1048576 ∧ d.1.length ≤ 1048576 := by unfold sizeInos at hsi; omega
  obtain ⟨_, _, e2, _, hc⟩ := h.1.open'
  simp only [Value.slice.injEq] at e2
  obtain ⟨rfl, rfl, rfl⟩ := e2
  have HB0 : Hid (Below w.heap.size w (w.alloc (.cells #[.slice a1 d.1.length c1, .slice a2 n2 c2] 32))) := later1 _ _
  have HX : Hid (Bx (w.alloc (.cells #[.slice a1 d.1.length c1, .slice a2 n2 c2] 32)) w.heap.size [.slice a1 d.1.length c1, .slice a2 n2 c2]) := Bx.new w [.slice a1 d.1.length c1, .slice a2 n2 c2] _
  have x0 := HX.out 0 _ rfl
  have x1 := HX.out 1 _ rfl
  have HQ : Hid (∀ W, Calls Try.prog 81 #[.agg #[.slice a1 d.1.length c1, .slice a2 n2 c2], .int .i64 (j : Int)] W fun e w' => e = .returned (.bool (decide (0 ≤ (j : Int) ∧ (j : Int) < (d.1.length : Int)))) ∧ Below W.heap.size W w') := fun W => isInode_any W _ _ _ _ _ _ _
  by_cases hj : j < d.1.length
  · have hd : decide (0 ≤ (j : Int) ∧ (j : Int) < (d.1.length : Int)) = true := by simp; omega
    rw [hd] at HQ
    obtain ⟨b1, o1, rfl, hI⟩ := hc j hj
    have HI : Hid (InoAt w b1 (o1 + j * 5) (d.1[j]?.getD id0)) := hI
    have hir := ins_ino hi j hj
    have HPK : Hid (∀ W aB nB cB aE nE cE, InoR W (.int .i64 (d.1[j]?.getD id0).1) (.int .i64 (d.1[j]?.getD id0).2.1) (.int .i64 (d.1[j]?.getD id0).2.2.1) (.slice aB nB cB) (.slice aE nE cE) (d.1[j]?.getD id0) → Calls Try.prog 82 #[.agg #[.int .i64 (d.1[j]?.getD id0).1, .int .i64 (d.1[j]?.getD id0).2.1, .int .i64 (d.1[j]?.getD id0).2.2.1, .slice aB nB cB, .slice aE nE cE]] W (AnsIR W (0, inoW d.1 j))) := fun W aB nB cB aE nE cE hW => by
      have := implPackU W _ _ _ aB nB cB aE nE cE (d.1[j]?.getD id0) hW (by have := isz_le d.1 j; omega)
      have e1 : packR (d.1[j]?.getD id0) = (0, inoW d.1 j) := by unfold packR inoW; rw [if_pos hir, if_pos hj]
      rw [e1] at this
      exact this
    clear hd h hc hs hsi hss hir hi hI
    generalize inoW d.1 j = WS at *
    generalize d.1[j]?.getD id0 = X at *
    generalize d.1.length = n at *
    go_enter Try.func52, Try.ntmps52
    go_wp2_with fail
    refine (HQ.out _).mono ?_
    rintro e w1 ⟨rfl, hb⟩
    have HB1 : Hid (Below w.heap.size w w1) := HB0.out.trans (hb.mono HB0.out.size)
    have y0 := (HX.out.later hb) 0 _ rfl
    obtain ⟨aB, cB, aE, cE, k0, k1, k2, k3, k4, k5⟩ := HI.out.later HB1.out
    have HK : Hid (InoR w1 _ _ _ _ _ X) := k5
    clear hb k5 x0 x1
    generalize X.2.2.2.1.length = lB at *
    generalize X.2.2.2.2.length = lE at *
    go_wp2_with fail
    refine (HPK.out _ _ _ _ _ _ _ HK.out).mono ?_
    rintro e w2 ⟨a, m, c, rfl, hb, ho⟩
    have HB2 : Hid (Below w.heap.size w w2) := HB1.out.trans (hb.mono HB1.out.size)
    have HO : Hid (IntsO w2 (.slice a m c) WS (fresh w w2)) := ho.mono fun b hb' => ⟨Nat.le_trans HB1.out.size hb'.1, hb'.2⟩
    have fl := field_inl 0 a m c w2
    clear hb ho
    go_wp2
    go_ret
    exact ⟨a, m, c, rfl, HB2.out, HO.out⟩
  · have hd : decide (0 ≤ (j : Int) ∧ (j : Int) < (d.1.length : Int)) = false := by simp; omega
    rw [hd] at HQ
    have HE : Hid (inoW d.1 j = []) := by unfold Hid inoW; rw [if_neg hj]
    clear hd h hc hs hsi hss hi hj
    generalize inoW d.1 j = WS at *
    generalize d.1.length = n at *
    go_enter Try.func52, Try.ntmps52
    go_wp2_with fail
    refine (HQ.out _).mono ?_
    rintro e w1 ⟨rfl, hb⟩
    have HB1 : Hid (Below w.heap.size w w1) := HB0.out.trans (hb.mono HB0.out.size)
    clear hb
    go_wp2
    go_ret
    exact ⟨none, 0, 0, rfl, HB1.out, by rw [HE.out]; exact Or.inl ⟨rfl, _, _, rfl⟩⟩

set_option maxHeartbeats 3200000 in
theorem putsFromI_any (w : World) (first : Int) (a : Option Addr) (c : Nat) (zs : List Int) (fv : Value) (T : Int → List Int) (hz : Ints w (.slice a zs.length c) zs) (hl : zs.length ≤ 1048576) (h0 : 0 ≤ first ∧ first ≤ 1000) (hr : ∀ k, k < zs.length → 0 ≤ zs[k]?.getD 0 ∧ zs[k]?.getD 0 ≤ 1000)
    (hT : ∀ W, Below w.heap.size w W → ∀ k, k < zs.length → Calls Try.prog 52 #[fv, .int .i64 (zs[k]?.getD 0)] W fun e w' => ∃ a n c, e = .returned (.slice a n c) ∧ Below W.heap.size W w' ∧ IntsO w' (.slice a n c) (T (zs[k]?.getD 0)) (fresh W w')) :
    Calls Try.prog 43 #[.int .i64 first, .slice a zs.length c, .func (.func 52) #[fv] #[]] w fun e w' => ∃ a n c, e = .returned (.slice a n c) ∧ Below w.heap.size w w' ∧ PutsO w' (.slice a n c) (zs.map fun z => (first + z, T z)) (fresh w w') := by
  obtain ⟨_, _, e2, _, hat⟩ := hz.open'
  simp only [Value.slice.injEq] at e2
  obtain ⟨rfl, -, rfl⟩ := e2
  have HAT : Hid (At1 w a zs.length (fun k => .int .i64 (zs[k]?.getD 0))) := hat
  have HTT : Hid (∀ W, Below w.heap.size w W → ∀ k, k < zs.length → Calls Try.prog 52 #[fv, .int .i64 (zs[k]?.getD 0)] W _) := hT
  have HG : Hid (∀ k, k < zs.length → (zs.map fun z => (first + z, T z))[k]?.getD (0, []) = (first + zs[k]?.getD 0, T (zs[k]?.getD 0))) := fun k hk => by
    rw [List.getElem?_map, List.getElem?_eq_getElem hk]; rfl
  have HRG : Hid (∀ k, k < zs.length → 0 ≤ zs[k]?.getD 0 ∧ zs[k]?.getD 0 ≤ 1000) := hr
  have HL : Hid ((zs.map fun z => (first + z, T z)).length = zs.length) := by unfold Hid; simp
  obtain ⟨h1, h2⟩ := h0
  clear hT hat hz hr
  generalize (zs.map fun z => (first + z, T z)) = PS at *
  generalize hn : zs.length = n at *
  clear hn
  go_enter Try.func43, Try.ntmps43
  go_wp2
  go_loopw [7, 12] (fun q i wr => ∃ (j : Nat) (u : Nat → List Value) (G : Nat → Nat → Prop), j ≤ n ∧ i = .int .i64 j ∧ Below w.heap.size w wr ∧ GRow PutP wr w.heap.size 100 2 q j (fun k => PS[k]?.getD (0, [])) u G) (fun _ i _ => n - (intOf i).toNat)
  case atStart => exact ⟨0, _, _, Nat.zero_le _, rfl, Below.refl _ _, GRow.nil w _ _ _ _⟩
  case round =>
    obtain ⟨j, u, G, hj, rfl, hbl, hrow⟩ := hrel
    obtain ⟨aQ, cQ, rfl⟩ := hrow.shape
    have HBL : Hid (Below w.heap.size w wr) := hbl
    have HRW : Hid (GRow PutP wr w.heap.size 100 2 (.slice aQ j cQ) j (fun k => PS[k]?.getD (0, [])) u G) := hrow
    clear hrow
    by_cases hlt : j < n
    · have HGJ : Hid (PS[j]?.getD (0, []) = (first + zs[j]?.getD 0, T (zs[j]?.getD 0))) := HG.out j hlt
      obtain ⟨q1, q2⟩ := HRG.out j hlt
      have HTJ := HTT.out wr hbl j hlt
      have HTJ' : Hid (Calls Try.prog 52 #[fv, .int .i64 (zs[j]?.getD 0)] wr _) := HTJ
      obtain ⟨b, off, rfl, k0⟩ := HAT.out j hlt
      replace k0 : wr.cell? ⟨b, off + j, none⟩ = some (.int .i64 (zs[j]?.getD 0)) := cell_later hbl k0
      clear HTJ hbl
      generalize zs[j]?.getD 0 = z at *
      go_wp2_with fail
      refine HTJ'.out.mono ?_
      rintro e w1 ⟨av, m, cv, rfl, hb1, ho⟩
      obtain ⟨_, _, ev, _⟩ := ho.reads.shape
      simp only [Value.slice.injEq] at ev
      obtain ⟨-, hm, -⟩ := ev
      obtain ⟨g, cap, X, u', G', hr, hbx, _, hgx, -⟩ := append_putG wr w1 w.heap.size j _ _ u G HRW.out HBL.out.size (by omega) hb1 (first + z) av m cv (T z) HGJ.out (fresh wr w1) (fun c hc => hc) hm ho w1.heap.size rfl
      have HR : Hid (_ = _) := hr
      have HBX : Hid (Below w.heap.size w X) := (HBL.out.trans hbx)
      have HGX : Hid (GRow PutP X w.heap.size 100 2 _ (j + 1) (fun k => PS[k]?.getD (0, [])) u' G') := hgx
      clear hr hbx hgx hb1 ho HRW HGJ HTJ' hm
      go_wp2_with (at_builtin; refine wpList_append_run rfl _ _ 42 rfl _ _ rfl rfl _ _ HR.out ?_)
      go_roundw
      case rel => exact ⟨j + 1, _, _, by omega, by go_num, HBX.out, HGX.out⟩
      case measure => simp [intOf]; omega
    · have e : j = n := by omega
      subst e
      have HF : Hid (PutsO wr (.slice aQ j cQ) PS (fresh w wr)) := HRW.out.puts HL.out _ fun c h1 h2 => ⟨h1, h2⟩
      clear HRW HAT HG HTT hbl
      go_wp2
      go_ret
      exact ⟨_, _, _, rfl, HBL.out, HF.out⟩

set_option maxHeartbeats 3200000 in
theorem implInoPutsU (w : World) (a1 : Option Addr) (n1 c1 : Nat) (a2 : Option Addr) (n2 c2 : Nat) (d : FD) (h : FsR w (.slice a1 n1 c1) (.slice a2 n2 c2) d) (hs : sizeFs d ≤ 1048576) :
    Calls Try.prog 25 #[.agg #[.slice a1 n1 c1, .slice a2 n2 c2]] w (AnsPR w (inoPutsR d)) := by
  have hsi : sizeInos d.1 ≤ 1048576 := by unfold sizeFs at hs; omega
  have HF : Hid (∀ W, Below w.heap.size w W → Calls Try.prog 36 #[.agg #[.slice a1 n1 c1, .slice a2 n2 c2]] W fun e w' => e = .returned (.int .i64 (fsF d)) ∧ Below W.heap.size W w') := fun W hW => implFsU W _ _ _ _ _ _ d (h.later hW) hs
  have HU : Hid (fsF d = 0 → ∀ W ap cp, Below w.heap.size w W → Ints W (.slice ap 10 cp) (tens 10) → Calls Try.prog 43 #[.int .i64 17, .slice ap 10 cp, .func (.func 52) #[.agg #[.slice a1 n1 c1, .slice a2 n2 c2]] #[]] W fun e w' => ∃ a n c, e = .returned (.slice a n c) ∧ Below W.heap.size W w' ∧ PutsO w' (.slice a n c) (inoPuts d.1) (fresh W w')) := fun hf W ap cp hW hi => by
    have hin : insF d.1 = 0 := (fsE_zero (fsF_zero hf)).1
    have e1 : (tens 10).map (fun z => ((17 : Int) + z, inoW d.1 z.toNat)) = inoPuts d.1 := rfl
    have := putsFromI_any W 17 ap cp (tens 10) (.agg #[.slice a1 n1 c1, .slice a2 n2 c2]) (fun z => inoW d.1 z.toNat) hi (by rw [tens_len]; omega) (by omega) (fun k hk => by rw [tens_len] at hk; rw [tens_get hk]; omega) (fun V hV k hk => by
      rw [tens_len] at hk
      rw [tens_get hk, Int.toNat_natCast]
      exact inodeWords_any V _ _ _ _ _ _ d k (h.later (hW.trans (hV.mono hW.size))) hs hin)
    rw [e1] at this
    exact this
  have HPL : Hid (∀ W, Calls Try.prog 51 #[] W fun e w' => ∃ v, e = .returned v ∧ Below W.heap.size W w' ∧ Wds w' W.heap.size v (tens 10)) := inodePlaces_any
  have HRA : Hid (fsF d = 0 → inoPutsR d = (0, inoPuts d.1)) := fun h1 => by unfold inoPutsR; rw [if_pos h1]
  have HRC : Hid (¬ fsF d = 0 → inoPutsR d = (fsF d, [])) := fun h1 => by unfold inoPutsR; rw [if_neg h1]
  clear h hs hsi
  generalize inoPuts d.1 = PS at *
  generalize fsF d = r at *
  generalize inoPutsR d = RES at *
  have HB0 : Hid (Below w.heap.size w ((w.alloc (.cells #[.slice a1 n1 c1, .slice a2 n2 c2] 32)).alloc (.cells #[.int .i64 0, .slice none 0 0] 44))) := later2 _ _ _
  have HX0 : Hid (Bx ((w.alloc (.cells #[.slice a1 n1 c1, .slice a2 n2 c2] 32)).alloc (.cells #[.int .i64 0, .slice none 0 0] 44)) (w.heap.size) [.slice a1 n1 c1, .slice a2 n2 c2]) := (Bx.new w [.slice a1 n1 c1, .slice a2 n2 c2] _).later (later1 _ _)
  have HR0 : Hid (OwnRow ((w.alloc (.cells #[.slice a1 n1 c1, .slice a2 n2 c2] 32)).alloc (.cells #[.int .i64 0, .slice none 0 0] 44)) (w.heap.size + 1) 2 (cel [.int .i64 0, .slice none 0 0])) := (show OwnRow ((w.alloc (.cells #[.slice a1 n1 c1, .slice a2 n2 c2] 32)).alloc (.cells #[.int .i64 0, .slice none 0 0] 44)) (w.heap.size + 1) 2 (cel [.int .i64 0, .slice none 0 0]) from by have := newCel (w.alloc (.cells #[.slice a1 n1 c1, .slice a2 n2 c2] 32)) [.int .i64 0, .slice none 0 0] 44; rw [World.size_alloc] at this; exact this)
  go_enter Try.func25, Try.ntmps25
  have xHX0 := HX0.out 0 _ rfl
  have xHX1 := HX0.out 1 _ rfl
  go_wp2_with fail
  clear xHX0 xHX1
  refine (HF.out _ HB0.out).mono ?_
  rintro e w1 ⟨rfl, hb⟩
  have HB1 : Hid (Below w.heap.size w w1) := HB0.out.trans (hb.mono HB0.out.size)
  have HX1 : Hid (Bx w1 (w.heap.size) [.slice a1 n1 c1, .slice a2 n2 c2]) := HX0.out.later hb
  have HR1 : Hid (OwnRow w1 (w.heap.size + 1) 2 (cel [.int .i64 0, .slice none 0 0])) := HR0.out.later hb
  clear hb
  by_cases hf : r = 0
  · skip
    have hfb : (r != 0) = false := by simpa using hf
    have HE : Hid (RES = (0, PS)) := HRA.out hf
    have HU2 : Hid (∀ W ap cp, Below w.heap.size w W → Ints W (.slice ap 10 cp) (tens 10) → Calls Try.prog 43 #[.int .i64 17, .slice ap 10 cp, .func (.func 52) #[.agg #[.slice a1 n1 c1, .slice a2 n2 c2]] #[]] W _) := HU.out hf
    have xHX0 := HX1.out 0 _ rfl
    have xHX1 := HX1.out 1 _ rfl
    go_wp2_with fail
    go_region_with (first
      | (go_at_call 51; refine (HPL.out _).mono ?_; rintro e w2 ⟨v, rfl, hb, hw⟩; obtain ⟨ap, cp, rfl⟩ := hw.shape; rw [tens_len] at hw ⊢
         have HT2 : Hid (Below w1.heap.size w1 w2) := (Below.refl _ _).drew.trans hb
         have HW2 : Hid (Ints w2 (.slice ap 10 cp) (tens 10)) := (hw.own' (w0 := w1.drew) (Nat.le_refl _)).reads
         have y0 := (HX1.out.later HT2.out) 0 _ rfl
         have y1 := (HX1.out.later HT2.out) 1 _ rfl
         clear hb hw)
      | (go_at_call 43; refine (HU2.out _ _ _ (HB1.out.trans (HT2.out.mono HB1.out.size)) HW2.out).mono ?_; rintro e w3 ⟨av, nv, cv, rfl, hb, ho⟩
         have HT3 : Hid (Below w1.heap.size w1 w3) := HT2.out.trans (hb.mono HT2.out.size)
         have HO3 : Hid (PutsO w3 (.slice av nv cv) PS (fun b => w1.heap.size ≤ b ∧ b < w3.heap.size)) := ho.mono fun b hb' => ⟨Nat.le_trans HT2.out.size hb'.1, hb'.2⟩
         have hrr := HR1.out.later HT3.out
         have t0 : w3.cell? ⟨w.heap.size + 1, 0, none⟩ = some (.int .i64 0) := hrr.cell (i := 0) (by omega)
         have t1 : w3.cell? ⟨w.heap.size + 1, 1, none⟩ = some (.slice none 0 0) := hrr.cell (i := 1) (by omega)
         have f0 := hrr.frozen 0
         have f1 := hrr.frozen 1
         clear hb ho hrr))
    all_goals
      have hlt := HR1.out.lt
      go_wp2
      exact bodyPost_ret (v := .agg #[.int .i64 0, .slice av nv cv]) (by simp [results, Try.results25, go_sem, t0, t1]) rfl (by rw [HE.out]; exact AnsPR.putB (HB1.out.trans (HT3.out.mono HB1.out.size)) (by omega) (HO3.out.mono fun b hb' => ⟨by have := hb'.1; omega, hb'.2⟩) _ _)
  · skip
    have hbb : (r != 0) = true := by simpa using hf
    have HE : Hid (RES = (r, [])) := HRC.out hf
    have hrr := HR1.out
    have t0 : w1.cell? ⟨w.heap.size + 1, 0, none⟩ = some (.int .i64 0) := hrr.cell (i := 0) (by omega)
    have t1 : w1.cell? ⟨w.heap.size + 1, 1, none⟩ = some (.slice none 0 0) := hrr.cell (i := 1) (by omega)
    have f0 := hrr.frozen 0
    have f1 := hrr.frozen 1
    have hlr := hrr.lt
    clear hrr
    go_wp2
    exact bodyPost_ret (v := .agg #[.int .i64 r, .slice none 0 0]) (by simp [results, Try.results25, go_sem, t0, t1]) rfl (by rw [HE.out]; exact AnsPR.badB r HB1.out (by omega) _ _)

end Go.Proofs.Ytlacppjlclfpmaa

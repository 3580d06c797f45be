/- InodePuts, both sides. The walks of the program's rack of bytes: lists of bytes that are copied and set one by one. Lists of inodes are marked, and the marks are held. Lists of lists of bytes, and file systems: the marks are held. Answers that hold a file system: compared, marked, held. NewFs, the program's: a list of lists copied as it stands, and made longer by empty lists. -/
import Derived.Test.YtlohgnidbkechaaM10
import Derived.Test.YtlohgnidbkechaaM04
import Derived.Test.YtlohgnidbkechaaM01
import Derived.Deep.RegionWith
import Derived.Deep.RegionLaw
import Derived.Test.YtlohgnidbkechaaM08
import Derived.Laws.AppendOwn
namespace Go.Proofs.Ytlohgnidbkechaa
open Go.RowKit
set_option maxRecDepth 100000

theorem field_inl (z : Int) (a : Option Addr) (n c : Nat) (w : World) : (Instr.field 82 (.agg #[.int .i64 z, .slice a n c]) 1).run Try.prog w = .ok (.slice a n c) w := by kernel_rfl
theorem packL_most (d : ID) : (packL d).length ≤ 4 + 2 * sizeIno d := by
  have h1 := entsW_len d.2.2.2.2
  have hd : sizeIno d = d.2.2.2.1.length + sizeN d.2.2.2.2 := rfl
  unfold packL
  rw [hd]
  by_cases h : d.1 = 2
  · rw [if_pos h]
    simp only [List.length_append, List.length_cons, List.length_nil]
    omega
  · rw [if_neg h]
    simp only [List.length_append, List.length_cons, List.length_nil]
    omega
theorem inoW_len {ds : List ID} (hs : sizeInos ds ≤ 1048576) (i : Nat) : (inoW ds i).length ≤ 2097156 := by
  unfold inoW
  by_cases h : i < ds.length
  · rw [if_pos h]
    have h1 := packL_most (ds[i]?.getD id0)
    have h2 := isz_le ds i
    unfold sizeInos at hs
    omega
  · rw [if_neg h]; simp
theorem inoPutsR_span (d : FD) (hs : sizeFs d ≤ 1048576) : spanPs (inoPutsR d).2 ≤ 30000000 := by
  have hsi : sizeInos d.1 ≤ 1048576 := by unfold sizeFs at hs; omega
  unfold inoPutsR
  by_cases h : fsF d = 0
  · rw [if_pos h]
    have h0 := inoW_len hsi 0
    have h1 := inoW_len hsi 1
    have h2 := inoW_len hsi 2
    have h3 := inoW_len hsi 3
    have h4 := inoW_len hsi 4
    have h5 := inoW_len hsi 5
    have h6 := inoW_len hsi 6
    have h7 := inoW_len hsi 7
    have h8 := inoW_len hsi 8
    have h9 := inoW_len hsi 9
    show spanPs (inoPuts d.1) ≤ 30000000
    simp only [spanPs, inoPuts, wlens, List.range, List.range.loop, List.map_cons, List.map_nil, List.length_cons, List.length_nil, List.sum_cons, List.sum_nil]
    omega
  · rw [if_neg h]
    simp [spanPs, wlens]

set_option maxHeartbeats 3200000 in
theorem inodeWords_any (w : World) (a1 : Option Addr) (n1 c1 : Nat) (a2 : Option Addr) (n2 c2 : Nat) (d : FD) (j : Nat) (h : FsR w (.slice a1 n1 c1) (.slice a2 n2 c2) d) (hs : sizeFs d ≤ 1048576) (hi : insF d.1 = 0) :
    Calls Try.prog 28 #[.agg #[.slice a1 n1 c1, .slice a2 n2 c2], .int .i64 (j : Int)] w fun e w' => ∃ a n c, e = .returned (.slice a n c) ∧ Below w.heap.size w w' ∧ IntsO w' (.slice a n c) (inoW d.1 j) (fresh w w') := by
  have hsi : sizeInos d.1 ≤ 1048576 := by unfold sizeFs at hs; omega
  have hss : (isz d.1).sum ≤ 1048576 ∧ d.1.length ≤ 1048576 := by unfold sizeInos at hsi; omega
  obtain ⟨_, _, e2, _, hc⟩ := h.1.open'
  simp only [Value.slice.injEq] at e2
  obtain ⟨rfl, rfl, rfl⟩ := e2
  have HB0 : Hid (Below w.heap.size w (w.alloc (.cells #[.slice a1 d.1.length c1, .slice a2 n2 c2] 48))) := later1 _ _
  have HX : Hid (Bx (w.alloc (.cells #[.slice a1 d.1.length c1, .slice a2 n2 c2] 48)) w.heap.size [.slice a1 d.1.length c1, .slice a2 n2 c2]) := Bx.new w [.slice a1 d.1.length c1, .slice a2 n2 c2] _
  have x0 := HX.out 0 _ rfl
  have x1 := HX.out 1 _ rfl
  have HQ : Hid (∀ W, Calls Try.prog 40 #[.agg #[.slice a1 d.1.length c1, .slice a2 n2 c2], .int .i64 (j : Int)] W fun e w' => e = .returned (.bool (decide (0 ≤ (j : Int) ∧ (j : Int) < (d.1.length : Int)))) ∧ Below W.heap.size W w') := fun W => isInode_any W _ _ _ _ _ _ _
  by_cases hj : j < d.1.length
  · have hd : decide (0 ≤ (j : Int) ∧ (j : Int) < (d.1.length : Int)) = true := by simp; omega
    rw [hd] at HQ
    obtain ⟨b1, o1, rfl, hI⟩ := hc j hj
    have HI : Hid (InoAt w b1 (o1 + j * 5) (d.1[j]?.getD id0)) := hI
    have hir := ins_ino hi j hj
    have HPK : Hid (∀ W aB nB cB aE nE cE, InoR W (.int .i64 (d.1[j]?.getD id0).1) (.int .i64 (d.1[j]?.getD id0).2.1) (.int .i64 (d.1[j]?.getD id0).2.2.1) (.slice aB nB cB) (.slice aE nE cE) (d.1[j]?.getD id0) → Calls Try.prog 41 #[.agg #[.int .i64 (d.1[j]?.getD id0).1, .int .i64 (d.1[j]?.getD id0).2.1, .int .i64 (d.1[j]?.getD id0).2.2.1, .slice aB nB cB, .slice aE nE cE]] W (AnsIR W (0, inoW d.1 j))) := fun W aB nB cB aE nE cE hW => by
      have := implPackU W _ _ _ aB nB cB aE nE cE (d.1[j]?.getD id0) hW (by have := isz_le d.1 j; omega)
      have e1 : packR (d.1[j]?.getD id0) = (0, inoW d.1 j) := by unfold packR inoW; rw [if_pos hir, if_pos hj]
      rw [e1] at this
      exact this
    clear hd h hc hs hsi hss hir hi hI
    generalize inoW d.1 j = WS at *
    generalize d.1[j]?.getD id0 = X at *
    generalize d.1.length = n at *
    go_enter Try.func28, Try.ntmps28
    go_wp2_with fail
    refine (HQ.out _).mono ?_
    rintro e w1 ⟨rfl, hb⟩
    have HB1 : Hid (Below w.heap.size w w1) := HB0.out.trans (hb.mono HB0.out.size)
    have y0 := (HX.out.later hb) 0 _ rfl
    obtain ⟨aB, cB, aE, cE, k0, k1, k2, k3, k4, k5⟩ := HI.out.later HB1.out
    have HK : Hid (InoR w1 _ _ _ _ _ X) := k5
    clear hb k5 x0 x1
    generalize X.2.2.2.1.length = lB at *
    generalize X.2.2.2.2.length = lE at *
    go_wp2_with fail
    refine (HPK.out _ _ _ _ _ _ _ HK.out).mono ?_
    rintro e w2 ⟨a, m, c, rfl, hb, ho⟩
    have HB2 : Hid (Below w.heap.size w w2) := HB1.out.trans (hb.mono HB1.out.size)
    have HO : Hid (IntsO w2 (.slice a m c) WS (fresh w w2)) := ho.mono fun b hb' => ⟨Nat.le_trans HB1.out.size hb'.1, hb'.2⟩
    have fl := field_inl 0 a m c w2
    clear hb ho
    go_wp2
    go_ret
    exact ⟨a, m, c, rfl, HB2.out, HO.out⟩
  · have hd : decide (0 ≤ (j : Int) ∧ (j : Int) < (d.1.length : Int)) = false := by simp; omega
    rw [hd] at HQ
    have HE : Hid (inoW d.1 j = []) := by unfold Hid inoW; rw [if_neg hj]
    clear hd h hc hs hsi hss hi hj
    generalize inoW d.1 j = WS at *
    generalize d.1.length = n at *
    go_enter Try.func28, Try.ntmps28
    go_wp2_with fail
    refine (HQ.out _).mono ?_
    rintro e w1 ⟨rfl, hb⟩
    have HB1 : Hid (Below w.heap.size w w1) := HB0.out.trans (hb.mono HB0.out.size)
    clear hb
    go_wp2
    go_ret
    exact ⟨none, 0, 0, rfl, HB1.out, by rw [HE.out]; exact Or.inl ⟨rfl, _, _, rfl⟩⟩

set_option maxHeartbeats 3200000 in
theorem putsFromI_any (w : World) (first : Int) (a : Option Addr) (c : Nat) (zs : List Int) (fv : Value) (T : Int → List Int) (hz : Ints w (.slice a zs.length c) zs) (hl : zs.length ≤ 1048576) (h0 : 0 ≤ first ∧ first ≤ 1000) (hr : ∀ k, k < zs.length → 0 ≤ zs[k]?.getD 0 ∧ zs[k]?.getD 0 ≤ 1000)
    (hT : ∀ W, Below w.heap.size w W → ∀ k, k < zs.length → Calls Try.prog 28 #[fv, .int .i64 (zs[k]?.getD 0)] W fun e w' => ∃ a n c, e = .returned (.slice a n c) ∧ Below W.heap.size W w' ∧ IntsO w' (.slice a n c) (T (zs[k]?.getD 0)) (fresh W w')) :
    Calls Try.prog 26 #[.int .i64 first, .slice a zs.length c, .func (.func 28) #[fv] #[]] w fun e w' => ∃ a n c, e = .returned (.slice a n c) ∧ Below w.heap.size w w' ∧ PutsO w' (.slice a n c) (zs.map fun z => (first + z, T z)) (fresh w w') := by
  obtain ⟨_, _, e2, _, hat⟩ := hz.open'
  simp only [Value.slice.injEq] at e2
  obtain ⟨rfl, -, rfl⟩ := e2
  have HAT : Hid (At1 w a zs.length (fun k => .int .i64 (zs[k]?.getD 0))) := hat
  have HTT : Hid (∀ W, Below w.heap.size w W → ∀ k, k < zs.length → Calls Try.prog 28 #[fv, .int .i64 (zs[k]?.getD 0)] W _) := hT
  have HG : Hid (∀ k, k < zs.length → (zs.map fun z => (first + z, T z))[k]?.getD (0, []) = (first + zs[k]?.getD 0, T (zs[k]?.getD 0))) := fun k hk => by
    rw [List.getElem?_map, List.getElem?_eq_getElem hk]; rfl
  have HRG : Hid (∀ k, k < zs.length → 0 ≤ zs[k]?.getD 0 ∧ zs[k]?.getD 0 ≤ 1000) := hr
  have HL : Hid ((zs.map fun z => (first + z, T z)).length = zs.length) := by unfold Hid; simp
  obtain ⟨h1, h2⟩ := h0
  clear hT hat hz hr
  generalize (zs.map fun z => (first + z, T z)) = PS at *
  generalize hn : zs.length = n at *
  clear hn
  go_enter Try.func26, Try.ntmps26
  go_wp2
  go_loopw [7, 12] (fun q i wr => ∃ (j : Nat) (u : Nat → List Value) (G : Nat → Nat → Prop), j ≤ n ∧ i = .int .i64 j ∧ Below w.heap.size w wr ∧ GRow PutP wr w.heap.size 53 2 q j (fun k => PS[k]?.getD (0, [])) u G) (fun _ i _ => n - (intOf i).toNat)
  case atStart => exact ⟨0, _, _, Nat.zero_le _, rfl, Below.refl _ _, GRow.nil w _ _ _ _⟩
  case round =>
    obtain ⟨j, u, G, hj, rfl, hbl, hrow⟩ := hrel
    obtain ⟨aQ, cQ, rfl⟩ := hrow.shape
    have HBL : Hid (Below w.heap.size w wr) := hbl
    have HRW : Hid (GRow PutP wr w.heap.size 53 2 (.slice aQ j cQ) j (fun k => PS[k]?.getD (0, [])) u G) := hrow
    clear hrow
    by_cases hlt : j < n
    · have HGJ : Hid (PS[j]?.getD (0, []) = (first + zs[j]?.getD 0, T (zs[j]?.getD 0))) := HG.out j hlt
      obtain ⟨q1, q2⟩ := HRG.out j hlt
      have HTJ := HTT.out wr hbl j hlt
      have HTJ' : Hid (Calls Try.prog 28 #[fv, .int .i64 (zs[j]?.getD 0)] wr _) := HTJ
      obtain ⟨b, off, rfl, k0⟩ := HAT.out j hlt
      replace k0 : wr.cell? ⟨b, off + j, none⟩ = some (.int .i64 (zs[j]?.getD 0)) := cell_later hbl k0
      clear HTJ hbl
      generalize zs[j]?.getD 0 = z at *
      go_wp2_with fail
      refine HTJ'.out.mono ?_
      rintro e w1 ⟨av, m, cv, rfl, hb1, ho⟩
      obtain ⟨_, _, ev, _⟩ := ho.reads.shape
      simp only [Value.slice.injEq] at ev
      obtain ⟨-, hm, -⟩ := ev
      obtain ⟨g, cap, X, u', G', hr, hbx, _, hgx, -⟩ := append_putG wr w1 w.heap.size j _ _ u G HRW.out HBL.out.size (by omega) hb1 (first + z) av m cv (T z) HGJ.out (fresh wr w1) (fun c hc => hc) hm ho w1.heap.size rfl
      have HR : Hid (_ = _) := hr
      have HBX : Hid (Below w.heap.size w X) := (HBL.out.trans hbx)
      have HGX : Hid (GRow PutP X w.heap.size 53 2 _ (j + 1) (fun k => PS[k]?.getD (0, [])) u' G') := hgx
      clear hr hbx hgx hb1 ho HRW HGJ HTJ' hm
      go_wp2_with (at_builtin; refine wpList_append_run rfl _ _ 23 rfl _ _ rfl rfl _ _ HR.out ?_)
      go_roundw
      case rel => exact ⟨j + 1, _, _, by omega, by go_num, HBX.out, HGX.out⟩
      case measure => simp [intOf]; omega
    · have e : j = n := by omega
      subst e
      have HF : Hid (PutsO wr (.slice aQ j cQ) PS (fresh w wr)) := HRW.out.puts HL.out _ fun c h1 h2 => ⟨h1, h2⟩
      clear HRW HAT HG HTT hbl
      go_wp2
      go_ret
      exact ⟨_, _, _, rfl, HBL.out, HF.out⟩

set_option maxHeartbeats 3200000 in
theorem implInoPutsU (w : World) (a1 : Option Addr) (n1 c1 : Nat) (a2 : Option Addr) (n2 c2 : Nat) (d : FD) (h : FsR w (.slice a1 n1 c1) (.slice a2 n2 c2) d) (hs : sizeFs d ≤ 1048576) :
    Calls Try.prog 15 #[.agg #[.slice a1 n1 c1, .slice a2 n2 c2]] w (AnsPR w (inoPutsR d)) := by
  have hsi : sizeInos d.1 ≤ 1048576 := by unfold sizeFs at hs; omega
  have HF : Hid (∀ W, Below w.heap.size w W → Calls Try.prog 25 #[.agg #[.slice a1 n1 c1, .slice a2 n2 c2]] W fun e w' => e = .returned (.int .i64 (fsF d)) ∧ Below W.heap.size W w') := fun W hW => implFsU W _ _ _ _ _ _ d (h.later hW) hs
  have HU : Hid (fsF d = 0 → ∀ W ap cp, Below w.heap.size w W → Ints W (.slice ap 10 cp) (tens 10) → Calls Try.prog 26 #[.int .i64 17, .slice ap 10 cp, .func (.func 28) #[.agg #[.slice a1 n1 c1, .slice a2 n2 c2]] #[]] W fun e w' => ∃ a n c, e = .returned (.slice a n c) ∧ Below W.heap.size W w' ∧ PutsO w' (.slice a n c) (inoPuts d.1) (fresh W w')) := fun hf W ap cp hW hi => by
    have hin : insF d.1 = 0 := (fsE_zero (fsF_zero hf)).1
    have e1 : (tens 10).map (fun z => ((17 : Int) + z, inoW d.1 z.toNat)) = inoPuts d.1 := rfl
    have := putsFromI_any W 17 ap cp (tens 10) (.agg #[.slice a1 n1 c1, .slice a2 n2 c2]) (fun z => inoW d.1 z.toNat) hi (by rw [tens_len]; omega) (by omega) (fun k hk => by rw [tens_len] at hk; rw [tens_get hk]; omega) (fun V hV k hk => by
      rw [tens_len] at hk
      rw [tens_get hk, Int.toNat_natCast]
      exact inodeWords_any V _ _ _ _ _ _ d k (h.later (hW.trans (hV.mono hW.size))) hs hin)
    rw [e1] at this
    exact this
  have HPL : Hid (∀ W, Calls Try.prog 27 #[] W fun e w' => ∃ v, e = .returned v ∧ Below W.heap.size W w' ∧ Wds w' W.heap.size v (tens 10)) := inodePlaces_any
  have HRA : Hid (fsF d = 0 → inoPutsR d = (0, inoPuts d.1)) := fun h1 => by unfold inoPutsR; rw [if_pos h1]
  have HRC : Hid (¬ fsF d = 0 → inoPutsR d = (fsF d, [])) := fun h1 => by unfold inoPutsR; rw [if_neg h1]
  clear h hs hsi
  generalize inoPuts d.1 = PS at *
  generalize fsF d = r at *
  generalize inoPutsR d = RES at *
  have HB0 : Hid (Below w.heap.size w ((w.alloc (.cells #[.slice a1 n1 c1, .slice a2 n2 c2] 48)).alloc (.cells #[.int .i64 0, .slice none 0 0] 43))) := later2 _ _ _
  have HX0 : Hid (Bx ((w.alloc (.cells #[.slice a1 n1 c1, .slice a2 n2 c2] 48)).alloc (.cells #[.int .i64 0, .slice none 0 0] 43)) (w.heap.size) [.slice a1 n1 c1, .slice a2 n2 c2]) := (Bx.new w [.slice a1 n1 c1, .slice a2 n2 c2] _).later (later1 _ _)
  have HR0 : Hid (OwnRow ((w.alloc (.cells #[.slice a1 n1 c1, .slice a2 n2 c2] 48)).alloc (.cells #[.int .i64 0, .slice none 0 0] 43)) (w.heap.size + 1) 2 (cel [.int .i64 0, .slice none 0 0])) := (show OwnRow ((w.alloc (.cells #[.slice a1 n1 c1, .slice a2 n2 c2] 48)).alloc (.cells #[.int .i64 0, .slice none 0 0] 43)) (w.heap.size + 1) 2 (cel [.int .i64 0, .slice none 0 0]) from by have := newCel (w.alloc (.cells #[.slice a1 n1 c1, .slice a2 n2 c2] 48)) [.int .i64 0, .slice none 0 0] 43; rw [World.size_alloc] at this; exact this)
  go_enter Try.func15, Try.ntmps15
  have xHX0 := HX0.out 0 _ rfl
  have xHX1 := HX0.out 1 _ rfl
  go_wp2_with fail
  clear xHX0 xHX1
  refine (HF.out _ HB0.out).mono ?_
  rintro e w1 ⟨rfl, hb⟩
  have HB1 : Hid (Below w.heap.size w w1) := HB0.out.trans (hb.mono HB0.out.size)
  have HX1 : Hid (Bx w1 (w.heap.size) [.slice a1 n1 c1, .slice a2 n2 c2]) := HX0.out.later hb
  have HR1 : Hid (OwnRow w1 (w.heap.size + 1) 2 (cel [.int .i64 0, .slice none 0 0])) := HR0.out.later hb
  clear hb
  by_cases hf : r = 0
  · skip
    have hfb : (r != 0) = false := by simpa using hf
    have HE : Hid (RES = (0, PS)) := HRA.out hf
    have HU2 : Hid (∀ W ap cp, Below w.heap.size w W → Ints W (.slice ap 10 cp) (tens 10) → Calls Try.prog 26 #[.int .i64 17, .slice ap 10 cp, .func (.func 28) #[.agg #[.slice a1 n1 c1, .slice a2 n2 c2]] #[]] W _) := HU.out hf
    have xHX0 := HX1.out 0 _ rfl
    have xHX1 := HX1.out 1 _ rfl
    go_wp2_with fail
    go_region_with (first
      | (go_at_call 27; refine (HPL.out _).mono ?_; rintro e w2 ⟨v, rfl, hb, hw⟩; obtain ⟨ap, cp, rfl⟩ := hw.shape; rw [tens_len] at hw ⊢
         have HT2 : Hid (Below w1.heap.size w1 w2) := (Below.refl _ _).drew.trans hb
         have HW2 : Hid (Ints w2 (.slice ap 10 cp) (tens 10)) := (hw.own' (w0 := w1.drew) (Nat.le_refl _)).reads
         have y0 := (HX1.out.later HT2.out) 0 _ rfl
         have y1 := (HX1.out.later HT2.out) 1 _ rfl
         clear hb hw)
      | (go_at_call 26; refine (HU2.out _ _ _ (HB1.out.trans (HT2.out.mono HB1.out.size)) HW2.out).mono ?_; rintro e w3 ⟨av, nv, cv, rfl, hb, ho⟩
         have HT3 : Hid (Below w1.heap.size w1 w3) := HT2.out.trans (hb.mono HT2.out.size)
         have HO3 : Hid (PutsO w3 (.slice av nv cv) PS (fun b => w1.heap.size ≤ b ∧ b < w3.heap.size)) := ho.mono fun b hb' => ⟨Nat.le_trans HT2.out.size hb'.1, hb'.2⟩
         have hrr := HR1.out.later HT3.out
         have t0 : w3.cell? ⟨w.heap.size + 1, 0, none⟩ = some (.int .i64 0) := hrr.cell (i := 0) (by omega)
         have t1 : w3.cell? ⟨w.heap.size + 1, 1, none⟩ = some (.slice none 0 0) := hrr.cell (i := 1) (by omega)
         have f0 := hrr.frozen 0
         have f1 := hrr.frozen 1
         clear hb ho hrr))
    all_goals
      have hlt := HR1.out.lt
      go_wp2
      exact bodyPost_ret (v := .agg #[.int .i64 0, .slice av nv cv]) (by simp [results, Try.results15, go_sem, t0, t1]) rfl (by rw [HE.out]; exact AnsPR.putB (HB1.out.trans (HT3.out.mono HB1.out.size)) (by omega) (HO3.out.mono fun b hb' => ⟨by have := hb'.1; omega, hb'.2⟩) _ _)
  · skip
    have hbb : (r != 0) = true := by simpa using hf
    have HE : Hid (RES = (r, [])) := HRC.out hf
    have hrr := HR1.out
    have t0 : w1.cell? ⟨w.heap.size + 1, 0, none⟩ = some (.int .i64 0) := hrr.cell (i := 0) (by omega)
    have t1 : w1.cell? ⟨w.heap.size + 1, 1, none⟩ = some (.slice none 0 0) := hrr.cell (i := 1) (by omega)
    have f0 := hrr.frozen 0
    have f1 := hrr.frozen 1
    have hlr := hrr.lt
    clear hrr
    go_wp2
    exact bodyPost_ret (v := .agg #[.int .i64 r, .slice none 0 0]) (by simp [results, Try.results15, go_sem, t0, t1]) rfl (by rw [HE.out]; exact AnsPR.badB r HB1.out (by omega) _ _)

end Go.Proofs.Ytlohgnidbkechaa

namespace Go.Proofs.Ytlohgnidbkechaa
open Go.RowKit
set_option maxRecDepth 100000

theorem Try.sizeU8 : (Try.prog.info? 5).map (·.size) = some 1 := by kernel_rfl

/-- What 'copy' into a list that was just made comes to. -/
theorem copyY_made (w : World) (a : Option Addr) (n cap : Nat) (zs : List UInt8) (hz : zs.length = n) (hc : AtY w a n zs) :
    ∃ X, (Builtin.copy_ #[68, 68] 3 #[.slice (some ⟨w.heap.size, 0, none⟩) n n, .slice a n cap]).run Try.prog (w.alloc (.cells (madeCells #[.int .u8 0] n) 5)) = .ok (goInt n) X ∧
      Below w.heap.size w X ∧ OwnRow X w.heap.size n (fun i => .int .u8 (((zs[i]?.getD 0).toNat : Nat) : Int)) := by
  by_cases h0 : n = 0
  · subst h0
    have hr := run_copy_none (P := Try.prog) (w.alloc (.cells (madeCells #[.int .u8 0] 0) 5)) 68 68 3 5 (some ⟨w.heap.size, 0, none⟩) a 0 0 0 cap Try.underlying68 Try.sizeU8 (by simp)
    exact ⟨_, hr, later1 _ _, (OwnRow.made w (.int .u8 0) 0 5).congr fun i hi => by omega⟩
  · obtain ⟨b, off, rfl, _⟩ := hc 0 (by omega)
    have hc' : ∀ k, k < n → w.cell? ⟨b, off + k, none⟩ = some (.int .u8 (((zs[k]?.getD 0).toNat : Nat) : Int)) := by
      intro k hk
      obtain ⟨b', off', e, h⟩ := hc k hk
      simp only [Option.some.injEq, Addr.mk.injEq, and_true] at e
      rw [e.1, e.2]; exact h
    have hcp := run_copy_row (P := Try.prog) (w.alloc (.cells (madeCells #[.int .u8 0] n) 5)) 68 68 3 5 w.heap.size 0 n n ⟨b, off, none⟩ n cap (madeCells #[.int .u8 0] n) 5 (zs.map fun z => byteV z) Try.underlying68 Try.sizeU8
      (Go.Deep.blk_alloc_new _ _) (by simp [hz]) (fun j v hv => by
        rw [List.getElem?_map, Option.map_eq_some_iff] at hv
        obtain ⟨z, hz1, rfl⟩ := hv
        have hj : j < n := by rw [← hz]; exact (List.getElem?_eq_some_iff.1 hz1).1
        have h2 := hc' j hj
        rw [hz1, Option.getD_some] at h2
        have ha : (⟨b, off, none⟩ : Addr).add j = ⟨b, off + j, none⟩ := by
          by_cases hj0 : j = 0
          · subst hj0; simp [Addr.add]
          · simp [Addr.add, hj0]
        rw [ha]
        exact cell_later (later1 _ _) h2) (by simp [size_madeCells, hz]) (fun v hv => by
        obtain ⟨z, _, rfl⟩ := List.mem_map.1 hv
        rfl)
    refine ⟨_, by rw [hcp, List.length_map, hz], below_setRow (later1 _ _) (Nat.le_refl _) _, ?_⟩
    refine ⟨_, 5, setRow_heap _ _ _ _ _ _ (Go.Deep.blk_alloc_new _ _), ?_, fun i hi => ?_⟩
    · simp [hz]
    · have hlen : i < zs.length := by omega
      simp [List.getElem?_append_left, hlen, byteV]
set_option maxHeartbeats 400000 in
theorem copyOfY_more {w : World} {v : Value} {zs : List UInt8} (h : Byt w v zs) (hn : zs.length ≤ 1048576) :
    Calls Try.prog 56 #[v] w fun e w' => e = .returned (.slice (some ⟨w.heap.size, 0, none⟩) zs.length zs.length) ∧ Below w.heap.size w w' ∧ BytO w' (.slice (some ⟨w.heap.size, 0, none⟩) zs.length zs.length) zs (fresh w w') ∧ w.heap.size < w'.heap.size := by
  obtain ⟨a, cap, rfl, hm, hc⟩ := h
  obtain ⟨X, hcp, hbX, hrX⟩ := copyY_made w a zs.length cap zs rfl hc
  have hmk := fun w => run_make_row' (P := Try.prog) 68 5 (.int .u8 0) 1 Try.underlying68 Try.infoU8 rfl .i64 .i64 zs.length (by omega) (by omega) w
  have HB : Hid (Below w.heap.size w X) := hbX
  have HR : Hid (OwnRow X w.heap.size zs.length (fun i => .int .u8 (((zs[i]?.getD 0).toNat : Nat) : Int))) := hrX
  clear hbX hrX hc
  go_enter Try.func56, Try.ntmps56
  go_wp2
  go_ret
  exact ⟨rfl, HB.out, Or.inr ⟨w.heap.size, _, ⟨Nat.le_refl _, HR.out.lt⟩, rfl, ⟨hm.1, Nat.le_refl _⟩, HR.out⟩, HR.out.lt⟩
theorem copyOfY_any {w : World} {v : Value} {zs : List UInt8} (h : Byt w v zs) (hn : zs.length ≤ 1048576) :
    Calls Try.prog 56 #[v] w fun e w' => e = .returned (.slice (some ⟨w.heap.size, 0, none⟩) zs.length zs.length) ∧ Below w.heap.size w w' ∧ BytO w' (.slice (some ⟨w.heap.size, 0, none⟩) zs.length zs.length) zs (fresh w w') :=
  (copyOfY_more h hn).mono fun _ _ ⟨h1, h2, h3, _⟩ => ⟨h1, h2, h3⟩

theorem newRackY_any (w : World) (n : Nat) (hn : n ≤ 60) :
    Calls Try.prog 42 #[.int .i64 (n : Int)] w fun e w' => ∃ b, w.heap.size ≤ b ∧ e = .returned (.agg #[.slice (some ⟨b, 0, none⟩) n n]) ∧ Below w.heap.size w w' ∧ OwnRow w' b n (fun _ => .slice none 0 0) := by
  have hmk := fun w => run_make_row' (P := Try.prog) 46 68 (.slice none 0 0) 24 Try.underlying46 Try.infoU8s rfl .i64 .i64 n (by omega) (by omega) w
  go_enter Try.func42, Try.ntmps42
  go_wp2
  refine bodyPost_ret (v := .agg #[.slice (some ⟨w.heap.size + 1, 0, none⟩) n n]) (by simp [results, Try.results42, go_sem]) rfl ⟨w.heap.size + 1, by omega, rfl, later2 _ _ _, ?_⟩
  have := OwnRow.made (w.alloc (Obj.cells #[Value.slice (some ⟨w.heap.size + 1, 0, none⟩) n n] 70)) (.slice none 0 0) n 68
  simpa using this

set_option maxHeartbeats 800000 in
theorem setY_any (w : World) (br o g n cap x : Nat) (u : Nat → Value) (v : Value) (zs : List UInt8) (_hn : n ≤ 60) (hx : x < n) (h0 : w.cell? ⟨br, o, none⟩ = some (.slice (some ⟨g, 0, none⟩) n cap)) (hr : OwnRow w g n u) (hu : ∃ ua un uc, u x = .slice ua un uc) (hi : Byt w v zs) (hl : zs.length ≤ 1048576) :
    Calls Try.prog 43 #[.pointer (some ⟨br, o, none⟩), .int .i64 (x : Int), v] w fun e w' => e = .returned (.tuple #[]) ∧
      ∃ X, w' = X.setCell ⟨g, x, none⟩ (.slice (some ⟨w.heap.size, 0, none⟩) zs.length zs.length) ∧ Below w.heap.size w X ∧ BytO X (.slice (some ⟨w.heap.size, 0, none⟩) zs.length zs.length) zs (fresh w X) := by
  obtain ⟨ua, un, uc, hux⟩ := hu
  have HI : Hid (Byt w v zs) := hi
  have HR : Hid (OwnRow w g n u) := hr
  have c1 := hr.cell hx
  rw [hux] at c1
  have c2 := hr.frozen x
  have HL : Hid (zs.length ≤ 1048576) := hl
  clear hi hr hl hux
  go_enter Try.func43, Try.ntmps43
  go_wp2_with fail
  go_region_with ((go_at_call 56; refine (copyOfY_any ?_ HL.out).mono ?_; exact HI.out; rintro e w1 ⟨rfl, hb1, ho1⟩; have d0 := cell_later hb1 h0; have d1 := cell_later hb1 c1; have d2 := (hb1.frozen (p := ⟨g, x, none⟩) (World.block_lt_of_cell? _ _ c1)).trans c2; have HB1 : Hid (Below w.heap.size w w1) := (Below.refl _ _).drew.trans hb1; have HO1 : Hid (BytO w1 (.slice (some ⟨w.heap.size, 0, none⟩) zs.length zs.length) zs (fresh w w1)) := ho1; clear hb1 ho1))
  all_goals
    go_wp2
    go_end0
    exact ⟨rfl, w1, rfl, HB1.out, HO1.out⟩

set_option maxHeartbeats 1600000 in
theorem rackOfY_walk (w : World) (a : Option Addr) (n cap : Nat) (bs : List (List UInt8)) (hbl : bs.length = n) (hn : n ≤ 60) (hz : ∀ k, k < n → (bs[k]?.getD []).length ≤ 1048576) (hB : AtYs w a n bs) :
    Calls Try.prog 30 #[.slice a n cap] w fun e w' => ∃ g, e = .returned (.agg #[.slice (some ⟨g, 0, none⟩) n n]) ∧ Below w.heap.size w w' ∧ BytsO w' (.slice (some ⟨g, 0, none⟩) n n) bs (fresh w w') := by
  have HBL : Hid (bs.length = n) := hbl
  have HZ : Hid (∀ k, k < n → (bs[k]?.getD []).length ≤ 1048576) := hz
  have HB : Hid (AtYs w a n bs) := hB
  clear hbl hz hB
  go_enter Try.func30, Try.ntmps30
  go_wp2_with fail
  refine (newRackY_any _ n hn).mono ?_
  rintro e w1 ⟨g, hg, rfl, hb1, hr1⟩
  simp at hg
  have HB1 : Hid (Below w.heap.size w w1) := (later1 _ _).trans (hb1.mono (by simp))
  have hgl : g < w1.heap.size := hr1.lt
  have HR1 : Hid (OwnRow w1 g n (fun _ => .slice none 0 0)) := hr1
  have t0 := cell_later hb1 (show (w.alloc (Obj.cells #[Value.slice none 0 0] 70)).cell? ⟨w.heap.size, 0, none⟩ = some (.slice none 0 0) by rw [new_cell]; rfl)
  have t1 : w1.frozen? ⟨w.heap.size, 0, none⟩ = false := by rw [hb1.frozen (by simp)]; simp
  have hz1 : w.heap.size < w1.heap.size := World.block_lt_of_cell? _ _ t0
  clear hb1 hr1
  go_wp2_with fail
  go_loopw [11] (fun i wr => ∃ j : Nat, j ≤ n ∧ i = .int .i64 j ∧ Below w.heap.size w wr ∧ wr.cell? ⟨w.heap.size, 0, none⟩ = some (.slice none 0 0) ∧ wr.frozen? ⟨w.heap.size, 0, none⟩ = false ∧ wr.cell? ⟨w1.heap.size, 0, none⟩ = some (.slice (some ⟨g, 0, none⟩) n n) ∧
    ∃ u s, OwnRow wr g n (fun i => if i < j then u i else .slice none 0 0) ∧ (∀ i, i < j → ∃ ua un uc, u i = .slice ua un uc) ∧ BuiltY wr (w1.heap.size + 1) j u (fun i => bs[i]?.getD []) s) (fun i _ => n - (intOf i).toNat)
  case atStart => exact ⟨0, Nat.zero_le _, rfl, HB1.out.trans ((later1 _ _).mono HB1.out.size), cell_later (later1 _ _) t0, by rw [(later1 w1 _).frozen (p := ⟨w.heap.size, 0, none⟩) hz1]; exact t1, by rw [new_cell]; rfl, fun _ => .slice none 0 0, _, (HR1.out.later (later1 _ _)).congr fun i _ => by simp, fun i hi => by omega, BuiltY.nil _ _ (by simp)⟩
  case round =>
    obtain ⟨j, hj, rfl, hbl, q0, q1, q2, u, s, hrow, hsh, hbt⟩ := hrel
    have HBW : Hid (Below w.heap.size w wr) := hbl
    have HROW : Hid (OwnRow wr g n (fun i => if i < j then u i else .slice none 0 0)) := hrow
    have HBT : Hid (BuiltY wr (w1.heap.size + 1) j u (fun i => bs[i]?.getD []) s) := hbt
    have HSH : Hid (∀ i, i < j → ∃ ua un uc, u i = .slice ua un uc) := hsh
    clear hbl hrow hbt hsh t0 t1
    by_cases hlt : j < n
    · obtain ⟨b, off, ua, ucap, e, c1, i1⟩ := HB.out j hlt
      clear HB
      subst e
      replace c1 := cell_later HBW.out c1
      have HI : Hid (Byt wr (.slice ua (bs[j]?.getD []).length ucap) (bs[j]?.getD [])) := i1.later HBW.out
      clear i1
      go_wp2_with fail
      refine (setY_any wr w1.heap.size 0 g n n j _ _ (bs[j]?.getD []) hn hlt q2 HROW.out ⟨none, 0, 0, by simp⟩ HI.out (HZ.out j hlt)).mono ?_
      rintro e w2 ⟨rfl, X, rfl, hbX, hoX⟩
      have HX : Hid (Below wr.heap.size wr X) := hbX
      have HO : Hid (BytO X (.slice (some ⟨wr.heap.size, 0, none⟩) (bs[j]?.getD []).length (bs[j]?.getD []).length) (bs[j]?.getD []) (fresh wr X)) := hoX
      clear hbX hoX
      go_wp2
      go_roundw
      case rel =>
        refine ⟨j + 1, by omega, by go_num, (HBW.out.trans (HX.out.mono HBW.out.size)).setCell (by simp; omega) _, ?_, ?_, ?_, _, _, ((HROW.out.later HX.out).set j _).congr fun i hi => ?_, fun i hi => ?_, (HBT.out.next HX.out HO.out).store (by simp; omega) _⟩
        · rw [World.cell?_of_block (w := X) (Below.heap_setCell _ _ _ _ (by simp; omega))]; exact cell_later HX.out q0
        · rw [World.frozen?_of_block (w := X) (Below.heap_setCell _ _ _ _ (by simp; omega)), HX.out.frozen (World.block_lt_of_cell? _ _ q0)]; exact q1
        · rw [World.cell?_of_block (w := X) (Below.heap_setCell _ _ _ _ (by simp; omega))]; exact cell_later HX.out q2
        · by_cases e : i = j
          · subst e; simp
          · by_cases e2 : i < j
            · simp [e, e2, show i < j + 1 by omega]
            · simp [e, e2, show ¬ i < j + 1 by omega]
        · by_cases e : i = j
          · subst e; exact ⟨_, _, _, by simp; exact ⟨rfl, rfl, rfl⟩⟩
          · obtain ⟨a1, a2, a3, h⟩ := HSH.out i (by omega)
            exact ⟨a1, a2, a3, by simp [e, h]⟩
      case measure => simp [intOf]; omega
    · go_wp2
      have e : j = n := by omega
      subst e
      refine bodyPost_ret (v := .agg #[.slice (some ⟨g, 0, none⟩) j j]) (by simp [results, Try.results30, go_sem, q0]) rfl ⟨g, rfl, HBW.out.setCell (Nat.le_refl _) _, ?_⟩
      have hB' := HBT.out.store (p := ⟨w.heap.size, 0, none⟩) (by simp; omega) (.slice (some ⟨g, 0, none⟩) j j)
      have hR' := (HROW.out.congr (g := u) fun i hi => by simp [hi]).store (p := ⟨w.heap.size, 0, none⟩) (by simp; omega) (.slice (some ⟨g, 0, none⟩) j j)
      exact hB'.byts bs HBL.out ⟨by unfold maxLen; omega, Nat.le_refl _⟩ (by omega) hR' _ ⟨by omega, hR'.lt⟩ (fun c h1 h2 => ⟨by omega, h2⟩)
end Go.Proofs.Ytlohgnidbkechaa

namespace Go.Proofs.Ytlohgnidbkechaa
open Go.RowKit
set_option maxRecDepth 100000

/-- An inode marked from N on. -/
def mkI (N : Nat) (d : ID) : ID := (((N : Nat) : Int), ((N : Nat) : Int) + 1, ((N : Nat) : Int) + 1 + 1, marks (((N : Nat) : Int) + 1 + 1 + 1) d.2.2.2.1.length, marksN (N + 3 + d.2.2.2.1.length) d.2.2.2.2.length)
def mkIns (k : Nat) (ds : List ID) : List ID := (List.range ds.length).map fun i => mkI (inum k ds i) (ds[i]?.getD id0)
theorem mkIns_length (k : Nat) (ds : List ID) : (mkIns k ds).length = ds.length := by simp [mkIns]
theorem mkIns_get (k : Nat) (ds : List ID) {i : Nat} (hi : i < ds.length) : (mkIns k ds)[i]?.getD id0 = mkI (inum k ds i) (ds[i]?.getD id0) := by
  unfold mkIns; rw [List.getElem?_map, List.getElem?_range hi]; rfl
theorem inum_next (k : Nat) (ds : List ID) (hk : k + spanInos ds ≤ 4294967296) (j : Nat) (hj : j < ds.length) : inum k ds j + 3 + (ds[j]?.getD id0).2.2.2.1.length + 2 * (ds[j]?.getD id0).2.2.2.2.length = inum k ds (j + 1) ∧ inum k ds (j + 1) ≤ 4294967296 := by
  have h1 := upto_succ (isp ds) j (by rw [isp_length]; omega)
  rw [isp_get ds j hj] at h1
  have h2 := upto_le (isp ds) (j + 1)
  have h3 : spanIno (ds[j]?.getD id0) = (ds[j]?.getD id0).2.2.2.1.length + 2 * (ds[j]?.getD id0).2.2.2.2.length := rfl
  have h4 : spanInos ds = (isp ds).sum := rfl
  unfold inum
  omega
theorem inum_all (k : Nat) (ds : List ID) : inum k ds ds.length = k + spanInos ds := by
  have := upto_all (isp ds)
  rw [isp_length] at this
  unfold inum spanInos
  rw [this]

/-- The list of which the first j are marked. -/
def halfI (k : Nat) (ds : List ID) (j : Nat) : List ID := (List.range ds.length).map fun i => if i < j then mkI (inum k ds i) (ds[i]?.getD id0) else ds[i]?.getD id0
theorem halfI_length (k : Nat) (ds : List ID) (j : Nat) : (halfI k ds j).length = ds.length := by simp [halfI]
theorem halfI_get (k : Nat) (ds : List ID) (j : Nat) {i : Nat} (hi : i < ds.length) : (halfI k ds j)[i]?.getD id0 = if i < j then mkI (inum k ds i) (ds[i]?.getD id0) else ds[i]?.getD id0 := by
  unfold halfI; rw [List.getElem?_map, List.getElem?_range hi]; rfl
theorem halfI_zero (k : Nat) (ds : List ID) : halfI k ds 0 = ds := by
  apply List.ext_getElem?
  intro i
  unfold halfI
  rw [List.getElem?_map]
  by_cases hi : i < ds.length
  · rw [List.getElem?_range hi]; simp [List.getElem?_eq_getElem hi]
  · rw [List.getElem?_eq_none (by simpa using Nat.le_of_not_lt hi), List.getElem?_eq_none (by omega)]; rfl
theorem halfI_all (k : Nat) (ds : List ID) : halfI k ds ds.length = mkIns k ds := by
  unfold halfI mkIns
  apply List.map_congr_left
  intro i hi
  rw [if_pos (List.mem_range.1 hi)]
structure HalfM (w : World) (b n : Nat) (cs : List ID) (u : Nat → Value × Value) (F1 G1 : Nat → Nat → Prop) : Prop where
  row : OwnRow w b (n * 5) (inCell cs u)
  ints : ∀ i, i < n → IntsO w (u i).1 (cs[i]?.getD id0).2.2.2.1 (F1 i)
  ents : ∀ i, i < n → EntsO w (u i).2 (cs[i]?.getD id0).2.2.2.2 (G1 i)
/-- Three cells of one inode turned. -/
theorem inCell_three (cs cs' : List ID) (u : Nat → Value × Value) (j : Nat) (x0 x1 x2 : Int) (h0 : ∀ i, i ≠ j → (cs'[i]?.getD id0) = (cs[i]?.getD id0)) (e0 : (cs'[j]?.getD id0).1 = x0) (e1 : (cs'[j]?.getD id0).2.1 = x1) (e2 : (cs'[j]?.getD id0).2.2.1 = x2) (c : Nat) :
    (if c = j * 5 + 2 then .int .i64 x2 else if c = j * 5 + 1 then .int .i64 x1 else if c = j * 5 then .int .i64 x0 else inCell cs u c) = inCell cs' u c := by
  by_cases hj : c / 5 = j
  · unfold inCell
    rw [hj, e0, e1, e2]
    by_cases h0 : c % 5 = 0
    · rw [if_neg (by omega), if_neg (by omega), if_pos (by omega), if_pos h0]
    · by_cases h1 : c % 5 = 1
      · rw [if_neg (by omega), if_pos (by omega), if_neg h0, if_pos h1]
      · by_cases h2 : c % 5 = 2
        · rw [if_pos (by omega), if_neg h0, if_neg h1, if_pos h2]
        · rw [if_neg (by omega), if_neg (by omega), if_neg (by omega), if_neg h0, if_neg h1, if_neg h2, if_neg h0, if_neg h1, if_neg h2]
  · rw [if_neg (by omega), if_neg (by omega), if_neg (by omega)]
    unfold inCell
    rw [h0 _ hj]

end Go.Proofs.Ytlohgnidbkechaa

namespace Go.Proofs.Ytlohgnidbkechaa
open Go.RowKit
set_option maxRecDepth 100000

def ynum (k : Nat) (zss : List (List UInt8)) (j : Nat) : Nat := k + upto (ylens zss) j
def mkYs (k : Nat) (zss : List (List UInt8)) : List (List UInt8) := (List.range zss.length).map fun i => mkByt ((ynum k zss i : Nat) : Int) (zss[i]?.getD [])
theorem mkYs_length (k : Nat) (zss : List (List UInt8)) : (mkYs k zss).length = zss.length := by simp [mkYs]
theorem mkYs_get (k : Nat) (zss : List (List UInt8)) {i : Nat} (hi : i < zss.length) : (mkYs k zss)[i]?.getD [] = mkByt ((ynum k zss i : Nat) : Int) (zss[i]?.getD []) := by
  unfold mkYs; rw [List.getElem?_map, List.getElem?_range hi]; rfl
theorem ynum_next (k : Nat) (zss : List (List UInt8)) (j : Nat) (hj : j < zss.length) : ynum k zss (j + 1) = ynum k zss j + (zss[j]?.getD []).length ∧ ynum k zss (j + 1) ≤ k + (ylens zss).sum := by
  have h1 := upto_succ (ylens zss) j (by rw [ylens_length]; exact hj)
  rw [ylens_get] at h1
  have h2 := upto_le (ylens zss) (j + 1)
  unfold ynum
  omega
theorem ynum_all (k : Nat) (zss : List (List UInt8)) : ynum k zss zss.length = k + (ylens zss).sum := by
  have := upto_all (ylens zss)
  rw [ylens_length] at this
  unfold ynum
  rw [this]
def halfY (k : Nat) (zss : List (List UInt8)) (j i : Nat) : List UInt8 := if i < j then mkByt ((ynum k zss i : Nat) : Int) (zss[i]?.getD []) else zss[i]?.getD []
end Go.Proofs.Ytlohgnidbkechaa

namespace Go.Proofs.Ytlohgnidbkechaa
open Go.RowKit
set_option maxRecDepth 100000

open Classical in
theorem pickQ {α : Type} [Inhabited α] {n : Nat} {P : Nat → α → Prop} (h : ∀ i, i < n → ∃ q, P i q) : ∃ f : Nat → α, ∀ i, i < n → P i (f i) :=
  ⟨fun i => if hi : i < n then Classical.choose (h i hi) else default, fun i hi => by dsimp only; rw [dif_pos hi]; exact Classical.choose_spec (h i hi)⟩
def mkFs (k : Int) (d : FD) : FD := (mkIns k.toNat d.1, mkYs (k.toNat + spanInos d.1) d.2)
/-- Answers that are a code and a file system. -/
def AnsFR (w : World) (r : Int × FD) (e : Ending) (w' : World) : Prop := ∃ a1 n1 c1 a2 n2 c2, e = .returned (.agg #[.int .i64 r.1, .slice a1 n1 c1, .slice a2 n2 c2]) ∧ Below w.heap.size w w' ∧ FsU w' (.slice a1 n1 c1) (.slice a2 n2 c2) r.2 (fresh w w')
end Go.Proofs.Ytlohgnidbkechaa

namespace Go.Proofs.Ytlohgnidbkechaa
open Go.RowKit
set_option maxRecDepth 100000

theorem Try.sizeU8s : (Try.prog.info? 68).map (·.size) = some 1 := by kernel_rfl
theorem Try.infoU8s' : ∃ i, Try.prog.info? 68 = some i ∧ i.zero = some (.slice none 0 0) ∧ i.size = 1 ∧ i.bytes = 24 := by
  have h : (Try.prog.info? 68).map (fun i => (i.zero, i.size, i.bytes)) = some (some (.slice none 0 0), 1, 24) := Try.infoU8s
  rw [Option.map_eq_some_iff] at h
  obtain ⟨i, hi, e⟩ := h
  simp only [Prod.mk.injEq] at e
  exact ⟨i, hi, e.1, e.2.1, e.2.2⟩

/-- What 'copy' of slices into a list that was just made comes to. -/
theorem copyYs_made (w : World) (a : Option Addr) (n cap : Nat) (u : Nat → Value) (h1 : ∀ k, k < n → (u k).oneCell' = true) (hc : ∀ k, k < n → ∃ b off, a = some ⟨b, off, none⟩ ∧ w.cell? ⟨b, off + k, none⟩ = some (u k)) :
    ∃ X, (Builtin.copy_ #[46, 46] 3 #[.slice (some ⟨w.heap.size, 0, none⟩) n n, .slice a n cap]).run Try.prog (w.alloc (.cells (madeCells #[.slice none 0 0] n) 68)) = .ok (goInt n) X ∧
      Below w.heap.size w X ∧ OwnRow X w.heap.size n u := by
  by_cases h0 : n = 0
  · subst h0
    have hr := run_copy_none (P := Try.prog) (w.alloc (.cells (madeCells #[.slice none 0 0] 0) 68)) 46 46 3 68 (some ⟨w.heap.size, 0, none⟩) a 0 0 0 cap Try.underlying46 Try.sizeU8s (by simp)
    exact ⟨_, hr, later1 _ _, (OwnRow.made w (.slice none 0 0) 0 68).congr fun i hi => by omega⟩
  · obtain ⟨b, off, rfl, _⟩ := hc 0 (by omega)
    have hc' : ∀ k, k < n → w.cell? ⟨b, off + k, none⟩ = some (u k) := by
      intro k hk
      obtain ⟨b', off', e, h⟩ := hc k hk
      simp only [Option.some.injEq, Addr.mk.injEq, and_true] at e
      rw [e.1, e.2]; exact h
    have hcp := run_copy_row (P := Try.prog) (w.alloc (.cells (madeCells #[.slice none 0 0] n) 68)) 46 46 3 68 w.heap.size 0 n n ⟨b, off, none⟩ n cap (madeCells #[.slice none 0 0] n) 68 ((List.range n).map u) Try.underlying46 Try.sizeU8s
      (Go.Deep.blk_alloc_new _ _) (by simp) (fun j v hv => by
        rw [List.getElem?_map, Option.map_eq_some_iff] at hv
        obtain ⟨z, hz1, rfl⟩ := hv
        obtain ⟨hj, e⟩ := List.getElem?_eq_some_iff.1 hz1
        rw [List.length_range] at hj
        rw [List.getElem_range] at e
        subst e
        have ha : (⟨b, off, none⟩ : Addr).add j = ⟨b, off + j, none⟩ := by
          by_cases hj0 : j = 0
          · subst hj0; simp [Addr.add]
          · simp [Addr.add, hj0]
        rw [ha]
        exact cell_later (later1 _ _) (hc' j hj)) (by simp [size_madeCells]) (fun v hv => by
        obtain ⟨z, hz, rfl⟩ := List.mem_map.1 hv
        exact h1 z (List.mem_range.1 hz))
    refine ⟨_, by rw [hcp, List.length_map, List.length_range], below_setRow (later1 _ _) (Nat.le_refl _) _, ?_⟩
    refine ⟨_, 68, setRow_heap _ _ _ _ _ _ (Go.Deep.blk_alloc_new _ _), ?_, fun i hi => ?_⟩
    · simp
    · simp [List.getElem?_append_left, hi]
set_option maxHeartbeats 400000 in
theorem copyOfYs_any (w : World) (a : Option Addr) (n cap : Nat) (u : Nat → Value) (hn : n ≤ 1048576) (h1 : ∀ k, k < n → (u k).oneCell' = true) (hc : ∀ k, k < n → ∃ b off, a = some ⟨b, off, none⟩ ∧ w.cell? ⟨b, off + k, none⟩ = some (u k)) :
    Calls Try.prog 29 #[.slice a n cap] w fun e w' => e = .returned (.slice (some ⟨w.heap.size, 0, none⟩) n n) ∧ Below w.heap.size w w' ∧ OwnRow w' w.heap.size n u := by
  obtain ⟨X, hcp, hbX, hrX⟩ := copyYs_made w a n cap u h1 hc
  have hmk := fun w => run_make_row' (P := Try.prog) 46 68 (.slice none 0 0) 24 Try.underlying46 Try.infoU8s rfl .i64 .i64 n (by omega) (by omega) w
  have HB : Hid (Below w.heap.size w X) := hbX
  have HR : Hid (OwnRow X w.heap.size n u) := hrX
  clear hbX hrX hc h1
  go_enter Try.func29, Try.ntmps29
  go_wp2
  go_ret
  exact ⟨rfl, HB.out, HR.out⟩

/-- A full list made longer by m empty ones. -/
theorem append_zeros (w : World) (g n m : Nat) (u : Nat → Value) (hm : 0 < m) (hs : n + m ≤ 20) (hr : OwnRow w g n u) :
    ∃ cap X, (Builtin.append_ #[46, 3] 46 #[.slice (some ⟨g, 0, none⟩) n n, .int .i64 (m : Int)]).run Try.prog w = .ok (.slice (some ⟨w.heap.size, 0, none⟩) (n + m) cap) X ∧
      Below w.heap.size w X ∧ (n + m ≤ maxLen ∧ n + m ≤ cap) ∧ OwnRow X w.heap.size (n + m) (fun i => if i < n then u i else .slice none 0 0) := by
  obtain ⟨i, hi, hz, hsz, hby⟩ := Try.infoU8s'
  have hcap := grownCap_ge w (n + m) n 68
  have hfo := run_firstCells_some (P := Try.prog) w.drew i.size n ⟨g, 0, none⟩ n n ((List.range n).map u) (by simp [hsz]) (fun j v hv => by
    rw [List.getElem?_map, Option.map_eq_some_iff] at hv
    obtain ⟨z, hz1, rfl⟩ := hv
    obtain ⟨hj, e⟩ := List.getElem?_eq_some_iff.1 hz1
    rw [List.length_range] at hj
    rw [List.getElem_range] at e
    subst e
    have ha : (⟨g, 0, none⟩ : Addr).add j = ⟨g, j, none⟩ := by
      by_cases hj0 : j = 0
      · subst hj0; simp [Addr.add]
      · simp [Addr.add, hj0]
    rw [ha]
    simpa using hr.cell hj)
  have hn : ¬ (n + m ≤ n) := by omega
  have h63 : ¬ (9223372036854775807 < ((n : Int) + (m : Int))) := by omega
  have h48 : ¬ (281474976710656 < Builtin.nextslicecap (n + m) n * i.bytes) := by
    have := growslice_fits (need := n + m) (old := n) (bytes := i.bytes) (by omega) (by rw [hby]; omega)
    omega
  rw [hsz] at hfo
  rw [hby] at h48
  have hpos : ¬ m = 0 := by omega
  have hw : IntKind.i64.wrap (m : Int) = m := by rw [IntKind.wrap_i64]; omega
  have hneg : ¬ ((m : Int) < 0) := by omega
  have hmb : ¬ (281474976710656 < (m : Int) * 24) := by omega
  refine ⟨grownCap w (n + m) n 68, w.drew.alloc (.cells (((List.range n).map u).toArray ++ Builtin.zeroCells #[.slice none 0 0] m ++ Builtin.zeroCells #[.slice none 0 0] (grownCap w (n + m) n 68 - (n + m))) 68), ?_, ?_, ⟨by unfold maxLen; omega, hcap⟩, ?_⟩
  · simp [Builtin.append_, run_underlying Try.underlying46, run_underlying Try.underlying3, sizeOf, typeInfo, zeroValue, hi, hz, hsz, hby, asInt, asIntOf, hw, hneg, hmb, hn, hpos, h63, h48, Question.forced, hfo, newRow, grownCap]
    rfl
  · exact (Below.refl _ _).drew.trans (by simpa using later1 w.drew _)
  · refine ⟨_, _, by simpa using Go.Deep.blk_alloc_new w.drew _, ?_, fun k hk => ?_⟩
    · simp [size_zeroCells]
    · by_cases hkn : k < n
      · simp [hkn, Array.getElem?_append]
      · simp [hkn, Array.getElem?_append, Builtin.zeroCells]
        rw [if_pos (by omega), Array.getElem?_eq_getElem (by simp; omega)]
        simp [Nat.mod_one]
end Go.Proofs.Ytlohgnidbkechaa

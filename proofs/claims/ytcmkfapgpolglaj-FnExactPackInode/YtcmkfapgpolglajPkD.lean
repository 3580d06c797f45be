
/- The program's PackInode. -/
import Derived.Test.YtcmkfapgpolglajPkC
namespace Go.Proofs.Ytcmkfapgpolglaj
open Go.RowKit
set_option maxRecDepth 100000

set_option maxHeartbeats 3200000 in
theorem implPack_bad (w : World) (z0 z1 z2 : Int) (aB : Option Addr) (nB cB : Nat) (aE : Option Addr) (nE cE : Nat) (d : ID) (h : InoR w (.int .i64 z0) (.int .i64 z1) (.int .i64 z2) (.slice aB nB cB) (.slice aE nE cE) d) (hs : sizeIno d ≤ 1048576) (hf : ¬ inoF d = 0) :
    Calls Try.prog 19 #[.agg #[.int .i64 z0, .int .i64 z1, .int .i64 z2, .slice aB nB cB, .slice aE nE cE]] w (AnsIR w (inoF d, [])) := by
  have HIF : Hid (∀ W, Below w.heap.size w W → Calls Try.prog 16 #[.agg #[.int .i64 z0, .int .i64 z1, .int .i64 z2, .slice aB nB cB, .slice aE nE cE]] W fun e w' => e = .returned (.int .i64 (inoF d)) ∧ Below W.heap.size W w') := fun W hW => implInoU W z0 z1 z2 aB nB cB aE nE cE d (h.later hW) hs
  have HRB : Hid (OwnRow ((w.alloc (.cells #[.int .i64 z0, .int .i64 z1, .int .i64 z2, .slice aB nB cB, .slice aE nE cE] 36)).alloc (.cells #[.int .i64 0, .slice none 0 0] 41)) (w.heap.size + 1) 2 (fun i => if i = 0 then .int .i64 0 else .slice none 0 0)) := by
    have := OwnRow.newS (w.alloc (.cells #[.int .i64 z0, .int .i64 z1, .int .i64 z2, .slice aB nB cB, .slice aE nE cE] 36)) (.int .i64 0) (.slice none 0 0) 41
    simp only [World.size_alloc] at this
    exact this
  have HF : Hid (¬ inoF d = 0) := hf
  clear h hs hf
  generalize inoF d = r at *
  have hr : (r != 0) = true := by simpa using HF.out
  go_enter Try.func19, Try.ntmps19
  go_wp2_with fail
  refine (HIF.out _ (later2 _ _ _)).mono ?_
  rintro e w1 ⟨rfl, hb1⟩
  have HB1 : Hid (Below w.heap.size w w1) := (later2 _ _ _).trans (hb1.mono (by simp; omega))
  have hrow := HRB.out.later hb1
  have t0 := hrow.cell (i := 0) (by omega)
  have t1 := hrow.cell (i := 1) (by omega)
  have s0 := hrow.frozen 0
  have s1 := hrow.frozen 1
  simp at t0 t1
  clear hb1 hrow HRB
  go_wp2
  refine bodyPost_ret (v := .agg #[.int .i64 r, .slice none 0 0]) (by simp [results, Try.results19, go_sem, t0, t1]) rfl ⟨_, _, _, rfl, (HB1.out.setCell (by simp) _).setCell (by simp) _, Or.inl ⟨rfl, _, _, rfl⟩⟩

/-- Block b holds vs and is not frozen. -/
theorem Obx.row {w : World} {b : Nat} {x y : Value} {t : TypeId} (h : Obx w b [x, y] t) : OwnRow w b 2 (fun i => if i = 0 then x else y) := by
  refine ⟨_, _, h, by simp, fun i hi => ?_⟩
  have : i = 0 ∨ i = 1 := by omega
  rcases this with rfl | rfl <;> simp

set_option maxHeartbeats 3200000 in
theorem implPack_flat (w : World) (z0 z1 z2 : Int) (aB : Option Addr) (nB cB : Nat) (aE : Option Addr) (nE cE : Nat) (d : ID) (h : InoR w (.int .i64 z0) (.int .i64 z1) (.int .i64 z2) (.slice aB nB cB) (.slice aE nE cE) d) (hs : sizeIno d ≤ 1048576) (hf : inoF d = 0) (bs : List Int) (hn : nB ≤ 1048576) (hbn : bs.length = nB) (hc : At1 w aB nB (fun k => .int .i64 (bs[k]?.getD 0))) (hk : ¬ z0 = 2) (zs : List Int) (hzs : [z0, z1, z2] ++ bs = zs) :
    Calls Try.prog 19 #[.agg #[.int .i64 z0, .int .i64 z1, .int .i64 z2, .slice aB nB cB, .slice aE nE cE]] w (AnsIR w (0, zs)) := by
  have HZS : Hid ([z0, z1, z2] ++ bs = zs) := hzs
  clear hzs
  have HIF : Hid (∀ W, Below w.heap.size w W → Calls Try.prog 16 #[.agg #[.int .i64 z0, .int .i64 z1, .int .i64 z2, .slice aB nB cB, .slice aE nE cE]] W fun e w' => e = .returned (.int .i64 0) ∧ Below W.heap.size W w') := fun W hW => by rw [← hf]; exact implInoU W z0 z1 z2 aB nB cB aE nE cE d (h.later hW) hs
  have HRB : Hid (Obx ((w.alloc (.cells #[.int .i64 z0, .int .i64 z1, .int .i64 z2, .slice aB nB cB, .slice aE nE cE] 36)).alloc (.cells #[.int .i64 0, .slice none 0 0] 41)) (w.heap.size + 1) [.int .i64 0, .slice none 0 0] 41) := by
    have := Obx.new (w.alloc (.cells #[.int .i64 z0, .int .i64 z1, .int .i64 z2, .slice aB nB cB, .slice aE nE cE] 36)) [.int .i64 0, .slice none 0 0] 41
    simp only [World.size_alloc] at this
    exact this
  have HXB : Hid (Obx ((w.alloc (.cells #[.int .i64 z0, .int .i64 z1, .int .i64 z2, .slice aB nB cB, .slice aE nE cE] 36)).alloc (.cells #[.int .i64 0, .slice none 0 0] 41)) w.heap.size [.int .i64 z0, .int .i64 z1, .int .i64 z2, .slice aB nB cB, .slice aE nE cE] 36) := (Obx.new w [.int .i64 z0, .int .i64 z1, .int .i64 z2, .slice aB nB cB, .slice aE nE cE] 36).keep (KeepT.later (later1 _ _)) (by decide)
  have HC : Hid (At1 w aB nB (fun k => .int .i64 (bs[k]?.getD 0))) := hc
  have hk' : (z0 != 2) = true := by simpa using hk
  clear h hs hf hc hk
  go_enter Try.func19, Try.ntmps19
  go_wp2_with fail
  refine (HIF.out _ (later2 _ _ _)).mono ?_
  rintro e w1 ⟨rfl, hb1⟩
  have HB1 : Hid (Below w.heap.size w w1) := (later2 _ _ _).trans (hb1.mono (by simp; omega))
  have hxb := HXB.out.keep (KeepT.later hb1) (by decide)
  have hrb := HRB.out.keep (KeepT.later hb1) (by decide)
  have hw1s : w.heap.size + 2 ≤ w1.heap.size := by have := hb1.size; simp at this; omega
  have c0 := hxb.bx 0 _ rfl
  have c1 := hxb.bx 1 _ rfl
  have c2 := hxb.bx 2 _ rfl
  have hkl : KeepT w1 (w1.alloc (.cells #[.int .i64 z0, .int .i64 z1, .int .i64 z2] 2)) := KeepT.later (later1 _ _)
  have c0' := (hxb.keep hkl (by decide)).bx 0 _ rfl
  have c3 := (hxb.keep hkl (by decide)).bx 3 _ rfl
  obtain ⟨v1, X1, hr1, hw1, hb2, hk1⟩ := append_first w1 w1 (Below.refl _ _) z0 z1 z2 aB nB cB bs hn hbn (fun k hk => by
    obtain ⟨b, off, e, h⟩ := HC.out k hk
    exact ⟨b, off, e, cell_later HB1.out h⟩)
  have hzl : 0 < zs.length := by rw [← HZS.out]; simp
  rw [HZS.out] at hw1
  have hrb2 := (hrb.keep hk1 (by decide)).row
  have t0 := hrb2.cell (i := 0) (by omega)
  have t1 := hrb2.cell (i := 1) (by omega)
  have s0 := hrb2.frozen 0
  have s1 := hrb2.frozen 1
  simp at t0 t1
  obtain ⟨aV, cV, rfl⟩ := hw1.shape
  have HR : Hid (_ = _) := hr1
  have HB2 : Hid (Below w.heap.size w X1) := HB1.out.trans (hb2.mono HB1.out.size)
  have HI : Hid (IntsO X1 (.slice aV zs.length cV) zs (fun b => w.heap.size + 2 ≤ b ∧ b < X1.heap.size)) := (hw1.own (w0 := w1) hzl (Nat.le_refl _)).mono fun b hb => ⟨by have := hb.1; omega, hb.2⟩
  clear hr1 hw1 hb2 hk1 hrb2 hrb hxb hb1 hkl HRB HXB HC HIF
  go_wp2_with (at_builtin; refine wpList_append_run rfl _ _ 28 rfl _ _ rfl rfl _ _ HR.out ?_)
  refine bodyPost_ret (v := .agg #[.int .i64 0, .slice aV zs.length cV]) (by simp [results, Try.results19, go_sem, t0, t1]) rfl ⟨_, _, _, rfl, (HB2.out.setCell (by simp) _).setCell (by simp) _, (HI.out.keep fun b hb hlt => ?_).mono fun b hb => ⟨by omega, by simp only [World.setCell, Array.size_modify]; exact hb.2⟩⟩
  rw [Below.heap_setCell _ _ _ _ (by simp; omega), Below.heap_setCell _ _ _ _ (by simp; omega)]

set_option maxHeartbeats 12800000 in
theorem implPack_dir (w : World) (z1 z2 : Int) (aB : Option Addr) (nB cB : Nat) (aE : Option Addr) (nE cE : Nat) (d : ID) (h : InoR w (.int .i64 2) (.int .i64 z1) (.int .i64 z2) (.slice aB nB cB) (.slice aE nE cE) d) (hs : sizeIno d ≤ 1048576) (hf : inoF d = 0) (es : List EN) (hen : es.length = nE) (hnE : nE ≤ 1048576) (hsz : (entsW es).length ≤ 4194304) (hce : AtN w aE nE es) (pre zs : List Int) (hpre : [2, z1, z2] ++ [(nE : Int)] = pre) (hzs : pre ++ entsW es = zs) :
    Calls Try.prog 19 #[.agg #[.int .i64 2, .int .i64 z1, .int .i64 z2, .slice aB nB cB, .slice aE nE cE]] w (AnsIR w (0, zs)) := by
  have HZS : Hid (pre ++ entsW es = zs) := hzs
  have HPRE : Hid ([2, z1, z2] ++ [(nE : Int)] = pre) := hpre
  clear hpre hzs
  have HIF : Hid (∀ W, Below w.heap.size w W → Calls Try.prog 16 #[.agg #[.int .i64 2, .int .i64 z1, .int .i64 z2, .slice aB nB cB, .slice aE nE cE]] W fun e w' => e = .returned (.int .i64 0) ∧ Below W.heap.size W w') := fun W hW => by rw [← hf]; exact implInoU W 2 z1 z2 aB nB cB aE nE cE d (h.later hW) hs
  have HRB : Hid (Obx ((w.alloc (.cells #[.int .i64 2, .int .i64 z1, .int .i64 z2, .slice aB nB cB, .slice aE nE cE] 36)).alloc (.cells #[.int .i64 0, .slice none 0 0] 41)) (w.heap.size + 1) [.int .i64 0, .slice none 0 0] 41) := by
    have := Obx.new (w.alloc (.cells #[.int .i64 2, .int .i64 z1, .int .i64 z2, .slice aB nB cB, .slice aE nE cE] 36)) [.int .i64 0, .slice none 0 0] 41
    simp only [World.size_alloc] at this
    exact this
  have HXB : Hid (Obx ((w.alloc (.cells #[.int .i64 2, .int .i64 z1, .int .i64 z2, .slice aB nB cB, .slice aE nE cE] 36)).alloc (.cells #[.int .i64 0, .slice none 0 0] 41)) w.heap.size [.int .i64 2, .int .i64 z1, .int .i64 z2, .slice aB nB cB, .slice aE nE cE] 36) := (Obx.new w [.int .i64 2, .int .i64 z1, .int .i64 z2, .slice aB nB cB, .slice aE nE cE] 36).keep (KeepT.later (later1 _ _)) (by decide)
  have HCE : Hid (AtN w aE nE es) := hce
  have HEN : Hid (es.length = nE) := hen
  have HSZ : Hid ((entsW es).length ≤ 4194304) := hsz
  clear h hs hf hce hen hsz
  go_enter Try.func19, Try.ntmps19
  go_wp2_with fail
  refine (HIF.out _ (later2 _ _ _)).mono ?_
  rintro e w1 ⟨rfl, hb1⟩
  have HB1 : Hid (Below w.heap.size w w1) := (later2 _ _ _).trans (hb1.mono (by simp; omega))
  have hxb := HXB.out.keep (KeepT.later hb1) (by decide)
  have hrb := HRB.out.keep (KeepT.later hb1) (by decide)
  have hw1s : w.heap.size + 2 ≤ w1.heap.size := by have := hb1.size; simp at this; omega
  have c0 := hxb.bx 0 _ rfl
  have c1 := hxb.bx 1 _ rfl
  have c2 := hxb.bx 2 _ rfl
  have hl := Wds.lit w1 w1.heap.size (Nat.le_refl _) [2, z1, z2] #[.int .i64 2, .int .i64 z1, .int .i64 z2] rfl 3 rfl (by omega)
  have hkl : KeepT w1 (w1.alloc (.cells #[.int .i64 2, .int .i64 z1, .int .i64 z2] 2)) := KeepT.later (later1 _ _)
  obtain ⟨v2, X2, hr2, hw2, hb2, hk2⟩ := append_wds (w1.alloc (.cells #[.int .i64 2, .int .i64 z1, .int .i64 z2] 2)) w1.heap.size _ [2, z1, z2] [(nE : Int)] #[.int .i64 (nE : Int)] 1 rfl rfl hl (by simp) (by simp) (by simp) (by omega)
  have c4 := (hxb.keep hkl (by decide)).bx 4 _ rfl
  have c0' := (hxb.keep hkl (by decide)).bx 0 _ rfl
  simp only [World.size_alloc] at hr2
  have HR2 : Hid (_ = _) := hr2
  rw [HPRE.out] at hw2
  have HW2 : Hid (Wds X2 w1.heap.size v2 pre) := hw2
  have HB2 : Hid (Below w1.heap.size w1 X2) := (later1 _ _).trans hb2
  have HO2 : Hid (Obx X2 w.heap.size [.int .i64 2, .int .i64 z1, .int .i64 z2, .slice aB nB cB, .slice aE nE cE] 36) := (hxb.keep hkl (by decide)).keep hk2 (by decide)
  have HQ2 : Hid (Obx X2 (w.heap.size + 1) [.int .i64 0, .slice none 0 0] 41) := (hrb.keep hkl (by decide)).keep hk2 (by decide)
  have c4b := HO2.out.bx 4 _ rfl
  have HL : Hid (pre.length ≤ 1048580) := by unfold Hid; rw [← HPRE.out]; simp
  have HP : Hid (0 < pre.length) := by unfold Hid; rw [← HPRE.out]; simp
  clear hr2 hw2 hb2 hk2 hrb hxb hb1 HRB HXB HIF hl hkl
  go_wp2_with (at_builtin; refine wpList_append_run rfl _ _ 28 rfl _ _ rfl rfl _ _ HR2.out ?_)
  clear c0 c1 c2 c4 c0' c4b HR2
  go_loopw [4, 38] (fun o i wr => ∃ (j : Nat) (v : Value), o = v ∧ j ≤ nE ∧ i = .int .i64 j ∧ Below w1.heap.size w1 wr ∧ Obx wr (w.heap.size + 1) [.int .i64 0, .slice none 0 0] 41 ∧ Wds wr w1.heap.size v (pre ++ entsW (es.take j))) (fun _ i _ => nE - (intOf i).toNat)
  case atStart => exact ⟨0, _, rfl, Nat.zero_le _, rfl, HB2.out, HQ2.out, by simpa [entsW] using HW2.out⟩
  case round =>
    clear HB2 HQ2 HW2
    obtain ⟨j, v, rfl, hj, rfl, hbl, hqx, hwd⟩ := hrel
    have HBL : Hid (Below w1.heap.size w1 wr) := hbl
    have HBW : Hid (Below w.heap.size w wr) := HB1.out.trans (hbl.mono HB1.out.size)
    have HQX : Hid (Obx wr (w.heap.size + 1) [.int .i64 0, .slice none 0 0] 41) := hqx
    have HWD : Hid (Wds wr w1.heap.size _ (pre ++ entsW (es.take j))) := hwd
    obtain ⟨aV, cV, rfl⟩ := hwd.shape
    clear hbl hqx hwd
    by_cases hlt : j < nE
    · obtain ⟨b1, off, rfl, e0, e1⟩ := HCE.out j hlt
      replace e0 := cell_later HBW.out e0
      replace e1 := cell_later HBW.out e1
      have HTK : Hid (entsW (es.take (j + 1)) = entsW (es.take j) ++ entW (es[j]?.getD en0)) := entsW_take es j (by rw [HEN.out]; exact hlt)
      have HUP : Hid ((entsW (es.take j)).length + 2 + (es[j]?.getD en0).1.size ≤ (entsW es).length) := upto_size es j (by rw [HEN.out]; exact hlt)
      have HET : Hid (es[j]?.getD en0 = ((es[j]?.getD en0).1, (es[j]?.getD en0).2)) := rfl
      rw [HET.out] at HTK
      generalize (es[j]?.getD en0).1 = x at *
      generalize (es[j]?.getD en0).2 = y at *
      have hxs : x.size ≤ 4194304 := by have := HUP.out; have := HSZ.out; omega
      obtain ⟨v3, X3, hr3, hw3, hb3, hk3⟩ := append_wds (wr.alloc (.cells #[.string x, .int .i64 y] 70)) w1.heap.size _ (pre ++ entsW (es.take j)) [y, (x.size : Int)] #[.int .i64 y, .int .i64 (x.size : Int)] 2 rfl rfl (HWD.out.later (later1 _ _)) (by simp; have := HBL.out.size; omega) (by simp only [List.length_append]; have := HL.out; have := HUP.out; have := HSZ.out; omega) (by simp only [List.length_append]; have := HP.out; omega) (by omega)
      have hoe := (Obx.new wr [.string x, .int .i64 y] 70).keep hk3 (by decide)
      have hoq := (HQX.out.keep (KeepT.later (later1 wr (.cells #[.string x, .int .i64 y] 70))) (by decide)).keep hk3 (by decide)
      simp only [World.size_alloc] at hr3
      have c5 := hoe.bx 0 _ rfl
      have HR3 : Hid (_ = _) := hr3
      have HW3 : Hid (Wds X3 w1.heap.size v3 (pre ++ entsW (es.take j) ++ [y, (x.size : Int)])) := hw3
      have HB3 : Hid (Below w1.heap.size w1 X3) := (HBL.out.trans ((later1 _ _).mono HBL.out.size)).trans hb3
      have HOE : Hid (Obx X3 wr.heap.size [.string x, .int .i64 y] 70) := hoe
      have HOQ : Hid (Obx X3 (w.heap.size + 1) [.int .i64 0, .slice none 0 0] 41) := hoq
      clear hr3 hw3 hb3 hk3 hoe hoq
      go_wp2_with (at_builtin; refine wpList_append_run rfl _ _ 28 rfl _ _ rfl rfl _ _ HR3.out ?_)
      clear c5 e0 e1 HR3 HWD HQX
      generalize wr.heap.size = eb at *
      go_loopw [4, 53] (fun o i wr2 => ∃ (q : Nat) (v : Value), o = v ∧ q ≤ x.size ∧ i = .int .i64 q ∧ Below w1.heap.size w1 wr2 ∧ Obx wr2 (w.heap.size + 1) [.int .i64 0, .slice none 0 0] 41 ∧ Obx wr2 eb [.string x, .int .i64 y] 70 ∧ Wds wr2 w1.heap.size v (pre ++ entsW (es.take j) ++ [y, (x.size : Int)] ++ nameW x q)) (fun _ i _ => x.size - (intOf i).toNat)
      case atStart => exact ⟨0, _, rfl, Nat.zero_le _, rfl, HB3.out, HOQ.out, HOE.out, by simpa [nameW] using HW3.out⟩
      case round =>
        clear HB3 HOQ HOE HW3
        obtain ⟨q, v, rfl, hq, rfl, hbl2, hop2, hoe2, hwd2⟩ := hrel
        have HBL2 : Hid (Below w1.heap.size w1 wr) := hbl2
        have HOP2 : Hid (Obx wr (w.heap.size + 1) [.int .i64 0, .slice none 0 0] 41) := hop2
        have HOE2 : Hid (Obx wr eb [.string x, .int .i64 y] 70) := hoe2
        have HWD2 : Hid (Wds wr w1.heap.size _ (pre ++ entsW (es.take j) ++ [y, (x.size : Int)] ++ nameW x q)) := hwd2
        obtain ⟨aV2, cV2, rfl⟩ := hwd2.shape
        have c5 := hoe2.bx 0 _ rfl
        clear hbl2 hop2 hoe2 hwd2
        by_cases hlq : q < x.size
        · have HNN : Hid (nameW x (q + 1) = nameW x q ++ [((x[q]'hlq).toNat : Int)]) := nameW_next x q hlq
          obtain ⟨v4, X4, hr4, hw4, hb4, hk4⟩ := append_wds wr w1.heap.size _ (pre ++ entsW (es.take j) ++ [y, (x.size : Int)] ++ nameW x q) [((x[q]'hlq).toNat : Int)] #[.int .i64 ((x[q]'hlq).toNat : Int)] 1 rfl rfl HWD2.out HBL2.out.size (by simp only [List.length_append, List.length_cons, List.length_nil]; have := HL.out; have := HUP.out; have := HSZ.out; have := nameW_len x q; omega) (by simp only [List.length_append]; have := HP.out; omega) (by omega)
          have HR4 : Hid (_ = _) := hr4
          have HW4 : Hid (Wds X4 w1.heap.size v4 (pre ++ entsW (es.take j) ++ [y, (x.size : Int)] ++ nameW x (q + 1))) := by unfold Hid; rw [HNN.out, ← List.append_assoc]; exact hw4
          have HB4 : Hid (Below w1.heap.size w1 X4) := HBL2.out.trans hb4
          have HOP4 : Hid (Obx X4 (w.heap.size + 1) [.int .i64 0, .slice none 0 0] 41) := HOP2.out.keep hk4 (by decide)
          have HOE4 : Hid (Obx X4 eb [.string x, .int .i64 y] 70) := HOE2.out.keep hk4 (by decide)
          have hbyte : (x[q]'hlq).toNat < 256 := UInt8.toNat_lt _
          clear hr4 hw4 hb4 hk4 HNN HWD2 HOP2 HOE2
          go_wp2_with (at_builtin; refine wpList_append_run rfl _ _ 28 rfl _ _ rfl rfl _ _ HR4.out ?_)
          go_roundw
          case rel => exact ⟨q + 1, _, rfl, by omega, by go_num, HB4.out, HOP4.out, HOE4.out, HW4.out⟩
          case measure => simp [intOf]; omega
        · have HW4 : Hid (Wds wr w1.heap.size (.slice aV2 (pre ++ entsW (es.take j) ++ [y, (x.size : Int)] ++ nameW x q).length cV2) (pre ++ entsW (es.take (j + 1)))) := by
            have e : q = x.size := by omega
            have h2 : pre ++ entsW (es.take (j + 1)) = pre ++ entsW (es.take j) ++ [y, (x.size : Int)] ++ nameW x q := by rw [HTK.out, e, ← nameW_all]; simp only [List.append_assoc]
            unfold Hid
            rw [h2]
            exact HWD2.out
          go_wp2
          go_roundw
          case rel => exact ⟨j + 1, _, rfl, by omega, by go_num, HBL2.out, HOP2.out, HW4.out⟩
          case measure => simp [intOf]; omega
    · have HW4 : Hid (Wds wr w1.heap.size (.slice aV (pre ++ entsW (es.take j)).length cV) zs) := by
        have h2 : es.take j = es := List.take_of_length_le (by rw [HEN.out]; omega)
        unfold Hid
        rw [← HZS.out]
        have := HWD.out
        rw [h2] at this ⊢
        exact this
      have hzl : 0 < zs.length := by rw [← HZS.out, List.length_append]; have := HP.out; omega
      have hjj : (pre ++ entsW (es.take j)).length = zs.length := by
        have h2 : es.take j = es := List.take_of_length_le (by rw [HEN.out]; omega)
        rw [h2, HZS.out]
      rw [hjj] at HW4
      have HI : Hid (IntsO wr (.slice aV zs.length cV) zs (fun b => w.heap.size + 2 ≤ b ∧ b < wr.heap.size)) := (HW4.out.own (w0 := w1) hzl (Nat.le_refl _)).mono fun b hb => ⟨by have := hb.1; omega, hb.2⟩
      have hrb2 := HQX.out.row
      have t0 := hrb2.cell (i := 0) (by omega)
      have t1 := hrb2.cell (i := 1) (by omega)
      have s0 := hrb2.frozen 0
      have s1 := hrb2.frozen 1
      simp at t0 t1
      clear hrb2 HWD HW4
      go_wp2
      refine bodyPost_ret (v := .agg #[.int .i64 0, .slice aV zs.length cV]) (by simp [results, Try.results19, go_sem, t0, t1]) rfl ⟨_, _, _, rfl, (HBW.out.setCell (by simp) _).setCell (by simp) _, (HI.out.keep fun b hb hlt => ?_).mono fun b hb => ⟨by omega, by simp only [World.setCell, Array.size_modify]; exact hb.2⟩⟩
      rw [Below.heap_setCell _ _ _ _ (by simp; omega), Below.heap_setCell _ _ _ _ (by simp; omega)]
end Go.Proofs.Ytcmkfapgpolglaj


/- The specification's l4Pack. -/
import Derived.Test.YtcmkfapgpolglajPkA
import Derived.Test.YtcmkfapgpolglajInoT
namespace Go.Proofs.Ytcmkfapgpolglaj
open Go.RowKit
set_option maxRecDepth 100000

/-- The first append: three words, then the blocks. -/
theorem append_first (w W : World) (hW : Below w.heap.size w W) (z0 z1 z2 : Int) (aB : Option Addr) (nB cB : Nat) (bs : List Int) (hn : nB ≤ 1048576) (hbn : bs.length = nB) (hc : At1 w aB nB (fun k => .int .i64 (bs[k]?.getD 0))) :
    ∃ v' X, (Builtin.append_ #[28, 28] 28 #[.slice (some ⟨W.heap.size, 0, none⟩) 3 3, .slice aB nB cB]).run Try.prog (W.alloc (.cells #[.int .i64 z0, .int .i64 z1, .int .i64 z2] 2)) = .ok v' X ∧ Wds X w.heap.size v' ([z0, z1, z2] ++ bs) ∧ Below w.heap.size w X ∧ KeepT W X := by
  have hW1 : Below w.heap.size w (W.alloc (.cells #[.int .i64 z0, .int .i64 z1, .int .i64 z2] 2)) := hW.trans ((later1 _ _).mono hW.size)
  have hl := Wds.lit W w.heap.size hW.size [z0, z1, z2] #[.int .i64 z0, .int .i64 z1, .int .i64 z2] rfl 3 rfl (by omega)
  obtain ⟨v', X, h1, h2, h3, h4⟩ := append_any _ w.heap.size _ [z0, z1, z2] bs aB nB cB hl hW1.size hbn (by simp) hn (fun k hk => by
    obtain ⟨b, off, e, h⟩ := hc k hk
    exact ⟨b, off, e, cell_later hW1 h⟩) (hl.some (by simp))
  exact ⟨v', X, h1, h2, hW1.trans h3, (KeepT.later (later1 _ _)).trans h4⟩

set_option maxHeartbeats 3200000 in
theorem l4Pack_flat (w : World) (z0 z1 z2 : Int) (aB : Option Addr) (nB cB : Nat) (aE : Option Addr) (nE cE : Nat) (bs : List Int) (hn : nB ≤ 1048576) (hbn : bs.length = nB) (hc : At1 w aB nB (fun k => .int .i64 (bs[k]?.getD 0))) (hk : ¬ z0 = 2) :
    Calls Try.prog 42 #[.agg #[.int .i64 z0, .int .i64 z1, .int .i64 z2, .slice aB nB cB, .slice aE nE cE]] w fun e w' => ∃ v, e = .returned v ∧ Below w.heap.size w w' ∧ Wds w' w.heap.size v ([z0, z1, z2] ++ bs) := by
  obtain ⟨v1, X1, hr1, hw1, hb1, hk1⟩ := append_first w (w.alloc (.cells #[.int .i64 z0, .int .i64 z1, .int .i64 z2, .slice aB nB cB, .slice aE nE cE] 36)) (later1 _ _) z0 z1 z2 aB nB cB bs hn hbn hc
  have c0 := ((Obx.new w [.int .i64 z0, .int .i64 z1, .int .i64 z2, .slice aB nB cB, .slice aE nE cE] 36).keep hk1 (by decide)).bx 0 _ rfl
  simp only [World.size_alloc] at hr1
  have HR : Hid (_ = _) := hr1
  have HW : Hid (Wds X1 w.heap.size v1 ([z0, z1, z2] ++ bs)) := hw1
  have HB : Hid (Below w.heap.size w X1) := hb1
  have hk' : (z0 != 2) = true := by simpa using hk
  clear hc hr1 hw1 hb1 hk1 hk
  go_enter Try.func42, Try.ntmps42
  go_wp2_with (at_builtin; refine wpList_append_run rfl _ _ 28 rfl _ _ rfl rfl _ _ HR.out ?_)
  go_ret
  exact ⟨v1, rfl, HB.out, HW.out⟩

set_option maxHeartbeats 12800000 in
theorem l4Pack_dir (w : World) (z1 z2 : Int) (aB : Option Addr) (nB cB : Nat) (aE : Option Addr) (nE cE : Nat) (bs : List Int) (es : List EN) (hn : nB ≤ 1048576) (hbn : bs.length = nB) (hc : At1 w aB nB (fun k => .int .i64 (bs[k]?.getD 0))) (hen : es.length = nE) (hnE : nE ≤ 1048576) (hsz : (entsW es).length ≤ 4194304) (hce : AtN w aE nE es) :
    Calls Try.prog 42 #[.agg #[.int .i64 2, .int .i64 z1, .int .i64 z2, .slice aB nB cB, .slice aE nE cE]] w fun e w' => ∃ v, e = .returned v ∧ Below w.heap.size w w' ∧ Wds w' w.heap.size v ([2, z1, z2] ++ bs ++ [(nE : Int)] ++ entsW es) := by
  obtain ⟨v1, X1, hr1, hw1, hb1, hk1⟩ := append_first w (w.alloc (.cells #[.int .i64 2, .int .i64 z1, .int .i64 z2, .slice aB nB cB, .slice aE nE cE] 36)) (later1 _ _) 2 z1 z2 aB nB cB bs hn hbn hc
  have hox := (Obx.new w [.int .i64 2, .int .i64 z1, .int .i64 z2, .slice aB nB cB, .slice aE nE cE] 36).keep hk1 (by decide)
  simp only [World.size_alloc] at hr1
  obtain ⟨v2, X2, hr2, hw2, hb2, hk2⟩ := append_wds X1 w.heap.size v1 ([2, z1, z2] ++ bs) [(nE : Int)] #[.int .i64 (nE : Int)] 1 rfl rfl hw1 hb1.size (by simp; omega) (by simp) (by omega)
  have c0 := hox.bx 0 _ rfl
  have c4 := hox.bx 4 _ rfl
  have hoy := hox.keep hk2 (by decide)
  have HR1 : Hid (_ = _) := hr1
  have HR2 : Hid (_ = _) := hr2
  have HW2 : Hid (Wds X2 w.heap.size v2 ([2, z1, z2] ++ bs ++ [(nE : Int)])) := hw2
  have HB2 : Hid (Below w.heap.size w X2) := hb1.trans hb2
  have HO2 : Hid (Obx X2 w.heap.size [.int .i64 2, .int .i64 z1, .int .i64 z2, .slice aB nB cB, .slice aE nE cE] 36) := hoy
  have HL : Hid (([2, z1, z2] ++ bs ++ [(nE : Int)]).length ≤ 1048580) := by unfold Hid; simp; omega
  have HP : Hid (0 < ([2, z1, z2] ++ bs ++ [(nE : Int)]).length) := by unfold Hid; simp
  have HCE : Hid (AtN w aE nE es) := hce
  have HEN : Hid (es.length = nE) := hen
  have HSZ : Hid ((entsW es).length ≤ 4194304) := hsz
  generalize [2, z1, z2] ++ bs ++ [(nE : Int)] = pre at *
  clear hc hr1 hw1 hb1 hk1 hox hr2 hw2 hb2 hk2 hoy hce hen hsz hbn
  go_enter Try.func42, Try.ntmps42
  go_wp2_with (at_builtin; first | refine wpList_append_run rfl _ _ 28 rfl _ _ rfl rfl _ _ HR1.out ?_ | refine wpList_append_run rfl _ _ 28 rfl _ _ rfl rfl _ _ HR2.out ?_)
  clear c0 c4 HR1 HR2
  go_loopw [3, 4] (fun o i wr => ∃ (j : Nat) (v : Value), o = v ∧ j ≤ nE ∧ i = .int .i64 j ∧ Below w.heap.size w wr ∧ Obx wr w.heap.size [.int .i64 2, .int .i64 z1, .int .i64 z2, .slice aB nB cB, .slice aE nE cE] 36 ∧ Wds wr w.heap.size v (pre ++ entsW (es.take j))) (fun _ i _ => nE - (intOf i).toNat)
  case atStart => exact ⟨0, _, rfl, Nat.zero_le _, rfl, HB2.out, HO2.out, by simpa [entsW] using HW2.out⟩
  case round =>
    obtain ⟨j, v, rfl, hj, rfl, hbl, hox, hwd⟩ := hrel
    have HBL : Hid (Below w.heap.size w wr) := hbl
    have HOX : Hid (Obx wr w.heap.size [.int .i64 2, .int .i64 z1, .int .i64 z2, .slice aB nB cB, .slice aE nE cE] 36) := hox
    have HWD : Hid (Wds wr w.heap.size _ (pre ++ entsW (es.take j))) := hwd
    obtain ⟨aV, cV, rfl⟩ := hwd.shape
    have c4 := hox.bx 4 _ rfl
    clear hbl hox hwd
    by_cases hlt : j < nE
    · obtain ⟨b1, off, rfl, e0, e1⟩ := HCE.out j hlt
      replace e0 := cell_later HBL.out e0
      replace e1 := cell_later HBL.out e1
      have HTK : Hid (entsW (es.take (j + 1)) = entsW (es.take j) ++ entW (es[j]?.getD en0)) := entsW_take es j (by rw [HEN.out]; exact hlt)
      have HUP : Hid ((entsW (es.take j)).length + 2 + (es[j]?.getD en0).1.size ≤ (entsW es).length) := upto_size es j (by rw [HEN.out]; exact hlt)
      have HET : Hid (es[j]?.getD en0 = ((es[j]?.getD en0).1, (es[j]?.getD en0).2)) := rfl
      rw [HET.out] at HTK
      generalize (es[j]?.getD en0).1 = x at *
      generalize (es[j]?.getD en0).2 = y at *
      have hxs : x.size ≤ 4194304 := by have := HUP.out; have := HSZ.out; omega
      obtain ⟨v3, X3, hr3, hw3, hb3, hk3⟩ := append_wds (wr.alloc (.cells #[.string x, .int .i64 y] 70)) w.heap.size _ (pre ++ entsW (es.take j)) [y, (x.size : Int)] #[.int .i64 y, .int .i64 (x.size : Int)] 2 rfl rfl (HWD.out.later (later1 _ _)) (by simp; have := HBL.out.size; omega) (by simp only [List.length_append]; have := HL.out; have := HUP.out; have := HSZ.out; omega) (by simp only [List.length_append]; have := HP.out; omega) (by omega)
      have hoe := (Obx.new wr [.string x, .int .i64 y] 70).keep hk3 (by decide)
      have hop := (HOX.out.keep (KeepT.later (later1 wr (.cells #[.string x, .int .i64 y] 70))) (by decide)).keep hk3 (by decide)
      simp only [World.size_alloc] at hr3
      have HR3 : Hid (_ = _) := hr3
      have HW3 : Hid (Wds X3 w.heap.size v3 (pre ++ entsW (es.take j) ++ [y, (x.size : Int)])) := hw3
      have HB3 : Hid (Below w.heap.size w X3) := (HBL.out.trans ((later1 _ _).mono HBL.out.size)).trans hb3
      have HOE : Hid (Obx X3 wr.heap.size [.string x, .int .i64 y] 70) := hoe
      have HOP : Hid (Obx X3 w.heap.size [.int .i64 2, .int .i64 z1, .int .i64 z2, .slice aB nB cB, .slice (some ⟨b1, off, none⟩) nE cE] 36) := hop
      clear hr3 hw3 hb3 hk3 hoe hop
      go_wp2_with (at_builtin; refine wpList_append_run rfl _ _ 28 rfl _ _ rfl rfl _ _ HR3.out ?_)
      clear c4 e0 e1 HR3 HWD HOX
      generalize wr.heap.size = eb at *
      go_loopw [3, 6] (fun o i wr2 => ∃ (q : Nat) (v : Value), o = v ∧ q ≤ x.size ∧ i = .int .i64 q ∧ Below w.heap.size w wr2 ∧ Obx wr2 w.heap.size [.int .i64 2, .int .i64 z1, .int .i64 z2, .slice aB nB cB, .slice (some ⟨b1, off, none⟩) nE cE] 36 ∧ Obx wr2 eb [.string x, .int .i64 y] 70 ∧ Wds wr2 w.heap.size v (pre ++ entsW (es.take j) ++ [y, (x.size : Int)] ++ nameW x q)) (fun _ i _ => x.size - (intOf i).toNat)
      case atStart => exact ⟨0, _, rfl, Nat.zero_le _, rfl, HB3.out, HOP.out, HOE.out, by simpa [nameW] using HW3.out⟩
      case round =>
        clear HB3 HOP HOE HW3
        obtain ⟨q, v, rfl, hq, rfl, hbl2, hop2, hoe2, hwd2⟩ := hrel
        have HBL2 : Hid (Below w.heap.size w wr) := hbl2
        have HOP2 : Hid (Obx wr w.heap.size [.int .i64 2, .int .i64 z1, .int .i64 z2, .slice aB nB cB, .slice (some ⟨b1, off, none⟩) nE cE] 36) := hop2
        have HOE2 : Hid (Obx wr eb [.string x, .int .i64 y] 70) := hoe2
        have HWD2 : Hid (Wds wr w.heap.size _ (pre ++ entsW (es.take j) ++ [y, (x.size : Int)] ++ nameW x q)) := hwd2
        obtain ⟨aV2, cV2, rfl⟩ := hwd2.shape
        have c5 := hoe2.bx 0 _ rfl
        clear hbl2 hop2 hoe2 hwd2
        by_cases hlq : q < x.size
        · have HNN : Hid (nameW x (q + 1) = nameW x q ++ [((x[q]'hlq).toNat : Int)]) := nameW_next x q hlq
          obtain ⟨v4, X4, hr4, hw4, hb4, hk4⟩ := append_wds wr w.heap.size _ (pre ++ entsW (es.take j) ++ [y, (x.size : Int)] ++ nameW x q) [((x[q]'hlq).toNat : Int)] #[.int .i64 ((x[q]'hlq).toNat : Int)] 1 rfl rfl HWD2.out HBL2.out.size (by simp only [List.length_append, List.length_cons, List.length_nil]; have := HL.out; have := HUP.out; have := HSZ.out; have := nameW_len x q; omega) (by simp only [List.length_append]; have := HP.out; omega) (by omega)
          have HR4 : Hid (_ = _) := hr4
          have HW4 : Hid (Wds X4 w.heap.size v4 (pre ++ entsW (es.take j) ++ [y, (x.size : Int)] ++ nameW x (q + 1))) := by unfold Hid; rw [HNN.out, ← List.append_assoc]; exact hw4
          have HB4 : Hid (Below w.heap.size w X4) := HBL2.out.trans hb4
          have HOP4 : Hid (Obx X4 w.heap.size [.int .i64 2, .int .i64 z1, .int .i64 z2, .slice aB nB cB, .slice (some ⟨b1, off, none⟩) nE cE] 36) := HOP2.out.keep hk4 (by decide)
          have HOE4 : Hid (Obx X4 eb [.string x, .int .i64 y] 70) := HOE2.out.keep hk4 (by decide)
          have hbyte : (x[q]'hlq).toNat < 256 := UInt8.toNat_lt _
          clear hr4 hw4 hb4 hk4 HNN HWD2 HOP2 HOE2
          go_wp2_with (at_builtin; refine wpList_append_run rfl _ _ 28 rfl _ _ rfl rfl _ _ HR4.out ?_)
          go_roundw
          case rel => exact ⟨q + 1, _, rfl, by omega, by go_num, HB4.out, HOP4.out, HOE4.out, HW4.out⟩
          case measure => simp [intOf]; omega
        · have HW4 : Hid (Wds wr w.heap.size (.slice aV2 (pre ++ entsW (es.take j) ++ [y, (x.size : Int)] ++ nameW x q).length cV2) (pre ++ entsW (es.take (j + 1)))) := by
            have e : q = x.size := by omega
            have h2 : pre ++ entsW (es.take (j + 1)) = pre ++ entsW (es.take j) ++ [y, (x.size : Int)] ++ nameW x q := by rw [HTK.out, e, ← nameW_all]; simp only [List.append_assoc]
            unfold Hid
            rw [h2]
            exact HWD2.out
          go_wp2
          go_roundw
          case rel => exact ⟨j + 1, _, rfl, by omega, by go_num, HBL2.out, HOP2.out, HW4.out⟩
          case measure => simp [intOf]; omega
    · have hjn : j = nE := by omega
      have HW4 : Hid (Wds wr w.heap.size (.slice aV (pre ++ entsW (es.take j)).length cV) (pre ++ entsW es)) := by
        have h2 : es.take j = es := List.take_of_length_le (by rw [HEN.out]; omega)
        unfold Hid
        rw [h2]
        have := HWD.out
        rw [h2] at this
        exact this
      clear hjn
      go_wp2
      go_ret
      exact ⟨_, rfl, HBL.out, HW4.out⟩
end Go.Proofs.Ytcmkfapgpolglaj

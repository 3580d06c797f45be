/- The specification's l4Pack. The program's InodeFault. The program's InodeFault: its kinds. The program's InodeFault. PackInode, both sides. The specification's UsedBlocks, FreeBlocks, PickBlocks and FreeInode. The specification's PickBlocks. The specification's copying of an inode and of a file system. -/
import Derived.Test.YtlacppjlclfpmaaGreatM06
import Derived.Test.YtlacppjlclfpmaaGreatM03
import Derived.Laws.Cover1
import Derived.Test.YtlacppjlclfpmaaGreatM05
import Derived.Test.YtlacppjlclfpmaaGreatM04
namespace Go.Proofs.YtlacppjlclfpmaaGreat
open Go.RowKit
set_option maxRecDepth 100000

/-- The first append: three words, then the blocks. -/
theorem append_first (w W : World) (hW : Below w.heap.size w W) (z0 z1 z2 : Int) (aB : Option Addr) (nB cB : Nat) (bs : List Int) (hn : nB ≤ 1048576) (hbn : bs.length = nB) (hc : At1 w aB nB (fun k => .int .i64 (bs[k]?.getD 0))) :
    ∃ v' X, (Builtin.append_ #[55, 55] 55 #[.slice (some ⟨W.heap.size, 0, none⟩) 3 3, .slice aB nB cB]).run Tryz.prog (W.alloc (.cells #[.int .i64 z0, .int .i64 z1, .int .i64 z2] 2)) = .ok v' X ∧ Wds X w.heap.size v' ([z0, z1, z2] ++ bs) ∧ Below w.heap.size w X ∧ KeepT W X := by
  have hW1 : Below w.heap.size w (W.alloc (.cells #[.int .i64 z0, .int .i64 z1, .int .i64 z2] 2)) := hW.trans ((later1 _ _).mono hW.size)
  have hl := Wds.lit W w.heap.size hW.size [z0, z1, z2] #[.int .i64 z0, .int .i64 z1, .int .i64 z2] rfl 3 rfl (by omega)
  obtain ⟨v', X, h1, h2, h3, h4⟩ := append_any _ w.heap.size _ [z0, z1, z2] bs aB nB cB hl hW1.size hbn (by simp) hn (fun k hk => by
    obtain ⟨b, off, e, h⟩ := hc k hk
    exact ⟨b, off, e, cell_later hW1 h⟩) (hl.some (by simp))
  exact ⟨v', X, h1, h2, hW1.trans h3, (KeepT.later (later1 _ _)).trans h4⟩

set_option maxHeartbeats 3200000 in
theorem l4Pack_flat (w : World) (z0 z1 z2 : Int) (aB : Option Addr) (nB cB : Nat) (aE : Option Addr) (nE cE : Nat) (bs : List Int) (hn : nB ≤ 1048576) (hbn : bs.length = nB) (hc : At1 w aB nB (fun k => .int .i64 (bs[k]?.getD 0))) (hk : ¬ z0 = 2) :
    Calls Tryz.prog 46 #[.agg #[.int .i64 z0, .int .i64 z1, .int .i64 z2, .slice aB nB cB, .slice aE nE cE]] w fun e w' => ∃ v, e = .returned v ∧ Below w.heap.size w w' ∧ Wds w' w.heap.size v ([z0, z1, z2] ++ bs) := by
  obtain ⟨v1, X1, hr1, hw1, hb1, hk1⟩ := append_first w (w.alloc (.cells #[.int .i64 z0, .int .i64 z1, .int .i64 z2, .slice aB nB cB, .slice aE nE cE] 58)) (later1 _ _) z0 z1 z2 aB nB cB bs hn hbn hc
  have c0 := ((Obx.new w [.int .i64 z0, .int .i64 z1, .int .i64 z2, .slice aB nB cB, .slice aE nE cE] 58).keep hk1 (by decide)).bx 0 _ rfl
  simp only [World.size_alloc] at hr1
  have HR : Hid (_ = _) := hr1
  have HW : Hid (Wds X1 w.heap.size v1 ([z0, z1, z2] ++ bs)) := hw1
  have HB : Hid (Below w.heap.size w X1) := hb1
  have hk' : (z0 != 2) = true := by simpa using hk
  clear hc hr1 hw1 hb1 hk1 hk
  go_enter Tryz.func46, Tryz.ntmps46
  go_wp2_with (at_builtin; refine wpList_append_run rfl _ _ 55 rfl _ _ rfl rfl _ _ HR.out ?_)
  go_ret
  exact ⟨v1, rfl, HB.out, HW.out⟩

set_option maxHeartbeats 12800000 in
theorem l4Pack_dir (w : World) (z1 z2 : Int) (aB : Option Addr) (nB cB : Nat) (aE : Option Addr) (nE cE : Nat) (bs : List Int) (es : List EN) (hn : nB ≤ 1048576) (hbn : bs.length = nB) (hc : At1 w aB nB (fun k => .int .i64 (bs[k]?.getD 0))) (hen : es.length = nE) (hnE : nE ≤ 1048576) (hsz : (entsW es).length ≤ 4194304) (hce : AtN w aE nE es) :
    Calls Tryz.prog 46 #[.agg #[.int .i64 2, .int .i64 z1, .int .i64 z2, .slice aB nB cB, .slice aE nE cE]] w fun e w' => ∃ v, e = .returned v ∧ Below w.heap.size w w' ∧ Wds w' w.heap.size v ([2, z1, z2] ++ bs ++ [(nE : Int)] ++ entsW es) := by
  obtain ⟨v1, X1, hr1, hw1, hb1, hk1⟩ := append_first w (w.alloc (.cells #[.int .i64 2, .int .i64 z1, .int .i64 z2, .slice aB nB cB, .slice aE nE cE] 58)) (later1 _ _) 2 z1 z2 aB nB cB bs hn hbn hc
  have hox := (Obx.new w [.int .i64 2, .int .i64 z1, .int .i64 z2, .slice aB nB cB, .slice aE nE cE] 58).keep hk1 (by decide)
  simp only [World.size_alloc] at hr1
  obtain ⟨v2, X2, hr2, hw2, hb2, hk2⟩ := append_wds X1 w.heap.size v1 ([2, z1, z2] ++ bs) [(nE : Int)] #[.int .i64 (nE : Int)] 1 rfl rfl hw1 hb1.size (by simp; omega) (by simp) (by omega)
  have c0 := hox.bx 0 _ rfl
  have c4 := hox.bx 4 _ rfl
  have hoy := hox.keep hk2 (by decide)
  have HR1 : Hid (_ = _) := hr1
  have HR2 : Hid (_ = _) := hr2
  have HW2 : Hid (Wds X2 w.heap.size v2 ([2, z1, z2] ++ bs ++ [(nE : Int)])) := hw2
  have HB2 : Hid (Below w.heap.size w X2) := hb1.trans hb2
  have HO2 : Hid (Obx X2 w.heap.size [.int .i64 2, .int .i64 z1, .int .i64 z2, .slice aB nB cB, .slice aE nE cE] 58) := hoy
  have HL : Hid (([2, z1, z2] ++ bs ++ [(nE : Int)]).length ≤ 1048580) := by unfold Hid; simp; omega
  have HP : Hid (0 < ([2, z1, z2] ++ bs ++ [(nE : Int)]).length) := by unfold Hid; simp
  have HCE : Hid (AtN w aE nE es) := hce
  have HEN : Hid (es.length = nE) := hen
  have HSZ : Hid ((entsW es).length ≤ 4194304) := hsz
  generalize [2, z1, z2] ++ bs ++ [(nE : Int)] = pre at *
  clear hc hr1 hw1 hb1 hk1 hox hr2 hw2 hb2 hk2 hoy hce hen hsz hbn
  go_enter Tryz.func46, Tryz.ntmps46
  go_wp2_with (at_builtin; first | refine wpList_append_run rfl _ _ 55 rfl _ _ rfl rfl _ _ HR1.out ?_ | refine wpList_append_run rfl _ _ 55 rfl _ _ rfl rfl _ _ HR2.out ?_)
  clear c0 c4 HR1 HR2
  go_loopw [3, 4] (fun o i wr => ∃ (j : Nat) (v : Value), o = v ∧ j ≤ nE ∧ i = .int .i64 j ∧ Below w.heap.size w wr ∧ Obx wr w.heap.size [.int .i64 2, .int .i64 z1, .int .i64 z2, .slice aB nB cB, .slice aE nE cE] 58 ∧ Wds wr w.heap.size v (pre ++ entsW (es.take j))) (fun _ i _ => nE - (intOf i).toNat)
  case atStart => exact ⟨0, _, rfl, Nat.zero_le _, rfl, HB2.out, HO2.out, by simpa [entsW] using HW2.out⟩
  case round =>
    obtain ⟨j, v, rfl, hj, rfl, hbl, hox, hwd⟩ := hrel
    have HBL : Hid (Below w.heap.size w wr) := hbl
    have HOX : Hid (Obx wr w.heap.size [.int .i64 2, .int .i64 z1, .int .i64 z2, .slice aB nB cB, .slice aE nE cE] 58) := hox
    have HWD : Hid (Wds wr w.heap.size _ (pre ++ entsW (es.take j))) := hwd
    obtain ⟨aV, cV, rfl⟩ := hwd.shape
    have c4 := hox.bx 4 _ rfl
    clear hbl hox hwd
    by_cases hlt : j < nE
    · obtain ⟨b1, off, rfl, e0, e1⟩ := HCE.out j hlt
      replace e0 := cell_later HBL.out e0
      replace e1 := cell_later HBL.out e1
      have HTK : Hid (entsW (es.take (j + 1)) = entsW (es.take j) ++ entW (es[j]?.getD en0)) := entsW_take es j (by rw [HEN.out]; exact hlt)
      have HUP : Hid ((entsW (es.take j)).length + 2 + (es[j]?.getD en0).1.size ≤ (entsW es).length) := upto_size es j (by rw [HEN.out]; exact hlt)
      have HET : Hid (es[j]?.getD en0 = ((es[j]?.getD en0).1, (es[j]?.getD en0).2)) := rfl
      rw [HET.out] at HTK
      generalize (es[j]?.getD en0).1 = x at *
      generalize (es[j]?.getD en0).2 = y at *
      have hxs : x.size ≤ 4194304 := by have := HUP.out; have := HSZ.out; omega
      obtain ⟨v3, X3, hr3, hw3, hb3, hk3⟩ := append_wds (wr.alloc (.cells #[.string x, .int .i64 y] 109)) w.heap.size _ (pre ++ entsW (es.take j)) [y, (x.size : Int)] #[.int .i64 y, .int .i64 (x.size : Int)] 2 rfl rfl (HWD.out.later (later1 _ _)) (by simp; have := HBL.out.size; omega) (by simp only [List.length_append]; have := HL.out; have := HUP.out; have := HSZ.out; omega) (by simp only [List.length_append]; have := HP.out; omega) (by omega)
      have hoe := (Obx.new wr [.string x, .int .i64 y] 109).keep hk3 (by decide)
      have hop := (HOX.out.keep (KeepT.later (later1 wr (.cells #[.string x, .int .i64 y] 109))) (by decide)).keep hk3 (by decide)
      simp only [World.size_alloc] at hr3
      have HR3 : Hid (_ = _) := hr3
      have HW3 : Hid (Wds X3 w.heap.size v3 (pre ++ entsW (es.take j) ++ [y, (x.size : Int)])) := hw3
      have HB3 : Hid (Below w.heap.size w X3) := (HBL.out.trans ((later1 _ _).mono HBL.out.size)).trans hb3
      have HOE : Hid (Obx X3 wr.heap.size [.string x, .int .i64 y] 109) := hoe
      have HOP : Hid (Obx X3 w.heap.size [.int .i64 2, .int .i64 z1, .int .i64 z2, .slice aB nB cB, .slice (some ⟨b1, off, none⟩) nE cE] 58) := hop
      clear hr3 hw3 hb3 hk3 hoe hop
      go_wp2_with (at_builtin; refine wpList_append_run rfl _ _ 55 rfl _ _ rfl rfl _ _ HR3.out ?_)
      clear c4 e0 e1 HR3 HWD HOX
      generalize wr.heap.size = eb at *
      go_loopw [3, 6] (fun o i wr2 => ∃ (q : Nat) (v : Value), o = v ∧ q ≤ x.size ∧ i = .int .i64 q ∧ Below w.heap.size w wr2 ∧ Obx wr2 w.heap.size [.int .i64 2, .int .i64 z1, .int .i64 z2, .slice aB nB cB, .slice (some ⟨b1, off, none⟩) nE cE] 58 ∧ Obx wr2 eb [.string x, .int .i64 y] 109 ∧ Wds wr2 w.heap.size v (pre ++ entsW (es.take j) ++ [y, (x.size : Int)] ++ nameW x q)) (fun _ i _ => x.size - (intOf i).toNat)
      case atStart => exact ⟨0, _, rfl, Nat.zero_le _, rfl, HB3.out, HOP.out, HOE.out, by simpa [nameW] using HW3.out⟩
      case round =>
        clear HB3 HOP HOE HW3
        obtain ⟨q, v, rfl, hq, rfl, hbl2, hop2, hoe2, hwd2⟩ := hrel
        have HBL2 : Hid (Below w.heap.size w wr) := hbl2
        have HOP2 : Hid (Obx wr w.heap.size [.int .i64 2, .int .i64 z1, .int .i64 z2, .slice aB nB cB, .slice (some ⟨b1, off, none⟩) nE cE] 58) := hop2
        have HOE2 : Hid (Obx wr eb [.string x, .int .i64 y] 109) := hoe2
        have HWD2 : Hid (Wds wr w.heap.size _ (pre ++ entsW (es.take j) ++ [y, (x.size : Int)] ++ nameW x q)) := hwd2
        obtain ⟨aV2, cV2, rfl⟩ := hwd2.shape
        have c5 := hoe2.bx 0 _ rfl
        clear hbl2 hop2 hoe2 hwd2
        by_cases hlq : q < x.size
        · have HNN : Hid (nameW x (q + 1) = nameW x q ++ [((x[q]'hlq).toNat : Int)]) := nameW_next x q hlq
          obtain ⟨v4, X4, hr4, hw4, hb4, hk4⟩ := append_wds wr w.heap.size _ (pre ++ entsW (es.take j) ++ [y, (x.size : Int)] ++ nameW x q) [((x[q]'hlq).toNat : Int)] #[.int .i64 ((x[q]'hlq).toNat : Int)] 1 rfl rfl HWD2.out HBL2.out.size (by simp only [List.length_append, List.length_cons, List.length_nil]; have := HL.out; have := HUP.out; have := HSZ.out; have := nameW_len x q; omega) (by simp only [List.length_append]; have := HP.out; omega) (by omega)
          have HR4 : Hid (_ = _) := hr4
          have HW4 : Hid (Wds X4 w.heap.size v4 (pre ++ entsW (es.take j) ++ [y, (x.size : Int)] ++ nameW x (q + 1))) := by unfold Hid; rw [HNN.out, ← List.append_assoc]; exact hw4
          have HB4 : Hid (Below w.heap.size w X4) := HBL2.out.trans hb4
          have HOP4 : Hid (Obx X4 w.heap.size [.int .i64 2, .int .i64 z1, .int .i64 z2, .slice aB nB cB, .slice (some ⟨b1, off, none⟩) nE cE] 58) := HOP2.out.keep hk4 (by decide)
          have HOE4 : Hid (Obx X4 eb [.string x, .int .i64 y] 109) := HOE2.out.keep hk4 (by decide)
          have hbyte : (x[q]'hlq).toNat < 256 := UInt8.toNat_lt _
          clear hr4 hw4 hb4 hk4 HNN HWD2 HOP2 HOE2
          go_wp2_with (at_builtin; refine wpList_append_run rfl _ _ 55 rfl _ _ rfl rfl _ _ HR4.out ?_)
          go_roundw
          case rel => exact ⟨q + 1, _, rfl, by omega, by go_num, HB4.out, HOP4.out, HOE4.out, HW4.out⟩
          case measure => simp [intOf]; omega
        · have HW4 : Hid (Wds wr w.heap.size (.slice aV2 (pre ++ entsW (es.take j) ++ [y, (x.size : Int)] ++ nameW x q).length cV2) (pre ++ entsW (es.take (j + 1)))) := by
            have e : q = x.size := by omega
            have h2 : pre ++ entsW (es.take (j + 1)) = pre ++ entsW (es.take j) ++ [y, (x.size : Int)] ++ nameW x q := by rw [HTK.out, e, ← nameW_all]; simp only [List.append_assoc]
            unfold Hid
            rw [h2]
            exact HWD2.out
          go_wp2
          go_roundw
          case rel => exact ⟨j + 1, _, rfl, by omega, by go_num, HBL2.out, HOP2.out, HW4.out⟩
          case measure => simp [intOf]; omega
    · have hjn : j = nE := by omega
      have HW4 : Hid (Wds wr w.heap.size (.slice aV (pre ++ entsW (es.take j)).length cV) (pre ++ entsW es)) := by
        have h2 : es.take j = es := List.take_of_length_le (by rw [HEN.out]; omega)
        unfold Hid
        rw [h2]
        have := HWD.out
        rw [h2] at this
        exact this
      clear hjn
      go_wp2
      go_ret
      exact ⟨_, rfl, HBL.out, HW4.out⟩
end Go.Proofs.YtlacppjlclfpmaaGreat

namespace Go.Proofs.YtlacppjlclfpmaaGreat
open Go.RowKit
set_option maxRecDepth 100000

set_option maxHeartbeats 1600000 in
theorem hasFile_any (w : World) (k l s : Int) (a : Option Addr) (n c : Nat) (vE : Value) (a' : Option Addr) (n' c' : Nat) (hv : vE = .slice a' n' c') :
    Calls Tryz.prog 102 #[.agg #[.int .i64 k, .int .i64 l, .int .i64 s, .slice a n c, vE]] w fun e w' => e = .returned (.bool (decide (l ≠ 0) || decide (s ≠ 0) || decide (0 < n))) ∧ Below w.heap.size w w' := by
  subst hv
  by_cases hl : l = 0
  · subst hl
    by_cases hs : s = 0
    · subst hs
      by_cases hn : 0 < n
      · have hn' : decide ((0 : Int) < (n : Int)) = true := by simp; omega
        rw [show (decide ((0 : Int) ≠ 0) || decide ((0 : Int) ≠ 0) || decide (0 < n)) = true by simp; omega]
        go_enter Tryz.func102, Tryz.ntmps102
        go_wp2
        go_ret
        exact ⟨rfl, later1 _ _⟩
      · have hn' : decide ((0 : Int) < (n : Int)) = false := by simp; omega
        rw [show (decide ((0 : Int) ≠ 0) || decide ((0 : Int) ≠ 0) || decide (0 < n)) = false by simp; omega]
        go_enter Tryz.func102, Tryz.ntmps102
        go_wp2
        go_ret
        exact ⟨rfl, later1 _ _⟩
    · have hs' : (s != 0) = true := by simpa using hs
      rw [show (decide ((0 : Int) ≠ 0) || decide (s ≠ 0) || decide (0 < n)) = true by simp [hs]]
      go_enter Tryz.func102, Tryz.ntmps102
      go_wp2
      go_ret
      exact ⟨rfl, later1 _ _⟩
  · have hl' : (l != 0) = true := by simpa using hl
    rw [show (decide (l ≠ 0) || decide (s ≠ 0) || decide (0 < n)) = true by simp [hl]]
    go_enter Tryz.func102, Tryz.ntmps102
    go_wp2
    go_ret
    exact ⟨rfl, later1 _ _⟩
theorem hasDir_any (w : World) (k l s : Int) (a : Option Addr) (n c : Nat) (a' : Option Addr) (n' c' : Nat) :
    Calls Tryz.prog 103 #[.agg #[.int .i64 k, .int .i64 l, .int .i64 s, .slice a n c, .slice a' n' c']] w fun e w' => e = .returned (.bool (decide (0 < n'))) ∧ Below w.heap.size w w' := by
  by_cases hn : 0 < n'
  · have hn' : decide ((0 : Int) < (n' : Int)) = true := by simp; omega
    rw [show decide (0 < n') = true by simpa using hn]
    go_enter Tryz.func103, Tryz.ntmps103
    go_wp2
    go_ret
    exact ⟨rfl, later1 _ _⟩
  · have hn' : decide ((0 : Int) < (n' : Int)) = false := by simp; omega
    rw [show decide (0 < n') = false by simpa using hn]
    go_enter Tryz.func103, Tryz.ntmps103
    go_wp2
    go_ret
    exact ⟨rfl, later1 _ _⟩

/-- Whether one of the first n is x. -/
def hasI (bs : List Int) (n : Nat) (x : Int) : Bool := (List.range n).any fun k => bs[k]?.getD 0 == x
theorem hasI_yes {bs : List Int} {n k : Nat} {x : Int} (hk : k < n) (e : bs[k]?.getD 0 = x) : hasI bs n x = true := by
  unfold hasI; rw [List.any_eq_true]; exact ⟨k, by simpa using hk, by simp [e]⟩
theorem hasI_no {bs : List Int} {n : Nat} {x : Int} (h : ∀ k, k < n → ¬ bs[k]?.getD 0 = x) : hasI bs n x = false := by
  unfold hasI; rw [List.any_eq_false]; intro k hk; simp at hk; simp [h k hk]

set_option maxHeartbeats 1600000 in
theorem indexI_any (w : World) (a : Option Addr) (n c : Nat) (bs : List Int) (x : Int) (hn : n ≤ 1048576) (hc : At1 w a n (fun k => .int .i64 (bs[k]?.getD 0))) :
    Calls Tryz.prog 109 #[.slice a n c, .int .i64 x] w fun e w' => ∃ r : Int, e = .returned (.int .i64 r) ∧ decide (0 ≤ r) = hasI bs n x ∧ ∃ m, w' = w.drewN m := by
  have HC : Hid (At1 w a n (fun k => .int .i64 (bs[k]?.getD 0))) := hc
  clear hc
  go_enter Tryz.func109, Tryz.ntmps109
  go_wp2
  go_loopw [8] (fun i wr => ∃ j m : Nat, j ≤ n ∧ i = .int .i64 j ∧ wr = w.drewN m ∧ ∀ i : Nat, i < j → ¬ bs[i]?.getD 0 = x) (fun i _ => n - (intOf i).toNat)
  case atStart => exact ⟨0, 0, Nat.zero_le _, rfl, rfl, fun i hi => by omega⟩
  case round =>
    obtain ⟨j, m, hj, rfl, rfl, hall⟩ := hrel
    have HA : Hid (∀ i : Nat, i < j → ¬ bs[i]?.getD 0 = x) := hall
    clear hall
    by_cases hlt : j < n
    · obtain ⟨b1, off, rfl, e1⟩ := HC.out j hlt
      dsimp only at e1
      by_cases he : bs[j]?.getD 0 = x
      · have HH : Hid (hasI bs n x = true) := hasI_yes hlt he
        rw [he] at e1
        clear he
        go_wp2
        go_ret
        exact ⟨(j : Int), rfl, by rw [HH.out]; simp, m, rfl⟩
      · have HNE : Hid (∀ i : Nat, i < j + 1 → ¬ bs[i]?.getD 0 = x) := fun i hi => by
          by_cases e : i = j
          · rw [e]; exact he
          · exact HA.out i (by omega)
        have he' : (x == bs[j]?.getD 0) = false := by simp; exact fun h => he h.symm
        have he2 : (x = bs[j]?.getD 0) = False := by simp; exact fun h => he h.symm
        clear he
        generalize bs[j]?.getD 0 = y at *
        go_wp2
        go_roundw
        case rel => exact ⟨j + 1, m, by omega, by go_num, rfl, HNE.out⟩
        case measure => simp [intOf]; omega
    · have HH : Hid (hasI bs n x = false) := hasI_no fun k hk => HA.out k (by omega)
      go_wp2
      go_ret
      exact ⟨-1, rfl, by rw [HH.out]; rfl, m, rfl⟩

set_option maxHeartbeats 1600000 in
theorem containsI_any (w : World) (a : Option Addr) (n c : Nat) (bs : List Int) (x : Int) (hn : n ≤ 1048576) (hc : At1 w a n (fun k => .int .i64 (bs[k]?.getD 0))) :
    Calls Tryz.prog 107 #[.slice a n c, .int .i64 x] w fun e w' => e = .returned (.bool (hasI bs n x)) ∧ ∃ m, w' = w.drewN m := by
  have HC : Hid (At1 w a n (fun k => .int .i64 (bs[k]?.getD 0))) := hc
  clear hc
  go_enter Tryz.func107, Tryz.ntmps107
  go_wp2_with fail
  refine (indexI_any _ a n c bs x hn HC.out).mono ?_
  rintro e w1 ⟨r, rfl, hr, m, rfl⟩
  have HR : Hid (decide (0 ≤ r) = hasI bs n x) := hr
  clear hr
  go_wp2
  go_ret
  exact ⟨by rw [← HR.out]; rfl, m, rfl⟩

set_option maxHeartbeats 3200000 in
theorem blocksFault_any (w : World) (a : Option Addr) (n c : Nat) (bs : List Int) (hn : n ≤ 1048576) (hcap : n ≤ c) (hbn : bs.length = n) (hc : At1 w a n (fun k => .int .i64 (bs[k]?.getD 0))) :
    Calls Tryz.prog 105 #[.slice a n c] w fun e w' => e = .returned (.int .i64 (blkF bs)) ∧ ∃ m, w' = w.drewN m := by
  have HC : Hid (At1 w a n (fun k => .int .i64 (bs[k]?.getD 0))) := hc
  have HN : Hid (bs.length = n) := hbn
  clear hc hbn
  go_enter Tryz.func105, Tryz.ntmps105
  go_wp2
  go_loopw [9] (fun i wr => ∃ j m : Nat, j ≤ n ∧ i = .int .i64 j ∧ wr = w.drewN m ∧ ∀ i : Nat, i < j → rngF bs i = 0) (fun i _ => n - (intOf i).toNat)
  case atStart => exact ⟨0, 0, Nat.zero_le _, rfl, rfl, fun i hi => by omega⟩
  case round =>
    obtain ⟨j, m, hj, rfl, rfl, hall⟩ := hrel
    have HA : Hid (∀ i : Nat, i < j → rngF bs i = 0) := hall
    clear hall
    by_cases hlt : j < n
    · obtain ⟨b1, off, rfl, e1⟩ := HC.out j hlt
      dsimp only at e1
      have HRF : Hid (rngF bs j = if 0 ≤ bs[j]?.getD 0 ∧ bs[j]?.getD 0 ≤ 19 then 0 else 3) := rfl
      generalize bs[j]?.getD 0 = x at *
      have HB3 : Hid (rngF bs j = 3 → blkF bs = 3) := fun h => by
        have h3 : fstNZ (rngF bs) bs.length = 3 := by rw [fstNZ_at HA.out (by rw [h]; decide) (by rw [HN.out]; exact hlt), h]
        unfold blkF; rw [h3]; rfl
      by_cases h0 : x < 0
      · have HZ : Hid (blkF bs = 3) := HB3.out (by rw [HRF.out, if_neg (by omega)])
        go_wp2
        go_ret
        exact ⟨ret_int HZ.out.symm, m, rfl⟩
      · by_cases h1 : 20 ≤ x
        · have HZ : Hid (blkF bs = 3) := HB3.out (by rw [HRF.out, if_neg (by omega)])
          go_wp2
          go_ret
          exact ⟨ret_int HZ.out.symm, m, rfl⟩
        · have HZ : Hid (rngF bs j = 0) := by unfold Hid; rw [HRF.out, if_pos (by omega)]
          go_wp2
          go_roundw
          case rel =>
            refine ⟨j + 1, m, by omega, by go_num, rfl, fun i hi => ?_⟩
            by_cases e : i = j
            · subst e; exact HZ.out
            · exact HA.out i (by omega)
          case measure => simp [intOf]; omega
    · have HB : Hid (blkF bs = fstNZ (dupF bs) bs.length) := by
        unfold Hid blkF; rw [if_pos (fstNZ_zero fun i hi => HA.out i (by rw [HN.out] at hi; omega))]
      clear HA
      go_wp2
      go_loopw [22] (fun i wr => ∃ j m : Nat, j ≤ n ∧ i = .int .i64 j ∧ wr = w.drewN m ∧ ∀ i : Nat, i < j → dupF bs i = 0) (fun i _ => n - (intOf i).toNat)
      case atStart => exact ⟨0, m, Nat.zero_le _, rfl, rfl, fun i hi => by omega⟩
      case round =>
        obtain ⟨j2, m2, hj2, rfl, rfl, hall⟩ := hrel
        have HA : Hid (∀ i : Nat, i < j2 → dupF bs i = 0) := hall
        clear hall
        by_cases hlt2 : j2 < n
        · obtain ⟨b1, off, rfl, e1⟩ := HC.out j2 hlt2
          dsimp only at e1
          have HD : Hid (dupF bs j2 = if hasI bs j2 (bs[j2]?.getD 0) then 7 else 0) := rfl
          have HCN : Hid (∀ W : World, At1 W (some ⟨b1, off, none⟩) j2 (fun k => .int .i64 (bs[k]?.getD 0)) → ∀ cc, Calls Tryz.prog 107 #[.slice (some ⟨b1, off, none⟩) j2 cc, .int .i64 (bs[j2]?.getD 0)] W fun e w' => e = .returned (.bool (hasI bs j2 (bs[j2]?.getD 0))) ∧ ∃ m, w' = W.drewN m) := fun W hW cc => containsI_any W _ j2 cc bs _ (by omega) hW
          have HAT : Hid (At1 w (some ⟨b1, off, none⟩) j2 (fun k => .int .i64 (bs[k]?.getD 0))) := fun k hk => HC.out k (by omega)
          generalize hasI bs j2 (bs[j2]?.getD 0) = hh at *
          generalize bs[j2]?.getD 0 = x at *
          have hj2c : j2 ≤ c := by omega
          cases hh
          · have HZ : Hid (∀ i : Nat, i < j2 + 1 → dupF bs i = 0) := fun i hi => by
              by_cases e : i = j2
              · rw [e, HD.out]; rfl
              · exact HA.out i (by omega)
            go_wp2_with fail
            refine (HCN.out (w.drewN m2) HAT.out _).mono ?_
            rintro e w2 ⟨rfl, m3, rfl⟩
            go_wp2
            go_roundw
            case rel => exact ⟨j2 + 1, _, by omega, by go_num, by first | rfl | rw [World.drewN_drewN], HZ.out⟩
            case measure => simp [intOf]; omega
          · have HZ : Hid (blkF bs = 7) := by
              have h7 : dupF bs j2 = 7 := by rw [HD.out]; rfl
              unfold Hid; rw [HB.out, fstNZ_at HA.out (by rw [h7]; decide) (by rw [HN.out]; exact hlt2), h7]
            go_wp2_with fail
            refine (HCN.out (w.drewN m2) HAT.out _).mono ?_
            rintro e w2 ⟨rfl, m3, rfl⟩
            go_wp2
            go_ret
            exact ⟨ret_int HZ.out.symm, _, by first | rfl | rw [World.drewN_drewN]⟩
        · have HZ : Hid (blkF bs = 0) := by unfold Hid; rw [HB.out, fstNZ_zero fun i hi => HA.out i (by rw [HN.out] at hi; omega)]
          go_wp2
          go_ret
          exact ⟨ret_int HZ.out.symm, m2, rfl⟩
end Go.Proofs.YtlacppjlclfpmaaGreat

namespace Go.Proofs.YtlacppjlclfpmaaGreat
open Go.RowKit
set_option maxRecDepth 100000

set_option maxHeartbeats 1600000 in
theorem freeFault_any (w : World) (k l s : Int) (a : Option Addr) (n c : Nat) (a' : Option Addr) (n' c' : Nat) :
    Calls Tryz.prog 97 #[.agg #[.int .i64 k, .int .i64 l, .int .i64 s, .slice a n c, .slice a' n' c']] w fun e w' => e = .returned (.int .i64 (if (decide (l ≠ 0) || decide (s ≠ 0) || decide (0 < n)) || decide (0 < n') then 1 else 0)) ∧ Below w.heap.size w w' := by
  have HF := fun W => hasFile_any W k l s a n c (.slice a' n' c') a' n' c' rfl
  have HD := fun W => hasDir_any W k l s a n c a' n' c'
  generalize (decide (l ≠ 0) || decide (s ≠ 0) || decide (0 < n)) = f at *
  generalize decide (0 < n') = g at *
  have HHF : Hid (∀ W : World, _) := HF
  have HHD : Hid (∀ W : World, _) := HD
  clear HF HD
  cases f
  · have HG : Hid ((if (false || g) = true then (1 : Int) else 0) = if g = true then 1 else 0) := by unfold Hid; cases g <;> rfl
    rw [HG.out]
    go_enter Tryz.func97, Tryz.ntmps97
    go_wp2_with fail
    refine (HHF.out _).mono ?_
    rintro e w1 ⟨rfl, hb1⟩
    have HB1 : Hid (Below w.heap.size w w1) := (later1 _ _).trans (hb1.mono (by simp))
    have hx : Bx w1 w.heap.size [.int .i64 k, .int .i64 l, .int .i64 s, .slice a n c, .slice a' n' c'] := (Bx.new w _ _).later hb1
    have c0 := hx 0 _ rfl
    have c1 := hx 1 _ rfl
    have c2 := hx 2 _ rfl
    have c3 := hx 3 _ rfl
    have c4 := hx 4 _ rfl
    clear hb1 hx
    go_wp2_with fail
    refine (HHD.out _).mono ?_
    rintro e w2 ⟨rfl, hb2⟩
    have HB2 : Hid (Below w.heap.size w w2) := HB1.out.trans (hb2.mono HB1.out.size)
    clear hb2 c0 c1 c2 c3 c4
    cases g
    · go_wp2
      go_ret
      exact ⟨rfl, HB2.out⟩
    · go_wp2
      go_ret
      exact ⟨rfl, HB2.out⟩
  · go_enter Tryz.func97, Tryz.ntmps97
    go_wp2_with fail
    refine (HHF.out _).mono ?_
    rintro e w1 ⟨rfl, hb1⟩
    have HB1 : Hid (Below w.heap.size w w1) := (later1 _ _).trans (hb1.mono (by simp))
    clear hb1
    go_wp2
    go_ret
    exact ⟨rfl, HB1.out⟩

set_option maxHeartbeats 3200000 in
theorem fileFault_any (w : World) (k l s : Int) (a : Option Addr) (n c : Nat) (a' : Option Addr) (n' c' : Nat) (bs : List Int) (hn : n ≤ 1048576) (hcap : n ≤ c) (hbn : bs.length = n) (hc : At1 w a n (fun k => .int .i64 (bs[k]?.getD 0))) :
    Calls Tryz.prog 98 #[.agg #[.int .i64 k, .int .i64 l, .int .i64 s, .slice a n c, .slice a' n' c']] w fun e w' => e = .returned (.int .i64 (if decide (0 < n') then 1 else fileF l s bs)) ∧ Below w.heap.size w w' := by
  have HD := fun W => hasDir_any W k l s a n c a' n' c'
  generalize decide (0 < n') = g at *
  have HHD : Hid (∀ W : World, _) := HD
  have HC : Hid (At1 w a n (fun k => .int .i64 (bs[k]?.getD 0))) := hc
  have HN : Hid (bs.length = n) := hbn
  clear HD hc hbn
  cases g
  rotate_left
  · go_enter Tryz.func98, Tryz.ntmps98
    go_wp2_with fail
    refine (HHD.out _).mono ?_
    rintro e w1 ⟨rfl, hb1⟩
    have HB1 : Hid (Below w.heap.size w w1) := (later1 _ _).trans (hb1.mono (by simp))
    clear hb1
    go_wp2
    go_ret
    exact ⟨rfl, HB1.out⟩
  · have HFF : Hid (fileF l s bs = if linkB l = true ∧ sizeB s = true then (if (n : Int) = (s + 7) / 8 then blkF bs else 1) else 3) := by unfold Hid fileF; rw [HN.out]
    have HBF : Hid (bforR s = if sizeB s then (0, (s + 7) / 8) else (3, 0)) := rfl
    have HLK : Hid (linkB l = decide (1 ≤ l ∧ l ≤ 60)) := rfl
    go_enter Tryz.func98, Tryz.ntmps98
    go_wp2_with fail
    refine (HHD.out _).mono ?_
    rintro e w1 ⟨rfl, hb1⟩
    have HB1 : Hid (Below w.heap.size w w1) := (later1 _ _).trans (hb1.mono (by simp))
    have hx : Bx w1 w.heap.size [.int .i64 k, .int .i64 l, .int .i64 s, .slice a n c, .slice a' n' c'] := (Bx.new w _ _).later hb1
    have HX1 : Hid (Bx w1 w.heap.size [.int .i64 k, .int .i64 l, .int .i64 s, .slice a n c, .slice a' n' c']) := hx
    have c2 := hx 2 _ rfl
    clear hb1 hx
    go_wp2_with fail
    refine (implBFor_any _ s).mono ?_
    rw [HBF.out]
    rintro e w2 ⟨rfl, hb2⟩
    have HB2 : Hid (Below w.heap.size w w2) := HB1.out.trans (hb2.mono HB1.out.size)
    have hx : Bx w2 w.heap.size [.int .i64 k, .int .i64 l, .int .i64 s, .slice a n c, .slice a' n' c'] := HX1.out.later hb2
    have c1 := hx 1 _ rfl
    have c3 := hx 3 _ rfl
    have hlt := hx.lt
    clear hb2 hx c2 HX1 HB1
    by_cases hl1 : l < 1
    · have HR : Hid (fileF l s bs = 3) := by unfold Hid; rw [HFF.out, if_neg]; intro h; have := h.1; rw [HLK.out] at this; simp at this; omega
      go_wp2
      all_goals
        go_ret
        exact ⟨ret_int HR.out.symm, HB2.out.trans ((later1 _ _).mono HB2.out.size)⟩
    · by_cases hl2 : 60 < l
      · have HR : Hid (fileF l s bs = 3) := by unfold Hid; rw [HFF.out, if_neg]; intro h; have := h.1; rw [HLK.out] at this; simp at this; omega
        go_wp2
        all_goals
          go_ret
          exact ⟨ret_int HR.out.symm, HB2.out.trans ((later1 _ _).mono HB2.out.size)⟩
      · have hlk : linkB l = true := by rw [HLK.out]; simp; omega
        cases hsz : sizeB s
        · have HR : Hid (fileF l s bs = 3) := by unfold Hid; rw [HFF.out, if_neg]; intro h; rw [hsz] at h; exact absurd h.2 (by decide)
          clear hsz hlk
          go_wp2
          go_ret
          exact ⟨ret_int HR.out.symm, HB2.out.trans ((later1 _ _).mono HB2.out.size)⟩
        · by_cases hlen : (n : Int) = (s + 7) / 8
          · have HR : Hid (fileF l s bs = blkF bs) := by unfold Hid; rw [HFF.out, if_pos ⟨hlk, hsz⟩, if_pos hlen]
            have HBK : Hid (∀ W, Below w.heap.size w W → Calls Tryz.prog 105 #[.slice a n c] W fun e w' => e = .returned (.int .i64 (blkF bs)) ∧ ∃ m, w' = W.drewN m) := fun W hW => blocksFault_any W a n c bs hn hcap HN.out (fun k hk => by
              obtain ⟨b, off, e, h⟩ := HC.out k hk
              exact ⟨b, off, e, cell_later hW h⟩)
            have hnn : ((n : Int) != (n : Int)) = false := by simp
            have HLE : Hid ((n : Int) = (s + 7) / 8) := hlen
            rw [← hlen]
            clear hsz hlk hlen
            go_wp2_with fail
            refine (HBK.out _ (HB2.out.trans ((later1 _ _).mono HB2.out.size))).mono ?_
            rintro e w3 ⟨rfl, m, rfl⟩
            go_wp2
            go_ret
            exact ⟨ret_int HR.out.symm, below_drewN (HB2.out.trans ((later1 _ _).mono HB2.out.size)) m⟩
          · have HR : Hid (fileF l s bs = 1) := by unfold Hid; rw [HFF.out, if_pos ⟨hlk, hsz⟩, if_neg hlen]
            have hne : ((n : Int) != (s + 7) / 8) = true := by simpa using hlen
            clear hsz hlk hlen
            generalize (s + 7) / 8 = q at *
            go_wp2
            go_ret
            exact ⟨ret_int HR.out.symm, HB2.out.trans ((later1 _ _).mono HB2.out.size)⟩
end Go.Proofs.YtlacppjlclfpmaaGreat

namespace Go.Proofs.YtlacppjlclfpmaaGreat
open Go.RowKit
set_option maxRecDepth 100000

set_option maxHeartbeats 6400000 in
theorem dirFault_any (w : World) (k l s : Int) (a : Option Addr) (n c : Nat) (a' : Option Addr) (n' c' : Nat) (es : List EN) (hen : es.length = n') (_hm : n' ≤ maxLen) (hz : ∀ k : Nat, (es[k]?.getD en0).1.size ≤ maxLen) (hc : AtN w a' n' es) :
    Calls Tryz.prog 99 #[.agg #[.int .i64 k, .int .i64 l, .int .i64 s, .slice a n c, .slice a' n' c']] w fun e w' => e = .returned (.int .i64 (if decide (l ≠ 0) || decide (s ≠ 0) || decide (0 < n) then 1 else dirF es)) ∧ Below w.heap.size w w' := by
  have HF := fun W => hasFile_any W k l s a n c (.slice a' n' c') a' n' c' rfl
  generalize (decide (l ≠ 0) || decide (s ≠ 0) || decide (0 < n)) = f at *
  have HHF : Hid (∀ W : World, _) := HF
  have HC : Hid (AtN w a' n' es) := hc
  have HZ : Hid (∀ k : Nat, (es[k]?.getD en0).1.size ≤ maxLen) := hz
  have HN : Hid (es.length = n') := hen
  clear HF hc hz hen
  cases f
  rotate_left
  · go_enter Tryz.func99, Tryz.ntmps99
    go_wp2_with fail
    refine (HHF.out _).mono ?_
    rintro e w1 ⟨rfl, hb1⟩
    have HB1 : Hid (Below w.heap.size w w1) := (later1 _ _).trans (hb1.mono (by simp))
    clear hb1
    go_wp2
    go_ret
    exact ⟨rfl, HB1.out⟩
  · have HDF : Hid (dirF es = if 6 < n' then 2 else fstNZ (entF es) es.length) := by unfold Hid dirF; rw [HN.out]
    go_enter Tryz.func99, Tryz.ntmps99
    go_wp2_with fail
    refine (HHF.out _).mono ?_
    rintro e w1 ⟨rfl, hb1⟩
    have HB1 : Hid (Below w.heap.size w w1) := (later1 _ _).trans (hb1.mono (by simp))
    have hx : Bx w1 w.heap.size [.int .i64 k, .int .i64 l, .int .i64 s, .slice a n c, .slice a' n' c'] := (Bx.new w _ _).later hb1
    have c4 := hx 4 _ rfl
    have HX1 : Hid (Bx w1 w.heap.size [.int .i64 k, .int .i64 l, .int .i64 s, .slice a n c, .slice a' n' c']) := hx
    have hlt1 := hx.lt
    clear hb1 hx
    by_cases h6 : 6 < n'
    · have h6' : decide ((6 : Int) < (n' : Int)) = true := by simp; omega
      have HR : Hid (dirF es = 2) := by unfold Hid; rw [HDF.out, if_pos h6]
      go_wp2
      go_ret
      exact ⟨ret_int HR.out.symm, HB1.out⟩
    · have h6' : decide ((6 : Int) < (n' : Int)) = false := by simp; omega
      have HR : Hid (dirF es = fstNZ (entF es) es.length) := by unfold Hid; rw [HDF.out, if_neg h6]
      go_wp2
      go_loopw [15] (fun i wr => ∃ j : Nat, j ≤ n' ∧ i = .int .i64 j ∧ Below w1.heap.size w1 wr ∧ ∀ i : Nat, i < j → entF es i = 0) (fun i _ => n' - (intOf i).toNat)
      case atStart => exact ⟨0, Nat.zero_le _, rfl, Below.refl _ _, fun i hi => by omega⟩
      case round =>
        obtain ⟨j, hj, rfl, hbl, hall⟩ := hrel
        have HA : Hid (∀ i : Nat, i < j → entF es i = 0) := hall
        have HBL : Hid (Below w1.heap.size w1 wr) := hbl
        have HBW : Hid (Below w.heap.size w wr) := HB1.out.trans (hbl.mono HB1.out.size)
        have HBN : Hid (∀ o : Obj, Below w1.heap.size w1 (wr.alloc o)) := fun o => hbl.trans ((later1 _ _).mono hbl.size)
        have HBO : Hid (∀ o : Obj, Below w.heap.size w (wr.alloc o)) := fun o => HBW.out.trans ((later1 _ _).mono HBW.out.size)
        have c4' := cell_later hbl c4
        have hlw : w.heap.size < wr.heap.size := Nat.lt_of_lt_of_le hlt1 hbl.size
        clear hall hbl
        by_cases hlt : j < n'
        · obtain ⟨b1, off, rfl, e0, e1⟩ := HC.out j hlt
          have hb1l : b1 < wr.heap.size := Nat.lt_of_lt_of_le (World.block_lt_of_cell? _ _ e0) HBW.out.size
          replace e0 := cell_later HBW.out e0
          replace e1 := cell_later HBW.out e1
          have HSZ : Hid ((es[j]?.getD en0).1.size ≤ maxLen) := HZ.out j
          have HE : Hid (¬ entF es j = 0 → dirF es = entF es j) := fun h => HR.out.trans (fstNZ_at HA.out h (by rw [HN.out]; exact hlt))
          by_cases hnm : nameF (es[j]?.getD en0).1 = 0
          rotate_left
          · have HF : Hid (dirF es = nameF (es[j]?.getD en0).1) := by unfold Hid; rw [HE.out (by rw [entF_name hnm]; exact hnm), entF_name hnm]
            have HNM : Hid (¬ nameF (es[j]?.getD en0).1 = 0) := hnm
            clear hnm HE HA
            generalize (es[j]?.getD en0).1 = x at *
            generalize (es[j]?.getD en0).2 = y at *
            go_wp2_with fail
            refine (implName_any _ x HSZ.out).mono ?_
            generalize nameF x = q at *
            have hq : (q = 0) = False := by simpa using HNM.out
            have hq2 : (q == 0) = false := by simpa using HNM.out
            rintro e w2 ⟨rfl, rfl⟩
            go_wp2
            go_ret
            exact ⟨ret_int HF.out.symm, HBO.out _⟩
          · have HNM : Hid (nameF (es[j]?.getD en0).1 = 0) := hnm
            by_cases hy0 : (es[j]?.getD en0).2 < 0
            · have HF : Hid (dirF es = 3) := by unfold Hid; rw [HE.out (by rw [entF_rng hnm (by omega)]; decide), entF_rng hnm (by omega)]
              clear hnm HE HA
              generalize (es[j]?.getD en0).1 = x at *
              generalize (es[j]?.getD en0).2 = y at *
              go_wp2_with fail
              refine (implName_any _ x HSZ.out).mono ?_
              rw [HNM.out]
              rintro e w2 ⟨rfl, rfl⟩
              go_wp2
              go_ret
              exact ⟨ret_int HF.out.symm, HBO.out _⟩
            · by_cases hy9 : 10 ≤ (es[j]?.getD en0).2
              · have HF : Hid (dirF es = 3) := by unfold Hid; rw [HE.out (by rw [entF_rng hnm (by omega)]; decide), entF_rng hnm (by omega)]
                clear hnm HE HA
                generalize (es[j]?.getD en0).1 = x at *
                generalize (es[j]?.getD en0).2 = y at *
                go_wp2_with fail
                refine (implName_any _ x HSZ.out).mono ?_
                rw [HNM.out]
                rintro e w2 ⟨rfl, rfl⟩
                go_wp2
                go_ret
                exact ⟨ret_int HF.out.symm, HBO.out _⟩
              · have hr : 0 ≤ (es[j]?.getD en0).2 ∧ (es[j]?.getD en0).2 ≤ 9 := by omega
                by_cases h0 : j = 0
                · have HNX : Hid (∀ i : Nat, i < j + 1 → entF es i = 0) := fun i hi => by
                    have : i = j := by omega
                    rw [this]; exact entF_ok hnm hr (by omega)
                  clear hnm HE HA hr
                  generalize (es[j]?.getD en0).1 = x at *
                  generalize (es[j]?.getD en0).2 = y at *
                  subst h0
                  simp only [Nat.zero_mul, Nat.add_zero] at e0 e1
                  go_wp2_with fail
                  refine (implName_any _ x HSZ.out).mono ?_
                  rw [HNM.out]
                  rintro e w2 ⟨rfl, rfl⟩
                  go_wp2_with fail
                  go_quiet (fail)
                  go_wp2
                  go_roundw
                  case rel => exact ⟨1, by omega, by go_num, below_drewN (HBN.out _) nq, HNX.out⟩
                  case measure => simp [intOf]; omega
                · obtain ⟨i, hi⟩ : ∃ i, j = i + 1 := ⟨j - 1, by omega⟩
                  obtain ⟨b2, off2, h12, e2, _⟩ := HC.out i (by omega)
                  simp only [Option.some.injEq, Addr.mk.injEq, and_true] at h12
                  obtain ⟨rfl, rfl⟩ := h12
                  replace e2 := cell_later HBW.out e2
                  have hji : j - 1 = i := by omega
                  by_cases hle : strLe (es[j]?.getD en0).1 (es[i]?.getD en0).1 = true
                  · have HF : Hid (dirF es = 1) := by unfold Hid; rw [HE.out (by rw [entF_form hnm hr (by omega) (by rw [hji]; exact hle)]; decide), entF_form hnm hr (by omega) (by rw [hji]; exact hle)]
                    have hle2 := hle
                    unfold strLe at hle2
                    clear hnm HE HA hr hle
                    subst hi
                    generalize (es[i + 1]?.getD en0).1 = x at *
                    generalize (es[i + 1]?.getD en0).2 = y at *
                    generalize (es[i]?.getD en0).1 = x2 at *
                    have hpos : (0 : Int) < ((i + 1 : Nat) : Int) := by omega
                    go_wp2_with fail
                    refine (implName_any _ x HSZ.out).mono ?_
                    rw [HNM.out]
                    rintro e w2 ⟨rfl, rfl⟩
                    go_wp2_with fail
                    go_quiet (fail)
                    go_wp2
                    go_ret
                    exact ⟨ret_int HF.out.symm, below_drewN (HBO.out _) nq⟩
                  · have HNX : Hid (∀ q : Nat, q < j + 1 → entF es q = 0) := fun q hq => by
                      by_cases e : q = j
                      · rw [e]; exact entF_ok hnm hr (by rw [hji]; exact fun h => hle h.2)
                      · exact HA.out q (by omega)
                    have hle2 : strLe (es[j]?.getD en0).1 (es[i]?.getD en0).1 = false := by simpa using hle
                    unfold strLe at hle2
                    clear hnm HE HA hr hle
                    subst hi
                    generalize (es[i + 1]?.getD en0).1 = x at *
                    generalize (es[i + 1]?.getD en0).2 = y at *
                    generalize (es[i]?.getD en0).1 = x2 at *
                    have hpos : (0 : Int) < ((i + 1 : Nat) : Int) := by omega
                    go_wp2_with fail
                    refine (implName_any _ x HSZ.out).mono ?_
                    rw [HNM.out]
                    rintro e w2 ⟨rfl, rfl⟩
                    go_wp2_with fail
                    go_quiet (fail)
                    go_wp2
                    go_roundw
                    case rel => exact ⟨i + 1 + 1, by omega, by go_num, below_drewN (HBN.out _) nq, HNX.out⟩
                    case measure => simp [intOf]; omega
        · have HF : Hid (dirF es = 0) := by unfold Hid; rw [HR.out, fstNZ_zero fun i hi => HA.out i (by rw [HN.out] at hi; omega)]
          go_wp2
          go_ret
          exact ⟨ret_int HF.out.symm, HBW.out⟩

set_option maxHeartbeats 3200000 in
theorem implInoU (w : World) (z0 z1 z2 : Int) (aB : Option Addr) (nB cB : Nat) (aE : Option Addr) (nE cE : Nat) (d : ID) (h : InoR w (.int .i64 z0) (.int .i64 z1) (.int .i64 z2) (.slice aB nB cB) (.slice aE nE cE) d) (hs : sizeIno d ≤ 1048576) :
    Calls Tryz.prog 90 #[.agg #[.int .i64 z0, .int .i64 z1, .int .i64 z2, .slice aB nB cB, .slice aE nE cE]] w fun e w' => e = .returned (.int .i64 (inoF d)) ∧ Below w.heap.size w w' := by
  obtain ⟨⟨h0, h1, h2, hcap⟩, hi, he⟩ := h
  simp only [Value.int.injEq, true_and] at h0 h1 h2
  obtain ⟨_, _, _, ec, hcap⟩ := hcap
  simp only [Value.slice.injEq] at ec
  obtain ⟨rfl, rfl, rfl⟩ := ec
  obtain ⟨_, _, e1, hm1, hc1⟩ := hi.open'
  obtain ⟨_, _, e2, hm2, hz2, hc2⟩ := he.open'
  simp only [Value.slice.injEq] at e1 e2
  obtain ⟨rfl, e1n, rfl⟩ := e1
  obtain ⟨rfl, rfl, rfl⟩ := e2
  obtain ⟨k, l, s, bs, es⟩ := d
  dsimp only at *
  subst h0 h1 h2
  have hn1 : bs.length ≤ 1048576 := by unfold sizeIno at hs; dsimp only at hs; omega
  subst e1n
  have HFR : Hid (∀ W, Calls Tryz.prog 97 #[.agg #[.int .i64 z0, .int .i64 z1, .int .i64 z2, .slice aB bs.length cB, .slice aE es.length cE]] W fun e w' => e = .returned (.int .i64 (if (decide (z1 ≠ 0) || decide (z2 ≠ 0) || decide (0 < bs.length)) || decide (0 < es.length) then 1 else 0)) ∧ Below W.heap.size W w') := fun W => freeFault_any W z0 z1 z2 aB _ cB aE _ cE
  have HFI : Hid (∀ W, Below w.heap.size w W → Calls Tryz.prog 98 #[.agg #[.int .i64 z0, .int .i64 z1, .int .i64 z2, .slice aB bs.length cB, .slice aE es.length cE]] W fun e w' => e = .returned (.int .i64 (if decide (0 < es.length) then 1 else fileF z1 z2 bs)) ∧ Below W.heap.size W w') := fun W hW => fileFault_any W z0 z1 z2 aB _ cB aE _ cE bs hn1 hcap rfl (fun k hk => by
    obtain ⟨b, off, e, h⟩ := hc1 k hk
    exact ⟨b, off, e, cell_later hW h⟩)
  have HDI : Hid (∀ W, Below w.heap.size w W → Calls Tryz.prog 99 #[.agg #[.int .i64 z0, .int .i64 z1, .int .i64 z2, .slice aB bs.length cB, .slice aE es.length cE]] W fun e w' => e = .returned (.int .i64 (if decide (z1 ≠ 0) || decide (z2 ≠ 0) || decide (0 < bs.length) then 1 else dirF es)) ∧ Below W.heap.size W w') := fun W hW => dirFault_any W z0 z1 z2 aB _ cB aE _ cE es rfl hm2 hz2 (hc2.later hW)
  have HF : Hid (inoF (z0, z1, z2, bs, es) = if z0 = 0 then (if (decide (z1 ≠ 0) || decide (z2 ≠ 0) || decide (0 < bs.length)) || decide (0 < es.length) then 1 else 0) else if z0 = 1 then (if decide (0 < es.length) then 1 else fileF z1 z2 bs) else if z0 = 2 then (if (decide (z1 ≠ 0) || decide (z2 ≠ 0) || decide (0 < bs.length)) then 1 else dirF es) else 1) := rfl
  rw [HF.out]
  clear HF hi he hc1 hc2 hm1 hm2 hz2 hcap hs hn1
  generalize (if (decide (z1 ≠ 0) || decide (z2 ≠ 0) || decide (0 < bs.length)) || decide (0 < es.length) then (1 : Int) else 0) = r0 at *
  generalize (if decide (0 < es.length) then (1 : Int) else fileF z1 z2 bs) = r1 at *
  generalize (if (decide (z1 ≠ 0) || decide (z2 ≠ 0) || decide (0 < bs.length)) then (1 : Int) else dirF es) = r2 at *
  generalize bs.length = n1 at *
  generalize es.length = n2 at *
  by_cases h0 : z0 = 0
  · rw [if_pos h0]
    subst h0
    go_enter Tryz.func90, Tryz.ntmps90
    go_wp2_with fail
    refine (HFR.out _).mono ?_
    rintro e w1 ⟨rfl, hb1⟩
    have HB1 : Hid (Below w.heap.size w w1) := (later1 _ _).trans (hb1.mono (by simp))
    clear hb1
    go_wp2
    go_ret
    exact ⟨rfl, HB1.out⟩
  · rw [if_neg h0]
    by_cases h1 : z0 = 1
    · rw [if_pos h1]
      subst h1
      go_enter Tryz.func90, Tryz.ntmps90
      go_wp2_with fail
      refine (HFI.out _ (later1 _ _)).mono ?_
      rintro e w1 ⟨rfl, hb1⟩
      have HB1 : Hid (Below w.heap.size w w1) := (later1 _ _).trans (hb1.mono (by simp))
      clear hb1
      go_wp2
      go_ret
      exact ⟨rfl, HB1.out⟩
    · rw [if_neg h1]
      by_cases h2 : z0 = 2
      · rw [if_pos h2]
        subst h2
        go_enter Tryz.func90, Tryz.ntmps90
        go_wp2_with fail
        refine (HDI.out _ (later1 _ _)).mono ?_
        rintro e w1 ⟨rfl, hb1⟩
        have HB1 : Hid (Below w.heap.size w w1) := (later1 _ _).trans (hb1.mono (by simp))
        clear hb1
        go_wp2
        go_ret
        exact ⟨rfl, HB1.out⟩
      · rw [if_neg h2]
        have g0 : (z0 == 0) = false := by simpa using h0
        have g1 : (z0 == 1) = false := by simpa using h1
        have g2 : (z0 == 2) = false := by simpa using h2
        go_enter Tryz.func90, Tryz.ntmps90
        go_wp2
        go_ret
        exact ⟨rfl, later1 _ _⟩
end Go.Proofs.YtlacppjlclfpmaaGreat

namespace Go.Proofs.YtlacppjlclfpmaaGreat
open Go.RowKit
set_option maxRecDepth 100000

/-- Answers that are a code and words. -/
def AnsIR (w : World) (r : Int × List Int) (e : Ending) (w' : World) : Prop := ∃ a n c, e = .returned (.agg #[.int .i64 r.1, .slice a n c]) ∧ Below w.heap.size w w' ∧ IntsO w' (.slice a n c) r.2 (fresh w w')

theorem l4Pack_any (w : World) (z0 z1 z2 : Int) (aB : Option Addr) (nB cB : Nat) (aE : Option Addr) (nE cE : Nat) (d : ID) (h : InoR w (.int .i64 z0) (.int .i64 z1) (.int .i64 z2) (.slice aB nB cB) (.slice aE nE cE) d) (hs : sizeIno d ≤ 1048576) :
    Calls Tryz.prog 46 #[.agg #[.int .i64 z0, .int .i64 z1, .int .i64 z2, .slice aB nB cB, .slice aE nE cE]] w fun e w' => ∃ v, e = .returned v ∧ Below w.heap.size w w' ∧ Wds w' w.heap.size v (packL d) := by
  obtain ⟨⟨h0, h1, h2, _⟩, hi, he⟩ := h
  simp only [Value.int.injEq, true_and] at h0 h1 h2
  obtain ⟨_, _, e1, hm1, hc1⟩ := hi.open'
  obtain ⟨_, _, e2, hm2, hz2, hc2⟩ := he.open'
  simp only [Value.slice.injEq] at e1 e2
  obtain ⟨rfl, rfl, rfl⟩ := e1
  obtain ⟨rfl, rfl, rfl⟩ := e2
  obtain ⟨k, l, s, bs, es⟩ := d
  dsimp only at *
  subst h0 h1 h2
  have hn1 : bs.length ≤ 1048576 := by unfold sizeIno at hs; dsimp only at hs; omega
  have hn2 : es.length ≤ 1048576 := by unfold sizeIno sizeN at hs; dsimp only at hs; omega
  have hn3 : (entsW es).length ≤ 4194304 := by have := entsW_len es; unfold sizeIno at hs; dsimp only at hs; omega
  unfold packL
  dsimp only
  by_cases hk : z0 = 2
  · subst hk
    rw [if_pos rfl]
    have := l4Pack_dir w z1 z2 aB _ cB aE _ cE bs es hn1 rfl hc1 rfl hn2 hn3 hc2
    simpa using this
  · rw [if_neg hk, List.append_nil]
    exact l4Pack_flat w z0 z1 z2 aB _ cB aE _ cE bs hn1 rfl hc1 hk

end Go.Proofs.YtlacppjlclfpmaaGreat

namespace Go.Proofs.YtlacppjlclfpmaaGreat
open Go.RowKit
set_option maxRecDepth 100000

theorem AnsIR.box {w w2 : World} {a : Option Addr} {n c : Nat} {zs : List Int} (hb : Below w.heap.size w w2) (ho : IntsO w2 (.slice a n c) zs (fun b => w.heap.size + 1 ≤ b ∧ b < w2.heap.size)) (x y : Value) :
    AnsIR w (0, zs) (.returned (.agg #[.int .i64 0, .slice a n c])) ((w2.setCell ⟨w.heap.size, 0, none⟩ x).setCell ⟨w.heap.size, 1, none⟩ y) := by
  refine ⟨_, _, _, rfl, (hb.setCell (by simp) _).setCell (by simp) _, (ho.keep fun b hb hlt => ?_).mono fun b hb => ⟨by omega, by simp only [World.setCell, Array.size_modify]; exact hb.2⟩⟩
  rw [Below.heap_setCell _ _ _ _ (by simp; omega), Below.heap_setCell _ _ _ _ (by simp; omega)]
theorem AnsIR.bad {w w2 : World} (r : Int) (hb : Below w.heap.size w w2) (x y : Value) :
    AnsIR w (r, []) (.returned (.agg #[.int .i64 r, .slice none 0 0])) ((w2.setCell ⟨w.heap.size, 0, none⟩ x).setCell ⟨w.heap.size, 1, none⟩ y) :=
  ⟨_, _, _, rfl, (hb.setCell (by simp) _).setCell (by simp) _, Or.inl ⟨rfl, _, _, rfl⟩⟩
/-- The result's box, made first. -/
theorem box2 (w : World) (t : TypeId) : OwnRow (w.alloc (.cells #[.int .i64 0, .slice none 0 0] t)) w.heap.size 2 (fun i => if i = 0 then .int .i64 0 else .slice none 0 0) := OwnRow.newS w (.int .i64 0) (.slice none 0 0) t
theorem Wds.box {w W w2 : World} {a : Option Addr} {n c : Nat} {zs : List Int} (hW : W.heap.size = w.heap.size + 1) (h : Wds w2 W.heap.size (.slice a n c) zs) : IntsO w2 (.slice a n c) zs (fun b => w.heap.size + 1 ≤ b ∧ b < w2.heap.size) :=
  (h.own' (w0 := W) (Nat.le_refl _)).mono fun b hb => ⟨by have := hb.1; omega, hb.2⟩

end Go.Proofs.YtlacppjlclfpmaaGreat

namespace Go.Proofs.YtlacppjlclfpmaaGreat
open Go.RowKit
set_option maxRecDepth 100000

/-- The same, and the list is no longer than its room. -/
def AnsIC (w : World) (r : Int × List Int) (e : Ending) (w' : World) : Prop := AnsIR w r e w' ∧ ∀ x a n c, e = .returned (.agg #[x, .slice a n c]) → n ≤ c
theorem AnsIC.mk {w w' : World} {r : Int × List Int} {x : Value} {a : Option Addr} {n c : Nat} (h : AnsIR w r (.returned (.agg #[x, .slice a n c])) w') (hc : n ≤ c) : AnsIC w r (.returned (.agg #[x, .slice a n c])) w' :=
  ⟨h, fun x' a' n' c' e => by
    simp only [Ending.returned.injEq, Value.agg.injEq, Array.mk.injEq, List.cons.injEq, Value.slice.injEq, and_true] at e
    omega⟩
theorem slice_takeI (a : Option Addr) (n c j : Nat) (hj : j ≤ c) :
    ∃ A C, j ≤ C ∧ (∀ W : World, (Instr.slice 55 (.slice a n c) none (some (.int .i64 (j : Int))) none).run Tryz.prog W = .ok (.slice A j C) W) ∧ ∀ (W : World) (zs : List Int) (F : Nat → Prop), j ≤ zs.length → IntsO W (.slice a n c) zs F → IntsO W (.slice A j C) (zs.take j) F := by
  obtain ⟨i, hi, _⟩ := Tryz.infoInt'
  refine ⟨if c = 0 then a else a.map (·.add (0 * 1)), c - 0, by omega, fun W => ?_, fun W zs F hjn h => ?_⟩
  · simp [Instr.slice, Instr.sliceBounds, Instr.sliceBound, asIntOf, run_underlying Tryz.underlying55, sizeOf, typeInfo, hi, hj]
  · by_cases hj0 : j = 0
    · subst hj0
      exact Or.inl ⟨by simp, _, _, rfl⟩
    · rw [if_neg (by omega)]
      rcases h with ⟨h, _⟩ | ⟨b, cap, hF, h1, h2, h3⟩
      · subst h; simp at hjn; omega
      · simp only [Value.slice.injEq] at h1
        obtain ⟨rfl, rfl, rfl⟩ := h1
        have hl : (zs.take j).length = j := by rw [List.length_take]; omega
        refine Or.inr ⟨b, c - 0, hF, by rw [hl]; simp [Addr.add], by rw [hl]; omega, ?_⟩
        obtain ⟨cs, t, hb, hn, hc⟩ := h3
        refine ⟨cs, t, hb, by rw [hl]; omega, fun k hk => ?_⟩
        rw [hl] at hk
        rw [hc k (by omega)]
        dsimp only
        rw [List.getElem?_take, if_pos hk]
theorem Wds.cap {w : World} {n₀ : Nat} {a : Option Addr} {n c : Nat} {zs : List Int} (h : Wds w n₀ (.slice a n c) zs) : n ≤ c := by
  rcases h.2 with ⟨e, h0⟩ | ⟨g, cap, cur, e, _, _, hnc, _⟩
  · simp only [Value.slice.injEq] at e; omega
  · simp only [Value.slice.injEq] at e; omega

end Go.Proofs.YtlacppjlclfpmaaGreat

namespace Go.Proofs.YtlacppjlclfpmaaGreat
open Go.RowKit
set_option maxRecDepth 100000

/-- An answer that is an inode in memory of its own. -/
def AnsIno (w : World) (d : ID) (e : Ending) (w' : World) : Prop := ∃ a1 n1 c1 a2 n2 c2, e = .returned (.agg #[.int .i64 d.1, .int .i64 d.2.1, .int .i64 d.2.2.1, .slice a1 n1 c1, .slice a2 n2 c2]) ∧ Below w.heap.size w w' ∧ InoU w' (.int .i64 d.1) (.int .i64 d.2.1) (.int .i64 d.2.2.1) (.slice a1 n1 c1) (.slice a2 n2 c2) d (fresh w w')
/-- An answer that is a file system in memory of its own. -/
def AnsFs (w : World) (d : FD) (e : Ending) (w' : World) : Prop := ∃ a1 n1 c1 a2 n2 c2, e = .returned (.agg #[.slice a1 n1 c1, .slice a2 n2 c2]) ∧ Below w.heap.size w w' ∧ FsU w' (.slice a1 n1 c1) (.slice a2 n2 c2) d (fresh w w')
def zero5F : List Value := [.int .i64 0, .int .i64 0, .int .i64 0, .slice none 0 0, .slice none 0 0]
end Go.Proofs.YtlacppjlclfpmaaGreat

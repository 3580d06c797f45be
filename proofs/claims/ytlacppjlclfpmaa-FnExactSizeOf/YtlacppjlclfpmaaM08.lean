/- The specification's l4Pack. PackInode, both sides. The specification's UsedBlocks, FreeBlocks, PickBlocks and FreeInode. The specification's PickBlocks. The program's UsedBlocks, FreeBlocks and PickBlocks. The program: what is wrong of inodes, data and entries of a file system. -/
import Derived.Test.YtlacppjlclfpmaaM05
import Derived.Test.YtlacppjlclfpmaaM03
import Derived.Test.YtlacppjlclfpmaaM07
import Derived.Test.YtlacppjlclfpmaaM06
namespace Go.Proofs.Ytlacppjlclfpmaa
open Go.RowKit
set_option maxRecDepth 100000

/-- The first append: three words, then the blocks. -/
theorem append_first (w W : World) (hW : Below w.heap.size w W) (z0 z1 z2 : Int) (aB : Option Addr) (nB cB : Nat) (bs : List Int) (hn : nB ≤ 1048576) (hbn : bs.length = nB) (hc : At1 w aB nB (fun k => .int .i64 (bs[k]?.getD 0))) :
    ∃ v' X, (Builtin.append_ #[37, 37] 37 #[.slice (some ⟨W.heap.size, 0, none⟩) 3 3, .slice aB nB cB]).run Try.prog (W.alloc (.cells #[.int .i64 z0, .int .i64 z1, .int .i64 z2] 2)) = .ok v' X ∧ Wds X w.heap.size v' ([z0, z1, z2] ++ bs) ∧ Below w.heap.size w X ∧ KeepT W X := by
  have hW1 : Below w.heap.size w (W.alloc (.cells #[.int .i64 z0, .int .i64 z1, .int .i64 z2] 2)) := hW.trans ((later1 _ _).mono hW.size)
  have hl := Wds.lit W w.heap.size hW.size [z0, z1, z2] #[.int .i64 z0, .int .i64 z1, .int .i64 z2] rfl 3 rfl (by omega)
  obtain ⟨v', X, h1, h2, h3, h4⟩ := append_any _ w.heap.size _ [z0, z1, z2] bs aB nB cB hl hW1.size hbn (by simp) hn (fun k hk => by
    obtain ⟨b, off, e, h⟩ := hc k hk
    exact ⟨b, off, e, cell_later hW1 h⟩) (hl.some (by simp))
  exact ⟨v', X, h1, h2, hW1.trans h3, (KeepT.later (later1 _ _)).trans h4⟩

set_option maxHeartbeats 3200000 in
theorem l4Pack_flat (w : World) (z0 z1 z2 : Int) (aB : Option Addr) (nB cB : Nat) (aE : Option Addr) (nE cE : Nat) (bs : List Int) (hn : nB ≤ 1048576) (hbn : bs.length = nB) (hc : At1 w aB nB (fun k => .int .i64 (bs[k]?.getD 0))) (hk : ¬ z0 = 2) :
    Calls Try.prog 80 #[.agg #[.int .i64 z0, .int .i64 z1, .int .i64 z2, .slice aB nB cB, .slice aE nE cE]] w fun e w' => ∃ v, e = .returned v ∧ Below w.heap.size w w' ∧ Wds w' w.heap.size v ([z0, z1, z2] ++ bs) := by
  obtain ⟨v1, X1, hr1, hw1, hb1, hk1⟩ := append_first w (w.alloc (.cells #[.int .i64 z0, .int .i64 z1, .int .i64 z2, .slice aB nB cB, .slice aE nE cE] 60)) (later1 _ _) z0 z1 z2 aB nB cB bs hn hbn hc
  have c0 := ((Obx.new w [.int .i64 z0, .int .i64 z1, .int .i64 z2, .slice aB nB cB, .slice aE nE cE] 60).keep hk1 (by decide)).bx 0 _ rfl
  simp only [World.size_alloc] at hr1
  have HR : Hid (_ = _) := hr1
  have HW : Hid (Wds X1 w.heap.size v1 ([z0, z1, z2] ++ bs)) := hw1
  have HB : Hid (Below w.heap.size w X1) := hb1
  have hk' : (z0 != 2) = true := by simpa using hk
  clear hc hr1 hw1 hb1 hk1 hk
  go_enter Try.func80, Try.ntmps80
  go_wp2_with (at_builtin; refine wpList_append_run rfl _ _ 37 rfl _ _ rfl rfl _ _ HR.out ?_)
  go_ret
  exact ⟨v1, rfl, HB.out, HW.out⟩

set_option maxHeartbeats 12800000 in
theorem l4Pack_dir (w : World) (z1 z2 : Int) (aB : Option Addr) (nB cB : Nat) (aE : Option Addr) (nE cE : Nat) (bs : List Int) (es : List EN) (hn : nB ≤ 1048576) (hbn : bs.length = nB) (hc : At1 w aB nB (fun k => .int .i64 (bs[k]?.getD 0))) (hen : es.length = nE) (hnE : nE ≤ 1048576) (hsz : (entsW es).length ≤ 4194304) (hce : AtN w aE nE es) :
    Calls Try.prog 80 #[.agg #[.int .i64 2, .int .i64 z1, .int .i64 z2, .slice aB nB cB, .slice aE nE cE]] w fun e w' => ∃ v, e = .returned v ∧ Below w.heap.size w w' ∧ Wds w' w.heap.size v ([2, z1, z2] ++ bs ++ [(nE : Int)] ++ entsW es) := by
  obtain ⟨v1, X1, hr1, hw1, hb1, hk1⟩ := append_first w (w.alloc (.cells #[.int .i64 2, .int .i64 z1, .int .i64 z2, .slice aB nB cB, .slice aE nE cE] 60)) (later1 _ _) 2 z1 z2 aB nB cB bs hn hbn hc
  have hox := (Obx.new w [.int .i64 2, .int .i64 z1, .int .i64 z2, .slice aB nB cB, .slice aE nE cE] 60).keep hk1 (by decide)
  simp only [World.size_alloc] at hr1
  obtain ⟨v2, X2, hr2, hw2, hb2, hk2⟩ := append_wds X1 w.heap.size v1 ([2, z1, z2] ++ bs) [(nE : Int)] #[.int .i64 (nE : Int)] 1 rfl rfl hw1 hb1.size (by simp; omega) (by simp) (by omega)
  have c0 := hox.bx 0 _ rfl
  have c4 := hox.bx 4 _ rfl
  have hoy := hox.keep hk2 (by decide)
  have HR1 : Hid (_ = _) := hr1
  have HR2 : Hid (_ = _) := hr2
  have HW2 : Hid (Wds X2 w.heap.size v2 ([2, z1, z2] ++ bs ++ [(nE : Int)])) := hw2
  have HB2 : Hid (Below w.heap.size w X2) := hb1.trans hb2
  have HO2 : Hid (Obx X2 w.heap.size [.int .i64 2, .int .i64 z1, .int .i64 z2, .slice aB nB cB, .slice aE nE cE] 60) := hoy
  have HL : Hid (([2, z1, z2] ++ bs ++ [(nE : Int)]).length ≤ 1048580) := by unfold Hid; simp; omega
  have HP : Hid (0 < ([2, z1, z2] ++ bs ++ [(nE : Int)]).length) := by unfold Hid; simp
  have HCE : Hid (AtN w aE nE es) := hce
  have HEN : Hid (es.length = nE) := hen
  have HSZ : Hid ((entsW es).length ≤ 4194304) := hsz
  generalize [2, z1, z2] ++ bs ++ [(nE : Int)] = pre at *
  clear hc hr1 hw1 hb1 hk1 hox hr2 hw2 hb2 hk2 hoy hce hen hsz hbn
  go_enter Try.func80, Try.ntmps80
  go_wp2_with (at_builtin; first | refine wpList_append_run rfl _ _ 37 rfl _ _ rfl rfl _ _ HR1.out ?_ | refine wpList_append_run rfl _ _ 37 rfl _ _ rfl rfl _ _ HR2.out ?_)
  clear c0 c4 HR1 HR2
  go_loopw [3, 4] (fun o i wr => ∃ (j : Nat) (v : Value), o = v ∧ j ≤ nE ∧ i = .int .i64 j ∧ Below w.heap.size w wr ∧ Obx wr w.heap.size [.int .i64 2, .int .i64 z1, .int .i64 z2, .slice aB nB cB, .slice aE nE cE] 60 ∧ Wds wr w.heap.size v (pre ++ entsW (es.take j))) (fun _ i _ => nE - (intOf i).toNat)
  case atStart => exact ⟨0, _, rfl, Nat.zero_le _, rfl, HB2.out, HO2.out, by simpa [entsW] using HW2.out⟩
  case round =>
    obtain ⟨j, v, rfl, hj, rfl, hbl, hox, hwd⟩ := hrel
    have HBL : Hid (Below w.heap.size w wr) := hbl
    have HOX : Hid (Obx wr w.heap.size [.int .i64 2, .int .i64 z1, .int .i64 z2, .slice aB nB cB, .slice aE nE cE] 60) := hox
    have HWD : Hid (Wds wr w.heap.size _ (pre ++ entsW (es.take j))) := hwd
    obtain ⟨aV, cV, rfl⟩ := hwd.shape
    have c4 := hox.bx 4 _ rfl
    clear hbl hox hwd
    by_cases hlt : j < nE
    · obtain ⟨b1, off, rfl, e0, e1⟩ := HCE.out j hlt
      replace e0 := cell_later HBL.out e0
      replace e1 := cell_later HBL.out e1
      have HTK : Hid (entsW (es.take (j + 1)) = entsW (es.take j) ++ entW (es[j]?.getD en0)) := entsW_take es j (by rw [HEN.out]; exact hlt)
      have HUP : Hid ((entsW (es.take j)).length + 2 + (es[j]?.getD en0).1.size ≤ (entsW es).length) := upto_size es j (by rw [HEN.out]; exact hlt)
      have HET : Hid (es[j]?.getD en0 = ((es[j]?.getD en0).1, (es[j]?.getD en0).2)) := rfl
      rw [HET.out] at HTK
      generalize (es[j]?.getD en0).1 = x at *
      generalize (es[j]?.getD en0).2 = y at *
      have hxs : x.size ≤ 4194304 := by have := HUP.out; have := HSZ.out; omega
      obtain ⟨v3, X3, hr3, hw3, hb3, hk3⟩ := append_wds (wr.alloc (.cells #[.string x, .int .i64 y] 109)) w.heap.size _ (pre ++ entsW (es.take j)) [y, (x.size : Int)] #[.int .i64 y, .int .i64 (x.size : Int)] 2 rfl rfl (HWD.out.later (later1 _ _)) (by simp; have := HBL.out.size; omega) (by simp only [List.length_append]; have := HL.out; have := HUP.out; have := HSZ.out; omega) (by simp only [List.length_append]; have := HP.out; omega) (by omega)
      have hoe := (Obx.new wr [.string x, .int .i64 y] 109).keep hk3 (by decide)
      have hop := (HOX.out.keep (KeepT.later (later1 wr (.cells #[.string x, .int .i64 y] 109))) (by decide)).keep hk3 (by decide)
      simp only [World.size_alloc] at hr3
      have HR3 : Hid (_ = _) := hr3
      have HW3 : Hid (Wds X3 w.heap.size v3 (pre ++ entsW (es.take j) ++ [y, (x.size : Int)])) := hw3
      have HB3 : Hid (Below w.heap.size w X3) := (HBL.out.trans ((later1 _ _).mono HBL.out.size)).trans hb3
      have HOE : Hid (Obx X3 wr.heap.size [.string x, .int .i64 y] 109) := hoe
      have HOP : Hid (Obx X3 w.heap.size [.int .i64 2, .int .i64 z1, .int .i64 z2, .slice aB nB cB, .slice (some ⟨b1, off, none⟩) nE cE] 60) := hop
      clear hr3 hw3 hb3 hk3 hoe hop
      go_wp2_with (at_builtin; refine wpList_append_run rfl _ _ 37 rfl _ _ rfl rfl _ _ HR3.out ?_)
      clear c4 e0 e1 HR3 HWD HOX
      generalize wr.heap.size = eb at *
      go_loopw [3, 6] (fun o i wr2 => ∃ (q : Nat) (v : Value), o = v ∧ q ≤ x.size ∧ i = .int .i64 q ∧ Below w.heap.size w wr2 ∧ Obx wr2 w.heap.size [.int .i64 2, .int .i64 z1, .int .i64 z2, .slice aB nB cB, .slice (some ⟨b1, off, none⟩) nE cE] 60 ∧ Obx wr2 eb [.string x, .int .i64 y] 109 ∧ Wds wr2 w.heap.size v (pre ++ entsW (es.take j) ++ [y, (x.size : Int)] ++ nameW x q)) (fun _ i _ => x.size - (intOf i).toNat)
      case atStart => exact ⟨0, _, rfl, Nat.zero_le _, rfl, HB3.out, HOP.out, HOE.out, by simpa [nameW] using HW3.out⟩
      case round =>
        clear HB3 HOP HOE HW3
        obtain ⟨q, v, rfl, hq, rfl, hbl2, hop2, hoe2, hwd2⟩ := hrel
        have HBL2 : Hid (Below w.heap.size w wr) := hbl2
        have HOP2 : Hid (Obx wr w.heap.size [.int .i64 2, .int .i64 z1, .int .i64 z2, .slice aB nB cB, .slice (some ⟨b1, off, none⟩) nE cE] 60) := hop2
        have HOE2 : Hid (Obx wr eb [.string x, .int .i64 y] 109) := hoe2
        have HWD2 : Hid (Wds wr w.heap.size _ (pre ++ entsW (es.take j) ++ [y, (x.size : Int)] ++ nameW x q)) := hwd2
        obtain ⟨aV2, cV2, rfl⟩ := hwd2.shape
        have c5 := hoe2.bx 0 _ rfl
        clear hbl2 hop2 hoe2 hwd2
        by_cases hlq : q < x.size
        · have HNN : Hid (nameW x (q + 1) = nameW x q ++ [((x[q]'hlq).toNat : Int)]) := nameW_next x q hlq
          obtain ⟨v4, X4, hr4, hw4, hb4, hk4⟩ := append_wds wr w.heap.size _ (pre ++ entsW (es.take j) ++ [y, (x.size : Int)] ++ nameW x q) [((x[q]'hlq).toNat : Int)] #[.int .i64 ((x[q]'hlq).toNat : Int)] 1 rfl rfl HWD2.out HBL2.out.size (by simp only [List.length_append, List.length_cons, List.length_nil]; have := HL.out; have := HUP.out; have := HSZ.out; have := nameW_len x q; omega) (by simp only [List.length_append]; have := HP.out; omega) (by omega)
          have HR4 : Hid (_ = _) := hr4
          have HW4 : Hid (Wds X4 w.heap.size v4 (pre ++ entsW (es.take j) ++ [y, (x.size : Int)] ++ nameW x (q + 1))) := by unfold Hid; rw [HNN.out, ← List.append_assoc]; exact hw4
          have HB4 : Hid (Below w.heap.size w X4) := HBL2.out.trans hb4
          have HOP4 : Hid (Obx X4 w.heap.size [.int .i64 2, .int .i64 z1, .int .i64 z2, .slice aB nB cB, .slice (some ⟨b1, off, none⟩) nE cE] 60) := HOP2.out.keep hk4 (by decide)
          have HOE4 : Hid (Obx X4 eb [.string x, .int .i64 y] 109) := HOE2.out.keep hk4 (by decide)
          have hbyte : (x[q]'hlq).toNat < 256 := UInt8.toNat_lt _
          clear hr4 hw4 hb4 hk4 HNN HWD2 HOP2 HOE2
          go_wp2_with (at_builtin; refine wpList_append_run rfl _ _ 37 rfl _ _ rfl rfl _ _ HR4.out ?_)
          go_roundw
          case rel => exact ⟨q + 1, _, rfl, by omega, by go_num, HB4.out, HOP4.out, HOE4.out, HW4.out⟩
          case measure => simp [intOf]; omega
        · have HW4 : Hid (Wds wr w.heap.size (.slice aV2 (pre ++ entsW (es.take j) ++ [y, (x.size : Int)] ++ nameW x q).length cV2) (pre ++ entsW (es.take (j + 1)))) := by
            have e : q = x.size := by omega
            have h2 : pre ++ entsW (es.take (j + 1)) = pre ++ entsW (es.take j) ++ [y, (x.size : Int)] ++ nameW x q := by rw [HTK.out, e, ← nameW_all]; simp only [List.append_assoc]
            unfold Hid
            rw [h2]
            exact HWD2.out
          go_wp2
          go_roundw
          case rel => exact ⟨j + 1, _, rfl, by omega, by go_num, HBL2.out, HOP2.out, HW4.out⟩
          case measure => simp [intOf]; omega
    · have hjn : j = nE := by omega
      have HW4 : Hid (Wds wr w.heap.size (.slice aV (pre ++ entsW (es.take j)).length cV) (pre ++ entsW es)) := by
        have h2 : es.take j = es := List.take_of_length_le (by rw [HEN.out]; omega)
        unfold Hid
        rw [h2]
        have := HWD.out
        rw [h2] at this
        exact this
      clear hjn
      go_wp2
      go_ret
      exact ⟨_, rfl, HBL.out, HW4.out⟩
end Go.Proofs.Ytlacppjlclfpmaa

namespace Go.Proofs.Ytlacppjlclfpmaa
open Go.RowKit
set_option maxRecDepth 100000

/-- Answers that are a code and words. -/
def AnsIR (w : World) (r : Int × List Int) (e : Ending) (w' : World) : Prop := ∃ a n c, e = .returned (.agg #[.int .i64 r.1, .slice a n c]) ∧ Below w.heap.size w w' ∧ IntsO w' (.slice a n c) r.2 (fresh w w')

theorem l4Pack_any (w : World) (z0 z1 z2 : Int) (aB : Option Addr) (nB cB : Nat) (aE : Option Addr) (nE cE : Nat) (d : ID) (h : InoR w (.int .i64 z0) (.int .i64 z1) (.int .i64 z2) (.slice aB nB cB) (.slice aE nE cE) d) (hs : sizeIno d ≤ 1048576) :
    Calls Try.prog 80 #[.agg #[.int .i64 z0, .int .i64 z1, .int .i64 z2, .slice aB nB cB, .slice aE nE cE]] w fun e w' => ∃ v, e = .returned v ∧ Below w.heap.size w w' ∧ Wds w' w.heap.size v (packL d) := by
  obtain ⟨⟨h0, h1, h2, _⟩, hi, he⟩ := h
  simp only [Value.int.injEq, true_and] at h0 h1 h2
  obtain ⟨_, _, e1, hm1, hc1⟩ := hi.open'
  obtain ⟨_, _, e2, hm2, hz2, hc2⟩ := he.open'
  simp only [Value.slice.injEq] at e1 e2
  obtain ⟨rfl, rfl, rfl⟩ := e1
  obtain ⟨rfl, rfl, rfl⟩ := e2
  obtain ⟨k, l, s, bs, es⟩ := d
  dsimp only at *
  subst h0 h1 h2
  have hn1 : bs.length ≤ 1048576 := by unfold sizeIno at hs; dsimp only at hs; omega
  have hn2 : es.length ≤ 1048576 := by unfold sizeIno sizeN at hs; dsimp only at hs; omega
  have hn3 : (entsW es).length ≤ 4194304 := by have := entsW_len es; unfold sizeIno at hs; dsimp only at hs; omega
  unfold packL
  dsimp only
  by_cases hk : z0 = 2
  · subst hk
    rw [if_pos rfl]
    have := l4Pack_dir w z1 z2 aB _ cB aE _ cE bs es hn1 rfl hc1 rfl hn2 hn3 hc2
    simpa using this
  · rw [if_neg hk, List.append_nil]
    exact l4Pack_flat w z0 z1 z2 aB _ cB aE _ cE bs hn1 rfl hc1 hk

end Go.Proofs.Ytlacppjlclfpmaa

namespace Go.Proofs.Ytlacppjlclfpmaa
open Go.RowKit
set_option maxRecDepth 100000

theorem AnsIR.box {w w2 : World} {a : Option Addr} {n c : Nat} {zs : List Int} (hb : Below w.heap.size w w2) (ho : IntsO w2 (.slice a n c) zs (fun b => w.heap.size + 1 ≤ b ∧ b < w2.heap.size)) (x y : Value) :
    AnsIR w (0, zs) (.returned (.agg #[.int .i64 0, .slice a n c])) ((w2.setCell ⟨w.heap.size, 0, none⟩ x).setCell ⟨w.heap.size, 1, none⟩ y) := by
  refine ⟨_, _, _, rfl, (hb.setCell (by simp) _).setCell (by simp) _, (ho.keep fun b hb hlt => ?_).mono fun b hb => ⟨by omega, by simp only [World.setCell, Array.size_modify]; exact hb.2⟩⟩
  rw [Below.heap_setCell _ _ _ _ (by simp; omega), Below.heap_setCell _ _ _ _ (by simp; omega)]
theorem AnsIR.bad {w w2 : World} (r : Int) (hb : Below w.heap.size w w2) (x y : Value) :
    AnsIR w (r, []) (.returned (.agg #[.int .i64 r, .slice none 0 0])) ((w2.setCell ⟨w.heap.size, 0, none⟩ x).setCell ⟨w.heap.size, 1, none⟩ y) :=
  ⟨_, _, _, rfl, (hb.setCell (by simp) _).setCell (by simp) _, Or.inl ⟨rfl, _, _, rfl⟩⟩
/-- The result's box, made first. -/
theorem box2 (w : World) (t : TypeId) : OwnRow (w.alloc (.cells #[.int .i64 0, .slice none 0 0] t)) w.heap.size 2 (fun i => if i = 0 then .int .i64 0 else .slice none 0 0) := OwnRow.newS w (.int .i64 0) (.slice none 0 0) t
theorem Wds.box {w W w2 : World} {a : Option Addr} {n c : Nat} {zs : List Int} (hW : W.heap.size = w.heap.size + 1) (h : Wds w2 W.heap.size (.slice a n c) zs) : IntsO w2 (.slice a n c) zs (fun b => w.heap.size + 1 ≤ b ∧ b < w2.heap.size) :=
  (h.own' (w0 := W) (Nat.le_refl _)).mono fun b hb => ⟨by have := hb.1; omega, hb.2⟩

end Go.Proofs.Ytlacppjlclfpmaa

namespace Go.Proofs.Ytlacppjlclfpmaa
open Go.RowKit
set_option maxRecDepth 100000

/-- The same, and the list is no longer than its room. -/
def AnsIC (w : World) (r : Int × List Int) (e : Ending) (w' : World) : Prop := AnsIR w r e w' ∧ ∀ x a n c, e = .returned (.agg #[x, .slice a n c]) → n ≤ c
theorem AnsIC.mk {w w' : World} {r : Int × List Int} {x : Value} {a : Option Addr} {n c : Nat} (h : AnsIR w r (.returned (.agg #[x, .slice a n c])) w') (hc : n ≤ c) : AnsIC w r (.returned (.agg #[x, .slice a n c])) w' :=
  ⟨h, fun x' a' n' c' e => by
    simp only [Ending.returned.injEq, Value.agg.injEq, Array.mk.injEq, List.cons.injEq, Value.slice.injEq, and_true] at e
    omega⟩
theorem slice_takeI (a : Option Addr) (n c j : Nat) (hj : j ≤ c) :
    ∃ A C, j ≤ C ∧ (∀ W : World, (Instr.slice 37 (.slice a n c) none (some (.int .i64 (j : Int))) none).run Try.prog W = .ok (.slice A j C) W) ∧ ∀ (W : World) (zs : List Int) (F : Nat → Prop), j ≤ zs.length → IntsO W (.slice a n c) zs F → IntsO W (.slice A j C) (zs.take j) F := by
  obtain ⟨i, hi, _⟩ := Try.infoInt'
  refine ⟨if c = 0 then a else a.map (·.add (0 * 1)), c - 0, by omega, fun W => ?_, fun W zs F hjn h => ?_⟩
  · simp [Instr.slice, Instr.sliceBounds, Instr.sliceBound, asIntOf, run_underlying Try.underlying37, sizeOf, typeInfo, hi, hj]
  · by_cases hj0 : j = 0
    · subst hj0
      exact Or.inl ⟨by simp, _, _, rfl⟩
    · rw [if_neg (by omega)]
      rcases h with ⟨h, _⟩ | ⟨b, cap, hF, h1, h2, h3⟩
      · subst h; simp at hjn; omega
      · simp only [Value.slice.injEq] at h1
        obtain ⟨rfl, rfl, rfl⟩ := h1
        have hl : (zs.take j).length = j := by rw [List.length_take]; omega
        refine Or.inr ⟨b, c - 0, hF, by rw [hl]; simp [Addr.add], by rw [hl]; omega, ?_⟩
        obtain ⟨cs, t, hb, hn, hc⟩ := h3
        refine ⟨cs, t, hb, by rw [hl]; omega, fun k hk => ?_⟩
        rw [hl] at hk
        rw [hc k (by omega)]
        dsimp only
        rw [List.getElem?_take, if_pos hk]
theorem Wds.cap {w : World} {n₀ : Nat} {a : Option Addr} {n c : Nat} {zs : List Int} (h : Wds w n₀ (.slice a n c) zs) : n ≤ c := by
  rcases h.2 with ⟨e, h0⟩ | ⟨g, cap, cur, e, _, _, hnc, _⟩
  · simp only [Value.slice.injEq] at e; omega
  · simp only [Value.slice.injEq] at e; omega

end Go.Proofs.Ytlacppjlclfpmaa

namespace Go.Proofs.Ytlacppjlclfpmaa
open Go.RowKit
set_option maxRecDepth 100000

theorem Arr.putNew (w : World) (g : Nat → Nat) : ∃ X, (Instr.storeAt 96 (.pointer (some ⟨w.heap.size, 0, none⟩)) (.agg (arrC g))).run Try.prog (w.alloc (.cells (arrC fun _ => 0) 96)) = .ok () X ∧ Arr X w.heap.size g ∧ Below w.heap.size w X := by
  obtain ⟨X, h1, h2, h3, h4, h5, h6, h7⟩ := (Arr.new w fun _ => 0).put g
  exact ⟨X, h1, h2, (later1 w (.cells (arrC fun _ => 0) 96)).trans ⟨h5, h6, h7, by omega, fun c hc => h4 c (by omega)⟩⟩

set_option maxHeartbeats 800000 in
theorem busyFault_many (w : World) (a : Option Addr) (n c : Nat) (hn : 20 < n) :
    Calls Try.prog 73 #[.slice a n c] w fun e w' => e = .returned (.int .i64 2) ∧ Below w.heap.size w w' := by
  have h6 : decide ((20 : Int) < (n : Int)) = true := by simp; omega
  go_enter Try.func73, Try.ntmps73
  go_wp2
  go_ret
  exact ⟨rfl, Below.refl _ _⟩
set_option maxHeartbeats 1600000 in
theorem busyFault_walk (w : World) (a : Option Addr) (n c : Nat) (zs : List Int) (hn : n ≤ 20) (hzn : zs.length = n) (hc : At1 w a n (fun k => .int .i64 (zs[k]?.getD 0))) :
    Calls Try.prog 73 #[.slice a n c] w fun e w' => e = .returned (.int .i64 (fstNZ (rngF zs) zs.length)) ∧ Below w.heap.size w w' := by
  have HC : Hid (At1 w a n (fun k => .int .i64 (zs[k]?.getD 0))) := hc
  have HN : Hid (zs.length = n) := hzn
  have h6 : decide ((20 : Int) < (n : Int)) = false := by simp; omega
  clear hc hzn
  go_enter Try.func73, Try.ntmps73
  go_wp2
  go_loopw [10] (fun i wr => ∃ j : Nat, j ≤ n ∧ i = .int .i64 j ∧ Below w.heap.size w wr ∧ ∀ i : Nat, i < j → rngF zs i = 0) (fun i _ => n - (intOf i).toNat)
  case atStart => exact ⟨0, Nat.zero_le _, rfl, Below.refl _ _, fun i hi => by omega⟩
  case round =>
    obtain ⟨j, hj, rfl, hbl, hz⟩ := hrel
    have HZ : Hid (∀ i : Nat, i < j → rngF zs i = 0) := hz
    have HBL : Hid (Below w.heap.size w wr) := hbl
    clear hz hbl
    by_cases hlt : j < n
    · obtain ⟨b, o, rfl, d1⟩ := HC.out j hlt
      replace d1 : w.cell? ⟨b, o + j, none⟩ = some (.int .i64 (zs[j]?.getD 0)) := d1
      replace d1 := cell_later HBL.out d1
      have HT : Hid (¬ rngF zs j = 0 → rngF zs j = fstNZ (rngF zs) zs.length) := fun h => (fstNZ_at (f := rngF zs) HZ.out h (by rw [HN.out]; exact hlt)).symm
      by_cases hxv : 0 ≤ zs[j]?.getD 0 ∧ zs[j]?.getD 0 ≤ 19
      · have HR : Hid (∀ i : Nat, i < j + 1 → rngF zs i = 0) := fun i hi => by
          by_cases e : i = j
          · subst e; unfold rngF; rw [if_pos hxv]
          · exact HZ.out i (by omega)
        have hx0 : decide (zs[j]?.getD 0 < 0) = false := by simp; omega
        have hx1 : decide (20 ≤ zs[j]?.getD 0) = false := by simp; omega
        clear hxv HC HT
        generalize zs[j]?.getD 0 = x at *
        go_wp2
        go_roundw
        case rel => exact ⟨j + 1, by omega, by go_num, HBL.out, HR.out⟩
        case measure => simp [intOf]; omega
      · have HR : Hid (3 = fstNZ (rngF zs) zs.length) := by
          have h3 : rngF zs j = 3 := by unfold rngF; rw [if_neg hxv]
          have := HT.out (by rw [h3]; omega)
          rwa [h3] at this
        have hxx : zs[j]?.getD 0 < 0 ∨ 20 ≤ zs[j]?.getD 0 := by omega
        clear hxv HC HT
        generalize zs[j]?.getD 0 = x at *
        by_cases h0 : x < 0
        · have hx0 : decide (x < 0) = true := by simpa using h0
          clear hxx
          go_wp2
          go_ret
          exact ⟨ret_int HR.out, HBL.out⟩
        · have hx0 : decide (x < 0) = false := by simpa using h0
          have hx1 : decide (20 ≤ x) = true := by simp; omega
          clear hxx
          go_wp2
          go_ret
          exact ⟨ret_int HR.out, HBL.out⟩
    · go_wp2
      go_ret
      exact ⟨ret_int (fstNZ_zero (fun i hi => HZ.out i (by rw [HN.out] at hi; omega))).symm, HBL.out⟩
theorem busyFault_any {w : World} {vv : Value} {zs : List Int} (h : Ints w vv zs) :
    Calls Try.prog 73 #[vv] w fun e w' => e = .returned (.int .i64 (busF zs)) ∧ Below w.heap.size w w' := by
  obtain ⟨a, cap, rfl, hm, hc⟩ := h.open'
  unfold busF
  by_cases h : 20 < zs.length
  · rw [if_pos h]
    exact busyFault_many w _ _ _ h
  · rw [if_neg h]
    exact busyFault_walk w a _ cap zs (by omega) rfl hc
theorem busF_each {zs : List Int} (h : busF zs = 0) (k : Nat) (hk : k < zs.length) : 0 ≤ zs[k]?.getD 0 ∧ zs[k]?.getD 0 < 20 := by
  unfold busF at h
  split at h
  · omega
  · have := fstNZ_inv h k hk
    unfold rngF at this
    split at this <;> omega
theorem busF_len {zs : List Int} (h : busF zs = 0) : zs.length ≤ 20 := by
  unfold busF at h
  split at h <;> omega
theorem cntB_le (ds : List ID) (hs : sizeInos ds ≤ 1048576) (v : Int) : cntB ds v ≤ 1048576 := by
  have h2 := allB_len ds
  have h3 := List.count_le_length (a := v) (l := allB ds)
  unfold sizeInos at hs
  unfold cntB
  omega
theorem manyB_once (ds : List ID) : manyB (fun i => cntB ds (i : Int)) = !onceB ds 20 := by
  unfold manyB onceB
  rw [List.not_all_eq_any_not]
  congr 1
  funext k
  simp only [← decide_not]
  rw [decide_eq_decide]
  omega
theorem freeP_eq (ds : List ID) (bs : List Int) : (fun k : Nat => decide (cntB ds (k : Int) + bs.count (k : Int) = 0)) = freeP ds bs := by
  funext k
  unfold freeP
  cases hb : bs.contains (k : Int) with
  | true =>
    have h1 : (k : Int) ∈ bs := by simpa using hb
    have h2 := List.count_pos_iff.2 h1
    simp; omega
  | false =>
    have h1 : ¬ (k : Int) ∈ bs := by simpa using hb
    have h2 := List.count_eq_zero.2 h1
    rw [h2]; simp

set_option maxHeartbeats 6400000 in
theorem implUsedU (w : World) (a : Option Addr) (n c : Nat) (ds : List ID) (h : Inos w (.slice a n c) ds) (hs : sizeInos ds ≤ 1048576) :
    Calls Try.prog 54 #[.slice a n c] w (AnsIR w (usedR ds)) := by
  have HF : Hid (∀ W, Below w.heap.size w W → Calls Try.prog 72 #[.slice a n c] W fun e w' => e = .returned (.int .i64 (insF ds)) ∧ Below W.heap.size W w') := fun W hW => inodesFault_any (h.later hW) hs
  have HNE : Hid (insF ds = 0 → ∀ W, Below w.heap.size w W → Calls Try.prog 74 #[.slice a n c] W fun e w' => e = .returned (.agg (arrC fun i => cntB ds (i : Int))) ∧ Below W.heap.size W w') := fun hz W hW => needsOf_any (h.later hW) hs hz
  have HM : Hid (∀ W, Calls Try.prog 83 #[.agg (arrC fun i => cntB ds (i : Int))] W fun e w' => e = .returned (.bool (!onceB ds 20)) ∧ Below W.heap.size W w') := fun W => by
    rw [← manyB_once]
    exact anyOfTwo_any W _ (fun i => by have := cntB_le ds hs (i : Int); omega)
  have HU : Hid (∀ W, Calls Try.prog 84 #[.agg (arrC fun i => cntB ds (i : Int))] W fun e w' => ∃ a c, e = .returned (.slice a (selL (usedP ds) 20).length c) ∧ Below W.heap.size W w' ∧ Wds w' W.heap.size (.slice a (selL (usedP ds) 20).length c) (selL (usedP ds) 20)) := fun W => needsUsed_any W _ (fun i => by have := cntB_le ds hs (i : Int); omega)
  have HR : Hid (usedR ds = if insF ds = 0 then (if onceB ds 20 = true then (0, selL (usedP ds) 20) else (7, [])) else (insF ds, [])) := rfl
  rw [HR.out]
  clear HR h hs
  generalize insF ds = r at *
  generalize onceB ds 20 = bo at *
  generalize selL (usedP ds) 20 = zs at *
  generalize (fun i : Nat => cntB ds (i : Int)) = g at *
  have HRB : Hid (OwnRow (w.alloc (.cells #[.int .i64 0, .slice none 0 0] 50)) w.heap.size 2 (fun i => if i = 0 then .int .i64 0 else .slice none 0 0)) := box2 w _
  have HB0 : Hid (Below w.heap.size w (w.alloc (.cells #[.int .i64 0, .slice none 0 0] 50))) := later1 _ _
  have hwz : (w.alloc (.cells #[.int .i64 0, .slice none 0 0] 50)).heap.size = w.heap.size + 1 := by simp
  by_cases hf : r = 0
  · rw [if_pos hf]
    have HNE' : Hid (∀ W, Below w.heap.size w W → Calls Try.prog 74 #[.slice a n c] W fun e w' => e = .returned (.agg (arrC g)) ∧ Below W.heap.size W w') := HNE.out hf
    subst hf
    clear HNE
    cases bo
    all_goals
      go_enter Try.func54, Try.ntmps54
      go_wp2_with fail
      generalize hW : w.alloc (Obj.cells #[.int .i64 0, .slice none 0 0] 50) = W at *
      clear hW
      refine (HF.out _ HB0.out).mono ?_
      rintro e w1 ⟨rfl, hb1⟩
      have HB1 : Hid (Below w.heap.size w w1) := HB0.out.trans (hb1.mono HB0.out.size)
      have HRB1 : Hid (OwnRow w1 w.heap.size 2 (fun i => if i = 0 then .int .i64 0 else .slice none 0 0)) := HRB.out.later hb1
      have hz1 : w.heap.size + 1 ≤ w1.heap.size := by have := hb1.size; omega
      clear hb1
      go_wp2_with fail
      refine (HNE'.out _ HB1.out).mono ?_
      rintro e w2 ⟨rfl, hb2⟩
      obtain ⟨X, hst, hax, hbx⟩ := Arr.putNew w2 g
      have hbX : Below w1.heap.size w1 X := hb2.trans (hbx.mono hb2.size)
      have HST : Hid (_ = _) := hst
      have HAX : Hid (Arr X w2.heap.size g) := hax
      have HLD : Hid (_ = _) := hax.load
      have HBX : Hid (Below w.heap.size w X) := HB1.out.trans (hbX.mono HB1.out.size)
      have HRBX : Hid (OwnRow X w.heap.size 2 (fun i => if i = 0 then .int .i64 0 else .slice none 0 0)) := HRB1.out.later hbX
      have hzX : w.heap.size + 1 ≤ X.heap.size := by have := hbX.size; omega
      clear hst hax hbx hb2 hbX HRB1 HB1
      go_wp2_with (first | refine wpList_store_run rfl _ _ 96 rfl _ _ rfl rfl _ HST.out ?_ | refine wpList_load_run rfl _ 96 rfl _ rfl _ _ HLD.out ?_ | fail)
      refine (HM.out X).mono ?_
      rintro e w3 ⟨rfl, hb3⟩
      have HB3 : Hid (Below w.heap.size w w3) := HBX.out.trans (hb3.mono HBX.out.size)
      have HRB3 : Hid (OwnRow w3 w.heap.size 2 (fun i => if i = 0 then .int .i64 0 else .slice none 0 0)) := HRBX.out.later hb3
      have HA3 : Hid (Arr w3 w2.heap.size g) := HAX.out.later hb3
      have HLD3 : Hid (_ = _) := HA3.out.load
      have hz3 : w.heap.size + 1 ≤ w3.heap.size := by have := hb3.size; omega
      clear hb3 HST HLD HAX HBX HRBX
    · have t0 := HRB3.out.cell (i := 0) (by omega)
      have t1 := HRB3.out.cell (i := 1) (by omega)
      have s0 := HRB3.out.frozen 0
      have s1 := HRB3.out.frozen 1
      simp at t0 t1
      have hz2 := HRB3.out.lt
      go_wp2
      exact bodyPost_ret (v := .agg #[.int .i64 7, .slice none 0 0]) (by simp [results, Try.results54, go_sem, t0, t1]) rfl (AnsIR.bad 7 HB3.out _ _)
    · go_wp2_with (first | refine wpList_load_run rfl _ 96 rfl _ rfl _ _ HLD3.out ?_ | fail)
      refine (HU.out w3).mono ?_
      rintro e w4 ⟨aV, cV, rfl, hb4, hw4⟩
      have HB4 : Hid (Below w.heap.size w w4) := HB3.out.trans (hb4.mono HB3.out.size)
      have hrow : OwnRow w4 w.heap.size 2 (fun i => if i = 0 then .int .i64 0 else .slice none 0 0) := HRB3.out.later hb4
      have HI : Hid (IntsO w4 (.slice aV zs.length cV) zs (fun b => w.heap.size + 1 ≤ b ∧ b < w4.heap.size)) := (hw4.own' (w0 := w3) (Nat.le_refl _)).mono fun b hb => ⟨by have := hb.1; omega, hb.2⟩
      have t0 := hrow.cell (i := 0) (by omega)
      have t1 := hrow.cell (i := 1) (by omega)
      have s0 := hrow.frozen 0
      have s1 := hrow.frozen 1
      simp at t0 t1
      have hz2 := hrow.lt
      clear hb4 hw4 hrow
      go_wp2
      exact bodyPost_ret (v := .agg #[.int .i64 0, .slice aV zs.length cV]) (by simp [results, Try.results54, go_sem, t0, t1]) rfl (AnsIR.box HB4.out HI.out _ _)
  · rw [if_neg hf]
    have hr : (r != 0) = true := by simpa using hf
    clear HNE
    go_enter Try.func54, Try.ntmps54
    go_wp2_with fail
    generalize hW : w.alloc (Obj.cells #[.int .i64 0, .slice none 0 0] 50) = W at *
    clear hW
    refine (HF.out _ HB0.out).mono ?_
    rintro e w1 ⟨rfl, hb1⟩
    have HB1 : Hid (Below w.heap.size w w1) := HB0.out.trans (hb1.mono HB0.out.size)
    have hrow : OwnRow w1 w.heap.size 2 (fun i => if i = 0 then .int .i64 0 else .slice none 0 0) := HRB.out.later hb1
    have t0 := hrow.cell (i := 0) (by omega)
    have t1 := hrow.cell (i := 1) (by omega)
    have s0 := hrow.frozen 0
    have s1 := hrow.frozen 1
    simp at t0 t1
    have hz2 := hrow.lt
    clear hb1 hrow
    go_wp2
    exact bodyPost_ret (v := .agg #[.int .i64 r, .slice none 0 0]) (by simp [results, Try.results54, go_sem, t0, t1]) rfl (AnsIR.bad r HB1.out _ _)

set_option maxHeartbeats 6400000 in
theorem implFreeC (w : World) (a : Option Addr) (n c : Nat) (ds : List ID) (a' : Option Addr) (n' c' : Nat) (bs : List Int) (h : Inos w (.slice a n c) ds) (h' : Ints w (.slice a' n' c') bs) (hs : sizeInos ds ≤ 1048576) (_ : bs.length ≤ 1048576) :
    Calls Try.prog 41 #[.slice a n c, .slice a' n' c'] w (AnsIC w (freeR ds bs)) := by
  have HF : Hid (∀ W, Below w.heap.size w W → Calls Try.prog 72 #[.slice a n c] W fun e w' => e = .returned (.int .i64 (insF ds)) ∧ Below W.heap.size W w') := fun W hW => inodesFault_any (h.later hW) hs
  have HBF : Hid (∀ W, Below w.heap.size w W → Calls Try.prog 73 #[.slice a' n' c'] W fun e w' => e = .returned (.int .i64 (busF bs)) ∧ Below W.heap.size W w') := fun W hW => busyFault_any (h'.later hW)
  have HNE : Hid (insF ds = 0 → ∀ W, Below w.heap.size w W → Calls Try.prog 74 #[.slice a n c] W fun e w' => e = .returned (.agg (arrC fun i => cntB ds (i : Int))) ∧ Below W.heap.size W w') := fun hz W hW => needsOf_any (h.later hW) hs hz
  have HWI : Hid (busF bs = 0 → ∀ W, Below w.heap.size w W → Calls Try.prog 75 #[.agg (arrC fun i => cntB ds (i : Int)), .slice a' n' c'] W fun e w' => e = .returned (.agg (arrC fun i => cntB ds (i : Int) + bs.count (i : Int))) ∧ Below W.heap.size W w') := fun hz W hW => needsWith_any (h'.later hW) _ (by have := busF_len hz; omega) (fun i => by have := cntB_le ds hs (i : Int); omega) (fun k hk => busF_each hz k hk)
  have HU : Hid (busF bs = 0 → ∀ W, Calls Try.prog 76 #[.agg (arrC fun i => cntB ds (i : Int) + bs.count (i : Int))] W fun e w' => ∃ a c, e = .returned (.slice a (selL (freeP ds bs) 20).length c) ∧ Below W.heap.size W w' ∧ Wds w' W.heap.size (.slice a (selL (freeP ds bs) 20).length c) (selL (freeP ds bs) 20)) := fun hz W => by
    rw [← freeP_eq]
    exact needsFree_any W _ (fun i => by
      have h1 := cntB_le ds hs (i : Int)
      have h2 := List.count_le_length (a := (i : Int)) (l := bs)
      have h3 := busF_len hz
      omega)
  have HR : Hid (freeR ds bs = if (if insF ds = 0 then busF bs else insF ds) = 0 then (0, selL (freeP ds bs) 20) else ((if insF ds = 0 then busF bs else insF ds), [])) := rfl
  rw [HR.out]
  clear HR h hs h'
  generalize insF ds = r at *
  generalize busF bs = q at *
  generalize selL (freeP ds bs) 20 = zs at *
  generalize (fun i : Nat => cntB ds (i : Int) + bs.count (i : Int)) = g2 at *
  generalize (fun i : Nat => cntB ds (i : Int)) = g at *
  have HRB : Hid (OwnRow (w.alloc (.cells #[.int .i64 0, .slice none 0 0] 50)) w.heap.size 2 (fun i => if i = 0 then .int .i64 0 else .slice none 0 0)) := box2 w _
  have HB0 : Hid (Below w.heap.size w (w.alloc (.cells #[.int .i64 0, .slice none 0 0] 50))) := later1 _ _
  have hwz : (w.alloc (.cells #[.int .i64 0, .slice none 0 0] 50)).heap.size = w.heap.size + 1 := by simp
  by_cases hf : r = 0
  · rw [if_pos hf]
    have HNE' : Hid (∀ W, Below w.heap.size w W → Calls Try.prog 74 #[.slice a n c] W fun e w' => e = .returned (.agg (arrC g)) ∧ Below W.heap.size W w') := HNE.out hf
    subst hf
    clear HNE
    by_cases hq : q = 0
    · rw [if_pos hq]
      have HWI' := HWI.out hq
      have HU' := HU.out hq
      have HWI2 : Hid (∀ W, Below w.heap.size w W → Calls Try.prog 75 #[.agg (arrC g), .slice a' n' c'] W fun e w' => e = .returned (.agg (arrC g2)) ∧ Below W.heap.size W w') := HWI'
      have HU2 : Hid (∀ W, Calls Try.prog 76 #[.agg (arrC g2)] W fun e w' => ∃ a c, e = .returned (.slice a zs.length c) ∧ Below W.heap.size W w' ∧ Wds w' W.heap.size (.slice a zs.length c) zs) := HU'
      clear HWI HU HWI' HU'
      subst hq
      go_enter Try.func41, Try.ntmps41
      go_wp2_with fail
      generalize hW : w.alloc (Obj.cells #[.int .i64 0, .slice none 0 0] 50) = W at *
      clear hW
      refine (HF.out _ HB0.out).mono ?_
      rintro e w1 ⟨rfl, hb1⟩
      have HB1 : Hid (Below w.heap.size w w1) := HB0.out.trans (hb1.mono HB0.out.size)
      have HL1 : Hid (Below W.heap.size W w1) := hb1
      clear hb1
      go_wp2_with fail
      refine (HBF.out _ HB1.out).mono ?_
      rintro e w2 ⟨rfl, hb2⟩
      have HB2 : Hid (Below w.heap.size w w2) := HB1.out.trans (hb2.mono HB1.out.size)
      have HL2 : Hid (Below W.heap.size W w2) := HL1.out.trans (hb2.mono HL1.out.size)
      clear hb2
      go_wp2_with fail
      refine (HNE'.out _ HB2.out).mono ?_
      rintro e w3 ⟨rfl, hb3⟩
      have HB3 : Hid (Below w.heap.size w w3) := HB2.out.trans (hb3.mono HB2.out.size)
      have HL3 : Hid (Below W.heap.size W w3) := HL2.out.trans (hb3.mono HL2.out.size)
      clear hb3
      go_wp2_with fail
      refine (HWI2.out _ HB3.out).mono ?_
      rintro e w4 ⟨rfl, hb4⟩
      have HB4 : Hid (Below w.heap.size w w4) := HB3.out.trans (hb4.mono HB3.out.size)
      have HL4 : Hid (Below W.heap.size W w4) := HL3.out.trans (hb4.mono HL3.out.size)
      clear hb4
      go_wp2_with fail
      refine (HU2.out w4).mono ?_
      rintro e w5 ⟨aV, cV, rfl, hb5, hw5⟩
      have HB5 : Hid (Below w.heap.size w w5) := HB4.out.trans (hb5.mono HB4.out.size)
      have hrow : OwnRow w5 w.heap.size 2 (fun i => if i = 0 then .int .i64 0 else .slice none 0 0) := HRB.out.later (HL4.out.trans (hb5.mono HL4.out.size))
      have hz4 : w.heap.size + 1 ≤ w4.heap.size := by have := HL4.out.size; omega
      have HI : Hid (IntsO w5 (.slice aV zs.length cV) zs (fun b => w.heap.size + 1 ≤ b ∧ b < w5.heap.size)) := (hw5.own' (w0 := w4) (Nat.le_refl _)).mono fun b hb => ⟨by have := hb.1; omega, hb.2⟩
      have HCAP : Hid (zs.length ≤ cV) := hw5.cap
      have t0 := hrow.cell (i := 0) (by omega)
      have t1 := hrow.cell (i := 1) (by omega)
      have s0 := hrow.frozen 0
      have s1 := hrow.frozen 1
      simp at t0 t1
      have hz2 := hrow.lt
      clear hb5 hw5 hrow
      go_wp2
      exact bodyPost_ret (v := .agg #[.int .i64 0, .slice aV zs.length cV]) (by simp [results, Try.results41, go_sem, t0, t1]) rfl (AnsIC.mk (AnsIR.box HB5.out HI.out _ _) HCAP.out)
    · rw [if_neg hq]
      have hr : (q != 0) = true := by simpa using hq
      clear HWI HU
      go_enter Try.func41, Try.ntmps41
      go_wp2_with fail
      generalize hW : w.alloc (Obj.cells #[.int .i64 0, .slice none 0 0] 50) = W at *
      clear hW
      refine (HF.out _ HB0.out).mono ?_
      rintro e w1 ⟨rfl, hb1⟩
      have HB1 : Hid (Below w.heap.size w w1) := HB0.out.trans (hb1.mono HB0.out.size)
      have HL1 : Hid (Below W.heap.size W w1) := hb1
      clear hb1
      go_wp2_with fail
      refine (HBF.out _ HB1.out).mono ?_
      rintro e w2 ⟨rfl, hb2⟩
      have HB2 : Hid (Below w.heap.size w w2) := HB1.out.trans (hb2.mono HB1.out.size)
      have hrow : OwnRow w2 w.heap.size 2 (fun i => if i = 0 then .int .i64 0 else .slice none 0 0) := HRB.out.later (HL1.out.trans (hb2.mono HL1.out.size))
      have t0 := hrow.cell (i := 0) (by omega)
      have t1 := hrow.cell (i := 1) (by omega)
      have s0 := hrow.frozen 0
      have s1 := hrow.frozen 1
      simp at t0 t1
      have hz2 := hrow.lt
      clear hb2 hrow
      go_wp2
      exact bodyPost_ret (v := .agg #[.int .i64 q, .slice none 0 0]) (by simp [results, Try.results41, go_sem, t0, t1]) rfl (AnsIC.mk (AnsIR.bad q HB2.out _ _) (Nat.le_refl _))
  · rw [if_neg hf, if_neg hf]
    have hr : (r != 0) = true := by simpa using hf
    clear HNE HWI HU
    go_enter Try.func41, Try.ntmps41
    go_wp2_with fail
    generalize hW : w.alloc (Obj.cells #[.int .i64 0, .slice none 0 0] 50) = W at *
    clear hW
    refine (HF.out _ HB0.out).mono ?_
    rintro e w1 ⟨rfl, hb1⟩
    have HB1 : Hid (Below w.heap.size w w1) := HB0.out.trans (hb1.mono HB0.out.size)
    have hrow : OwnRow w1 w.heap.size 2 (fun i => if i = 0 then .int .i64 0 else .slice none 0 0) := HRB.out.later hb1
    have t0 := hrow.cell (i := 0) (by omega)
    have t1 := hrow.cell (i := 1) (by omega)
    have s0 := hrow.frozen 0
    have s1 := hrow.frozen 1
    simp at t0 t1
    have hz2 := hrow.lt
    clear hb1 hrow
    go_wp2
    exact bodyPost_ret (v := .agg #[.int .i64 r, .slice none 0 0]) (by simp [results, Try.results41, go_sem, t0, t1]) rfl (AnsIC.mk (AnsIR.bad r HB1.out _ _) (Nat.le_refl _))
theorem implFreeU (w : World) (a : Option Addr) (n c : Nat) (ds : List ID) (a' : Option Addr) (n' c' : Nat) (bs : List Int) (h : Inos w (.slice a n c) ds) (h' : Ints w (.slice a' n' c') bs) (hs : sizeInos ds ≤ 1048576) (hb : bs.length ≤ 1048576) :
    Calls Try.prog 41 #[.slice a n c, .slice a' n' c'] w (AnsIR w (freeR ds bs)) := (implFreeC w a n c ds a' n' c' bs h h' hs hb).mono fun _ _ h => h.1
end Go.Proofs.Ytlacppjlclfpmaa

namespace Go.Proofs.Ytlacppjlclfpmaa
open Go.RowKit
set_option maxRecDepth 100000

set_option maxHeartbeats 800000 in
theorem isInode_any (w : World) (a1 : Option Addr) (n1 c1 : Nat) (a2 : Option Addr) (n2 c2 : Nat) (x : Int) :
    Calls Try.prog 81 #[.agg #[.slice a1 n1 c1, .slice a2 n2 c2], .int .i64 x] w fun e w' => e = .returned (.bool (decide (0 ≤ x ∧ x < (n1 : Int)))) ∧ Below w.heap.size w w' := by
  by_cases h0 : 0 ≤ x
  · have HR : Hid (decide (0 ≤ x ∧ x < (n1 : Int)) = decide (x < (n1 : Int))) := by unfold Hid; simp [h0]
    have hd : decide (0 ≤ x) = true := by simpa using h0
    clear h0
    go_enter Try.func81, Try.ntmps81
    go_wp2
    go_ret
    exact ⟨ret_bool HR.out.symm, later1 _ _⟩
  · have HR : Hid (decide (0 ≤ x ∧ x < (n1 : Int)) = false) := by unfold Hid; simp; omega
    have hd : decide (0 ≤ x) = false := by simpa using h0
    clear h0
    go_enter Try.func81, Try.ntmps81
    go_wp2
    go_ret
    exact ⟨ret_bool HR.out.symm, later1 _ _⟩

/-- A place of what is not free. -/
def thB (d : FD) (x : Int) : Bool := decide (0 ≤ x ∧ x < (d.1.length : Int)) && !decide (kindAt d.1 x.toNat = 0)
set_option maxHeartbeats 1600000 in
theorem isThere_any (w : World) (a1 : Option Addr) (n1 c1 : Nat) (a2 : Option Addr) (n2 c2 : Nat) (d : FD) (x : Int) (h : FsR w (.slice a1 n1 c1) (.slice a2 n2 c2) d) :
    Calls Try.prog 105 #[.agg #[.slice a1 n1 c1, .slice a2 n2 c2], .int .i64 x] w fun e w' => e = .returned (.bool (thB d x)) ∧ Below w.heap.size w w' := by
  have HX : Hid (Bx (w.alloc (.cells #[.slice a1 n1 c1, .slice a2 n2 c2] 32)) w.heap.size [.slice a1 n1 c1, .slice a2 n2 c2]) := Bx.new w [.slice a1 n1 c1, .slice a2 n2 c2] _
  have HIN : Hid (∀ W, Calls Try.prog 81 #[.agg #[.slice a1 n1 c1, .slice a2 n2 c2], .int .i64 x] W fun e w' => e = .returned (.bool (decide (0 ≤ x ∧ x < (n1 : Int)))) ∧ Below W.heap.size W w') := fun W => isInode_any W a1 n1 c1 a2 n2 c2 x
  obtain ⟨_, _, e2, hm2, hc⟩ := h.1.open'
  simp only [Value.slice.injEq] at e2
  obtain ⟨rfl, rfl, rfl⟩ := e2
  have HB0 : Hid (Below w.heap.size w (w.alloc (.cells #[.slice a1 d.1.length c1, .slice a2 n2 c2] 32))) := later1 _ _
  have hz0 : (w.alloc (.cells #[.slice a1 d.1.length c1, .slice a2 n2 c2] 32)).heap.size = w.heap.size + 1 := by simp
  by_cases hin : 0 ≤ x ∧ x < (d.1.length : Int)
  · obtain ⟨y, rfl⟩ : ∃ y : Nat, x = (y : Int) := ⟨x.toNat, by omega⟩
    have hy : y < d.1.length := by omega
    obtain ⟨b, o, rfl, hK⟩ := hc y hy
    obtain ⟨_, _, _, _, kc, _⟩ := hK
    have HKC : Hid (w.cell? ⟨b, o + y * 5, none⟩ = some (.int .i64 (d.1[y]?.getD id0).1)) := kc
    have HR : Hid (thB d (y : Int) = ((d.1[y]?.getD id0).1 != 0)) := by
      unfold Hid thB kindAt
      rw [decide_eq_true hin, Bool.true_and, Int.toNat_natCast]
      by_cases e : (d.1[y]?.getD id0).1 = 0
      · rw [e]; rfl
      · rw [decide_eq_false e]; symm; simpa using e
    have hyI : (y : Int) < ((d.1.length : Nat) : Int) := hin.2
    rw [decide_eq_true hin] at HIN
    rw [HR.out]
    clear kc hc h hin HR hm2
    generalize (d.1[y]?.getD id0).1 = ky at *
    generalize d.1.length = n at *
    go_enter Try.func105, Try.ntmps105
    go_wp2_with fail
    generalize (w.alloc (.cells #[.slice (some ⟨b, o, none⟩) n c1, .slice a2 n2 c2] 32)) = W0 at *
    refine (HIN.out _).mono ?_
    rintro e w1 ⟨rfl, hb1⟩
    have HB1 : Hid (Below w.heap.size w w1) := HB0.out.trans (hb1.mono HB0.out.size)
    have x0 := (HX.out.later hb1) 0 _ rfl
    have x1 := (HX.out.later hb1) 1 _ rfl
    have k1 := cell_later HB1.out HKC.out
    clear hb1
    go_wp2
    go_ret
    exact ⟨rfl, HB1.out⟩
  · have HR : Hid (thB d x = false) := by unfold Hid thB; rw [decide_eq_false hin]; rfl
    rw [decide_eq_false hin] at HIN
    rw [HR.out]
    clear hc h hin HR hm2
    generalize d.1.length = n at *
    go_enter Try.func105, Try.ntmps105
    go_wp2_with fail
    generalize (w.alloc (.cells #[.slice a1 n c1, .slice a2 n2 c2] 32)) = W0 at *
    refine (HIN.out _).mono ?_
    rintro e w1 ⟨rfl, hb1⟩
    have HB1 : Hid (Below w.heap.size w w1) := HB0.out.trans (hb1.mono HB0.out.size)
    clear hb1
    go_wp2
    go_ret
    exact ⟨rfl, HB1.out⟩
theorem th_lost {d : FD} {x : Int} (h : 0 ≤ x) : thB d x = !lostB d.1 x := by
  unfold thB lostB
  by_cases e : x < (d.1.length : Int)
  · rw [decide_eq_true (show 0 ≤ x ∧ x < (d.1.length : Int) from ⟨h, e⟩), decide_eq_false (show ¬ (d.1.length : Int) ≤ x by omega)]
    simp
  · rw [decide_eq_false (show ¬ (0 ≤ x ∧ x < (d.1.length : Int)) from fun hh => e hh.2), decide_eq_true (show (d.1.length : Int) ≤ x by omega)]
    simp

/-- What is wrong of data and blocks. -/
def dataF (d : FD) : Int := if d.2.length = 20 then (if fstNZ (manyF d.2) d.2.length = 0 then (if onceB d.1 20 then 0 else 7) else fstNZ (manyF d.2) d.2.length) else 1

set_option maxHeartbeats 3200000 in
theorem dataFault_any (w : World) (aI : Option Addr) (nI cI : Nat) (aD : Option Addr) (nD cD : Nat) (d : FD) (h : FsR w (.slice aI nI cI) (.slice aD nD cD) d) (hs : sizeInos d.1 ≤ 1048576) (hi : insF d.1 = 0) :
    Calls Try.prog 93 #[.agg #[.slice aI nI cI, .slice aD nD cD]] w fun e w' => e = .returned (.int .i64 (dataF d)) ∧ Below w.heap.size w w' := by
  have HNE : Hid (∀ W, Below w.heap.size w W → Calls Try.prog 74 #[.slice aI nI cI] W fun e w' => e = .returned (.agg (arrC fun i => cntB d.1 (i : Int))) ∧ Below W.heap.size W w') := fun W hW => needsOf_any (h.1.later hW) hs hi
  have HM : Hid (∀ W, Calls Try.prog 83 #[.agg (arrC fun i => cntB d.1 (i : Int))] W fun e w' => e = .returned (.bool (!onceB d.1 20)) ∧ Below W.heap.size W w') := fun W => by
    rw [← manyB_once]
    exact anyOfTwo_any W _ (fun i => by have := cntB_le d.1 hs (i : Int); omega)
  have HX : Hid (Bx (w.alloc (.cells #[.slice aI nI cI, .slice aD nD cD] 32)) w.heap.size [.slice aI nI cI, .slice aD nD cD]) := Bx.new w [.slice aI nI cI, .slice aD nD cD] _
  have HDF : Hid (dataF d = if d.2.length = 20 then (if fstNZ (manyF d.2) d.2.length = 0 then (if onceB d.1 20 then 0 else 7) else fstNZ (manyF d.2) d.2.length) else 1) := rfl
  obtain ⟨_, _, e2, hm2, hc⟩ := h.2.open'
  simp only [Value.slice.injEq] at e2
  obtain ⟨rfl, rfl, rfl⟩ := e2
  by_cases h20 : d.2.length = 20
  rotate_left
  · have hb : ((d.2.length : Int) != 20) = true := by simp; omega
    have HR : Hid (dataF d = 1) := by unfold Hid; rw [HDF.out, if_neg h20]
    clear hc h HDF hm2 h20
    generalize d.2.length = n at *
    go_enter Try.func93, Try.ntmps93
    go_wp2
    go_ret
    exact ⟨ret_int HR.out.symm, later1 _ _⟩
  · have HC : Hid (AtYs w aD 20 d.2) := by unfold Hid; rw [← h20]; exact hc
    have HL2 : Hid (d.2.length = 20) := h20
    have hb : (((20 : Nat) : Int) != 20) = false := by simp
    clear hc h hm2
    rw [h20] at HX ⊢
    clear h20
    generalize (fun i : Nat => cntB d.1 (i : Int)) = g at *
    go_enter Try.func93, Try.ntmps93
    go_wp2
    go_loopw [12] (fun i wr => ∃ j : Nat, j ≤ 20 ∧ i = .int .i64 j ∧ wr = w.alloc (.cells #[.slice aI nI cI, .slice aD 20 cD] 32) ∧ ∀ i : Nat, i < j → manyF d.2 i = 0) (fun i _ => 20 - (intOf i).toNat)
    case atStart => exact ⟨0, by omega, rfl, rfl, fun i hi => by omega⟩
    case round =>
      obtain ⟨j, hj, rfl, rfl, hz⟩ := hrel
      have HZ : Hid (∀ i : Nat, i < j → manyF d.2 i = 0) := hz
      clear hz
      by_cases hlt : j < 20
      · obtain ⟨bD, oD, ua, uc, rfl, d0, _⟩ := HC.out j hlt
        replace d0 := cell_later (later1 w (.cells #[.slice aI nI cI, .slice (some ⟨bD, oD, none⟩) 20 cD] 32)) d0
        by_cases h8 : 8 < (d.2[j]?.getD []).length
        · have hb8 : decide ((8 : Int) < (((d.2[j]?.getD []).length : Nat) : Int)) = true := by simp; omega
          have HR : Hid (dataF d = 2) := by
            have e1 : manyF d.2 j = 2 := by unfold manyF; rw [if_pos h8]
            have e2 := fstNZ_at (f := manyF d.2) HZ.out (by rw [e1]; omega) (n := d.2.length) (by rw [HL2.out]; exact hlt)
            unfold Hid; rw [HDF.out, if_pos HL2.out, e2, e1]; simp
          clear h8
          generalize (d.2[j]?.getD []).length = ln at *
          go_wp2
          go_ret
          exact ⟨ret_int HR.out.symm, later1 _ _⟩
        · have hb8 : decide ((8 : Int) < (((d.2[j]?.getD []).length : Nat) : Int)) = false := by simp; omega
          have HR : Hid (∀ i : Nat, i < j + 1 → manyF d.2 i = 0) := fun i hi => by
            by_cases e : i = j
            · subst e; unfold manyF; rw [if_neg h8]
            · exact HZ.out i (by omega)
          clear h8
          generalize (d.2[j]?.getD []).length = ln at *
          go_wp2
          go_roundw
          case rel => exact ⟨j + 1, by omega, by go_num, by first | rfl | trivial, HR.out⟩
          case measure => simp [intOf]; omega
      · have HR : Hid (dataF d = if onceB d.1 20 then 0 else 7) := by
          have e2 := fstNZ_zero (f := manyF d.2) (n := d.2.length) (fun i hi => HZ.out i (by rw [HL2.out] at hi; omega))
          unfold Hid; rw [HDF.out, if_pos HL2.out, e2]; simp
        clear HZ HC HL2 HDF
        generalize onceB d.1 20 = bo at *
        cases bo
        all_goals
          go_wp2_with fail
          refine (HNE.out _ (later1 _ _)).mono ?_
          rintro e w1 ⟨rfl, hb1⟩
          have HB1 : Hid (Below w.heap.size w w1) := (later1 _ _).trans (hb1.mono (by simp))
          clear hb1
          go_wp2_with fail
          refine (HM.out _).mono ?_
          rintro e w2 ⟨rfl, hb2⟩
          have HB2 : Hid (Below w.heap.size w w2) := HB1.out.trans (hb2.mono HB1.out.size)
          clear hb2
          go_wp2
          go_ret
          exact ⟨ret_int HR.out.symm, HB2.out⟩

set_option maxHeartbeats 6400000 in
theorem entriesFault_any (w : World) (aI : Option Addr) (nI cI : Nat) (aD : Option Addr) (nD cD : Nat) (d : FD) (h : FsR w (.slice aI nI cI) (.slice aD nD cD) d) (hs : sizeInos d.1 ≤ 1048576) (hi : insF d.1 = 0) :
    Calls Try.prog 94 #[.agg #[.slice aI nI cI, .slice aD nD cD]] w fun e w' => e = .returned (.int .i64 (lostF d.1)) ∧ Below w.heap.size w w' := by
  have HX : Hid (Bx (w.alloc (.cells #[.slice aI nI cI, .slice aD nD cD] 32)) w.heap.size [.slice aI nI cI, .slice aD nD cD]) := Bx.new w [.slice aI nI cI, .slice aD nD cD] _
  obtain ⟨_, _, e2, hm2, hc⟩ := h.1.open'
  simp only [Value.slice.injEq] at e2
  obtain ⟨rfl, rfl, rfl⟩ := e2
  have HC : Hid (AtI w aI d.1.length d.1) := hc
  have HPOS : Hid (∀ j, j < d.1.length → ∀ k, k < (d.1[j]?.getD id0).2.2.2.2.length → 0 ≤ ((d.1[j]?.getD id0).2.2.2.2[k]?.getD en0).2) := fun j hj => ino_ent (ins_ino hi j hj)
  have HZ : Hid (∀ j, (d.1[j]?.getD id0).2.2.2.2.length ≤ 1048576) := fun j => by
    have := isz_le d.1 j
    have hd : sizeIno (d.1[j]?.getD id0) = (d.1[j]?.getD id0).2.2.2.1.length + ((d.1[j]?.getD id0).2.2.2.2.length + (nlens (d.1[j]?.getD id0).2.2.2.2).sum) := rfl
    unfold sizeInos at hs
    omega
  have HIN : Hid (∀ W x, 0 ≤ x → Below w.heap.size w W → Calls Try.prog 105 #[.agg #[.slice aI d.1.length cI, .slice aD nD cD], .int .i64 x] W fun e w' => e = .returned (.bool (!lostB d.1 x)) ∧ Below W.heap.size W w') := fun W x hx hW => by
    have := isThere_any W aI _ cI aD nD cD d x (h.later hW)
    rw [th_lost hx] at this
    exact this
  have hn : d.1.length ≤ 1048576 := by unfold sizeInos at hs; omega
  clear hc h hs hi hm2
  obtain ⟨n, hnn⟩ : ∃ n, d.1.length = n := ⟨_, rfl⟩
  have HN : Hid (d.1.length = n) := hnn
  rw [hnn] at HC HPOS HX HIN hn ⊢
  clear hnn
  go_enter Try.func94, Try.ntmps94
  go_wp2
  go_loopw [10] (fun i wr => ∃ j : Nat, j ≤ n ∧ i = .int .i64 j ∧ Below (w.heap.size + 1) (w.alloc (.cells #[.slice aI n cI, .slice aD nD cD] 32)) wr ∧ ∀ j', j' < j → ∀ k, k < (d.1[j']?.getD id0).2.2.2.2.length → lostB d.1 ((d.1[j']?.getD id0).2.2.2.2[k]?.getD en0).2 = false) (fun i _ => n - (intOf i).toNat)
  case atStart => exact ⟨0, Nat.zero_le _, rfl, Below.refl _ _, fun j hj => by omega⟩
  case round =>
    obtain ⟨j, hj, rfl, hbl, hz⟩ := hrel
    have HZJ0 : Hid (∀ j', j' < j → ∀ k, k < (d.1[j']?.getD id0).2.2.2.2.length → lostB d.1 ((d.1[j']?.getD id0).2.2.2.2[k]?.getD en0).2 = false) := hz
    have HBL : Hid (Below (w.heap.size + 1) (w.alloc (.cells #[.slice aI n cI, .slice aD nD cD] 32)) wr) := hbl
    have HBW : Hid (Below w.heap.size w wr) := (later1 _ _).trans (hbl.mono (by omega))
    have hwz : w.heap.size + 1 ≤ wr.heap.size := by have := hbl.size; simpa using this
    clear hbl hz
    by_cases hlt : j < n
    · obtain ⟨b, o, rfl, hI⟩ := HC.out j hlt
      obtain ⟨aB, cB, aE, cE, c0, c1, c2, c3, c4, h5⟩ := hI.later HBW.out
      obtain ⟨_, _, e1, hm1, _, hc1⟩ := h5.2.2.open'
      simp only [Value.slice.injEq] at e1
      obtain ⟨rfl, _, rfl⟩ := e1
      have hZ1 := HZ.out j
      have HCB : Hid (AtN wr aE (d.1[j]?.getD id0).2.2.2.2.length (d.1[j]?.getD id0).2.2.2.2) := hc1
      have HP1 : Hid (∀ k, k < (d.1[j]?.getD id0).2.2.2.2.length → 0 ≤ ((d.1[j]?.getD id0).2.2.2.2[k]?.getD en0).2) := HPOS.out j hlt
      have HY : Hid (∀ k, k < (d.1[j]?.getD id0).2.2.2.2.length → lostB d.1 ((d.1[j]?.getD id0).2.2.2.2[k]?.getD en0).2 = true → lostF d.1 = 4) := fun k hk hl => lost_yes (by rw [HN.out]; exact hlt) hk hl
      have HNX : Hid ((∀ k, k < (d.1[j]?.getD id0).2.2.2.2.length → lostB d.1 ((d.1[j]?.getD id0).2.2.2.2[k]?.getD en0).2 = false) → ∀ j', j' < j + 1 → ∀ k, k < (d.1[j']?.getD id0).2.2.2.2.length → lostB d.1 ((d.1[j']?.getD id0).2.2.2.2[k]?.getD en0).2 = false) := fun hh j' hj' k hk => by
        by_cases e : j' = j
        · subst e; exact hh k hk
        · exact HZJ0.out j' (by omega) k hk
      clear h5 hI hc1 hm1
      generalize (d.1[j]?.getD id0) = dj at *
      obtain ⟨dk, dl, dz, db, es⟩ := dj
      dsimp only at *
      generalize db.length = nD2 at *
      obtain ⟨nE, hnE⟩ : ∃ nE, nE = es.length := ⟨_, rfl⟩
      have HNE : Hid (nE = es.length) := hnE
      rw [← hnE] at c4 hZ1 HCB HP1 HY HNX
      clear hnE
      go_wp2
      clear c0 c1 c2 c3 c4
      obtain ⟨wo, rfl⟩ : ∃ wo, wo = wr := ⟨_, rfl⟩
      go_loopw [17] (fun i wr2 => ∃ k : Nat, k ≤ nE ∧ i = .int .i64 k ∧ Below wo.heap.size wo wr2 ∧ ∀ k', k' < k → lostB d.1 (es[k']?.getD en0).2 = false) (fun i _ => nE - (intOf i).toNat)
      case atStart => exact ⟨0, Nat.zero_le _, rfl, later1 _ _, fun k hk => by omega⟩
      case round =>
        obtain ⟨k, hk, rfl, hbl2, hz2⟩ := hrel
        have HB2 : Hid (Below wo.heap.size wo wr) := hbl2
        have HZ2 : Hid (∀ k', k' < k → lostB d.1 (es[k']?.getD en0).2 = false) := hz2
        have HBW2 : Hid (Below w.heap.size w wr) := HBW.out.trans (hbl2.mono HBW.out.size)
        have HBX2 : Hid (Bx wr w.heap.size [.slice (some ⟨b, o, none⟩) n cI, .slice aD nD cD]) := fun i v hv => by
          have h1 := HX.out i v hv
          have h2 := (HBL.out.trans (hbl2.mono (by simpa using hwz))).block w.heap.size (by omega)
          simp only [World.cell?] at h1 ⊢
          rw [h2]; exact h1
        clear hbl2 hz2
        by_cases hlk : k < nE
        · obtain ⟨b1, o1, rfl, d0, d1⟩ := HCB.out k hlk
          replace d0 := cell_later HB2.out d0
          replace d1 := cell_later HB2.out d1
          have hx0 := HP1.out k hlk
          have HYK : Hid (lostB d.1 (es[k]?.getD en0).2 = true → lostF d.1 = 4) := HY.out k hlk
          have HNK : Hid (lostB d.1 (es[k]?.getD en0).2 = false → ∀ k', k' < k + 1 → lostB d.1 (es[k']?.getD en0).2 = false) := fun hh k' hk' => by
            by_cases e : k' = k
            · subst e; exact hh
            · exact HZ2.out k' (by omega)
          generalize (es[k]?.getD en0).1 = nm at *
          generalize (es[k]?.getD en0).2 = x at *
          have q0 := HBX2.out 0 _ rfl
          have q1 := HBX2.out 1 _ rfl
          have qlt := HBX2.out.lt
          have hQA : ∀ W, Below wr.heap.size wr W → Bx W w.heap.size [.slice (some ⟨b, o, none⟩) n cI, .slice aD nD cD] := fun W hW => HBX2.out.later hW
          have HQA : Hid (∀ W, Below wr.heap.size wr W → Bx W w.heap.size [.slice (some ⟨b, o, none⟩) n cI, .slice aD nD cD]) := hQA
          clear hQA
          have HTH : Hid (Calls Try.prog 105 #[.agg #[.slice (some ⟨b, o, none⟩) n cI, .slice aD nD cD], .int .i64 x] (wr.alloc (.cells #[.string nm, .int .i64 x] 109)) fun e w' => e = .returned (.bool (!lostB d.1 x)) ∧ Below (wr.alloc (.cells #[.string nm, .int .i64 x] 109)).heap.size (wr.alloc (.cells #[.string nm, .int .i64 x] 109)) w') := HIN.out _ x hx0 (HBW2.out.trans ((later1 _ _).mono HBW2.out.size))
          clear hx0 HIN HQA
          cases hl : lostB d.1 x with
          | true =>
            rw [hl] at HTH HYK
            have HR : Hid (lostF d.1 = 4) := HYK.out rfl
            clear hl HYK HNK
            go_wp2_with fail
            refine HTH.out.mono ?_
            rintro e w1 ⟨rfl, hb1⟩
            have HBWW : Hid (Below w.heap.size w w1) := HBW2.out.trans (((later1 _ _).trans (hb1.mono (by simp))).mono HBW2.out.size)
            clear hb1 q0 q1 d0 d1 HTH
            go_wp2
            go_ret
            exact ⟨ret_int HR.out.symm, HBWW.out⟩
          | false =>
            rw [hl] at HTH HNK
            have HR : Hid (∀ k', k' < k + 1 → lostB d.1 (es[k']?.getD en0).2 = false) := HNK.out rfl
            clear hl HYK HNK
            go_wp2_with fail
            refine HTH.out.mono ?_
            rintro e w1 ⟨rfl, hb1⟩
            have HBW1 : Hid (Below wr.heap.size wr w1) := (later1 _ _).trans (hb1.mono (by simp))
            clear hb1 q0 q1 d0 d1 HTH
            go_wp2
            go_roundw
            case rel => exact ⟨k + 1, by omega, by go_num, HB2.out.trans (HBW1.out.mono HB2.out.size), HR.out⟩
            case measure => simp [intOf]; omega
        · have HR : Hid (∀ j', j' < j + 1 → ∀ k, k < (d.1[j']?.getD id0).2.2.2.2.length → lostB d.1 ((d.1[j']?.getD id0).2.2.2.2[k]?.getD en0).2 = false) := HNX.out fun k' hk' => HZ2.out k' (by omega)
          go_wp2
          go_roundw
          case rel => exact ⟨j + 1, by omega, by go_num, HBL.out.trans (HB2.out.mono (by simpa using hwz)), HR.out⟩
          case measure => simp [intOf]; omega
    · have HR : Hid (lostF d.1 = 0) := lost_no fun j' hj' => HZJ0.out j' (by rw [HN.out] at hj'; omega)
      go_wp2
      go_ret
      exact ⟨ret_int HR.out.symm, HBW.out⟩
end Go.Proofs.Ytlacppjlclfpmaa

/- The program's counts, filled and read. The specification's l4Pack. PackInode, both sides. The specification's UsedBlocks, FreeBlocks, PickBlocks and FreeInode. The specification's PickBlocks. The program's UsedBlocks, FreeBlocks and PickBlocks. The program: what is wrong of inodes, data and entries of a file system. Lists of extents: how they read, what they own. No program is named here. The walks of the laws' functions over lists of extents. -/
import Derived.Test.YtlohgnidbkechaaM05
import Derived.Test.YtlohgnidbkechaaM04
import Derived.Test.YtlohgnidbkechaaM01
import Derived.Test.YtlohgnidbkechaaRows
import Derived.Deep.RegionWith
import Derived.Deep.RegionHeld3
namespace Go.Proofs.Ytlohgnidbkechaa
open Go.RowKit
set_option maxRecDepth 100000

theorem needsWith_any {w : World} {v : Value} {bs : List Int} (h : Ints w v bs) (f : Nat → Nat) (hn : bs.length ≤ 1048576) (hf : ∀ i, f i ≤ 1000000000000) (hr : ∀ k : Nat, k < bs.length → 0 ≤ bs[k]?.getD 0 ∧ bs[k]?.getD 0 < 20) :
    Calls Try.prog 64 #[.agg (arrC f), v] w fun e w' => e = .returned (.agg (arrC fun i => f i + bs.count (i : Int))) ∧ Below w.heap.size w w' := by
  obtain ⟨a, cap, rfl, _, hc⟩ := h.open'
  exact needsWith_walk w a _ cap f bs hn rfl hf hr hc
/-- Blocks of inodes without a fault stand within the bounds. -/
theorem inoF_blocks {d : ID} (h : inoF d = 0) (k : Nat) (hk : k < d.2.2.2.1.length) : 0 ≤ d.2.2.2.1[k]?.getD 0 ∧ d.2.2.2.1[k]?.getD 0 < 20 := by
  have hp : ∀ x : Bool, (decide (d.2.1 ≠ 0) || decide (d.2.2.1 ≠ 0) || decide (0 < d.2.2.2.1.length)) = x → x = true := fun x hx => by
    rw [← hx, decide_eq_true (show 0 < d.2.2.2.1.length by omega)]; simp
  have hfp : fpB d = true := hp _ rfl
  unfold inoF at h
  rw [hfp] at h
  split at h
  · simp at h
  · split at h
    · split at h
      · omega
      · unfold fileF at h
        split at h
        · split at h
          · unfold blkF at h
            split at h
            · rename_i hz
              have := fstNZ_inv hz k hk
              unfold rngF at this
              split at this
              · omega
              · omega
            · rename_i hz; exact absurd h hz
          · omega
        · omega
    · split at h
      · simp at h
      · omega
theorem insF_len {ds : List ID} (h : insF ds = 0) : ds.length ≤ 10 := by
  unfold insF at h
  split at h
  · omega
  · omega
theorem insF_each {ds : List ID} (h : insF ds = 0) (j : Nat) (hj : j < ds.length) : inoF (ds[j]?.getD id0) = 0 := by
  unfold insF at h
  split at h
  · omega
  · exact fstNZ_inv (f := fun i => inoF (ds[i]?.getD id0)) h j hj
theorem insF_blocks {ds : List ID} (h : insF ds = 0) (j k : Nat) (hj : j < ds.length) (hk : k < (ds[j]?.getD id0).2.2.2.1.length) : 0 ≤ (ds[j]?.getD id0).2.2.2.1[k]?.getD 0 ∧ (ds[j]?.getD id0).2.2.2.1[k]?.getD 0 < 20 := inoF_blocks (insF_each h j hj) k hk

set_option maxHeartbeats 1600000 in
theorem needsOf_walk (w : World) (a : Option Addr) (n c : Nat) (ds : List ID) (hdn : ds.length = n) (hn : n ≤ 1048576) (hs : (isz ds).sum ≤ 1048576) (hr : ∀ j k : Nat, j < n → k < (ds[j]?.getD id0).2.2.2.1.length → 0 ≤ (ds[j]?.getD id0).2.2.2.1[k]?.getD 0 ∧ (ds[j]?.getD id0).2.2.2.1[k]?.getD 0 < 20) (hc : AtI w a n ds) :
    Calls Try.prog 58 #[.slice a n c] w fun e w' => e = .returned (.agg (arrC fun i => cntB ds (i : Int))) ∧ Below w.heap.size w w' := by
  have HC : Hid (AtI w a n ds) := hc
  have HN : Hid (ds.length = n) := hdn
  have HR : Hid (∀ j k : Nat, j < n → k < (ds[j]?.getD id0).2.2.2.1.length → 0 ≤ (ds[j]?.getD id0).2.2.2.1[k]?.getD 0 ∧ (ds[j]?.getD id0).2.2.2.1[k]?.getD 0 < 20) := hr
  have HS : Hid (∀ (j : Nat) (v : Int), (((ds.take j).flatMap fun d => d.2.2.2.1)).count v ≤ 1000000000000) := fun j v => by
    have h1 := flat_take (fun d : ID => d.2.2.2.1) ds j
    have h2 := allB_len ds
    have h3 := List.count_le_length (a := v) (l := (ds.take j).flatMap fun d => d.2.2.2.1)
    unfold allB at h2
    omega
  have HX : Hid (∀ (j : Nat), j < n → (fun i : Nat => ((ds.take j).flatMap fun d => d.2.2.2.1).count (i : Int) + ((ds[j]?.getD id0).2.2.2.1).count (i : Int)) = (fun i : Nat => ((ds.take (j + 1)).flatMap fun d => d.2.2.2.1).count (i : Int))) := fun j hj => by
    funext i
    rw [flat_next (fun d : ID => d.2.2.2.1) ds id0 j (by omega), List.count_append]
  have HZ : Hid (∀ j : Nat, (ds[j]?.getD id0).2.2.2.1.length ≤ 1048576) := fun j => by
    have := isz_le ds j
    have hd : sizeIno (ds[j]?.getD id0) = (ds[j]?.getD id0).2.2.2.1.length + sizeN (ds[j]?.getD id0).2.2.2.2 := rfl
    omega
  have HE : Hid ((fun i : Nat => cntB ds (i : Int)) = (fun i : Nat => ((ds.take n).flatMap fun d => d.2.2.2.1).count (i : Int))) := by unfold Hid cntB allB; rw [List.take_of_length_le (by omega)]
  clear hc hdn hr hs
  have z0 := Arr.new w (fun _ => 0)
  have z1 := Arr.new (w.alloc (.cells (arrC fun _ => 0) 101)) (fun _ => 0)
  replace z0 := z0.later (later1 _ (.cells (arrC fun _ => 0) 101))
  rw [World.size_alloc] at z1
  have HB0 : Hid (Below w.heap.size w ((w.alloc (.cells (arrC fun _ => 0) 101)).alloc (.cells (arrC fun _ => 0) 101))) := later2 _ _ _
  have HZ0 : Hid (Arr _ _ _) := z0
  have HZ1 : Hid (Arr _ _ _) := z1
  clear z0 z1
  rw [HE.out]
  clear HE
  generalize hG : (fun (j i : Nat) => ((ds.take j).flatMap fun d => d.2.2.2.1).count (i : Int)) = G at *
  have HG : Hid (∀ j i, ((ds.take j).flatMap fun d => d.2.2.2.1).count ((i : Nat) : Int) = G j i) := fun j i => congrFun (congrFun hG j) i
  have HGB : Hid (∀ j i, G j i ≤ 1000000000000) := fun j i => by rw [← HG.out j i]; exact HS.out j _
  have HG0 : Hid ((fun _ : Nat => 0) = G 0) := by unfold Hid; funext i; rw [← HG.out 0 i]; simp
  simp only [HG.out] at HX ⊢
  clear hG HG HS
  go_enter Try.func58, Try.ntmps58
  go_wp2
  go_loopw [8] (fun i wr => ∃ j : Nat, j ≤ n ∧ i = .int .i64 j ∧ Below w.heap.size w wr ∧ Arr wr (w.heap.size + 1) (G j) ∧ Arr wr w.heap.size (fun _ => 0)) (fun i _ => n - (intOf i).toNat)
  case atStart => exact ⟨0, Nat.zero_le _, rfl, HB0.out, HG0.out ▸ HZ1.out, HZ0.out⟩
  case round =>
    clear HB0 HZ0 HZ1
    obtain ⟨j, hj, rfl, hbl, hx, hy⟩ := hrel
    have HBL : Hid (Below w.heap.size w wr) := hbl
    have HA : Hid (Arr wr (w.heap.size + 1) (G j)) := hx
    have HY : Hid (Arr wr w.heap.size (fun _ => 0)) := hy
    have hw0 := hx.lt
    clear hbl hx hy
    by_cases hlt : j < n
    · obtain ⟨b, o, rfl, hI⟩ := HC.out j hlt
      obtain ⟨aB, cB, aE, cE, c0, c1, c2, c3, c4, hR⟩ := hI.later HBL.out
      have HW : Hid (∀ W, Below wr.heap.size wr W → Calls Try.prog 64 #[.agg (arrC (G j)), .slice aB (ds[j]?.getD id0).2.2.2.1.length cB] W fun e w' => e = .returned (.agg (arrC (G (j + 1)))) ∧ Below W.heap.size W w') := fun W hW => by
        have hx := needsWith_any (hR.2.1.later hW) (G j) (HZ.out j) (HGB.out j) (fun k hk => HR.out j k hlt hk)
        have e : (fun i : Nat => G j i + ((ds[j]?.getD id0).2.2.2.1).count (i : Int)) = G (j + 1) := HX.out j hlt
        rw [e] at hx
        exact hx
      have HL : Hid (∀ o, (Instr.loadAt 101 (.pointer (some ⟨w.heap.size + 1, 0, none⟩))).run Try.prog (wr.alloc o) = .ok (.agg (arrC (G j))) (wr.alloc o)) := fun o => (HA.out.later (later1 _ _)).load
      clear hI hR HC HR
      generalize hg2 : G (j + 1) = g2 at HW
      generalize G j = g1 at HW HL HA
      have HG2 : Hid (G (j + 1) = g2) := hg2
      clear hg2
      generalize (ds[j]?.getD id0) = d at *
      go_wp2_with (first | refine wpList_load_run rfl _ 101 rfl _ rfl _ _ (HL.out _) ?_ | fail)
      clear c0 c1 c2 c3 c4
      refine (HW.out _ (later1 _ _)).mono ?_
      rintro e w2 ⟨rfl, hb2⟩
      have hbw : Below wr.heap.size wr w2 := (later1 _ _).trans (hb2.mono (by simp))
      obtain ⟨X, hst, hax, hsx, hoth, hx1, hx2, hx3⟩ := (HA.out.later hbw).put g2
      have HST : Hid (_ = _) := hst
      have HAX : Hid (Arr X (w.heap.size + 1) g2) := hax
      have HBX : Hid (Below w.heap.size w X) := (HBL.out.trans (hbw.mono HBL.out.size)).trans ⟨hx1, hx2, hx3, by omega, fun c hc => hoth c (by omega)⟩
      have HYX : Hid (Arr X w.heap.size (fun _ => 0)) := (hoth _ (by omega)).trans (HY.out.later hbw)
      clear hst hax hsx hoth hx1 hx2 hx3 hb2 hbw
      go_wp2_with (first | refine wpList_store_run rfl _ _ 101 rfl _ _ rfl rfl _ HST.out ?_ | fail)
      go_roundw
      case rel => exact ⟨j + 1, by omega, by go_num, HBX.out, by rw [HG2.out]; exact HAX.out, HYX.out⟩
      case measure => simp [intOf]; omega
    · have HGN : Hid (G j = G n) := by unfold Hid; rw [show j = n by omega]
      have HL : Hid (_ = _) := HA.out.load
      obtain ⟨X, hst, hax, hsx, hoth, hx1, hx2, hx3⟩ := HY.out.put (G j)
      have HST : Hid (_ = _) := hst
      have HAX : Hid (Arr X w.heap.size (G n)) := HGN.out ▸ hax
      have HBX : Hid (Below w.heap.size w X) := HBL.out.trans ⟨hx1, hx2, hx3, by omega, fun c hc => hoth c (by omega)⟩
      clear hst hax hsx hoth hx1 hx2 hx3
      generalize G j = g1 at HL HST
      go_wp2_with (first | refine wpList_load_run rfl _ 101 rfl _ rfl _ _ HL.out ?_ | refine wpList_store_run rfl _ _ 101 rfl _ _ rfl rfl _ HST.out ?_)
      refine bodyPost_ret (v := .agg (arrC (G n))) ?_ rfl ⟨rfl, HBX.out⟩
      have hlv := HAX.out.loadV
      simp [results, Try.results58, asAddr, Act.put, hlv]
theorem needsOf_any {w : World} {v : Value} {ds : List ID} (h : Inos w v ds) (hs : sizeInos ds ≤ 1048576) (hf : insF ds = 0) :
    Calls Try.prog 58 #[v] w fun e w' => e = .returned (.agg (arrC fun i => cntB ds (i : Int))) ∧ Below w.heap.size w w' := by
  obtain ⟨a, cap, rfl, hm, hc⟩ := h.open'
  unfold sizeInos at hs
  exact needsOf_walk w a _ cap ds rfl (by omega) (by omega) (fun j k hj hk => insF_blocks hf j k hj hk) hc

theorem Arr.keep {w w' : World} {b : Nat} {f : Nat → Nat} (h : Arr w b f) (hk : KeepT w w') : Arr w' b f := hk _ _ _ _ (by decide) h

def manyB (f : Nat → Nat) : Bool := (List.range 20).any fun k => decide (1 < f k)
set_option maxHeartbeats 800000 in
theorem anyOfTwo_any (w : World) (f : Nat → Nat) (hf : ∀ i, f i ≤ 1000000000000) :
    Calls Try.prog 59 #[.agg (arrC f)] w fun e w' => e = .returned (.bool (manyB f)) ∧ Below w.heap.size w w' := by
  have HA : Hid (Arr (w.alloc (.cells (arrC f) 101)) w.heap.size f) := Arr.new w f
  have HF : Hid (∀ i, f i ≤ 1000000000000) := hf
  have HB : Hid (Below w.heap.size w (w.alloc (.cells (arrC f) 101))) := later1 _ _
  have hsz := arrC_size f
  clear hf
  go_enter Try.func59, Try.ntmps59
  go_wp2
  generalize w.alloc (.cells (arrC f) 101) = W at *
  go_loopw [4] (fun i wr => ∃ j : Nat, j ≤ 20 ∧ i = .int .i64 j ∧ wr = W ∧ ∀ i : Nat, i < j → ¬ 1 < f i) (fun i _ => 20 - (intOf i).toNat)
  case atStart => exact ⟨0, Nat.zero_le _, rfl, rfl, fun i hi => by omega⟩
  case round =>
    obtain ⟨j, hj, rfl, hw, hz⟩ := hrel
    have HZ : Hid (∀ i : Nat, i < j → ¬ 1 < f i) := hz
    rw [← hw] at HA HB
    have HWE : Hid (wr = W) := hw
    clear hz hw
    by_cases hlt : j < 20
    · have c0 := HA.out.cell hlt
      have hfj := HF.out j
      by_cases h1 : 1 < f j
      · have HR : Hid (manyB f = true) := by
          unfold Hid manyB
          rw [List.any_eq_true]
          exact ⟨j, by simpa using hlt, by simpa using h1⟩
        have hd : decide ((1 : Int) < ((f j : Nat) : Int)) = true := by simp; omega
        clear h1
        generalize f j = x at *
        go_wp2
        go_ret
        exact ⟨ret_bool HR.out.symm, HB.out⟩
      · have HR : Hid (∀ i : Nat, i < j + 1 → ¬ 1 < f i) := fun i hi => by
          by_cases e : i = j
          · subst e; exact h1
          · exact HZ.out i (by omega)
        have hd : decide ((1 : Int) < ((f j : Nat) : Int)) = false := by simp; omega
        clear h1
        generalize hx : f j = x at c0 hd hfj
        clear hx
        go_wp2
        go_roundw
        case rel => exact ⟨j + 1, by omega, by go_num, HWE.out, HR.out⟩
        case measure => simp [intOf]; omega
    · have HR : Hid (manyB f = false) := by
        unfold Hid manyB
        rw [List.any_eq_false]
        intro k hk
        simp only [List.mem_range] at hk
        simpa using HZ.out k (by omega)
      go_wp2
      go_ret
      exact ⟨ret_bool HR.out.symm, HB.out⟩

end Go.Proofs.Ytlohgnidbkechaa

namespace Go.Proofs.Ytlohgnidbkechaa
open Go.RowKit
set_option maxRecDepth 100000

/-- The first append: three words, then the blocks. -/
theorem append_first (w W : World) (hW : Below w.heap.size w W) (z0 z1 z2 : Int) (aB : Option Addr) (nB cB : Nat) (bs : List Int) (hn : nB ≤ 1048576) (hbn : bs.length = nB) (hc : At1 w aB nB (fun k => .int .i64 (bs[k]?.getD 0))) :
    ∃ v' X, (Builtin.append_ #[40, 40] 40 #[.slice (some ⟨W.heap.size, 0, none⟩) 3 3, .slice aB nB cB]).run Try.prog (W.alloc (.cells #[.int .i64 z0, .int .i64 z1, .int .i64 z2] 2)) = .ok v' X ∧ Wds X w.heap.size v' ([z0, z1, z2] ++ bs) ∧ Below w.heap.size w X ∧ KeepT W X := by
  have hW1 : Below w.heap.size w (W.alloc (.cells #[.int .i64 z0, .int .i64 z1, .int .i64 z2] 2)) := hW.trans ((later1 _ _).mono hW.size)
  have hl := Wds.lit W w.heap.size hW.size [z0, z1, z2] #[.int .i64 z0, .int .i64 z1, .int .i64 z2] rfl 3 rfl (by omega)
  obtain ⟨v', X, h1, h2, h3, h4⟩ := append_any _ w.heap.size _ [z0, z1, z2] bs aB nB cB hl hW1.size hbn (by simp) hn (fun k hk => by
    obtain ⟨b, off, e, h⟩ := hc k hk
    exact ⟨b, off, e, cell_later hW1 h⟩) (hl.some (by simp))
  exact ⟨v', X, h1, h2, hW1.trans h3, (KeepT.later (later1 _ _)).trans h4⟩

set_option maxHeartbeats 3200000 in
theorem l4Pack_flat (w : World) (z0 z1 z2 : Int) (aB : Option Addr) (nB cB : Nat) (aE : Option Addr) (nE cE : Nat) (bs : List Int) (hn : nB ≤ 1048576) (hbn : bs.length = nB) (hc : At1 w aB nB (fun k => .int .i64 (bs[k]?.getD 0))) (hk : ¬ z0 = 2) :
    Calls Try.prog 23 #[.agg #[.int .i64 z0, .int .i64 z1, .int .i64 z2, .slice aB nB cB, .slice aE nE cE]] w fun e w' => ∃ v, e = .returned v ∧ Below w.heap.size w w' ∧ Wds w' w.heap.size v ([z0, z1, z2] ++ bs) := by
  obtain ⟨v1, X1, hr1, hw1, hb1, hk1⟩ := append_first w (w.alloc (.cells #[.int .i64 z0, .int .i64 z1, .int .i64 z2, .slice aB nB cB, .slice aE nE cE] 61)) (later1 _ _) z0 z1 z2 aB nB cB bs hn hbn hc
  have c0 := ((Obx.new w [.int .i64 z0, .int .i64 z1, .int .i64 z2, .slice aB nB cB, .slice aE nE cE] 61).keep hk1 (by decide)).bx 0 _ rfl
  simp only [World.size_alloc] at hr1
  have HR : Hid (_ = _) := hr1
  have HW : Hid (Wds X1 w.heap.size v1 ([z0, z1, z2] ++ bs)) := hw1
  have HB : Hid (Below w.heap.size w X1) := hb1
  have hk' : (z0 != 2) = true := by simpa using hk
  clear hc hr1 hw1 hb1 hk1 hk
  go_enter Try.func23, Try.ntmps23
  go_wp2_with (at_builtin; refine wpList_append_run rfl _ _ 40 rfl _ _ rfl rfl _ _ HR.out ?_)
  go_ret
  exact ⟨v1, rfl, HB.out, HW.out⟩

set_option maxHeartbeats 12800000 in
theorem l4Pack_dir (w : World) (z1 z2 : Int) (aB : Option Addr) (nB cB : Nat) (aE : Option Addr) (nE cE : Nat) (bs : List Int) (es : List EN) (hn : nB ≤ 1048576) (hbn : bs.length = nB) (hc : At1 w aB nB (fun k => .int .i64 (bs[k]?.getD 0))) (hen : es.length = nE) (hnE : nE ≤ 1048576) (hsz : (entsW es).length ≤ 4194304) (hce : AtN w aE nE es) :
    Calls Try.prog 23 #[.agg #[.int .i64 2, .int .i64 z1, .int .i64 z2, .slice aB nB cB, .slice aE nE cE]] w fun e w' => ∃ v, e = .returned v ∧ Below w.heap.size w w' ∧ Wds w' w.heap.size v ([2, z1, z2] ++ bs ++ [(nE : Int)] ++ entsW es) := by
  obtain ⟨v1, X1, hr1, hw1, hb1, hk1⟩ := append_first w (w.alloc (.cells #[.int .i64 2, .int .i64 z1, .int .i64 z2, .slice aB nB cB, .slice aE nE cE] 61)) (later1 _ _) 2 z1 z2 aB nB cB bs hn hbn hc
  have hox := (Obx.new w [.int .i64 2, .int .i64 z1, .int .i64 z2, .slice aB nB cB, .slice aE nE cE] 61).keep hk1 (by decide)
  simp only [World.size_alloc] at hr1
  obtain ⟨v2, X2, hr2, hw2, hb2, hk2⟩ := append_wds X1 w.heap.size v1 ([2, z1, z2] ++ bs) [(nE : Int)] #[.int .i64 (nE : Int)] 1 rfl rfl hw1 hb1.size (by simp; omega) (by simp) (by omega)
  have c0 := hox.bx 0 _ rfl
  have c4 := hox.bx 4 _ rfl
  have hoy := hox.keep hk2 (by decide)
  have HR1 : Hid (_ = _) := hr1
  have HR2 : Hid (_ = _) := hr2
  have HW2 : Hid (Wds X2 w.heap.size v2 ([2, z1, z2] ++ bs ++ [(nE : Int)])) := hw2
  have HB2 : Hid (Below w.heap.size w X2) := hb1.trans hb2
  have HO2 : Hid (Obx X2 w.heap.size [.int .i64 2, .int .i64 z1, .int .i64 z2, .slice aB nB cB, .slice aE nE cE] 61) := hoy
  have HL : Hid (([2, z1, z2] ++ bs ++ [(nE : Int)]).length ≤ 1048580) := by unfold Hid; simp; omega
  have HP : Hid (0 < ([2, z1, z2] ++ bs ++ [(nE : Int)]).length) := by unfold Hid; simp
  have HCE : Hid (AtN w aE nE es) := hce
  have HEN : Hid (es.length = nE) := hen
  have HSZ : Hid ((entsW es).length ≤ 4194304) := hsz
  generalize [2, z1, z2] ++ bs ++ [(nE : Int)] = pre at *
  clear hc hr1 hw1 hb1 hk1 hox hr2 hw2 hb2 hk2 hoy hce hen hsz hbn
  go_enter Try.func23, Try.ntmps23
  go_wp2_with (at_builtin; first | refine wpList_append_run rfl _ _ 40 rfl _ _ rfl rfl _ _ HR1.out ?_ | refine wpList_append_run rfl _ _ 40 rfl _ _ rfl rfl _ _ HR2.out ?_)
  clear c0 c4 HR1 HR2
  go_loopw [3, 4] (fun o i wr => ∃ (j : Nat) (v : Value), o = v ∧ j ≤ nE ∧ i = .int .i64 j ∧ Below w.heap.size w wr ∧ Obx wr w.heap.size [.int .i64 2, .int .i64 z1, .int .i64 z2, .slice aB nB cB, .slice aE nE cE] 61 ∧ Wds wr w.heap.size v (pre ++ entsW (es.take j))) (fun _ i _ => nE - (intOf i).toNat)
  case atStart => exact ⟨0, _, rfl, Nat.zero_le _, rfl, HB2.out, HO2.out, by simpa [entsW] using HW2.out⟩
  case round =>
    obtain ⟨j, v, rfl, hj, rfl, hbl, hox, hwd⟩ := hrel
    have HBL : Hid (Below w.heap.size w wr) := hbl
    have HOX : Hid (Obx wr w.heap.size [.int .i64 2, .int .i64 z1, .int .i64 z2, .slice aB nB cB, .slice aE nE cE] 61) := hox
    have HWD : Hid (Wds wr w.heap.size _ (pre ++ entsW (es.take j))) := hwd
    obtain ⟨aV, cV, rfl⟩ := hwd.shape
    have c4 := hox.bx 4 _ rfl
    clear hbl hox hwd
    by_cases hlt : j < nE
    · obtain ⟨b1, off, rfl, e0, e1⟩ := HCE.out j hlt
      replace e0 := cell_later HBL.out e0
      replace e1 := cell_later HBL.out e1
      have HTK : Hid (entsW (es.take (j + 1)) = entsW (es.take j) ++ entW (es[j]?.getD en0)) := entsW_take es j (by rw [HEN.out]; exact hlt)
      have HUP : Hid ((entsW (es.take j)).length + 2 + (es[j]?.getD en0).1.size ≤ (entsW es).length) := upto_size es j (by rw [HEN.out]; exact hlt)
      have HET : Hid (es[j]?.getD en0 = ((es[j]?.getD en0).1, (es[j]?.getD en0).2)) := rfl
      rw [HET.out] at HTK
      generalize (es[j]?.getD en0).1 = x at *
      generalize (es[j]?.getD en0).2 = y at *
      have hxs : x.size ≤ 4194304 := by have := HUP.out; have := HSZ.out; omega
      obtain ⟨v3, X3, hr3, hw3, hb3, hk3⟩ := append_wds (wr.alloc (.cells #[.string x, .int .i64 y] 79)) w.heap.size _ (pre ++ entsW (es.take j)) [y, (x.size : Int)] #[.int .i64 y, .int .i64 (x.size : Int)] 2 rfl rfl (HWD.out.later (later1 _ _)) (by simp; have := HBL.out.size; omega) (by simp only [List.length_append]; have := HL.out; have := HUP.out; have := HSZ.out; omega) (by simp only [List.length_append]; have := HP.out; omega) (by omega)
      have hoe := (Obx.new wr [.string x, .int .i64 y] 79).keep hk3 (by decide)
      have hop := (HOX.out.keep (KeepT.later (later1 wr (.cells #[.string x, .int .i64 y] 79))) (by decide)).keep hk3 (by decide)
      simp only [World.size_alloc] at hr3
      have HR3 : Hid (_ = _) := hr3
      have HW3 : Hid (Wds X3 w.heap.size v3 (pre ++ entsW (es.take j) ++ [y, (x.size : Int)])) := hw3
      have HB3 : Hid (Below w.heap.size w X3) := (HBL.out.trans ((later1 _ _).mono HBL.out.size)).trans hb3
      have HOE : Hid (Obx X3 wr.heap.size [.string x, .int .i64 y] 79) := hoe
      have HOP : Hid (Obx X3 w.heap.size [.int .i64 2, .int .i64 z1, .int .i64 z2, .slice aB nB cB, .slice (some ⟨b1, off, none⟩) nE cE] 61) := hop
      clear hr3 hw3 hb3 hk3 hoe hop
      go_wp2_with (at_builtin; refine wpList_append_run rfl _ _ 40 rfl _ _ rfl rfl _ _ HR3.out ?_)
      clear c4 e0 e1 HR3 HWD HOX
      generalize wr.heap.size = eb at *
      go_loopw [3, 6] (fun o i wr2 => ∃ (q : Nat) (v : Value), o = v ∧ q ≤ x.size ∧ i = .int .i64 q ∧ Below w.heap.size w wr2 ∧ Obx wr2 w.heap.size [.int .i64 2, .int .i64 z1, .int .i64 z2, .slice aB nB cB, .slice (some ⟨b1, off, none⟩) nE cE] 61 ∧ Obx wr2 eb [.string x, .int .i64 y] 79 ∧ Wds wr2 w.heap.size v (pre ++ entsW (es.take j) ++ [y, (x.size : Int)] ++ nameW x q)) (fun _ i _ => x.size - (intOf i).toNat)
      case atStart => exact ⟨0, _, rfl, Nat.zero_le _, rfl, HB3.out, HOP.out, HOE.out, by simpa [nameW] using HW3.out⟩
      case round =>
        clear HB3 HOP HOE HW3
        obtain ⟨q, v, rfl, hq, rfl, hbl2, hop2, hoe2, hwd2⟩ := hrel
        have HBL2 : Hid (Below w.heap.size w wr) := hbl2
        have HOP2 : Hid (Obx wr w.heap.size [.int .i64 2, .int .i64 z1, .int .i64 z2, .slice aB nB cB, .slice (some ⟨b1, off, none⟩) nE cE] 61) := hop2
        have HOE2 : Hid (Obx wr eb [.string x, .int .i64 y] 79) := hoe2
        have HWD2 : Hid (Wds wr w.heap.size _ (pre ++ entsW (es.take j) ++ [y, (x.size : Int)] ++ nameW x q)) := hwd2
        obtain ⟨aV2, cV2, rfl⟩ := hwd2.shape
        have c5 := hoe2.bx 0 _ rfl
        clear hbl2 hop2 hoe2 hwd2
        by_cases hlq : q < x.size
        · have HNN : Hid (nameW x (q + 1) = nameW x q ++ [((x[q]'hlq).toNat : Int)]) := nameW_next x q hlq
          obtain ⟨v4, X4, hr4, hw4, hb4, hk4⟩ := append_wds wr w.heap.size _ (pre ++ entsW (es.take j) ++ [y, (x.size : Int)] ++ nameW x q) [((x[q]'hlq).toNat : Int)] #[.int .i64 ((x[q]'hlq).toNat : Int)] 1 rfl rfl HWD2.out HBL2.out.size (by simp only [List.length_append, List.length_cons, List.length_nil]; have := HL.out; have := HUP.out; have := HSZ.out; have := nameW_len x q; omega) (by simp only [List.length_append]; have := HP.out; omega) (by omega)
          have HR4 : Hid (_ = _) := hr4
          have HW4 : Hid (Wds X4 w.heap.size v4 (pre ++ entsW (es.take j) ++ [y, (x.size : Int)] ++ nameW x (q + 1))) := by unfold Hid; rw [HNN.out, ← List.append_assoc]; exact hw4
          have HB4 : Hid (Below w.heap.size w X4) := HBL2.out.trans hb4
          have HOP4 : Hid (Obx X4 w.heap.size [.int .i64 2, .int .i64 z1, .int .i64 z2, .slice aB nB cB, .slice (some ⟨b1, off, none⟩) nE cE] 61) := HOP2.out.keep hk4 (by decide)
          have HOE4 : Hid (Obx X4 eb [.string x, .int .i64 y] 79) := HOE2.out.keep hk4 (by decide)
          have hbyte : (x[q]'hlq).toNat < 256 := UInt8.toNat_lt _
          clear hr4 hw4 hb4 hk4 HNN HWD2 HOP2 HOE2
          go_wp2_with (at_builtin; refine wpList_append_run rfl _ _ 40 rfl _ _ rfl rfl _ _ HR4.out ?_)
          go_roundw
          case rel => exact ⟨q + 1, _, rfl, by omega, by go_num, HB4.out, HOP4.out, HOE4.out, HW4.out⟩
          case measure => simp [intOf]; omega
        · have HW4 : Hid (Wds wr w.heap.size (.slice aV2 (pre ++ entsW (es.take j) ++ [y, (x.size : Int)] ++ nameW x q).length cV2) (pre ++ entsW (es.take (j + 1)))) := by
            have e : q = x.size := by omega
            have h2 : pre ++ entsW (es.take (j + 1)) = pre ++ entsW (es.take j) ++ [y, (x.size : Int)] ++ nameW x q := by rw [HTK.out, e, ← nameW_all]; simp only [List.append_assoc]
            unfold Hid
            rw [h2]
            exact HWD2.out
          go_wp2
          go_roundw
          case rel => exact ⟨j + 1, _, rfl, by omega, by go_num, HBL2.out, HOP2.out, HW4.out⟩
          case measure => simp [intOf]; omega
    · have hjn : j = nE := by omega
      have HW4 : Hid (Wds wr w.heap.size (.slice aV (pre ++ entsW (es.take j)).length cV) (pre ++ entsW es)) := by
        have h2 : es.take j = es := List.take_of_length_le (by rw [HEN.out]; omega)
        unfold Hid
        rw [h2]
        have := HWD.out
        rw [h2] at this
        exact this
      clear hjn
      go_wp2
      go_ret
      exact ⟨_, rfl, HBL.out, HW4.out⟩
end Go.Proofs.Ytlohgnidbkechaa

namespace Go.Proofs.Ytlohgnidbkechaa
open Go.RowKit
set_option maxRecDepth 100000

/-- Answers that are a code and words. -/
def AnsIR (w : World) (r : Int × List Int) (e : Ending) (w' : World) : Prop := ∃ a n c, e = .returned (.agg #[.int .i64 r.1, .slice a n c]) ∧ Below w.heap.size w w' ∧ IntsO w' (.slice a n c) r.2 (fresh w w')

theorem l4Pack_any (w : World) (z0 z1 z2 : Int) (aB : Option Addr) (nB cB : Nat) (aE : Option Addr) (nE cE : Nat) (d : ID) (h : InoR w (.int .i64 z0) (.int .i64 z1) (.int .i64 z2) (.slice aB nB cB) (.slice aE nE cE) d) (hs : sizeIno d ≤ 1048576) :
    Calls Try.prog 23 #[.agg #[.int .i64 z0, .int .i64 z1, .int .i64 z2, .slice aB nB cB, .slice aE nE cE]] w fun e w' => ∃ v, e = .returned v ∧ Below w.heap.size w w' ∧ Wds w' w.heap.size v (packL d) := by
  obtain ⟨⟨h0, h1, h2, _⟩, hi, he⟩ := h
  simp only [Value.int.injEq, true_and] at h0 h1 h2
  obtain ⟨_, _, e1, hm1, hc1⟩ := hi.open'
  obtain ⟨_, _, e2, hm2, hz2, hc2⟩ := he.open'
  simp only [Value.slice.injEq] at e1 e2
  obtain ⟨rfl, rfl, rfl⟩ := e1
  obtain ⟨rfl, rfl, rfl⟩ := e2
  obtain ⟨k, l, s, bs, es⟩ := d
  dsimp only at *
  subst h0 h1 h2
  have hn1 : bs.length ≤ 1048576 := by unfold sizeIno at hs; dsimp only at hs; omega
  have hn2 : es.length ≤ 1048576 := by unfold sizeIno sizeN at hs; dsimp only at hs; omega
  have hn3 : (entsW es).length ≤ 4194304 := by have := entsW_len es; unfold sizeIno at hs; dsimp only at hs; omega
  unfold packL
  dsimp only
  by_cases hk : z0 = 2
  · subst hk
    rw [if_pos rfl]
    have := l4Pack_dir w z1 z2 aB _ cB aE _ cE bs es hn1 rfl hc1 rfl hn2 hn3 hc2
    simpa using this
  · rw [if_neg hk, List.append_nil]
    exact l4Pack_flat w z0 z1 z2 aB _ cB aE _ cE bs hn1 rfl hc1 hk

end Go.Proofs.Ytlohgnidbkechaa

namespace Go.Proofs.Ytlohgnidbkechaa
open Go.RowKit
set_option maxRecDepth 100000

theorem AnsIR.box {w w2 : World} {a : Option Addr} {n c : Nat} {zs : List Int} (hb : Below w.heap.size w w2) (ho : IntsO w2 (.slice a n c) zs (fun b => w.heap.size + 1 ≤ b ∧ b < w2.heap.size)) (x y : Value) :
    AnsIR w (0, zs) (.returned (.agg #[.int .i64 0, .slice a n c])) ((w2.setCell ⟨w.heap.size, 0, none⟩ x).setCell ⟨w.heap.size, 1, none⟩ y) := by
  refine ⟨_, _, _, rfl, (hb.setCell (by simp) _).setCell (by simp) _, (ho.keep fun b hb hlt => ?_).mono fun b hb => ⟨by omega, by simp only [World.setCell, Array.size_modify]; exact hb.2⟩⟩
  rw [Below.heap_setCell _ _ _ _ (by simp; omega), Below.heap_setCell _ _ _ _ (by simp; omega)]
theorem AnsIR.bad {w w2 : World} (r : Int) (hb : Below w.heap.size w w2) (x y : Value) :
    AnsIR w (r, []) (.returned (.agg #[.int .i64 r, .slice none 0 0])) ((w2.setCell ⟨w.heap.size, 0, none⟩ x).setCell ⟨w.heap.size, 1, none⟩ y) :=
  ⟨_, _, _, rfl, (hb.setCell (by simp) _).setCell (by simp) _, Or.inl ⟨rfl, _, _, rfl⟩⟩
/-- The result's box, made first. -/
theorem box2 (w : World) (t : TypeId) : OwnRow (w.alloc (.cells #[.int .i64 0, .slice none 0 0] t)) w.heap.size 2 (fun i => if i = 0 then .int .i64 0 else .slice none 0 0) := OwnRow.newS w (.int .i64 0) (.slice none 0 0) t
theorem Wds.box {w W w2 : World} {a : Option Addr} {n c : Nat} {zs : List Int} (hW : W.heap.size = w.heap.size + 1) (h : Wds w2 W.heap.size (.slice a n c) zs) : IntsO w2 (.slice a n c) zs (fun b => w.heap.size + 1 ≤ b ∧ b < w2.heap.size) :=
  (h.own' (w0 := W) (Nat.le_refl _)).mono fun b hb => ⟨by have := hb.1; omega, hb.2⟩

end Go.Proofs.Ytlohgnidbkechaa

namespace Go.Proofs.Ytlohgnidbkechaa
open Go.RowKit
set_option maxRecDepth 100000

/-- The same, and the list is no longer than its room. -/
def AnsIC (w : World) (r : Int × List Int) (e : Ending) (w' : World) : Prop := AnsIR w r e w' ∧ ∀ x a n c, e = .returned (.agg #[x, .slice a n c]) → n ≤ c
theorem AnsIC.mk {w w' : World} {r : Int × List Int} {x : Value} {a : Option Addr} {n c : Nat} (h : AnsIR w r (.returned (.agg #[x, .slice a n c])) w') (hc : n ≤ c) : AnsIC w r (.returned (.agg #[x, .slice a n c])) w' :=
  ⟨h, fun x' a' n' c' e => by
    simp only [Ending.returned.injEq, Value.agg.injEq, Array.mk.injEq, List.cons.injEq, Value.slice.injEq, and_true] at e
    omega⟩
theorem slice_takeI (a : Option Addr) (n c j : Nat) (hj : j ≤ c) :
    ∃ A C, j ≤ C ∧ (∀ W : World, (Instr.slice 40 (.slice a n c) none (some (.int .i64 (j : Int))) none).run Try.prog W = .ok (.slice A j C) W) ∧ ∀ (W : World) (zs : List Int) (F : Nat → Prop), j ≤ zs.length → IntsO W (.slice a n c) zs F → IntsO W (.slice A j C) (zs.take j) F := by
  obtain ⟨i, hi, _⟩ := Try.infoInt'
  refine ⟨if c = 0 then a else a.map (·.add (0 * 1)), c - 0, by omega, fun W => ?_, fun W zs F hjn h => ?_⟩
  · simp [Instr.slice, Instr.sliceBounds, Instr.sliceBound, asIntOf, run_underlying Try.underlying40, sizeOf, typeInfo, hi, hj]
  · by_cases hj0 : j = 0
    · subst hj0
      exact Or.inl ⟨by simp, _, _, rfl⟩
    · rw [if_neg (by omega)]
      rcases h with ⟨h, _⟩ | ⟨b, cap, hF, h1, h2, h3⟩
      · subst h; simp at hjn; omega
      · simp only [Value.slice.injEq] at h1
        obtain ⟨rfl, rfl, rfl⟩ := h1
        have hl : (zs.take j).length = j := by rw [List.length_take]; omega
        refine Or.inr ⟨b, c - 0, hF, by rw [hl]; simp [Addr.add], by rw [hl]; omega, ?_⟩
        obtain ⟨cs, t, hb, hn, hc⟩ := h3
        refine ⟨cs, t, hb, by rw [hl]; omega, fun k hk => ?_⟩
        rw [hl] at hk
        rw [hc k (by omega)]
        dsimp only
        rw [List.getElem?_take, if_pos hk]
theorem Wds.cap {w : World} {n₀ : Nat} {a : Option Addr} {n c : Nat} {zs : List Int} (h : Wds w n₀ (.slice a n c) zs) : n ≤ c := by
  rcases h.2 with ⟨e, h0⟩ | ⟨g, cap, cur, e, _, _, hnc, _⟩
  · simp only [Value.slice.injEq] at e; omega
  · simp only [Value.slice.injEq] at e; omega

end Go.Proofs.Ytlohgnidbkechaa

namespace Go.Proofs.Ytlohgnidbkechaa
open Go.RowKit
set_option maxRecDepth 100000

theorem Arr.putNew (w : World) (g : Nat → Nat) : ∃ X, (Instr.storeAt 101 (.pointer (some ⟨w.heap.size, 0, none⟩)) (.agg (arrC g))).run Try.prog (w.alloc (.cells (arrC fun _ => 0) 101)) = .ok () X ∧ Arr X w.heap.size g ∧ Below w.heap.size w X := by
  obtain ⟨X, h1, h2, h3, h4, h5, h6, h7⟩ := (Arr.new w fun _ => 0).put g
  exact ⟨X, h1, h2, (later1 w (.cells (arrC fun _ => 0) 101)).trans ⟨h5, h6, h7, by omega, fun c hc => h4 c (by omega)⟩⟩

theorem busF_each {zs : List Int} (h : busF zs = 0) (k : Nat) (hk : k < zs.length) : 0 ≤ zs[k]?.getD 0 ∧ zs[k]?.getD 0 < 20 := by
  unfold busF at h
  split at h
  · omega
  · have := fstNZ_inv h k hk
    unfold rngF at this
    split at this <;> omega
theorem busF_len {zs : List Int} (h : busF zs = 0) : zs.length ≤ 20 := by
  unfold busF at h
  split at h <;> omega
theorem cntB_le (ds : List ID) (hs : sizeInos ds ≤ 1048576) (v : Int) : cntB ds v ≤ 1048576 := by
  have h2 := allB_len ds
  have h3 := List.count_le_length (a := v) (l := allB ds)
  unfold sizeInos at hs
  unfold cntB
  omega
theorem manyB_once (ds : List ID) : manyB (fun i => cntB ds (i : Int)) = !onceB ds 20 := by
  unfold manyB onceB
  rw [List.not_all_eq_any_not]
  congr 1
  funext k
  simp only [← decide_not]
  rw [decide_eq_decide]
  omega
theorem freeP_eq (ds : List ID) (bs : List Int) : (fun k : Nat => decide (cntB ds (k : Int) + bs.count (k : Int) = 0)) = freeP ds bs := by
  funext k
  unfold freeP
  cases hb : bs.contains (k : Int) with
  | true =>
    have h1 : (k : Int) ∈ bs := by simpa using hb
    have h2 := List.count_pos_iff.2 h1
    simp; omega
  | false =>
    have h1 : ¬ (k : Int) ∈ bs := by simpa using hb
    have h2 := List.count_eq_zero.2 h1
    rw [h2]; simp

end Go.Proofs.Ytlohgnidbkechaa

namespace Go.Proofs.Ytlohgnidbkechaa
open Go.RowKit
set_option maxRecDepth 100000

set_option maxHeartbeats 800000 in
theorem isInode_any (w : World) (a1 : Option Addr) (n1 c1 : Nat) (a2 : Option Addr) (n2 c2 : Nat) (x : Int) :
    Calls Try.prog 40 #[.agg #[.slice a1 n1 c1, .slice a2 n2 c2], .int .i64 x] w fun e w' => e = .returned (.bool (decide (0 ≤ x ∧ x < (n1 : Int)))) ∧ Below w.heap.size w w' := by
  by_cases h0 : 0 ≤ x
  · have HR : Hid (decide (0 ≤ x ∧ x < (n1 : Int)) = decide (x < (n1 : Int))) := by unfold Hid; simp [h0]
    have hd : decide (0 ≤ x) = true := by simpa using h0
    clear h0
    go_enter Try.func40, Try.ntmps40
    go_wp2
    go_ret
    exact ⟨ret_bool HR.out.symm, later1 _ _⟩
  · have HR : Hid (decide (0 ≤ x ∧ x < (n1 : Int)) = false) := by unfold Hid; simp; omega
    have hd : decide (0 ≤ x) = false := by simpa using h0
    clear h0
    go_enter Try.func40, Try.ntmps40
    go_wp2
    go_ret
    exact ⟨ret_bool HR.out.symm, later1 _ _⟩

/-- A place of what is not free. -/
def thB (d : FD) (x : Int) : Bool := decide (0 ≤ x ∧ x < (d.1.length : Int)) && !decide (kindAt d.1 x.toNat = 0)
set_option maxHeartbeats 1600000 in
theorem isThere_any (w : World) (a1 : Option Addr) (n1 c1 : Nat) (a2 : Option Addr) (n2 c2 : Nat) (d : FD) (x : Int) (h : FsR w (.slice a1 n1 c1) (.slice a2 n2 c2) d) :
    Calls Try.prog 60 #[.agg #[.slice a1 n1 c1, .slice a2 n2 c2], .int .i64 x] w fun e w' => e = .returned (.bool (thB d x)) ∧ Below w.heap.size w w' := by
  have HX : Hid (Bx (w.alloc (.cells #[.slice a1 n1 c1, .slice a2 n2 c2] 48)) w.heap.size [.slice a1 n1 c1, .slice a2 n2 c2]) := Bx.new w [.slice a1 n1 c1, .slice a2 n2 c2] _
  have HIN : Hid (∀ W, Calls Try.prog 40 #[.agg #[.slice a1 n1 c1, .slice a2 n2 c2], .int .i64 x] W fun e w' => e = .returned (.bool (decide (0 ≤ x ∧ x < (n1 : Int)))) ∧ Below W.heap.size W w') := fun W => isInode_any W a1 n1 c1 a2 n2 c2 x
  obtain ⟨_, _, e2, hm2, hc⟩ := h.1.open'
  simp only [Value.slice.injEq] at e2
  obtain ⟨rfl, rfl, rfl⟩ := e2
  have HB0 : Hid (Below w.heap.size w (w.alloc (.cells #[.slice a1 d.1.length c1, .slice a2 n2 c2] 48))) := later1 _ _
  have hz0 : (w.alloc (.cells #[.slice a1 d.1.length c1, .slice a2 n2 c2] 48)).heap.size = w.heap.size + 1 := by simp
  by_cases hin : 0 ≤ x ∧ x < (d.1.length : Int)
  · obtain ⟨y, rfl⟩ : ∃ y : Nat, x = (y : Int) := ⟨x.toNat, by omega⟩
    have hy : y < d.1.length := by omega
    obtain ⟨b, o, rfl, hK⟩ := hc y hy
    obtain ⟨_, _, _, _, kc, _⟩ := hK
    have HKC : Hid (w.cell? ⟨b, o + y * 5, none⟩ = some (.int .i64 (d.1[y]?.getD id0).1)) := kc
    have HR : Hid (thB d (y : Int) = ((d.1[y]?.getD id0).1 != 0)) := by
      unfold Hid thB kindAt
      rw [decide_eq_true hin, Bool.true_and, Int.toNat_natCast]
      by_cases e : (d.1[y]?.getD id0).1 = 0
      · rw [e]; rfl
      · rw [decide_eq_false e]; symm; simpa using e
    have hyI : (y : Int) < ((d.1.length : Nat) : Int) := hin.2
    rw [decide_eq_true hin] at HIN
    rw [HR.out]
    clear kc hc h hin HR hm2
    generalize (d.1[y]?.getD id0).1 = ky at *
    generalize d.1.length = n at *
    go_enter Try.func60, Try.ntmps60
    go_wp2_with fail
    generalize (w.alloc (.cells #[.slice (some ⟨b, o, none⟩) n c1, .slice a2 n2 c2] 48)) = W0 at *
    refine (HIN.out _).mono ?_
    rintro e w1 ⟨rfl, hb1⟩
    have HB1 : Hid (Below w.heap.size w w1) := HB0.out.trans (hb1.mono HB0.out.size)
    have x0 := (HX.out.later hb1) 0 _ rfl
    have x1 := (HX.out.later hb1) 1 _ rfl
    have k1 := cell_later HB1.out HKC.out
    clear hb1
    go_wp2
    go_ret
    exact ⟨rfl, HB1.out⟩
  · have HR : Hid (thB d x = false) := by unfold Hid thB; rw [decide_eq_false hin]; rfl
    rw [decide_eq_false hin] at HIN
    rw [HR.out]
    clear hc h hin HR hm2
    generalize d.1.length = n at *
    go_enter Try.func60, Try.ntmps60
    go_wp2_with fail
    generalize (w.alloc (.cells #[.slice a1 n c1, .slice a2 n2 c2] 48)) = W0 at *
    refine (HIN.out _).mono ?_
    rintro e w1 ⟨rfl, hb1⟩
    have HB1 : Hid (Below w.heap.size w w1) := HB0.out.trans (hb1.mono HB0.out.size)
    clear hb1
    go_wp2
    go_ret
    exact ⟨rfl, HB1.out⟩
theorem th_lost {d : FD} {x : Int} (h : 0 ≤ x) : thB d x = !lostB d.1 x := by
  unfold thB lostB
  by_cases e : x < (d.1.length : Int)
  · rw [decide_eq_true (show 0 ≤ x ∧ x < (d.1.length : Int) from ⟨h, e⟩), decide_eq_false (show ¬ (d.1.length : Int) ≤ x by omega)]
    simp
  · rw [decide_eq_false (show ¬ (0 ≤ x ∧ x < (d.1.length : Int)) from fun hh => e hh.2), decide_eq_true (show (d.1.length : Int) ≤ x by omega)]
    simp

/-- What is wrong of data and blocks. -/
def dataF (d : FD) : Int := if d.2.length = 20 then (if fstNZ (manyF d.2) d.2.length = 0 then (if onceB d.1 20 then 0 else 7) else fstNZ (manyF d.2) d.2.length) else 1

set_option maxHeartbeats 3200000 in
theorem dataFault_any (w : World) (aI : Option Addr) (nI cI : Nat) (aD : Option Addr) (nD cD : Nat) (d : FD) (h : FsR w (.slice aI nI cI) (.slice aD nD cD) d) (hs : sizeInos d.1 ≤ 1048576) (hi : insF d.1 = 0) :
    Calls Try.prog 49 #[.agg #[.slice aI nI cI, .slice aD nD cD]] w fun e w' => e = .returned (.int .i64 (dataF d)) ∧ Below w.heap.size w w' := by
  have HNE : Hid (∀ W, Below w.heap.size w W → Calls Try.prog 58 #[.slice aI nI cI] W fun e w' => e = .returned (.agg (arrC fun i => cntB d.1 (i : Int))) ∧ Below W.heap.size W w') := fun W hW => needsOf_any (h.1.later hW) hs hi
  have HM : Hid (∀ W, Calls Try.prog 59 #[.agg (arrC fun i => cntB d.1 (i : Int))] W fun e w' => e = .returned (.bool (!onceB d.1 20)) ∧ Below W.heap.size W w') := fun W => by
    rw [← manyB_once]
    exact anyOfTwo_any W _ (fun i => by have := cntB_le d.1 hs (i : Int); omega)
  have HX : Hid (Bx (w.alloc (.cells #[.slice aI nI cI, .slice aD nD cD] 48)) w.heap.size [.slice aI nI cI, .slice aD nD cD]) := Bx.new w [.slice aI nI cI, .slice aD nD cD] _
  have HDF : Hid (dataF d = if d.2.length = 20 then (if fstNZ (manyF d.2) d.2.length = 0 then (if onceB d.1 20 then 0 else 7) else fstNZ (manyF d.2) d.2.length) else 1) := rfl
  obtain ⟨_, _, e2, hm2, hc⟩ := h.2.open'
  simp only [Value.slice.injEq] at e2
  obtain ⟨rfl, rfl, rfl⟩ := e2
  by_cases h20 : d.2.length = 20
  rotate_left
  · have hb : ((d.2.length : Int) != 20) = true := by simp; omega
    have HR : Hid (dataF d = 1) := by unfold Hid; rw [HDF.out, if_neg h20]
    clear hc h HDF hm2 h20
    generalize d.2.length = n at *
    go_enter Try.func49, Try.ntmps49
    go_wp2
    go_ret
    exact ⟨ret_int HR.out.symm, later1 _ _⟩
  · have HC : Hid (AtYs w aD 20 d.2) := by unfold Hid; rw [← h20]; exact hc
    have HL2 : Hid (d.2.length = 20) := h20
    have hb : (((20 : Nat) : Int) != 20) = false := by simp
    clear hc h hm2
    rw [h20] at HX ⊢
    clear h20
    generalize (fun i : Nat => cntB d.1 (i : Int)) = g at *
    go_enter Try.func49, Try.ntmps49
    go_wp2
    go_loopw [12] (fun i wr => ∃ j : Nat, j ≤ 20 ∧ i = .int .i64 j ∧ wr = w.alloc (.cells #[.slice aI nI cI, .slice aD 20 cD] 48) ∧ ∀ i : Nat, i < j → manyF d.2 i = 0) (fun i _ => 20 - (intOf i).toNat)
    case atStart => exact ⟨0, by omega, rfl, rfl, fun i hi => by omega⟩
    case round =>
      obtain ⟨j, hj, rfl, rfl, hz⟩ := hrel
      have HZ : Hid (∀ i : Nat, i < j → manyF d.2 i = 0) := hz
      clear hz
      by_cases hlt : j < 20
      · obtain ⟨bD, oD, ua, uc, rfl, d0, _⟩ := HC.out j hlt
        replace d0 := cell_later (later1 w (.cells #[.slice aI nI cI, .slice (some ⟨bD, oD, none⟩) 20 cD] 48)) d0
        by_cases h8 : 8 < (d.2[j]?.getD []).length
        · have hb8 : decide ((8 : Int) < (((d.2[j]?.getD []).length : Nat) : Int)) = true := by simp; omega
          have HR : Hid (dataF d = 2) := by
            have e1 : manyF d.2 j = 2 := by unfold manyF; rw [if_pos h8]
            have e2 := fstNZ_at (f := manyF d.2) HZ.out (by rw [e1]; omega) (n := d.2.length) (by rw [HL2.out]; exact hlt)
            unfold Hid; rw [HDF.out, if_pos HL2.out, e2, e1]; simp
          clear h8
          generalize (d.2[j]?.getD []).length = ln at *
          go_wp2
          go_ret
          exact ⟨ret_int HR.out.symm, later1 _ _⟩
        · have hb8 : decide ((8 : Int) < (((d.2[j]?.getD []).length : Nat) : Int)) = false := by simp; omega
          have HR : Hid (∀ i : Nat, i < j + 1 → manyF d.2 i = 0) := fun i hi => by
            by_cases e : i = j
            · subst e; unfold manyF; rw [if_neg h8]
            · exact HZ.out i (by omega)
          clear h8
          generalize (d.2[j]?.getD []).length = ln at *
          go_wp2
          go_roundw
          case rel => exact ⟨j + 1, by omega, by go_num, by first | rfl | trivial, HR.out⟩
          case measure => simp [intOf]; omega
      · have HR : Hid (dataF d = if onceB d.1 20 then 0 else 7) := by
          have e2 := fstNZ_zero (f := manyF d.2) (n := d.2.length) (fun i hi => HZ.out i (by rw [HL2.out] at hi; omega))
          unfold Hid; rw [HDF.out, if_pos HL2.out, e2]; simp
        clear HZ HC HL2 HDF
        generalize onceB d.1 20 = bo at *
        cases bo
        all_goals
          go_wp2_with fail
          refine (HNE.out _ (later1 _ _)).mono ?_
          rintro e w1 ⟨rfl, hb1⟩
          have HB1 : Hid (Below w.heap.size w w1) := (later1 _ _).trans (hb1.mono (by simp))
          clear hb1
          go_wp2_with fail
          refine (HM.out _).mono ?_
          rintro e w2 ⟨rfl, hb2⟩
          have HB2 : Hid (Below w.heap.size w w2) := HB1.out.trans (hb2.mono HB1.out.size)
          clear hb2
          go_wp2
          go_ret
          exact ⟨ret_int HR.out.symm, HB2.out⟩

set_option maxHeartbeats 6400000 in
theorem entriesFault_any (w : World) (aI : Option Addr) (nI cI : Nat) (aD : Option Addr) (nD cD : Nat) (d : FD) (h : FsR w (.slice aI nI cI) (.slice aD nD cD) d) (hs : sizeInos d.1 ≤ 1048576) (hi : insF d.1 = 0) :
    Calls Try.prog 50 #[.agg #[.slice aI nI cI, .slice aD nD cD]] w fun e w' => e = .returned (.int .i64 (lostF d.1)) ∧ Below w.heap.size w w' := by
  have HX : Hid (Bx (w.alloc (.cells #[.slice aI nI cI, .slice aD nD cD] 48)) w.heap.size [.slice aI nI cI, .slice aD nD cD]) := Bx.new w [.slice aI nI cI, .slice aD nD cD] _
  obtain ⟨_, _, e2, hm2, hc⟩ := h.1.open'
  simp only [Value.slice.injEq] at e2
  obtain ⟨rfl, rfl, rfl⟩ := e2
  have HC : Hid (AtI w aI d.1.length d.1) := hc
  have HPOS : Hid (∀ j, j < d.1.length → ∀ k, k < (d.1[j]?.getD id0).2.2.2.2.length → 0 ≤ ((d.1[j]?.getD id0).2.2.2.2[k]?.getD en0).2) := fun j hj => ino_ent (ins_ino hi j hj)
  have HZ : Hid (∀ j, (d.1[j]?.getD id0).2.2.2.2.length ≤ 1048576) := fun j => by
    have := isz_le d.1 j
    have hd : sizeIno (d.1[j]?.getD id0) = (d.1[j]?.getD id0).2.2.2.1.length + ((d.1[j]?.getD id0).2.2.2.2.length + (nlens (d.1[j]?.getD id0).2.2.2.2).sum) := rfl
    unfold sizeInos at hs
    omega
  have HIN : Hid (∀ W x, 0 ≤ x → Below w.heap.size w W → Calls Try.prog 60 #[.agg #[.slice aI d.1.length cI, .slice aD nD cD], .int .i64 x] W fun e w' => e = .returned (.bool (!lostB d.1 x)) ∧ Below W.heap.size W w') := fun W x hx hW => by
    have := isThere_any W aI _ cI aD nD cD d x (h.later hW)
    rw [th_lost hx] at this
    exact this
  have hn : d.1.length ≤ 1048576 := by unfold sizeInos at hs; omega
  clear hc h hs hi hm2
  obtain ⟨n, hnn⟩ : ∃ n, d.1.length = n := ⟨_, rfl⟩
  have HN : Hid (d.1.length = n) := hnn
  rw [hnn] at HC HPOS HX HIN hn ⊢
  clear hnn
  go_enter Try.func50, Try.ntmps50
  go_wp2
  go_loopw [10] (fun i wr => ∃ j : Nat, j ≤ n ∧ i = .int .i64 j ∧ Below (w.heap.size + 1) (w.alloc (.cells #[.slice aI n cI, .slice aD nD cD] 48)) wr ∧ ∀ j', j' < j → ∀ k, k < (d.1[j']?.getD id0).2.2.2.2.length → lostB d.1 ((d.1[j']?.getD id0).2.2.2.2[k]?.getD en0).2 = false) (fun i _ => n - (intOf i).toNat)
  case atStart => exact ⟨0, Nat.zero_le _, rfl, Below.refl _ _, fun j hj => by omega⟩
  case round =>
    obtain ⟨j, hj, rfl, hbl, hz⟩ := hrel
    have HZJ0 : Hid (∀ j', j' < j → ∀ k, k < (d.1[j']?.getD id0).2.2.2.2.length → lostB d.1 ((d.1[j']?.getD id0).2.2.2.2[k]?.getD en0).2 = false) := hz
    have HBL : Hid (Below (w.heap.size + 1) (w.alloc (.cells #[.slice aI n cI, .slice aD nD cD] 48)) wr) := hbl
    have HBW : Hid (Below w.heap.size w wr) := (later1 _ _).trans (hbl.mono (by omega))
    have hwz : w.heap.size + 1 ≤ wr.heap.size := by have := hbl.size; simpa using this
    clear hbl hz
    by_cases hlt : j < n
    · obtain ⟨b, o, rfl, hI⟩ := HC.out j hlt
      obtain ⟨aB, cB, aE, cE, c0, c1, c2, c3, c4, h5⟩ := hI.later HBW.out
      obtain ⟨_, _, e1, hm1, _, hc1⟩ := h5.2.2.open'
      simp only [Value.slice.injEq] at e1
      obtain ⟨rfl, _, rfl⟩ := e1
      have hZ1 := HZ.out j
      have HCB : Hid (AtN wr aE (d.1[j]?.getD id0).2.2.2.2.length (d.1[j]?.getD id0).2.2.2.2) := hc1
      have HP1 : Hid (∀ k, k < (d.1[j]?.getD id0).2.2.2.2.length → 0 ≤ ((d.1[j]?.getD id0).2.2.2.2[k]?.getD en0).2) := HPOS.out j hlt
      have HY : Hid (∀ k, k < (d.1[j]?.getD id0).2.2.2.2.length → lostB d.1 ((d.1[j]?.getD id0).2.2.2.2[k]?.getD en0).2 = true → lostF d.1 = 4) := fun k hk hl => lost_yes (by rw [HN.out]; exact hlt) hk hl
      have HNX : Hid ((∀ k, k < (d.1[j]?.getD id0).2.2.2.2.length → lostB d.1 ((d.1[j]?.getD id0).2.2.2.2[k]?.getD en0).2 = false) → ∀ j', j' < j + 1 → ∀ k, k < (d.1[j']?.getD id0).2.2.2.2.length → lostB d.1 ((d.1[j']?.getD id0).2.2.2.2[k]?.getD en0).2 = false) := fun hh j' hj' k hk => by
        by_cases e : j' = j
        · subst e; exact hh k hk
        · exact HZJ0.out j' (by omega) k hk
      clear h5 hI hc1 hm1
      generalize (d.1[j]?.getD id0) = dj at *
      obtain ⟨dk, dl, dz, db, es⟩ := dj
      dsimp only at *
      generalize db.length = nD2 at *
      obtain ⟨nE, hnE⟩ : ∃ nE, nE = es.length := ⟨_, rfl⟩
      have HNE : Hid (nE = es.length) := hnE
      rw [← hnE] at c4 hZ1 HCB HP1 HY HNX
      clear hnE
      go_wp2
      clear c0 c1 c2 c3 c4
      obtain ⟨wo, rfl⟩ : ∃ wo, wo = wr := ⟨_, rfl⟩
      go_loopw [17] (fun i wr2 => ∃ k : Nat, k ≤ nE ∧ i = .int .i64 k ∧ Below wo.heap.size wo wr2 ∧ ∀ k', k' < k → lostB d.1 (es[k']?.getD en0).2 = false) (fun i _ => nE - (intOf i).toNat)
      case atStart => exact ⟨0, Nat.zero_le _, rfl, later1 _ _, fun k hk => by omega⟩
      case round =>
        obtain ⟨k, hk, rfl, hbl2, hz2⟩ := hrel
        have HB2 : Hid (Below wo.heap.size wo wr) := hbl2
        have HZ2 : Hid (∀ k', k' < k → lostB d.1 (es[k']?.getD en0).2 = false) := hz2
        have HBW2 : Hid (Below w.heap.size w wr) := HBW.out.trans (hbl2.mono HBW.out.size)
        have HBX2 : Hid (Bx wr w.heap.size [.slice (some ⟨b, o, none⟩) n cI, .slice aD nD cD]) := fun i v hv => by
          have h1 := HX.out i v hv
          have h2 := (HBL.out.trans (hbl2.mono (by simpa using hwz))).block w.heap.size (by omega)
          simp only [World.cell?] at h1 ⊢
          rw [h2]; exact h1
        clear hbl2 hz2
        by_cases hlk : k < nE
        · obtain ⟨b1, o1, rfl, d0, d1⟩ := HCB.out k hlk
          replace d0 := cell_later HB2.out d0
          replace d1 := cell_later HB2.out d1
          have hx0 := HP1.out k hlk
          have HYK : Hid (lostB d.1 (es[k]?.getD en0).2 = true → lostF d.1 = 4) := HY.out k hlk
          have HNK : Hid (lostB d.1 (es[k]?.getD en0).2 = false → ∀ k', k' < k + 1 → lostB d.1 (es[k']?.getD en0).2 = false) := fun hh k' hk' => by
            by_cases e : k' = k
            · subst e; exact hh
            · exact HZ2.out k' (by omega)
          generalize (es[k]?.getD en0).1 = nm at *
          generalize (es[k]?.getD en0).2 = x at *
          have q0 := HBX2.out 0 _ rfl
          have q1 := HBX2.out 1 _ rfl
          have qlt := HBX2.out.lt
          have hQA : ∀ W, Below wr.heap.size wr W → Bx W w.heap.size [.slice (some ⟨b, o, none⟩) n cI, .slice aD nD cD] := fun W hW => HBX2.out.later hW
          have HQA : Hid (∀ W, Below wr.heap.size wr W → Bx W w.heap.size [.slice (some ⟨b, o, none⟩) n cI, .slice aD nD cD]) := hQA
          clear hQA
          have HTH : Hid (Calls Try.prog 60 #[.agg #[.slice (some ⟨b, o, none⟩) n cI, .slice aD nD cD], .int .i64 x] (wr.alloc (.cells #[.string nm, .int .i64 x] 79)) fun e w' => e = .returned (.bool (!lostB d.1 x)) ∧ Below (wr.alloc (.cells #[.string nm, .int .i64 x] 79)).heap.size (wr.alloc (.cells #[.string nm, .int .i64 x] 79)) w') := HIN.out _ x hx0 (HBW2.out.trans ((later1 _ _).mono HBW2.out.size))
          clear hx0 HIN HQA
          cases hl : lostB d.1 x with
          | true =>
            rw [hl] at HTH HYK
            have HR : Hid (lostF d.1 = 4) := HYK.out rfl
            clear hl HYK HNK
            go_wp2_with fail
            refine HTH.out.mono ?_
            rintro e w1 ⟨rfl, hb1⟩
            have HBWW : Hid (Below w.heap.size w w1) := HBW2.out.trans (((later1 _ _).trans (hb1.mono (by simp))).mono HBW2.out.size)
            clear hb1 q0 q1 d0 d1 HTH
            go_wp2
            go_ret
            exact ⟨ret_int HR.out.symm, HBWW.out⟩
          | false =>
            rw [hl] at HTH HNK
            have HR : Hid (∀ k', k' < k + 1 → lostB d.1 (es[k']?.getD en0).2 = false) := HNK.out rfl
            clear hl HYK HNK
            go_wp2_with fail
            refine HTH.out.mono ?_
            rintro e w1 ⟨rfl, hb1⟩
            have HBW1 : Hid (Below wr.heap.size wr w1) := (later1 _ _).trans (hb1.mono (by simp))
            clear hb1 q0 q1 d0 d1 HTH
            go_wp2
            go_roundw
            case rel => exact ⟨k + 1, by omega, by go_num, HB2.out.trans (HBW1.out.mono HB2.out.size), HR.out⟩
            case measure => simp [intOf]; omega
        · have HR : Hid (∀ j', j' < j + 1 → ∀ k, k < (d.1[j']?.getD id0).2.2.2.2.length → lostB d.1 ((d.1[j']?.getD id0).2.2.2.2[k]?.getD en0).2 = false) := HNX.out fun k' hk' => HZ2.out k' (by omega)
          go_wp2
          go_roundw
          case rel => exact ⟨j + 1, by omega, by go_num, HBL.out.trans (HB2.out.mono (by simpa using hwz)), HR.out⟩
          case measure => simp [intOf]; omega
    · have HR : Hid (lostF d.1 = 0) := lost_no fun j' hj' => HZJ0.out j' (by rw [HN.out] at hj'; omega)
      go_wp2
      go_ret
      exact ⟨ret_int HR.out.symm, HBW.out⟩
end Go.Proofs.Ytlohgnidbkechaa

namespace Go.Proofs.Ytlohgnidbkechaa
open Go.RowKit
set_option maxRecDepth 100000

abbrev E3 := Int × Int × Int
/-- The cells of a row of extents. -/
def exCell (es : List E3) (j : Nat) : Value := .int .i64 (if j % 3 = 0 then (es[j / 3]?.getD (0, 0, 0)).1 else if j % 3 = 1 then (es[j / 3]?.getD (0, 0, 0)).2.1 else (es[j / 3]?.getD (0, 0, 0)).2.2)
theorem exCell_0 (es : List E3) (k : Nat) : exCell es (k * 3) = .int .i64 (es[k]?.getD (0, 0, 0)).1 := by
  unfold exCell; rw [if_pos (by omega), show k * 3 / 3 = k by omega]
theorem exCell_1 (es : List E3) (k : Nat) : exCell es (k * 3 + 1) = .int .i64 (es[k]?.getD (0, 0, 0)).2.1 := by
  unfold exCell; rw [if_neg (by omega), if_pos (by omega), show (k * 3 + 1) / 3 = k by omega]
theorem exCell_2 (es : List E3) (k : Nat) : exCell es (k * 3 + 2) = .int .i64 (es[k]?.getD (0, 0, 0)).2.2 := by
  unfold exCell; rw [if_neg (by omega), if_neg (by omega), show (k * 3 + 2) / 3 = k by omega]

/-- Where the extents of a list lie. -/
def AtE (w : World) (a : Option Addr) (n : Nat) (es : List E3) : Prop :=
  ∀ k, k < n → ∃ b off, a = some ⟨b, off, none⟩ ∧ w.cell? ⟨b, off + k * 3, none⟩ = some (.int .i64 (es[k]?.getD (0, 0, 0)).1) ∧ w.cell? ⟨b, off + k * 3 + 1, none⟩ = some (.int .i64 (es[k]?.getD (0, 0, 0)).2.1) ∧ w.cell? ⟨b, off + k * 3 + 2, none⟩ = some (.int .i64 (es[k]?.getD (0, 0, 0)).2.2)
theorem AtE.later {w w' : World} {a : Option Addr} {n : Nat} {es : List E3} (h : AtE w a n es) (hb : Below w.heap.size w w') : AtE w' a n es := fun k hk => by
  obtain ⟨b, off, e, c0, c1, c2⟩ := h k hk
  exact ⟨b, off, e, cell_later hb c0, cell_later hb c1, cell_later hb c2⟩
/-- The slice v reads as the extents es. -/
def Exts (w : World) (v : Value) (es : List E3) : Prop := ∃ a cap, v = .slice a es.length cap ∧ (es.length ≤ maxLen ∧ es.length ≤ cap) ∧ AtE w a es.length es
theorem Exts.later {w w' : World} {v : Value} {es : List E3} (h : Exts w v es) (hb : Below w.heap.size w w') : Exts w' v es := by
  obtain ⟨a, cap, h1, h2, h3⟩ := h
  exact ⟨a, cap, h1, h2, h3.later hb⟩
theorem Exts.open' {w : World} {v : Value} {es : List E3} (h : Exts w v es) : ∃ a cap, v = .slice a es.length cap ∧ es.length ≤ maxLen ∧ AtE w a es.length es := by
  obtain ⟨a, cap, h1, h2, h3⟩ := h
  exact ⟨a, cap, h1, h2.1, h3⟩
theorem Exts.cap {w : World} {a : Option Addr} {n c : Nat} {es : List E3} (h : Exts w (.slice a n c) es) : es.length ≤ c := by
  obtain ⟨a', c', h1, h2, _⟩ := h
  simp only [Value.slice.injEq] at h1
  rw [h1.2.2]
  exact h2.2
theorem Exts.nil (w : World) (a : Option Addr) (cap : Nat) : Exts w (.slice a 0 cap) [] := ⟨a, cap, rfl, by simp, fun k hk => by simp at hk⟩

/-- The slice v holds the extents es, in one block of F. -/
def ExtsO (w : World) (v : Value) (es : List E3) (F : Nat → Prop) : Prop :=
  (es = [] ∧ ∃ a cap, v = .slice a 0 cap) ∨
  (∃ b cap, F b ∧ v = .slice (some ⟨b, 0, none⟩) es.length cap ∧ (es.length ≤ maxLen ∧ es.length ≤ cap) ∧ OwnRow w b (es.length * 3) (exCell es))
theorem OwnRow.atE {w : World} {b n : Nat} {es : List E3} (h : OwnRow w b (n * 3) (exCell es)) : AtE w (some ⟨b, 0, none⟩) n es := fun k hk =>
  ⟨b, 0, rfl, by rw [Nat.zero_add, h.cell (by omega), exCell_0], by rw [Nat.zero_add, h.cell (by omega), exCell_1], by rw [Nat.zero_add, h.cell (by omega), exCell_2]⟩
theorem ExtsO.reads {w : World} {v : Value} {es : List E3} {F : Nat → Prop} (h : ExtsO w v es F) : Exts w v es := by
  rcases h with ⟨rfl, a, cap, rfl⟩ | ⟨b, cap, _, h1, h2, h3⟩
  · exact Exts.nil w a cap
  · exact ⟨_, cap, h1, h2, h3.atE⟩
theorem ExtsO.keep {w w' : World} {v : Value} {es : List E3} {F : Nat → Prop} (h : ExtsO w v es F) (e : ∀ b, F b → b < w.heap.size → w'.heap[b]? = w.heap[b]?) : ExtsO w' v es F := by
  rcases h with h | ⟨b, cap, hF, h1, h2, h3⟩
  · exact Or.inl h
  · exact Or.inr ⟨b, cap, hF, h1, h2, h3.block (e b hF h3.lt)⟩
theorem ExtsO.mono {w : World} {v : Value} {es : List E3} {F G : Nat → Prop} (h : ExtsO w v es F) (e : ∀ b, F b → G b) : ExtsO w v es G := by
  rcases h with h | ⟨b, cap, hF, h1⟩
  · exact Or.inl h
  · exact Or.inr ⟨b, cap, e b hF, h1⟩
theorem ExtsO.bound {w : World} {v : Value} {es : List E3} {F : Nat → Prop} (h : ExtsO w v es F) : ExtsO w v es (fun b => F b ∧ b < w.heap.size) := by
  rcases h with h | ⟨b, cap, hF, h1, h2, h3⟩
  · exact Or.inl h
  · exact Or.inr ⟨b, cap, ⟨hF, h3.lt⟩, h1, h2, h3⟩
theorem ExtsO.later {w w' : World} {v : Value} {es : List E3} {F : Nat → Prop} (h : ExtsO w v es F) (hb : Below w.heap.size w w') : ExtsO w' v es F := h.keep fun b _ hlt => hb.block b hlt
theorem ExtsO.store {w : World} {v : Value} {es : List E3} {F : Nat → Prop} (h : ExtsO w v es F) {p : Addr} (hp : ∀ b, F b → b ≠ p.block) (x : Value) : ExtsO (w.setCell p x) v es F := h.keep fun b hb _ => Below.heap_setCell _ _ _ _ (hp b hb)

/-- The marks of n extents, from k on. -/
def marksE (k : Int) (n : Nat) : List E3 := (List.range n).map fun i : Nat => (k + 3 * (i : Int), k + 3 * (i : Int) + 1, k + 3 * (i : Int) + 2)
theorem marksE_length (k : Int) (n : Nat) : (marksE k n).length = n := by simp [marksE]
theorem marksE_get (k : Int) {n i : Nat} (h : i < n) : (marksE k n)[i]?.getD (0, 0, 0) = (k + 3 * (i : Int), k + 3 * (i : Int) + 1, k + 3 * (i : Int) + 2) := by simp [marksE, h]
theorem exCell_marks (k : Int) {n c : Nat} (h : c < n * 3) : exCell (marksE k n) c = .int .i64 (k + (c : Int)) := by
  have h3 : c / 3 < n := by omega
  unfold exCell
  rw [marksE_get k h3]
  congr 1
  have : c % 3 = 0 ∨ c % 3 = 1 ∨ c % 3 = 2 := by omega
  rcases this with e | e | e
  · rw [if_pos e]; omega
  · rw [if_neg (by omega), if_pos e]; show k + 3 * ((c / 3 : Nat) : Int) + 1 = k + (c : Int); omega
  · rw [if_neg (by omega), if_neg (by omega)]; show k + 3 * ((c / 3 : Nat) : Int) + 2 = k + (c : Int); omega

/-- 'make' of n triples. -/
theorem run_make_trip {P : Program} (t e : TypeId) (x y z : Value) (bytes : Nat) (ht : P.underlying t = some (.slice e)) (hinfo : (P.info? e).map (fun i => (i.zero, i.size, i.bytes)) = some (some (.agg #[x, y, z]), 3, bytes)) (hz : (Value.agg #[x, y, z]).cells = #[x, y, z])
    (kl kc : IntKind) (n : Nat) (hbytes : bytes * n ≤ 281474976710656) (h63 : n ≤ 9223372036854775807) (w : World) :
    (Instr.makeSlice t (.int kl (n : Int)) (.int kc (n : Int))).run P w = .ok (.slice (some ⟨w.heap.size, 0, none⟩) n n) (w.alloc (.cells (madeCells #[x, y, z] (n * 3)) e)) := by
  obtain ⟨i, hi, hzz⟩ := Option.map_eq_some_iff.1 hinfo
  simp only [Prod.mk.injEq] at hzz
  obtain ⟨h1, h2, h3⟩ := hzz
  have hb' : (i.bytes : Int) * (n : Int) ≤ 281474976710656 := by
    have h : ((i.bytes * n : Nat) : Int) ≤ 281474976710656 := by rw [h3]; omega
    rwa [Int.natCast_mul] at h
  have hr := run_make (P := P) w t e i _ ht hi h1 kl kc n n (by omega) (Int.le_refl _) hb' (by omega)
  simp only [Int.toNat_natCast, h2, hz] at hr
  exact hr
theorem OwnRow.madeTrip (w : World) (n : Nat) (t : TypeId) : OwnRow (w.alloc (.cells (madeCells #[.int .i64 0, .int .i64 0, .int .i64 0] (n * 3)) t)) w.heap.size (n * 3) (fun _ => .int .i64 0) := by
  refine ⟨_, t, Go.Deep.blk_alloc_new _ _, by rw [size_madeCells]; exact Nat.le_refl _, fun i hi => ?_⟩
  unfold madeCells
  rw [Array.getElem?_map]
  have h1 : (Array.range (n * 3))[i]? = some i := by simp [hi]
  rw [h1]
  have : i % 3 = 0 ∨ i % 3 = 1 ∨ i % 3 = 2 := by omega
  rcases this with e | e | e <;> simp [e]
/-- The cells of a row of extents of which the first j stand. -/
def partE (es : List E3) (j c : Nat) : Value := if c < j * 3 then exCell es c else .int .i64 0
theorem partE_next (es : List E3) (j c : Nat) : (if c = j * 3 + 2 then .int .i64 (es[j]?.getD (0, 0, 0)).2.2 else (if c = j * 3 + 1 then .int .i64 (es[j]?.getD (0, 0, 0)).2.1 else (if c = j * 3 then .int .i64 (es[j]?.getD (0, 0, 0)).1 else partE es j c))) = partE es (j + 1) c := by
  unfold partE
  by_cases e2 : c = j * 3 + 2
  · subst e2; rw [if_pos rfl, if_pos (by omega), exCell_2]
  · rw [if_neg e2]
    by_cases e1 : c = j * 3 + 1
    · subst e1; rw [if_pos rfl, if_pos (by omega), exCell_1]
    · rw [if_neg e1]
      by_cases e0 : c = j * 3
      · subst e0; rw [if_pos rfl, if_pos (by omega), exCell_0]
      · rw [if_neg e0]
        by_cases h : c < j * 3
        · rw [if_pos h, if_pos (by omega)]
        · rw [if_neg h, if_neg (by omega)]
end Go.Proofs.Ytlohgnidbkechaa

/- The specification's functions over lists of inodes. The specification's counts. The specification's other counts and places. The specification's lists of blocks. The specification: what is wrong of inodes, data and entries of a file system. The specification: what is wrong of inodes, data and entries of a file system, the rest. A list of a row of lists is put in the place of another: what the row is behind it. What a flush or a crash keeps. No program is named here. -/
import Derived.Test.YtaibcofendjnnaaGreatDoorM06
import Derived.Test.YtaibcofendjnnaaGreatDoorM05
import Derived.Test.YtaibcofendjnnaaGreatDoorM00
namespace Go.Proofs.YtaibcofendjnnaaGreatDoor
open Go.RowKit
set_option maxRecDepth 100000

theorem InoAt.bx {w : World} {b o : Nat} {d : ID} (h : InoAt w b o d) : ∃ aB cB aE cE, BxO w b o [.int .i64 d.1, .int .i64 d.2.1, .int .i64 d.2.2.1, .slice aB d.2.2.2.1.length cB, .slice aE d.2.2.2.2.length cE] ∧ Ints w (.slice aB d.2.2.2.1.length cB) d.2.2.2.1 ∧ Ents w (.slice aE d.2.2.2.2.length cE) d.2.2.2.2 := by
  obtain ⟨aB, cB, aE, cE, h0, h1, h2, h3, h4, h5⟩ := h
  refine ⟨aB, cB, aE, cE, fun i v hi => ?_, h5.2.1, h5.2.2⟩
  match i, hi with
  | 0, hi => simp at hi; subst hi; exact h0
  | 1, hi => simp at hi; subst hi; exact h1
  | 2, hi => simp at hi; subst hi; exact h2
  | 3, hi => simp at hi; subst hi; exact h3
  | 4, hi => simp at hi; subst hi; exact h4
  | n + 5, hi => simp at hi

set_option maxHeartbeats 800000 in
theorem l5Fault_many (w : World) (a : Option Addr) (n c : Nat) (hn : 10 < n) :
    Calls Tryz.prog 89 #[.slice a n c] w fun e w' => e = .returned (.int .i64 2) ∧ w' = w := by
  have h6 : decide ((10 : Int) < (n : Int)) = true := by simp; omega
  go_enter Tryz.func89, Tryz.ntmps89
  go_wp2
  go_ret
  exact ⟨rfl, rfl⟩

set_option maxHeartbeats 1600000 in
theorem l5Fault_walk (w : World) (a : Option Addr) (n c : Nat) (ds : List ID) (hn : n ≤ 10) (hdn : ds.length = n) (hc : AtI w a n ds) :
    Calls Tryz.prog 89 #[.slice a n c] w fun e w' => e = .returned (.int .i64 (fstNZ (fun i => inoF (ds[i]?.getD id0)) ds.length)) ∧ ∃ m, w' = w.drewN m := by
  have HC : Hid (AtI w a n ds) := hc
  have HN : Hid (ds.length = n) := hdn
  have h6 : decide ((10 : Int) < (n : Int)) = false := by simp; omega
  clear hc hdn
  go_enter Tryz.func89, Tryz.ntmps89
  go_wp2
  go_loopw [3] (fun i wr => ∃ j m : Nat, j ≤ n ∧ i = .int .i64 j ∧ wr = w.drewN m ∧ ∀ i : Nat, i < j → inoF (ds[i]?.getD id0) = 0) (fun i _ => n - (intOf i).toNat)
  case atStart => exact ⟨0, 0, Nat.zero_le _, rfl, rfl, fun i hi => by omega⟩
  case round =>
    obtain ⟨j, m, hj, rfl, rfl, hz⟩ := hrel
    have HZ : Hid (∀ i : Nat, i < j → inoF (ds[i]?.getD id0) = 0) := hz
    clear hz
    by_cases hlt : j < n
    · obtain ⟨b, o, rfl, hI⟩ := HC.out j hlt
      obtain ⟨aB, cB, aE, cE, hx, hi, he⟩ := hI.bx
      have HF : Hid (∀ q, Calls Tryz.prog 130 #[.pointer (some ⟨b, o + j * 5, none⟩)] (w.drewN q) fun e w' => e = .returned (.int .i64 (inoF (ds[j]?.getD id0))) ∧ ∃ m', w' = (w.drewN q).drewN m') := fun q => l4Fault_any (w.drewN q) b (o + j * 5) (ds[j]?.getD id0) aB cB aE cE hx hi he
      clear hI hx hi he
      have HR : Hid (inoF (ds[j]?.getD id0) = 0 → (∀ i : Nat, i < j + 1 → inoF (ds[i]?.getD id0) = 0)) := fun h i hi => by
        by_cases e : i = j
        · subst e; exact h
        · exact HZ.out i (by omega)
      have HT : Hid (¬ inoF (ds[j]?.getD id0) = 0 → inoF (ds[j]?.getD id0) = fstNZ (fun i => inoF (ds[i]?.getD id0)) ds.length) := fun h => (fstNZ_at (f := fun i => inoF (ds[i]?.getD id0)) HZ.out h (by rw [HN.out]; exact hlt)).symm
      by_cases hzz : inoF (ds[j]?.getD id0) = 0
      · have HR' : Hid (∀ i : Nat, i < j + 1 → inoF (ds[i]?.getD id0) = 0) := HR.out hzz
        have HZZ : Hid (inoF (ds[j]?.getD id0) = 0) := hzz
        clear HR HT hzz HC
        go_wp2_with fail
        refine (HF.out _).mono ?_
        rw [HZZ.out]
        rintro e w1 ⟨rfl, q, rfl⟩
        go_wp2
        go_roundw
        case rel => exact ⟨j + 1, _, by omega, by go_num, rfl, HR'.out⟩
        case measure => simp [intOf]; omega
      · have HT' : Hid (inoF (ds[j]?.getD id0) = fstNZ (fun i => inoF (ds[i]?.getD id0)) ds.length) := HT.out hzz
        have hzb : (inoF (ds[j]?.getD id0) != 0) = true := by simpa using hzz
        clear HR HT HC
        generalize inoF (ds[j]?.getD id0) = r at *
        go_wp2_with fail
        refine (HF.out _).mono ?_
        rintro e w1 ⟨rfl, q, rfl⟩
        go_wp2
        go_ret
        exact ⟨ret_int HT'.out, _, rfl⟩
    · go_wp2
      go_ret
      exact ⟨ret_int (fstNZ_zero (fun i hi => HZ.out i (by rw [HN.out] at hi; omega))).symm, m, rfl⟩
theorem l5Fault_any {w : World} {v : Value} {ds : List ID} (h : Inos w v ds) :
    Calls Tryz.prog 89 #[v] w fun e w' => e = .returned (.int .i64 (insF ds)) ∧ ∃ m, w' = w.drewN m := by
  obtain ⟨a, cap, rfl, hm, hc⟩ := h.open'
  unfold insF
  by_cases h : 10 < ds.length
  · rw [if_pos h]
    exact (l5Fault_many w _ _ _ h).mono fun e w' ⟨h1, h2⟩ => ⟨h1, 0, h2⟩
  · rw [if_neg h]
    exact l5Fault_walk w _ _ _ ds (by omega) rfl hc
end Go.Proofs.YtaibcofendjnnaaGreatDoor

namespace Go.Proofs.YtaibcofendjnnaaGreatDoor
open Go.RowKit
set_option maxRecDepth 100000

set_option maxHeartbeats 1600000 in
theorem l5Count_walk (w : World) (a : Option Addr) (n c : Nat) (ds : List ID) (v : Int) (hn : n ≤ 1048576) (hdn : ds.length = n) (hs : (isz ds).sum ≤ 1048576) (hc : AtI w a n ds) :
    Calls Tryz.prog 131 #[.slice a n c, .int .i64 v] w fun e w' => e = .returned (.int .i64 ((cntB ds v : Nat) : Int)) ∧ ∃ m, w' = w.drewN m := by
  have HC : Hid (AtI w a n ds) := hc
  have HN : Hid (ds.length = n) := hdn
  have HT : Hid (cntB ds v = (((ds.take n).flatMap fun d => d.2.2.2.1)).count v) := by unfold Hid cntB allB; rw [List.take_of_length_le (by omega)]
  have HS : Hid (∀ j, (((ds.take j).flatMap fun d => d.2.2.2.1)).count v ≤ 1048576) := fun j => by
    have h1 := flat_take (fun d : ID => d.2.2.2.1) ds j
    have h2 := allB_len ds
    have h3 := List.count_le_length (a := v) (l := (ds.take j).flatMap fun d => d.2.2.2.1)
    unfold allB at h2
    omega
  have HX : Hid (∀ j, j < n → ((ds.take (j + 1)).flatMap fun d => d.2.2.2.1).count v = ((ds.take j).flatMap fun d => d.2.2.2.1).count v + ((ds[j]?.getD id0).2.2.2.1).count v) := fun j hj => by
    rw [flat_next (fun d : ID => d.2.2.2.1) ds id0 j (by omega), List.count_append]
  have HZ : Hid (∀ j, (ds[j]?.getD id0).2.2.2.1.length ≤ 1048576) := fun j => by
    have := isz_le ds j
    have hd : sizeIno (ds[j]?.getD id0) = (ds[j]?.getD id0).2.2.2.1.length + sizeN (ds[j]?.getD id0).2.2.2.2 := rfl
    omega
  rw [HT.out]
  clear hc hdn hs HT
  generalize hG : (fun j => ((ds.take j).flatMap fun d => d.2.2.2.1).count v) = G at *
  have HG : Hid (∀ j, ((ds.take j).flatMap fun d => d.2.2.2.1).count v = G j) := fun j => congrFun hG j
  simp only [HG.out] at HS HX ⊢
  have HG0 : Hid (G 0 = 0) := by unfold Hid; rw [← HG.out 0]; simp
  clear hG HG
  go_enter Tryz.func131, Tryz.ntmps131
  go_wp2
  go_loopw [5, 6] (fun q i wr => ∃ j m : Nat, j ≤ n ∧ i = .int .i64 j ∧ q = .int .i64 ((G j : Nat) : Int) ∧ wr = w.drewN m) (fun _ i _ => n - (intOf i).toNat)
  case atStart => exact ⟨0, 0, Nat.zero_le _, rfl, by rw [HG0.out]; rfl, rfl⟩
  case round =>
    obtain ⟨j, m, hj, rfl, rfl, rfl⟩ := hrel
    by_cases hlt : j < n
    · obtain ⟨b, o, rfl, hI⟩ := HC.out j hlt
      obtain ⟨aB, cB, aE, cE, h0, h1, h2, h3, h4, h5⟩ := hI
      obtain ⟨_, _, e1, hm1, hc1⟩ := h5.2.1.open'
      simp only [Value.slice.injEq] at e1
      obtain ⟨rfl, _, rfl⟩ := e1
      have HXJ := HX.out j hlt
      have HZJ := HZ.out j
      have HSJ := HS.out (j + 1)
      have HXJ' : Hid (G (j + 1) = G j + ((ds[j]?.getD id0).2.2.2.1).count v) := HXJ
      clear h0 h1 h2 h4 h5 HC
      generalize (ds[j]?.getD id0).2.2.2.1 = bs at *
      have HCB : Hid (At1 w aB bs.length (fun k => .int .i64 (bs[k]?.getD 0))) := hc1
      have HL : Hid (∃ nB, nB = bs.length) := ⟨_, rfl⟩
      obtain ⟨nB, hnB⟩ := HL.out
      have HNB : Hid (nB = bs.length) := hnB
      rw [← hnB] at h3 hm1 HZJ
      have hle : G j + bs.count v ≤ 1048576 := by omega
      clear hc1 HL hnB HXJ HSJ
      go_wp2
      go_loopw [5, 7] (fun q i wr => ∃ k m2 : Nat, k ≤ nB ∧ i = .int .i64 k ∧ q = .int .i64 (((G j + (bs.take k).count v : Nat)) : Int) ∧ wr = w.drewN m2) (fun _ i _ => nB - (intOf i).toNat)
      case atStart => exact ⟨0, m, Nat.zero_le _, rfl, by simp, rfl⟩
      case round =>
        obtain ⟨k, m2, hk, rfl, rfl, rfl⟩ := hrel
        by_cases hlk : k < nB
        · obtain ⟨b1, o1, rfl, d1⟩ := HCB.out k (by rw [← HNB.out]; exact hlk)
          replace d1 : w.cell? ⟨b1, o1 + k, none⟩ = some (.int .i64 (bs[k]?.getD 0)) := d1
          have hcn := count_next bs v k (by rw [← HNB.out]; exact hlk)
          have HCN : Hid ((bs.take (k + 1)).count v = (bs.take k).count v + (if bs[k]?.getD 0 = v then 1 else 0)) := hcn
          have hct : (bs.take k).count v ≤ bs.count v := List.Sublist.count_le v (List.take_sublist k bs)
          generalize (bs.take k).count v = ck at *
          generalize bs[k]?.getD 0 = x at *
          clear hcn HCB
          by_cases hxv : x = v
          · have hxb : (x == v) = true := by simpa using hxv
            have HCN' : Hid ((bs.take (k + 1)).count v = ck + 1) := by unfold Hid; rw [HCN.out, if_pos hxv]
            clear hxv HCN
            go_wp2
            go_roundw
            case rel => exact ⟨k + 1, _, by omega, by go_num, by rw [HCN'.out]; go_num, rfl⟩
            case measure => simp [intOf]; omega
          · have hxb : (x == v) = false := by simpa using hxv
            have HCN' : Hid ((bs.take (k + 1)).count v = ck) := by unfold Hid; rw [HCN.out, if_neg hxv, Nat.add_zero]
            clear hxv HCN
            go_wp2
            go_roundw
            case rel => exact ⟨k + 1, _, by omega, by go_num, by rw [HCN'.out], rfl⟩
            case measure => simp [intOf]; omega
        · have hkn : bs.take k = bs := List.take_of_length_le (by rw [← HNB.out]; omega)
          rw [hkn]
          clear hkn
          have HE : Hid (((G j + bs.count v : Nat) : Int) = ((G (j + 1) : Nat) : Int)) := by unfold Hid; rw [HXJ'.out]
          go_wp2
          go_roundw
          case rel => exact ⟨j + 1, _, by omega, by go_num, by rw [HE.out], rfl⟩
          case measure => simp [intOf]; omega
    · have HJ : Hid (G j = G n) := by unfold Hid; rw [show j = n by omega]
      go_wp2
      go_ret
      exact ⟨ret_int (by rw [HJ.out]), m, rfl⟩
end Go.Proofs.YtaibcofendjnnaaGreatDoor

namespace Go.Proofs.YtaibcofendjnnaaGreatDoor
open Go.RowKit
set_option maxRecDepth 100000

theorem l5Count_any {w : World} {vv : Value} {ds : List ID} (h : Inos w vv ds) (hs : sizeInos ds ≤ 1048576) (v : Int) :
    Calls Tryz.prog 131 #[vv, .int .i64 v] w fun e w' => e = .returned (.int .i64 ((cntB ds v : Nat) : Int)) ∧ ∃ m, w' = w.drewN m := by
  obtain ⟨a, cap, rfl, hm, hc⟩ := h.open'
  unfold sizeInos at hs
  exact l5Count_walk w a _ cap ds v (by omega) rfl (by omega) hc

set_option maxHeartbeats 1600000 in
theorem l5Among_walk (w : World) (a : Option Addr) (n c : Nat) (zs : List Int) (v : Int) (hn : n ≤ maxLen) (hzn : zs.length = n) (hc : At1 w a n (fun k => .int .i64 (zs[k]?.getD 0))) :
    Calls Tryz.prog 93 #[.slice a n c, .int .i64 v] w fun e w' => e = .returned (.bool (zs.contains v)) ∧ ∃ m, w' = w.drewN m := by
  unfold maxLen at hn
  have HC : Hid (At1 w a n (fun k => .int .i64 (zs[k]?.getD 0))) := hc
  have HN : Hid (zs.length = n) := hzn
  clear hc hzn
  go_enter Tryz.func93, Tryz.ntmps93
  go_wp2
  go_loopw [5] (fun i wr => ∃ j m : Nat, j ≤ n ∧ i = .int .i64 j ∧ wr = w.drewN m ∧ ∀ i : Nat, i < j → ¬ zs[i]?.getD 0 = v) (fun i _ => n - (intOf i).toNat)
  case atStart => exact ⟨0, 0, Nat.zero_le _, rfl, rfl, fun i hi => by omega⟩
  case round =>
    obtain ⟨j, m, hj, rfl, rfl, hz⟩ := hrel
    have HZ : Hid (∀ i : Nat, i < j → ¬ zs[i]?.getD 0 = v) := hz
    clear hz
    by_cases hlt : j < n
    · obtain ⟨b, o, rfl, d1⟩ := HC.out j hlt
      replace d1 : w.cell? ⟨b, o + j, none⟩ = some (.int .i64 (zs[j]?.getD 0)) := d1
      by_cases hxv : zs[j]?.getD 0 = v
      · have HR : Hid (zs.contains v = true) := by
          unfold Hid
          rw [List.contains_iff_mem, ← hxv, List.getElem?_eq_getElem (by rw [HN.out]; exact hlt)]
          simp
        have hxb : (zs[j]?.getD 0 == v) = true := by simpa using hxv
        clear hxv HC
        generalize zs[j]?.getD 0 = x at *
        go_wp2
        go_ret
        exact ⟨ret_bool HR.out.symm, _, rfl⟩
      · have HR : Hid (∀ i : Nat, i < j + 1 → ¬ zs[i]?.getD 0 = v) := fun i hi => by
          by_cases e : i = j
          · subst e; exact hxv
          · exact HZ.out i (by omega)
        have hxb : (zs[j]?.getD 0 == v) = false := by simpa using hxv
        clear hxv HC
        generalize zs[j]?.getD 0 = x at *
        go_wp2
        go_roundw
        case rel => exact ⟨j + 1, _, by omega, by go_num, rfl, HR.out⟩
        case measure => simp [intOf]; omega
    · have HR : Hid (zs.contains v = false) := by
        unfold Hid
        rw [Bool.eq_false_iff]
        intro h
        rw [List.contains_iff_mem] at h
        obtain ⟨i, hi, he⟩ := List.getElem_of_mem h
        exact HZ.out i (by rw [HN.out] at hi; omega) (by rw [List.getElem?_eq_getElem hi]; exact he)
      go_wp2
      go_ret
      exact ⟨ret_bool HR.out.symm, _, rfl⟩
theorem l5Among_any {w : World} {vv : Value} {zs : List Int} (h : Ints w vv zs) (v : Int) :
    Calls Tryz.prog 93 #[vv, .int .i64 v] w fun e w' => e = .returned (.bool (zs.contains v)) ∧ ∃ m, w' = w.drewN m := by
  obtain ⟨a, cap, rfl, hm, hc⟩ := h.open'
  exact l5Among_walk w a _ cap zs v hm rfl hc

end Go.Proofs.YtaibcofendjnnaaGreatDoor

namespace Go.Proofs.YtaibcofendjnnaaGreatDoor
open Go.RowKit
set_option maxRecDepth 100000

theorem Wds.lit0 (w : World) : Wds (w.alloc (.cells #[] 2)) w.heap.size (.slice (Option.some ⟨w.heap.size, 0, none⟩) 0 0) [] := Wds.lit w w.heap.size (Nat.le_refl _) [] #[] rfl 0 rfl (by omega)

set_option maxHeartbeats 3200000 in
theorem l5Used_any {w : World} {v : Value} {ds : List ID} (h : Inos w v ds) (hs : sizeInos ds ≤ 1048576) :
    Calls Tryz.prog 90 #[v] w fun e w' => ∃ a c, e = .returned (.tuple #[.slice a (selL (usedP ds) 20).length c, .bool (onceB ds 20)]) ∧ Below w.heap.size w w' ∧ Wds w' w.heap.size (.slice a (selL (usedP ds) 20).length c) (selL (usedP ds) 20) := by
  obtain ⟨a, cap, rfl, _⟩ := h.open'
  have HC : Hid (∀ W, Below w.heap.size w W → ∀ j : Nat, Calls Tryz.prog 131 #[.slice a ds.length cap, .int .i64 (j : Int)] W fun e w' => e = .returned (.int .i64 ((cntB ds (j : Int) : Nat) : Int)) ∧ ∃ m, w' = W.drewN m) := fun W hW j => l5Count_any (h.later hW) hs (j : Int)
  have HCB : Hid (∀ j : Int, cntB ds j ≤ 1048576) := fun j => by
    have h2 := allB_len ds
    have h3 := List.count_le_length (a := j) (l := allB ds)
    unfold sizeInos at hs
    unfold cntB
    omega
  have HY : Hid (∀ j : Nat, 0 < cntB ds (j : Int) → selL (usedP ds) (j + 1) = selL (usedP ds) j ++ [(j : Int)]) := fun j hj => selL_yes (by simpa [usedP] using hj)
  have HNO : Hid (∀ j : Nat, ¬ 0 < cntB ds (j : Int) → selL (usedP ds) (j + 1) = selL (usedP ds) j) := fun j hj => selL_no (by simpa [usedP] using hj)
  have HL : Hid (∀ j, (selL (usedP ds) j).length ≤ j) := fun j => selL_len _ _
  have HO : Hid (∀ j, onceB ds (j + 1) = (onceB ds j && decide (cntB ds (j : Int) ≤ 1))) := fun j => onceB_next ds j
  have HO0 : Hid (onceB ds 0 = true) := rfl
  have HS0 : Hid (selL (usedP ds) 0 = []) := rfl
  generalize usedP ds = p at *
  generalize onceB ds = on at *
  generalize ds.length = n at *
  clear h hs
  go_enter Tryz.func90, Tryz.ntmps90
  go_wp2
  go_loopw [4, 5, 6] (fun o q i wr => ∃ (j : Nat) (v : Value), j ≤ 20 ∧ i = .int .i64 j ∧ o = v ∧ q = .bool (on j) ∧ Below w.heap.size w wr ∧ Wds wr w.heap.size v (selL p j)) (fun _ _ i _ => 20 - (intOf i).toNat)
  case atStart => exact ⟨0, _, Nat.zero_le _, rfl, rfl, by rw [HO0.out], later1 _ _, by rw [HS0.out]; exact Wds.lit0 w⟩
  case round =>
    obtain ⟨j, v, hj, rfl, rfl, rfl, hbl, hwd⟩ := hrel
    obtain ⟨aV, cV, rfl⟩ := hwd.shape
    have HBL : Hid (Below w.heap.size w wr) := hbl
    have HWD : Hid (Wds wr w.heap.size (.slice aV (selL p j).length cV) (selL p j)) := hwd
    clear hbl hwd
    by_cases hlt : j < 20
    · have HC' := HC.out wr HBL.out j
      have HCC : Hid (Calls Tryz.prog 131 #[.slice a n cap, .int .i64 (j : Int)] wr fun e w' => e = .returned (.int .i64 ((cntB ds (j : Int) : Nat) : Int)) ∧ ∃ m, w' = wr.drewN m) := HC'
      have hcb := HCB.out (j : Int)
      have HOJ := HO.out j
      have HY' := HY.out j
      have HN' := HNO.out j
      have hlj := HL.out j
      clear HC'
      generalize cntB ds (j : Int) = cnt at *
      by_cases h0 : 0 < cnt
      · have HYJ : Hid (selL p (j + 1) = selL p j ++ [(j : Int)]) := HY' h0
        have hd0 : decide ((0 : Int) < (cnt : Int)) = true := by simp; omega
        clear HY' HN'
        have HOJ' : Hid (on (j + 1) = (on j && decide (cnt ≤ 1))) := HOJ
        clear HOJ
        generalize on j = bo at *
        have tail : ∀ (b1 : Bool), decide ((cnt : Int) ≤ 1) = b1 → Hid (on (j + 1) = (bo && b1)) := fun b1 hb => by unfold Hid; rw [HOJ'.out, ← hb]; congr 1; rw [decide_eq_decide]; omega
        cases hb1 : decide ((cnt : Int) ≤ 1) with
        | true =>
          have HF : Hid (on (j + 1) = (bo && true)) := tail true hb1
          clear tail HOJ'
          go_wp2_with fail
          refine HCC.out.mono ?_
          rintro e w1 ⟨rfl, m, rfl⟩
          obtain ⟨a', c', X, hr, hw, hb, _⟩ := append_w1 (wr.drewN m) w.heap.size _ (selL p j) (j : Int) HWD.out HBL.out.size (by omega)
          have HR : Hid (_ = _) := hr
          rw [← HYJ.out] at HR hw
          have HW : Hid (Wds X w.heap.size _ (selL p (j + 1))) := hw
          have HB : Hid (Below w.heap.size w X) := (below_drewN HBL.out m).trans hb
          clear hr hw hb
          cases bo
          all_goals
            go_wp2_with (at_builtin; refine wpList_append_run rfl _ _ 67 rfl _ _ rfl rfl _ _ HR.out ?_)
            go_roundw
            case rel => exact ⟨j + 1, _, by omega, by go_num, rfl, by rw [HF.out]; rfl, HB.out, HW.out⟩
            case measure => simp [intOf]; omega
        | false =>
          have HF : Hid (on (j + 1) = (bo && false)) := tail false hb1
          clear tail HOJ'
          go_wp2_with fail
          refine HCC.out.mono ?_
          rintro e w1 ⟨rfl, m, rfl⟩
          obtain ⟨a', c', X, hr, hw, hb, _⟩ := append_w1 (wr.drewN m) w.heap.size _ (selL p j) (j : Int) HWD.out HBL.out.size (by omega)
          have HR : Hid (_ = _) := hr
          rw [← HYJ.out] at HR hw
          have HW : Hid (Wds X w.heap.size _ (selL p (j + 1))) := hw
          have HB : Hid (Below w.heap.size w X) := (below_drewN HBL.out m).trans hb
          clear hr hw hb
          cases bo
          all_goals
            go_wp2_with (at_builtin; refine wpList_append_run rfl _ _ 67 rfl _ _ rfl rfl _ _ HR.out ?_)
            go_roundw
            case rel => exact ⟨j + 1, _, by omega, by go_num, rfl, by rw [HF.out]; rfl, HB.out, HW.out⟩
            case measure => simp [intOf]; omega
      · have HNJ : Hid (selL p (j + 1) = selL p j) := HN' h0
        have hc0 : cnt = 0 := by omega
        subst hc0
        have HF : Hid (on (j + 1) = (on j && true)) := HOJ
        clear HY' HN' HOJ h0
        have HW : Hid (Wds wr w.heap.size (.slice aV (selL p j).length cV) (selL p (j + 1))) := by unfold Hid; rw [HNJ.out]; exact HWD.out
        generalize on j = bo at *
        cases bo
        all_goals
          go_wp2_with fail
          refine HCC.out.mono ?_
          rintro e w1 ⟨rfl, m, rfl⟩
          go_wp2
          go_roundw
          case rel => exact ⟨j + 1, _, by omega, by go_num, rfl, by rw [HF.out]; rfl, below_drewN HBL.out m, HW.out⟩
          case measure => simp [intOf]; omega
    · have he : j = 20 := by omega
      subst he
      clear hlt
      go_wp2
      go_ret2
      exact ⟨_, _, rfl, HBL.out, HWD.out⟩

end Go.Proofs.YtaibcofendjnnaaGreatDoor

namespace Go.Proofs.YtaibcofendjnnaaGreatDoor
open Go.RowKit
set_option maxRecDepth 100000

/-- A file system lies at b, o. -/
structure FsX (w : World) (b o : Nat) (d : FD) (aI : Option Addr) (cI : Nat) (aD : Option Addr) (cD : Nat) : Prop where
  c0 : w.cell? ⟨b, o, none⟩ = some (.slice aI d.1.length cI)
  c1 : w.cell? ⟨b, o + 1, none⟩ = some (.slice aD d.2.length cD)
  ins : Inos w (.slice aI d.1.length cI) d.1
  byt : Byts w (.slice aD d.2.length cD) d.2
theorem FsX.later {w w' : World} {b o : Nat} {d : FD} {aI : Option Addr} {cI : Nat} {aD : Option Addr} {cD : Nat} (h : FsX w b o d aI cI aD cD) (hb : Below w.heap.size w w') : FsX w' b o d aI cI aD cD :=
  ⟨cell_later hb h.c0, cell_later hb h.c1, h.ins.later hb, h.byt.later hb⟩
theorem FsX.drew {w : World} {b o : Nat} {d : FD} {aI : Option Addr} {cI : Nat} {aD : Option Addr} {cD : Nat} (h : FsX w b o d aI cI aD cD) (m : Nat) : FsX (w.drewN m) b o d aI cI aD cD := h.later (below_drewN (Below.refl _ _) m)

/-- An entry that leads nowhere. -/
def lostB (ds : List ID) (x : Int) : Bool := decide ((ds.length : Int) ≤ x) || decide (kindAt ds x.toNat = 0)
def formB (d : FD) : Bool := decide (d.1.length = 0) || decide (kindAt d.1 0 ≠ 2) || decide (d.2.length ≠ 20)
def manyF (zss : List (List UInt8)) (i : Nat) : Int := if 8 < (zss[i]?.getD []).length then 2 else 0
def lostF (ds : List ID) : Int := if (allE ds).any (lostB ds) then 4 else 0
/-- What is wrong of inodes, data and entries. -/
def fsE (d : FD) : Int := if insF d.1 = 0 then (if formB d then 1 else if fstNZ (manyF d.2) d.2.length = 0 then (if onceB d.1 20 then lostF d.1 else 7) else fstNZ (manyF d.2) d.2.length) else insF d.1

set_option maxHeartbeats 800000 in
theorem l6Ent_bad (w : World) (b o : Nat) (d : FD) (aI : Option Addr) (cI : Nat) (aD : Option Addr) (cD : Nat) (h : FsX w b o d aI cI aD cD) (hi : ¬ insF d.1 = 0) :
    Calls Tryz.prog 54 #[.pointer (some ⟨b, o, none⟩)] w fun e w' => e = .returned (.int .i64 (fsE d)) ∧ ∃ m, w' = w.drewN m := by
  have HE : Hid (insF d.1 = fsE d) := by unfold Hid fsE; rw [if_neg hi]
  have HF : Hid (Calls Tryz.prog 89 #[.slice aI d.1.length cI] w fun e w' => e = .returned (.int .i64 (insF d.1)) ∧ ∃ m, w' = w.drewN m) := l5Fault_any h.ins
  have c0 := h.c0
  have hb : (insF d.1 != 0) = true := by simpa using hi
  clear h hi
  generalize insF d.1 = r at *
  generalize d.1.length = n at *
  go_enter Tryz.func54, Tryz.ntmps54
  go_wp2_with fail
  refine HF.out.mono ?_
  rintro e w1 ⟨rfl, q, rfl⟩
  go_wp2
  go_ret
  exact ⟨ret_int HE.out, _, rfl⟩

set_option maxHeartbeats 1600000 in
theorem l6Ent_form (w : World) (b o : Nat) (d : FD) (aI : Option Addr) (cI : Nat) (aD : Option Addr) (cD : Nat) (h : FsX w b o d aI cI aD cD) (hi : insF d.1 = 0) (hf : formB d = true) :
    Calls Tryz.prog 54 #[.pointer (some ⟨b, o, none⟩)] w fun e w' => e = .returned (.int .i64 (fsE d)) ∧ ∃ m, w' = w.drewN m := by
  have HE : Hid (1 = fsE d) := by unfold Hid fsE; rw [if_pos hi, if_pos hf]
  have HF : Hid (Calls Tryz.prog 89 #[.slice aI d.1.length cI] w fun e w' => e = .returned (.int .i64 (insF d.1)) ∧ ∃ m, w' = w.drewN m) := l5Fault_any h.ins
  have c0 := h.c0
  have c1 := h.c1
  rw [hi] at HF
  obtain ⟨_, _, e1, hm1, hAt⟩ := h.ins.open'
  obtain ⟨_, _, e2, hm2, _⟩ := h.byt.open'
  simp only [Value.slice.injEq] at e1 e2
  obtain ⟨rfl, -, rfl⟩ := e1
  obtain ⟨rfl, -, rfl⟩ := e2
  unfold maxLen at hm1 hm2
  by_cases h0 : d.1.length = 0
  · have hb0 : (((d.1.length : Nat) : Int) == 0) = true := by simp [h0]
    clear h hi hf hAt h0
    generalize d.1.length = n at *
    generalize d.2.length = n2 at *
    go_enter Tryz.func54, Tryz.ntmps54
    go_wp2_with fail
    refine HF.out.mono ?_
    rintro e w1 ⟨rfl, q, rfl⟩
    go_wp2
    go_ret
    exact ⟨ret_int HE.out, _, rfl⟩
  · have hb0 : (((d.1.length : Nat) : Int) == 0) = false := by rw [beq_eq_false_iff_ne]; omega
    obtain ⟨bI, oI, rfl, hI⟩ := hAt 0 (by omega)
    obtain ⟨_, _, _, _, k0, _⟩ := hI
    rw [Nat.zero_mul, Nat.add_zero] at k0
    have k0' : w.cell? ⟨bI, oI, none⟩ = some (.int .i64 (kindAt d.1 0)) := k0
    by_cases h1 : kindAt d.1 0 = 2
    · have h2 : ¬ d.2.length = 20 := fun e => by simp [formB, h0, h1, e] at hf
      have hk : (kindAt d.1 0 != 2) = false := by simp [h1]
      have hd : (((d.2.length : Nat) : Int) != 20) = true := by simp; omega
      clear h hi hf hAt h1 h2 k0
      generalize kindAt d.1 0 = kk at *
      generalize d.1.length = n at *
      generalize d.2.length = n2 at *
      go_enter Tryz.func54, Tryz.ntmps54
      go_wp2_with fail
      refine HF.out.mono ?_
      rintro e w1 ⟨rfl, q, rfl⟩
      go_wp2
      go_ret
      exact ⟨ret_int HE.out, _, rfl⟩
    · have hk : (kindAt d.1 0 != 2) = true := by simpa using h1
      clear h hi hf hAt h1 k0
      generalize kindAt d.1 0 = kk at *
      generalize d.1.length = n at *
      generalize d.2.length = n2 at *
      go_enter Tryz.func54, Tryz.ntmps54
      go_wp2_with fail
      refine HF.out.mono ?_
      rintro e w1 ⟨rfl, q, rfl⟩
      go_wp2
      go_ret
      exact ⟨ret_int HE.out, _, rfl⟩
end Go.Proofs.YtaibcofendjnnaaGreatDoor

namespace Go.Proofs.YtaibcofendjnnaaGreatDoor
open Go.RowKit
set_option maxRecDepth 100000

theorem ins_ino {ds : List ID} (h : insF ds = 0) : ∀ j, j < ds.length → inoF (ds[j]?.getD id0) = 0 := by
  unfold insF at h
  by_cases h1 : 10 < ds.length
  · rw [if_pos h1] at h; omega
  · rw [if_neg h1] at h; exact fstNZ_inv h
theorem ino_ent {d : ID} (h : inoF d = 0) : ∀ k, k < d.2.2.2.2.length → 0 ≤ (d.2.2.2.2[k]?.getD en0).2 := by
  intro k hk
  have hd : dpB d = true := by unfold dpB; simpa using by omega
  unfold inoF at h
  by_cases h0 : d.1 = 0
  · rw [if_pos h0, hd, Bool.or_true, if_pos rfl] at h; omega
  · rw [if_neg h0] at h
    by_cases h1 : d.1 = 1
    · rw [if_pos h1, hd, if_pos rfl] at h; omega
    · rw [if_neg h1] at h
      by_cases h2 : d.1 = 2
      · rw [if_pos h2] at h
        by_cases h3 : fpB d = true
        · rw [if_pos h3] at h; omega
        · rw [if_neg h3] at h
          unfold dirF at h
          by_cases h4 : 6 < d.2.2.2.2.length
          · rw [if_pos h4] at h; omega
          · rw [if_neg h4] at h
            have h5 := fstNZ_inv h k hk
            unfold entF at h5
            by_cases h6 : nameF (d.2.2.2.2[k]?.getD en0).1 = 0
            · rw [if_pos h6] at h5
              by_cases h7 : 0 ≤ (d.2.2.2.2[k]?.getD en0).2 ∧ (d.2.2.2.2[k]?.getD en0).2 ≤ 9
              · exact h7.1
              · rw [if_neg h7] at h5; omega
            · rw [if_neg h6] at h5; exact absurd h5 h6
      · rw [if_neg h2] at h; omega
theorem mem_allE {ds : List ID} {x : Int} : x ∈ allE ds ↔ ∃ j, j < ds.length ∧ ∃ k, k < (ds[j]?.getD id0).2.2.2.2.length ∧ ((ds[j]?.getD id0).2.2.2.2[k]?.getD en0).2 = x := by
  unfold allE entI
  simp only [List.mem_flatMap, List.mem_map]
  constructor
  · rintro ⟨d, hd, e, he, rfl⟩
    obtain ⟨j, hj, rfl⟩ := List.getElem_of_mem hd
    obtain ⟨k, hk, rfl⟩ := List.getElem_of_mem he
    have e1 : ds[j]?.getD id0 = ds[j] := by simp [hj]
    exact ⟨j, hj, k, by rw [e1]; exact hk, by rw [e1]; simp [hk]⟩
  · rintro ⟨j, hj, k, hk, rfl⟩
    have e1 : ds[j]?.getD id0 = ds[j] := by simp [hj]
    rw [e1] at hk ⊢
    exact ⟨ds[j], List.getElem_mem hj, ds[j].2.2.2.2[k], List.getElem_mem hk, by simp [hk]⟩
theorem lost_yes {ds : List ID} {j k : Nat} (hj : j < ds.length) (hk : k < (ds[j]?.getD id0).2.2.2.2.length) (h : lostB ds ((ds[j]?.getD id0).2.2.2.2[k]?.getD en0).2 = true) : lostF ds = 4 := by
  unfold lostF; rw [if_pos (List.any_eq_true.2 ⟨_, mem_allE.2 ⟨j, hj, k, hk, rfl⟩, h⟩)]
theorem lost_no {ds : List ID} (h : ∀ j, j < ds.length → ∀ k, k < (ds[j]?.getD id0).2.2.2.2.length → lostB ds ((ds[j]?.getD id0).2.2.2.2[k]?.getD en0).2 = false) : lostF ds = 0 := by
  unfold lostF; rw [if_neg]
  intro h1
  obtain ⟨x, hx, h2⟩ := List.any_eq_true.1 h1
  obtain ⟨j, hj, k, hk, rfl⟩ := mem_allE.1 hx
  rw [h j hj k hk] at h2
  exact Bool.noConfusion h2

set_option maxHeartbeats 3200000 in
theorem l6Ent_ok (w : World) (b o : Nat) (d : FD) (aI : Option Addr) (cI : Nat) (aD : Option Addr) (cD : Nat) (h : FsX w b o d aI cI aD cD) (hs : sizeInos d.1 ≤ 1048576) (hi : insF d.1 = 0) (hf : formB d = false) :
    Calls Tryz.prog 54 #[.pointer (some ⟨b, o, none⟩)] w fun e w' => e = .returned (.int .i64 (fsE d)) ∧ Below w.heap.size w w' := by
  have HFE : Hid (fsE d = if fstNZ (manyF d.2) d.2.length = 0 then (if onceB d.1 20 then lostF d.1 else 7) else fstNZ (manyF d.2) d.2.length) := by unfold Hid fsE; rw [if_pos hi, if_neg (by rw [hf]; exact Bool.noConfusion)]
  have HF : Hid (Calls Tryz.prog 89 #[.slice aI d.1.length cI] w fun e w' => e = .returned (.int .i64 (insF d.1)) ∧ ∃ m, w' = w.drewN m) := l5Fault_any h.ins
  have HU : Hid (∀ W, Below w.heap.size w W → Calls Tryz.prog 90 #[.slice aI d.1.length cI] W fun e w' => ∃ a c, e = .returned (.tuple #[.slice a (selL (usedP d.1) 20).length c, .bool (onceB d.1 20)]) ∧ Below W.heap.size W w') := fun W hW => (l5Used_any (h.ins.later hW) hs).mono fun e w' ⟨a, c, h1, h2, _⟩ => ⟨a, c, h1, h2⟩
  have HX : Hid (FsX w b o d aI cI aD cD) := h
  have HP : Hid (∀ j, j < d.1.length → ∀ k, k < (d.1[j]?.getD id0).2.2.2.2.length → 0 ≤ ((d.1[j]?.getD id0).2.2.2.2[k]?.getD en0).2) := fun j hj => ino_ent (ins_ino hi j hj)
  have c0 := h.c0
  have c1 := h.c1
  rw [hi] at HF
  obtain ⟨_, _, e1, hm1, hAt⟩ := h.ins.open'
  obtain ⟨_, _, e2, hm2, hAy⟩ := h.byt.open'
  simp only [Value.slice.injEq] at e1 e2
  obtain ⟨rfl, -, rfl⟩ := e1
  obtain ⟨rfl, -, rfl⟩ := e2
  unfold maxLen at hm1 hm2
  have hff : ¬ d.1.length = 0 ∧ kindAt d.1 0 = 2 ∧ d.2.length = 20 := by
    simp only [formB, Bool.or_eq_false_iff, decide_eq_false_iff_not, ne_eq, Decidable.not_not] at hf
    exact ⟨hf.1.1, hf.1.2, hf.2⟩
  obtain ⟨h0, hk2, hl2⟩ := hff
  have hb0 : (((d.1.length : Nat) : Int) == 0) = false := by rw [beq_eq_false_iff_ne]; omega
  have HAY : Hid (AtYs w aD 20 d.2) := by rw [hl2] at hAy; exact hAy
  have HL2 : Hid (d.2.length = 20) := hl2
  have HAT : Hid (AtI w aI d.1.length d.1) := hAt
  rw [hl2] at c1
  have k0' : ∃ bI oI, aI = some ⟨bI, oI, none⟩ ∧ w.cell? ⟨bI, oI, none⟩ = some (.int .i64 2) := by
    obtain ⟨bI, oI, rfl, hI⟩ := hAt 0 (by omega)
    obtain ⟨_, _, _, _, k0, _⟩ := hI
    rw [Nat.zero_mul, Nat.add_zero] at k0
    exact ⟨bI, oI, rfl, by rw [k0]; exact congrArg (fun z => some (Value.int .i64 z)) hk2⟩
  obtain ⟨bI, oI, rfl, k0⟩ := k0'
  clear h hi hf hAt hAy hk2 hl2 hm2
  have HNN : Hid (∃ n, d.1.length = n) := ⟨_, rfl⟩
  obtain ⟨n, hn⟩ := HNN.out
  have HN : Hid (d.1.length = n) := hn
  rw [hn] at HF HU HP c0 hm1 hb0 HAT h0
  clear hn HNN
  go_enter Tryz.func54, Tryz.ntmps54
  go_wp2_with fail
  refine HF.out.mono ?_
  rintro e w1 ⟨rfl, q, rfl⟩
  go_wp2
  go_loopw [4] (fun i wr => ∃ j m : Nat, j ≤ 20 ∧ i = .int .i64 j ∧ wr = w.drewN m ∧ ∀ i : Nat, i < j → manyF d.2 i = 0) (fun i _ => 20 - (intOf i).toNat)
  case atStart => exact ⟨0, _, Nat.zero_le _, rfl, rfl, fun i hi => by omega⟩
  case round =>
    obtain ⟨j, m, hj, rfl, rfl, hz⟩ := hrel
    have HZ : Hid (∀ i : Nat, i < j → manyF d.2 i = 0) := hz
    clear hz k0
    by_cases hlt : j < 20
    · obtain ⟨b', o', ua, uc, rfl, d0, i0⟩ := HAY.out j hlt
      have hlb : (d.2[j]?.getD []).length ≤ maxLen := by obtain ⟨_, _, _, h5, _⟩ := i0; exact h5.1
      unfold maxLen at hlb
      clear i0
      by_cases h8 : 8 < (d.2[j]?.getD []).length
      · have HE : Hid (2 = fsE d) := by
          have e1 : manyF d.2 j = 2 := by unfold manyF; rw [if_pos h8]
          have e2 := fstNZ_at (f := manyF d.2) HZ.out (by rw [e1]; omega) (n := d.2.length) (by rw [HL2.out]; exact hlt)
          unfold Hid; rw [HFE.out, e2, e1]; rfl
        have hd8 : decide ((8 : Int) < ((d.2[j]?.getD []).length : Nat)) = true := by simp; omega
        clear HFE HZ h8
        generalize (d.2[j]?.getD []).length = ln at *
        go_wp2
        go_ret
        exact ⟨ret_int HE.out, below_drewN (Below.refl _ _) _⟩
      · have HR : Hid (∀ i : Nat, i < j + 1 → manyF d.2 i = 0) := fun i hi => by
          by_cases e : i = j
          · subst e; unfold manyF; rw [if_neg h8]
          · exact HZ.out i (by omega)
        have hd8 : decide ((8 : Int) < ((d.2[j]?.getD []).length : Nat)) = false := by simp; omega
        clear HFE HZ h8
        generalize (d.2[j]?.getD []).length = ln at *
        go_wp2
        go_roundw
        case rel => exact ⟨j + 1, _, by omega, by go_num, rfl, HR.out⟩
        case measure => simp [intOf]; omega
    · have HM : Hid (fsE d = if onceB d.1 20 then lostF d.1 else 7) := by
        have e2 := fstNZ_zero (f := manyF d.2) (n := d.2.length) (fun i hi => HZ.out i (by rw [HL2.out] at hi; omega))
        unfold Hid; rw [HFE.out, if_pos e2]
      have HBL0 : Hid (Below w.heap.size w (w.drewN m)) := below_drewN (Below.refl _ _) m
      have HUU := HU.out _ HBL0.out
      clear HFE HZ HU HF
      go_wp2_with fail
      refine HUU.mono ?_
      rintro e w1 ⟨au, cu, rfl, hb1⟩
      have HBL1 : Hid (Below w.heap.size w w1) := HBL0.out.trans hb1
      have hx1 := HX.out.later HBL1.out
      have c0 := hx1.c0
      rw [HN.out] at c0
      clear hb1 HUU HBL0 hx1 c1
      generalize (selL (usedP d.1) 20).length = lu at *
      cases hon : onceB d.1 20 with
      | false =>
        have HE : Hid (7 = fsE d) := by unfold Hid; rw [HM.out, hon]; rfl
        clear HM hon
        go_wp2
        go_ret
        exact ⟨ret_int HE.out, HBL1.out⟩
      | true =>
        have HE : Hid (lostF d.1 = fsE d) := by unfold Hid; rw [HM.out, hon]; rfl
        clear HM hon
        go_wp2
        go_loopw [7] (fun i wr => ∃ j m : Nat, j ≤ n ∧ i = .int .i64 j ∧ wr = w1.drewN m ∧ ∀ i : Nat, i < j → ∀ k, k < (d.1[i]?.getD id0).2.2.2.2.length → lostB d.1 ((d.1[i]?.getD id0).2.2.2.2[k]?.getD en0).2 = false) (fun i _ => n - (intOf i).toNat)
        case atStart => exact ⟨0, 0, Nat.zero_le _, rfl, rfl, fun i hi => by omega⟩
        case round =>
          obtain ⟨j, m, hj, rfl, rfl, hz⟩ := hrel
          have HZ : Hid (∀ i : Nat, i < j → ∀ k, k < (d.1[i]?.getD id0).2.2.2.2.length → lostB d.1 ((d.1[i]?.getD id0).2.2.2.2[k]?.getD en0).2 = false) := hz
          clear hz
          by_cases hlj : j < n
          · have hAT1 := HAT.out.later HBL1.out
            obtain ⟨b2, o2, e2, hI⟩ := hAT1 j hlj
            simp only [Option.some.injEq, Addr.mk.injEq, and_true] at e2
            obtain ⟨rfl, rfl⟩ := e2
            have HAT1 : Hid (AtI w1 (some ⟨bI, oI, none⟩) n d.1) := hAT1
            obtain ⟨aB, cB, aE, cE, g0, g1, g2, g3, g4, g5⟩ := hI
            obtain ⟨_, _, e3, hm3, _, hc3⟩ := g5.2.2.open'
            simp only [Value.slice.injEq] at e3
            obtain ⟨rfl, _, rfl⟩ := e3
            clear g0 g1 g2 g3 g5 hAT1
            have HPJ : Hid (∀ k, k < (d.1[j]?.getD id0).2.2.2.2.length → 0 ≤ ((d.1[j]?.getD id0).2.2.2.2[k]?.getD en0).2) := HP.out j hlj
            have HY : Hid (∀ k, k < (d.1[j]?.getD id0).2.2.2.2.length → lostB d.1 ((d.1[j]?.getD id0).2.2.2.2[k]?.getD en0).2 = true → 4 = fsE d) := fun k hk hl => by rw [← HE.out, lost_yes (by rw [HN.out]; exact hlj) hk hl]
            have HR : Hid ((∀ k, k < (d.1[j]?.getD id0).2.2.2.2.length → lostB d.1 ((d.1[j]?.getD id0).2.2.2.2[k]?.getD en0).2 = false) → ∀ i : Nat, i < j + 1 → ∀ k, k < (d.1[i]?.getD id0).2.2.2.2.length → lostB d.1 ((d.1[i]?.getD id0).2.2.2.2[k]?.getD en0).2 = false) := fun h i hi => by
              by_cases e : i = j
              · subst e; exact h
              · exact HZ.out i (by omega)
            generalize (d.1[j]?.getD id0).2.2.2.2 = es at *
            have HCB : Hid (AtN w1 aE es.length es) := hc3
            obtain ⟨nB, hnB⟩ : ∃ nB, nB = es.length := ⟨_, rfl⟩
            have HNB : Hid (nB = es.length) := hnB
            rw [← hnB] at g4 hm3
            unfold maxLen at hm3
            clear hc3 hnB HZ HE HP HAT HAY
            go_wp2
            go_loopw [8] (fun i wr => ∃ k m2 : Nat, k ≤ nB ∧ i = .int .i64 k ∧ wr = w1.drewN m2 ∧ ∀ i : Nat, i < k → lostB d.1 (es[i]?.getD en0).2 = false) (fun i _ => nB - (intOf i).toNat)
            case atStart => exact ⟨0, m, Nat.zero_le _, rfl, rfl, fun i hi => by omega⟩
            case round =>
              obtain ⟨k, m2, hk, rfl, rfl, hz⟩ := hrel
              have HZ : Hid (∀ i : Nat, i < k → lostB d.1 (es[i]?.getD en0).2 = false) := hz
              clear hz
              by_cases hlk : k < nB
              · obtain ⟨b1, o1, rfl, _, d1⟩ := HCB.out k (by rw [← HNB.out]; exact hlk)
                have hp := HPJ.out k (by rw [← HNB.out]; exact hlk)
                have HYK : Hid (lostB d.1 (es[k]?.getD en0).2 = true → 4 = fsE d) := HY.out k (by rw [← HNB.out]; exact hlk)
                have HRK : Hid (lostB d.1 (es[k]?.getD en0).2 = false → ∀ i : Nat, i < k + 1 → lostB d.1 (es[i]?.getD en0).2 = false) := fun h i hi => by
                  by_cases e : i = k
                  · subst e; exact h
                  · exact HZ.out i (by omega)
                clear HZ HPJ HY HCB HR
                generalize (es[k]?.getD en0).2 = x at *
                obtain ⟨t, rfl⟩ := Int.eq_ofNat_of_zero_le hp
                by_cases hbig : n ≤ t
                · have HE4 : Hid (4 = fsE d) := HYK.out (by unfold lostB; rw [HN.out]; simp [hbig])
                  have hdb : decide ((n : Int) ≤ (t : Int)) = true := by simp; omega
                  clear HYK HRK hp
                  go_wp2
                  go_ret
                  exact ⟨ret_int HE4.out, below_drewN HBL1.out _⟩
                · have hdb : decide ((n : Int) ≤ (t : Int)) = false := by simp; omega
                  obtain ⟨b2, o2, e2, hI⟩ := HAT1.out t (by omega)
                  simp only [Option.some.injEq, Addr.mk.injEq, and_true] at e2
                  obtain ⟨rfl, rfl⟩ := e2
                  obtain ⟨_, _, _, _, kt, _⟩ := hI
                  have kt' : w1.cell? ⟨bI, oI + t * 5, none⟩ = some (.int .i64 (kindAt d.1 t)) := kt
                  clear kt HAT1
                  by_cases hkz : kindAt d.1 t = 0
                  · have HE4 : Hid (4 = fsE d) := HYK.out (by unfold lostB; simp [hkz])
                    have hkb : (kindAt d.1 t == 0) = true := by simpa using hkz
                    clear HYK HRK hp hkz
                    generalize kindAt d.1 t = kk at *
                    go_wp2
                    go_ret
                    exact ⟨ret_int HE4.out, below_drewN HBL1.out _⟩
                  · have HRR : Hid (∀ i : Nat, i < k + 1 → lostB d.1 (es[i]?.getD en0).2 = false) := HRK.out (by unfold lostB; rw [HN.out]; simp [hkz]; omega)
                    have hkb : (kindAt d.1 t == 0) = false := by simpa using hkz
                    clear HYK HRK hp hkz
                    generalize kindAt d.1 t = kk at *
                    go_wp2
                    go_roundw
                    case rel => exact ⟨k + 1, _, by omega, by go_num, rfl, HRR.out⟩
                    case measure => simp [intOf]; omega
              · have HRR := HR.out fun i hi => HZ.out i (by rw [← HNB.out] at hi; omega)
                have HRH : Hid (∀ i : Nat, i < j + 1 → ∀ k, k < (d.1[i]?.getD id0).2.2.2.2.length → lostB d.1 ((d.1[i]?.getD id0).2.2.2.2[k]?.getD en0).2 = false) := HRR
                clear HRR HZ
                go_wp2
                go_roundw
                case rel => exact ⟨j + 1, _, by omega, by go_num, rfl, HRH.out⟩
                case measure => simp [intOf]; omega
          · have HEZ : Hid (0 = fsE d) := by unfold Hid; rw [← HE.out]; exact (lost_no fun i hi => HZ.out i (by rw [HN.out] at hi; omega)).symm
            go_wp2
            go_ret
            exact ⟨ret_int HEZ.out, below_drewN HBL1.out _⟩
/-- The contract over every file system. -/
theorem l6Entries_any (w : World) (b o : Nat) (d : FD) (aI : Option Addr) (cI : Nat) (aD : Option Addr) (cD : Nat) (h : FsX w b o d aI cI aD cD) (hs : sizeInos d.1 ≤ 1048576) :
    Calls Tryz.prog 54 #[.pointer (some ⟨b, o, none⟩)] w fun e w' => e = .returned (.int .i64 (fsE d)) ∧ Below w.heap.size w w' := by
  by_cases hi : insF d.1 = 0
  · cases hf : formB d with
    | true => exact (l6Ent_form w b o d aI cI aD cD h hi hf).mono fun e w' ⟨h1, m, h2⟩ => ⟨h1, by rw [h2]; exact below_drewN (Below.refl _ _) m⟩
    | false => exact l6Ent_ok w b o d aI cI aD cD h hs hi hf
  · exact (l6Ent_bad w b o d aI cI aD cD h hi).mono fun e w' ⟨h1, m, h2⟩ => ⟨h1, by rw [h2]; exact below_drewN (Below.refl _ _) m⟩
end Go.Proofs.YtaibcofendjnnaaGreatDoor

namespace Go.Proofs.YtaibcofendjnnaaGreatDoor
open Go.RowKit
set_option maxRecDepth 100000

theorem IntsSO.set {w X : World} {g n cap : Nat} {v : Value} {zs : List Int} {zss : List (List Int)} {F : Nat → Prop} (h : IntsSO w (.slice (some ⟨g, 0, none⟩) n cap) zss F) {x : Nat} (hx : x < zss.length) (hb : Below w.heap.size w X) (hF : ∀ b, F b → b < w.heap.size) (hv : IntsO X v zs (fresh w X)) :
    IntsSO (X.setCell ⟨g, x, none⟩ v) (.slice (some ⟨g, 0, none⟩) n cap) (zss.set x zs) (fun b => F b ∨ fresh w X b) := by
  rcases h with ⟨h, _⟩ | ⟨b, cap', u, G, hFb, hG, hGG, h1, h2, h3, h4⟩
  · subst h; simp at hx
  · simp only [Value.slice.injEq, Option.some.injEq, Addr.mk.injEq, and_true] at h1
    obtain ⟨rfl, rfl, rfl⟩ := h1
    have hgl := h3.lt
    refine Or.inr ⟨g, cap, fun j => if j = x then v else u j, fun i c => (i = x ∧ fresh w X c) ∨ (i ≠ x ∧ G i c), Or.inl hFb, fun i c hc => ?_, fun i j c e h5 h6 => ?_, by simp, by simpa using h2, by simpa using (h3.block (hb.block g hgl)).set x v, fun i hi => ?_⟩
    · rcases hc with ⟨_, hc⟩ | ⟨_, hc⟩
      · exact ⟨Or.inr hc, fun e => by have := hc.1; omega⟩
      · exact ⟨Or.inl (hG i c hc).1, (hG i c hc).2⟩
    · rcases h5 with ⟨e5, h5⟩ | ⟨e5, h5⟩ <;> rcases h6 with ⟨e6, h6⟩ | ⟨e6, h6⟩
      · omega
      · have := h5.1; have := hF c (hG j c h6).1; omega
      · have := h6.1; have := hF c (hG i c h5).1; omega
      · exact hGG i j c e h5 h6
    · simp only [List.length_set] at hi
      by_cases e : i = x
      · subst e
        have h7 : IntsO X v zs (fun c => (i = i ∧ fresh w X c) ∨ (i ≠ i ∧ G i c)) := hv.mono fun c hc => Or.inl ⟨rfl, hc⟩
        show IntsO _ (if i = i then v else u i) _ (fun c => (i = i ∧ fresh w X c) ∨ (i ≠ i ∧ G i c))
        rw [if_pos rfl, List.getElem?_set_self hx, Option.getD_some]
        refine h7.keep fun c hc _ => Below.heap_setCell _ _ _ _ ?_
        rcases hc with ⟨_, hc⟩ | ⟨hc, _⟩
        · show c ≠ g
          have := hc.1; omega
        · exact absurd rfl hc
      · show IntsO _ (if i = x then v else u i) _ (fun c => (i = x ∧ fresh w X c) ∨ (i ≠ x ∧ G i c))
        rw [if_neg e, List.getElem?_set_ne (fun h => e h.symm)]
        have h7 : IntsO w (u i) (zss[i]?.getD []) (fun c => (i = x ∧ fresh w X c) ∨ (i ≠ x ∧ G i c)) := (h4 i hi).mono fun c hc => Or.inr ⟨e, hc⟩
        refine h7.keep fun c hc hlt => ?_
        rcases hc with ⟨hc, _⟩ | ⟨_, hc⟩
        · exact absurd hc e
        · rw [Below.heap_setCell _ _ _ _ (show c ≠ g from (hG i c hc).2), hb.block c hlt]

theorem Box2.store {w : World} {b : Nat} {x y : Value} (h : Box2 w b x y) {p : Addr} (hp : b ≠ p.block) (v : Value) : Box2 (w.setCell p v) b x y :=
  ⟨(World.cell?_of_block (w := w) (a := ⟨b, 0, none⟩) (Below.heap_setCell _ _ _ _ hp)).trans h.1, (World.cell?_of_block (w := w) (a := ⟨b, 1, none⟩) (Below.heap_setCell _ _ _ _ hp)).trans h.2⟩
theorem IntsSO.cell {w : World} {a : Option Addr} {n cap : Nat} {zss : List (List Int)} {F : Nat → Prop} (h : IntsSO w (.slice a n cap) zss F) {x : Nat} (hx : x < zss.length) :
    ∃ g ua un uc, a = some ⟨g, 0, none⟩ ∧ F g ∧ g < w.heap.size ∧ w.cell? ⟨g, x, none⟩ = some (.slice ua un uc) ∧ w.frozen? ⟨g, x, none⟩ = false := by
  rcases h with ⟨h, _⟩ | ⟨b, cap', u, G, hFb, _, _, h1, _, h3, h4⟩
  · subst h; simp at hx
  · simp only [Value.slice.injEq] at h1
    obtain ⟨rfl, rfl, rfl⟩ := h1
    have hu : ∃ ua un uc, u x = .slice ua un uc := by
      rcases h4 x hx with ⟨_, a, c, e⟩ | ⟨_, _, _, e, _⟩
      · exact ⟨_, _, _, e⟩
      · exact ⟨_, _, _, e⟩
    obtain ⟨ua, un, uc, e⟩ := hu
    exact ⟨b, ua, un, uc, rfl, hFb, h3.lt, by rw [h3.cell hx, e], h3.frozen x⟩

/-- The blocks behind the first k puts of those that are picked. -/
def keepTo (pk : Nat → Bool) (bs : List (List Int)) (ps : List (Int × List Int)) : Nat → List (List Int)
  | 0 => bs
  | k + 1 => if pk k then (keepTo pk bs ps k).set (ps[k]?.getD (0, [])).1.toNat (ps[k]?.getD (0, [])).2 else keepTo pk bs ps k
theorem keepTo_length (pk : Nat → Bool) (bs : List (List Int)) (ps : List (Int × List Int)) (k : Nat) : (keepTo pk bs ps k).length = bs.length := by
  induction k with
  | zero => rfl
  | succ k ih => unfold keepTo; split <;> simp [ih]
theorem keepTo_len (pk : Nat → Bool) (bs : List (List Int)) (ps : List (Int × List Int)) {M : Nat} (hz : ∀ k : Nat, (bs[k]?.getD []).length ≤ M) (hzp : ∀ k : Nat, (ps[k]?.getD (0, [])).2.length ≤ M) (k : Nat) : ∀ i : Nat, ((keepTo pk bs ps k)[i]?.getD []).length ≤ M := by
  induction k with
  | zero => exact hz
  | succ k ih =>
    intro i
    unfold keepTo
    split
    · rw [List.getElem?_set]
      split
      · split
        · exact hzp k
        · simp
      · exact ih i
    · exact ih i
theorem keepTo_step {pk : Nat → Bool} {bs : List (List Int)} {ps : List (Int × List Int)} {k : Nat} (h : pk k = true) : keepTo pk bs ps (k + 1) = (keepTo pk bs ps k).set (ps[k]?.getD (0, [])).1.toNat (ps[k]?.getD (0, [])).2 := by simp [keepTo, h]
theorem keepTo_skip {pk : Nat → Bool} {bs : List (List Int)} {ps : List (Int × List Int)} {k : Nat} (h : pk k = false) : keepTo pk bs ps (k + 1) = keepTo pk bs ps k := by simp [keepTo, h]
end Go.Proofs.YtaibcofendjnnaaGreatDoor

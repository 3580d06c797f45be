/- The specification's other counts and places. The specification's lists of blocks. The specification: what is wrong of inodes, data and entries of a file system. The specification: what is wrong of inodes, data and entries of a file system, the rest. The program's InodeFault. The program's InodeFault: its kinds. -/
import Derived.Test.YtlacppjlclfpmaaM05
import Derived.Test.YtlacppjlclfpmaaM04
import Derived.Laws.Cover1
namespace Go.Proofs.Ytlacppjlclfpmaa
open Go.RowKit
set_option maxRecDepth 100000

theorem l5Count_any {w : World} {vv : Value} {ds : List ID} (h : Inos w vv ds) (hs : sizeInos ds ≤ 1048576) (v : Int) :
    Calls Try.prog 70 #[vv, .int .i64 v] w fun e w' => e = .returned (.int .i64 ((cntB ds v : Nat) : Int)) ∧ ∃ m, w' = w.drewN m := by
  obtain ⟨a, cap, rfl, hm, hc⟩ := h.open'
  unfold sizeInos at hs
  exact l5Count_walk w a _ cap ds v (by omega) rfl (by omega) hc

set_option maxHeartbeats 1600000 in
theorem l5Among_walk (w : World) (a : Option Addr) (n c : Nat) (zs : List Int) (v : Int) (hn : n ≤ maxLen) (hzn : zs.length = n) (hc : At1 w a n (fun k => .int .i64 (zs[k]?.getD 0))) :
    Calls Try.prog 71 #[.slice a n c, .int .i64 v] w fun e w' => e = .returned (.bool (zs.contains v)) ∧ ∃ m, w' = w.drewN m := by
  unfold maxLen at hn
  have HC : Hid (At1 w a n (fun k => .int .i64 (zs[k]?.getD 0))) := hc
  have HN : Hid (zs.length = n) := hzn
  clear hc hzn
  go_enter Try.func71, Try.ntmps71
  go_wp2
  go_loopw [5] (fun i wr => ∃ j m : Nat, j ≤ n ∧ i = .int .i64 j ∧ wr = w.drewN m ∧ ∀ i : Nat, i < j → ¬ zs[i]?.getD 0 = v) (fun i _ => n - (intOf i).toNat)
  case atStart => exact ⟨0, 0, Nat.zero_le _, rfl, rfl, fun i hi => by omega⟩
  case round =>
    obtain ⟨j, m, hj, rfl, rfl, hz⟩ := hrel
    have HZ : Hid (∀ i : Nat, i < j → ¬ zs[i]?.getD 0 = v) := hz
    clear hz
    by_cases hlt : j < n
    · obtain ⟨b, o, rfl, d1⟩ := HC.out j hlt
      replace d1 : w.cell? ⟨b, o + j, none⟩ = some (.int .i64 (zs[j]?.getD 0)) := d1
      by_cases hxv : zs[j]?.getD 0 = v
      · have HR : Hid (zs.contains v = true) := by
          unfold Hid
          rw [List.contains_iff_mem, ← hxv, List.getElem?_eq_getElem (by rw [HN.out]; exact hlt)]
          simp
        have hxb : (zs[j]?.getD 0 == v) = true := by simpa using hxv
        clear hxv HC
        generalize zs[j]?.getD 0 = x at *
        go_wp2
        go_ret
        exact ⟨ret_bool HR.out.symm, _, rfl⟩
      · have HR : Hid (∀ i : Nat, i < j + 1 → ¬ zs[i]?.getD 0 = v) := fun i hi => by
          by_cases e : i = j
          · subst e; exact hxv
          · exact HZ.out i (by omega)
        have hxb : (zs[j]?.getD 0 == v) = false := by simpa using hxv
        clear hxv HC
        generalize zs[j]?.getD 0 = x at *
        go_wp2
        go_roundw
        case rel => exact ⟨j + 1, _, by omega, by go_num, rfl, HR.out⟩
        case measure => simp [intOf]; omega
    · have HR : Hid (zs.contains v = false) := by
        unfold Hid
        rw [Bool.eq_false_iff]
        intro h
        rw [List.contains_iff_mem] at h
        obtain ⟨i, hi, he⟩ := List.getElem_of_mem h
        exact HZ.out i (by rw [HN.out] at hi; omega) (by rw [List.getElem?_eq_getElem hi]; exact he)
      go_wp2
      go_ret
      exact ⟨ret_bool HR.out.symm, _, rfl⟩
theorem l5Among_any {w : World} {vv : Value} {zs : List Int} (h : Ints w vv zs) (v : Int) :
    Calls Try.prog 71 #[vv, .int .i64 v] w fun e w' => e = .returned (.bool (zs.contains v)) ∧ ∃ m, w' = w.drewN m := by
  obtain ⟨a, cap, rfl, hm, hc⟩ := h.open'
  exact l5Among_walk w a _ cap zs v hm rfl hc

set_option maxHeartbeats 800000 in
theorem l5Busy_many (w : World) (a : Option Addr) (n c : Nat) (hn : 20 < n) :
    Calls Try.prog 39 #[.slice a n c] w fun e w' => e = .returned (.int .i64 2) ∧ w' = w := by
  have h6 : decide ((20 : Int) < (n : Int)) = true := by simp; omega
  go_enter Try.func39, Try.ntmps39
  go_wp2
  go_ret
  exact ⟨rfl, rfl⟩
set_option maxHeartbeats 1600000 in
theorem l5Busy_walk (w : World) (a : Option Addr) (n c : Nat) (zs : List Int) (hn : n ≤ 20) (hzn : zs.length = n) (hc : At1 w a n (fun k => .int .i64 (zs[k]?.getD 0))) :
    Calls Try.prog 39 #[.slice a n c] w fun e w' => e = .returned (.int .i64 (fstNZ (rngF zs) zs.length)) ∧ ∃ m, w' = w.drewN m := by
  have HC : Hid (At1 w a n (fun k => .int .i64 (zs[k]?.getD 0))) := hc
  have HN : Hid (zs.length = n) := hzn
  have h6 : decide ((20 : Int) < (n : Int)) = false := by simp; omega
  clear hc hzn
  go_enter Try.func39, Try.ntmps39
  go_wp2
  go_loopw [3] (fun i wr => ∃ j m : Nat, j ≤ n ∧ i = .int .i64 j ∧ wr = w.drewN m ∧ ∀ i : Nat, i < j → rngF zs i = 0) (fun i _ => n - (intOf i).toNat)
  case atStart => exact ⟨0, 0, Nat.zero_le _, rfl, rfl, fun i hi => by omega⟩
  case round =>
    obtain ⟨j, m, hj, rfl, rfl, hz⟩ := hrel
    have HZ : Hid (∀ i : Nat, i < j → rngF zs i = 0) := hz
    clear hz
    by_cases hlt : j < n
    · obtain ⟨b, o, rfl, d1⟩ := HC.out j hlt
      replace d1 : w.cell? ⟨b, o + j, none⟩ = some (.int .i64 (zs[j]?.getD 0)) := d1
      have HT : Hid (¬ rngF zs j = 0 → rngF zs j = fstNZ (rngF zs) zs.length) := fun h => (fstNZ_at (f := rngF zs) HZ.out h (by rw [HN.out]; exact hlt)).symm
      by_cases hxv : 0 ≤ zs[j]?.getD 0 ∧ zs[j]?.getD 0 ≤ 19
      · have HR : Hid (∀ i : Nat, i < j + 1 → rngF zs i = 0) := fun i hi => by
          by_cases e : i = j
          · subst e; unfold rngF; rw [if_pos hxv]
          · exact HZ.out i (by omega)
        have HQ : Hid (decide (0 ≤ zs[j]?.getD 0 ∧ zs[j]?.getD 0 ≤ 19) = true) := by unfold Hid; simpa using hxv
        clear hxv HC HT
        generalize zs[j]?.getD 0 = x at *
        go_wp2_with fail
        refine (l1In_is HQ.out).mono ?_
        rintro e w1 ⟨rfl, rfl⟩
        go_wp2
        go_roundw
        case rel => exact ⟨j + 1, _, by omega, by go_num, rfl, HR.out⟩
        case measure => simp [intOf]; omega
      · have HR : Hid (3 = fstNZ (rngF zs) zs.length) := by
          have h3 : rngF zs j = 3 := by unfold rngF; rw [if_neg hxv]
          have := HT.out (by rw [h3]; omega)
          rwa [h3] at this
        have HQ : Hid (decide (0 ≤ zs[j]?.getD 0 ∧ zs[j]?.getD 0 ≤ 19) = false) := by unfold Hid; simpa using hxv
        clear hxv HC HT
        generalize zs[j]?.getD 0 = x at *
        go_wp2_with fail
        refine (l1In_is HQ.out).mono ?_
        rintro e w1 ⟨rfl, rfl⟩
        go_wp2
        go_ret
        exact ⟨ret_int HR.out, m, rfl⟩
    · go_wp2
      go_ret
      exact ⟨ret_int (fstNZ_zero (fun i hi => HZ.out i (by rw [HN.out] at hi; omega))).symm, m, rfl⟩
theorem l5Busy_any {w : World} {vv : Value} {zs : List Int} (h : Ints w vv zs) :
    Calls Try.prog 39 #[vv] w fun e w' => e = .returned (.int .i64 (busF zs)) ∧ ∃ m, w' = w.drewN m := by
  obtain ⟨a, cap, rfl, hm, hc⟩ := h.open'
  unfold busF
  by_cases h : 20 < zs.length
  · rw [if_pos h]
    exact (l5Busy_many w _ _ _ h).mono fun e w' ⟨h1, h2⟩ => ⟨h1, 0, h2⟩
  · rw [if_neg h]
    exact l5Busy_walk w a _ cap zs (by omega) rfl hc

end Go.Proofs.Ytlacppjlclfpmaa

namespace Go.Proofs.Ytlacppjlclfpmaa
open Go.RowKit
set_option maxRecDepth 100000

theorem Wds.lit0 (w : World) : Wds (w.alloc (.cells #[] 2)) w.heap.size (.slice (Option.some ⟨w.heap.size, 0, none⟩) 0 0) [] := Wds.lit w w.heap.size (Nat.le_refl _) [] #[] rfl 0 rfl (by omega)

set_option maxHeartbeats 3200000 in
theorem l5Used_any {w : World} {v : Value} {ds : List ID} (h : Inos w v ds) (hs : sizeInos ds ≤ 1048576) :
    Calls Try.prog 53 #[v] w fun e w' => ∃ a c, e = .returned (.tuple #[.slice a (selL (usedP ds) 20).length c, .bool (onceB ds 20)]) ∧ Below w.heap.size w w' ∧ Wds w' w.heap.size (.slice a (selL (usedP ds) 20).length c) (selL (usedP ds) 20) := by
  obtain ⟨a, cap, rfl, _⟩ := h.open'
  have HC : Hid (∀ W, Below w.heap.size w W → ∀ j : Nat, Calls Try.prog 70 #[.slice a ds.length cap, .int .i64 (j : Int)] W fun e w' => e = .returned (.int .i64 ((cntB ds (j : Int) : Nat) : Int)) ∧ ∃ m, w' = W.drewN m) := fun W hW j => l5Count_any (h.later hW) hs (j : Int)
  have HCB : Hid (∀ j : Int, cntB ds j ≤ 1048576) := fun j => by
    have h2 := allB_len ds
    have h3 := List.count_le_length (a := j) (l := allB ds)
    unfold sizeInos at hs
    unfold cntB
    omega
  have HY : Hid (∀ j : Nat, 0 < cntB ds (j : Int) → selL (usedP ds) (j + 1) = selL (usedP ds) j ++ [(j : Int)]) := fun j hj => selL_yes (by simpa [usedP] using hj)
  have HNO : Hid (∀ j : Nat, ¬ 0 < cntB ds (j : Int) → selL (usedP ds) (j + 1) = selL (usedP ds) j) := fun j hj => selL_no (by simpa [usedP] using hj)
  have HL : Hid (∀ j, (selL (usedP ds) j).length ≤ j) := fun j => selL_len _ _
  have HO : Hid (∀ j, onceB ds (j + 1) = (onceB ds j && decide (cntB ds (j : Int) ≤ 1))) := fun j => onceB_next ds j
  have HO0 : Hid (onceB ds 0 = true) := rfl
  have HS0 : Hid (selL (usedP ds) 0 = []) := rfl
  generalize usedP ds = p at *
  generalize onceB ds = on at *
  generalize ds.length = n at *
  clear h hs
  go_enter Try.func53, Try.ntmps53
  go_wp2
  go_loopw [4, 5, 6] (fun o q i wr => ∃ (j : Nat) (v : Value), j ≤ 20 ∧ i = .int .i64 j ∧ o = v ∧ q = .bool (on j) ∧ Below w.heap.size w wr ∧ Wds wr w.heap.size v (selL p j)) (fun _ _ i _ => 20 - (intOf i).toNat)
  case atStart => exact ⟨0, _, Nat.zero_le _, rfl, rfl, by rw [HO0.out], later1 _ _, by rw [HS0.out]; exact Wds.lit0 w⟩
  case round =>
    obtain ⟨j, v, hj, rfl, rfl, rfl, hbl, hwd⟩ := hrel
    obtain ⟨aV, cV, rfl⟩ := hwd.shape
    have HBL : Hid (Below w.heap.size w wr) := hbl
    have HWD : Hid (Wds wr w.heap.size (.slice aV (selL p j).length cV) (selL p j)) := hwd
    clear hbl hwd
    by_cases hlt : j < 20
    · have HC' := HC.out wr HBL.out j
      have HCC : Hid (Calls Try.prog 70 #[.slice a n cap, .int .i64 (j : Int)] wr fun e w' => e = .returned (.int .i64 ((cntB ds (j : Int) : Nat) : Int)) ∧ ∃ m, w' = wr.drewN m) := HC'
      have hcb := HCB.out (j : Int)
      have HOJ := HO.out j
      have HY' := HY.out j
      have HN' := HNO.out j
      have hlj := HL.out j
      clear HC'
      generalize cntB ds (j : Int) = cnt at *
      by_cases h0 : 0 < cnt
      · have HYJ : Hid (selL p (j + 1) = selL p j ++ [(j : Int)]) := HY' h0
        have hd0 : decide ((0 : Int) < (cnt : Int)) = true := by simp; omega
        clear HY' HN'
        have HOJ' : Hid (on (j + 1) = (on j && decide (cnt ≤ 1))) := HOJ
        clear HOJ
        generalize on j = bo at *
        have tail : ∀ (b1 : Bool), decide ((cnt : Int) ≤ 1) = b1 → Hid (on (j + 1) = (bo && b1)) := fun b1 hb => by unfold Hid; rw [HOJ'.out, ← hb]; congr 1; rw [decide_eq_decide]; omega
        cases hb1 : decide ((cnt : Int) ≤ 1) with
        | true =>
          have HF : Hid (on (j + 1) = (bo && true)) := tail true hb1
          clear tail HOJ'
          go_wp2_with fail
          refine HCC.out.mono ?_
          rintro e w1 ⟨rfl, m, rfl⟩
          obtain ⟨a', c', X, hr, hw, hb, _⟩ := append_w1 (wr.drewN m) w.heap.size _ (selL p j) (j : Int) HWD.out HBL.out.size (by omega)
          have HR : Hid (_ = _) := hr
          rw [← HYJ.out] at HR hw
          have HW : Hid (Wds X w.heap.size _ (selL p (j + 1))) := hw
          have HB : Hid (Below w.heap.size w X) := (below_drewN HBL.out m).trans hb
          clear hr hw hb
          cases bo
          all_goals
            go_wp2_with (at_builtin; refine wpList_append_run rfl _ _ 37 rfl _ _ rfl rfl _ _ HR.out ?_)
            go_roundw
            case rel => exact ⟨j + 1, _, by omega, by go_num, rfl, by rw [HF.out]; rfl, HB.out, HW.out⟩
            case measure => simp [intOf]; omega
        | false =>
          have HF : Hid (on (j + 1) = (bo && false)) := tail false hb1
          clear tail HOJ'
          go_wp2_with fail
          refine HCC.out.mono ?_
          rintro e w1 ⟨rfl, m, rfl⟩
          obtain ⟨a', c', X, hr, hw, hb, _⟩ := append_w1 (wr.drewN m) w.heap.size _ (selL p j) (j : Int) HWD.out HBL.out.size (by omega)
          have HR : Hid (_ = _) := hr
          rw [← HYJ.out] at HR hw
          have HW : Hid (Wds X w.heap.size _ (selL p (j + 1))) := hw
          have HB : Hid (Below w.heap.size w X) := (below_drewN HBL.out m).trans hb
          clear hr hw hb
          cases bo
          all_goals
            go_wp2_with (at_builtin; refine wpList_append_run rfl _ _ 37 rfl _ _ rfl rfl _ _ HR.out ?_)
            go_roundw
            case rel => exact ⟨j + 1, _, by omega, by go_num, rfl, by rw [HF.out]; rfl, HB.out, HW.out⟩
            case measure => simp [intOf]; omega
      · have HNJ : Hid (selL p (j + 1) = selL p j) := HN' h0
        have hc0 : cnt = 0 := by omega
        subst hc0
        have HF : Hid (on (j + 1) = (on j && true)) := HOJ
        clear HY' HN' HOJ h0
        have HW : Hid (Wds wr w.heap.size (.slice aV (selL p j).length cV) (selL p (j + 1))) := by unfold Hid; rw [HNJ.out]; exact HWD.out
        generalize on j = bo at *
        cases bo
        all_goals
          go_wp2_with fail
          refine HCC.out.mono ?_
          rintro e w1 ⟨rfl, m, rfl⟩
          go_wp2
          go_roundw
          case rel => exact ⟨j + 1, _, by omega, by go_num, rfl, by rw [HF.out]; rfl, below_drewN HBL.out m, HW.out⟩
          case measure => simp [intOf]; omega
    · have he : j = 20 := by omega
      subst he
      clear hlt
      go_wp2
      go_ret2
      exact ⟨_, _, rfl, HBL.out, HWD.out⟩

set_option maxHeartbeats 3200000 in
theorem l5Free_any {w : World} {v v' : Value} {ds : List ID} {bs : List Int} (h : Inos w v ds) (h' : Ints w v' bs) (hs : sizeInos ds ≤ 1048576) :
    Calls Try.prog 40 #[v, v'] w fun e w' => ∃ a c, e = .returned (.slice a (selL (freeP ds bs) 20).length c) ∧ Below w.heap.size w w' ∧ Wds w' w.heap.size (.slice a (selL (freeP ds bs) 20).length c) (selL (freeP ds bs) 20) := by
  obtain ⟨a, cap, rfl, _⟩ := h.open'
  obtain ⟨a', cap', rfl, _⟩ := h'.open'
  have HC : Hid (∀ W, Below w.heap.size w W → ∀ j : Nat, Calls Try.prog 70 #[.slice a ds.length cap, .int .i64 (j : Int)] W fun e w' => e = .returned (.int .i64 ((cntB ds (j : Int) : Nat) : Int)) ∧ ∃ m, w' = W.drewN m) := fun W hW j => l5Count_any (h.later hW) hs (j : Int)
  have HA : Hid (∀ W, Below w.heap.size w W → ∀ j : Nat, Calls Try.prog 71 #[.slice a' bs.length cap', .int .i64 (j : Int)] W fun e w' => e = .returned (.bool (bs.contains (j : Int))) ∧ ∃ m, w' = W.drewN m) := fun W hW j => l5Among_any (h'.later hW) (j : Int)
  have HY : Hid (∀ j : Nat, cntB ds (j : Int) = 0 → bs.contains (j : Int) = false → selL (freeP ds bs) (j + 1) = selL (freeP ds bs) j ++ [(j : Int)]) := fun j h1 h2 => selL_yes (by unfold freeP; rw [h2]; simpa using h1)
  have HN1 : Hid (∀ j : Nat, ¬ cntB ds (j : Int) = 0 → selL (freeP ds bs) (j + 1) = selL (freeP ds bs) j) := fun j h1 => selL_no (by unfold freeP; rw [decide_eq_false h1]; rfl)
  have HN2 : Hid (∀ j : Nat, bs.contains (j : Int) = true → selL (freeP ds bs) (j + 1) = selL (freeP ds bs) j) := fun j h1 => selL_no (by unfold freeP; rw [h1]; simp)
  have HL : Hid (∀ j, (selL (freeP ds bs) j).length ≤ j) := fun j => selL_len _ _
  have HS0 : Hid (selL (freeP ds bs) 0 = []) := rfl
  generalize freeP ds bs = p at *
  generalize ds.length = n at *
  generalize bs.length = n' at *
  clear h h' hs
  go_enter Try.func40, Try.ntmps40
  go_wp2
  go_loopw [5, 6] (fun o i wr => ∃ (j : Nat) (v : Value), j ≤ 20 ∧ i = .int .i64 j ∧ o = v ∧ Below w.heap.size w wr ∧ Wds wr w.heap.size v (selL p j)) (fun _ i _ => 20 - (intOf i).toNat)
  case atStart => exact ⟨0, _, Nat.zero_le _, rfl, rfl, later1 _ _, by rw [HS0.out]; exact Wds.lit0 w⟩
  case round =>
    obtain ⟨j, v, hj, rfl, rfl, hbl, hwd⟩ := hrel
    obtain ⟨aV, cV, rfl⟩ := hwd.shape
    have HBL : Hid (Below w.heap.size w wr) := hbl
    have HWD : Hid (Wds wr w.heap.size (.slice aV (selL p j).length cV) (selL p j)) := hwd
    clear hbl hwd
    by_cases hlt : j < 20
    · have HCC : Hid (Calls Try.prog 70 #[.slice a n cap, .int .i64 (j : Int)] wr fun e w' => e = .returned (.int .i64 ((cntB ds (j : Int) : Nat) : Int)) ∧ ∃ m, w' = wr.drewN m) := HC.out wr HBL.out j
      have HAA : Hid (∀ m, Calls Try.prog 71 #[.slice a' n' cap', .int .i64 (j : Int)] (wr.drewN m) fun e w' => e = .returned (.bool (bs.contains (j : Int))) ∧ ∃ m', w' = (wr.drewN m).drewN m') := fun m => HA.out _ (below_drewN HBL.out m) j
      have HYJ := HY.out j
      have HN1J := HN1.out j
      have HN2J := HN2.out j
      have hlj := HL.out j
      generalize cntB ds (j : Int) = cnt at *
      generalize bs.contains (j : Int) = bb at *
      by_cases h0 : cnt = 0
      · subst h0
        cases bb
        · have HYY : Hid (selL p (j + 1) = selL p j ++ [(j : Int)]) := HYJ rfl rfl
          clear HYJ HN1J HN2J
          go_wp2_with fail
          refine HCC.out.mono ?_
          rintro e w1 ⟨rfl, m, rfl⟩
          go_wp2_with fail
          refine (HAA.out m).mono ?_
          rintro e w1 ⟨rfl, m2, rfl⟩
          obtain ⟨a2, c2, X, hr, hw, hb, _⟩ := append_w1 (wr.drewN (m + m2)) w.heap.size _ (selL p j) (j : Int) HWD.out HBL.out.size (by omega)
          have HR : Hid (_ = _) := hr
          rw [← HYY.out] at HR hw
          have HW : Hid (Wds X w.heap.size _ (selL p (j + 1))) := hw
          have HB : Hid (Below w.heap.size w X) := (below_drewN HBL.out _).trans hb
          clear hr hw hb
          go_wp2_with (at_builtin; refine wpList_append_run rfl _ _ 37 rfl _ _ rfl rfl _ _ HR.out ?_)
          go_roundw
          case rel => exact ⟨j + 1, _, by omega, by go_num, rfl, HB.out, HW.out⟩
          case measure => simp [intOf]; omega
        · have HYY : Hid (selL p (j + 1) = selL p j) := HN2J rfl
          clear HYJ HN1J HN2J
          have HW : Hid (Wds wr w.heap.size (.slice aV (selL p j).length cV) (selL p (j + 1))) := by unfold Hid; rw [HYY.out]; exact HWD.out
          go_wp2_with fail
          refine HCC.out.mono ?_
          rintro e w1 ⟨rfl, m, rfl⟩
          go_wp2_with fail
          refine (HAA.out m).mono ?_
          rintro e w1 ⟨rfl, m2, rfl⟩
          go_wp2
          go_roundw
          case rel => exact ⟨j + 1, _, by omega, by go_num, rfl, below_drewN HBL.out _, HW.out⟩
          case measure => simp [intOf]; omega
      · have HYY : Hid (selL p (j + 1) = selL p j) := HN1J h0
        clear HYJ HN1J HN2J
        have hcc : ((cnt : Int) == 0) = false := by rw [beq_eq_false_iff_ne]; omega
        clear h0
        have HW : Hid (Wds wr w.heap.size (.slice aV (selL p j).length cV) (selL p (j + 1))) := by unfold Hid; rw [HYY.out]; exact HWD.out
        go_wp2_with fail
        refine HCC.out.mono ?_
        rintro e w1 ⟨rfl, m, rfl⟩
        go_wp2
        go_roundw
        case rel => exact ⟨j + 1, _, by omega, by go_num, rfl, below_drewN HBL.out _, HW.out⟩
        case measure => simp [intOf]; omega
    · have he : j = 20 := by omega
      subst he
      clear hlt
      go_wp2
      go_ret
      exact ⟨_, _, rfl, HBL.out, HWD.out⟩
end Go.Proofs.Ytlacppjlclfpmaa

namespace Go.Proofs.Ytlacppjlclfpmaa
open Go.RowKit
set_option maxRecDepth 100000

/-- A file system lies at b, o. -/
structure FsX (w : World) (b o : Nat) (d : FD) (aI : Option Addr) (cI : Nat) (aD : Option Addr) (cD : Nat) : Prop where
  c0 : w.cell? ⟨b, o, none⟩ = some (.slice aI d.1.length cI)
  c1 : w.cell? ⟨b, o + 1, none⟩ = some (.slice aD d.2.length cD)
  ins : Inos w (.slice aI d.1.length cI) d.1
  byt : Byts w (.slice aD d.2.length cD) d.2
theorem FsX.later {w w' : World} {b o : Nat} {d : FD} {aI : Option Addr} {cI : Nat} {aD : Option Addr} {cD : Nat} (h : FsX w b o d aI cI aD cD) (hb : Below w.heap.size w w') : FsX w' b o d aI cI aD cD :=
  ⟨cell_later hb h.c0, cell_later hb h.c1, h.ins.later hb, h.byt.later hb⟩
theorem FsX.drew {w : World} {b o : Nat} {d : FD} {aI : Option Addr} {cI : Nat} {aD : Option Addr} {cD : Nat} (h : FsX w b o d aI cI aD cD) (m : Nat) : FsX (w.drewN m) b o d aI cI aD cD := h.later (below_drewN (Below.refl _ _) m)

/-- An entry that leads nowhere. -/
def lostB (ds : List ID) (x : Int) : Bool := decide ((ds.length : Int) ≤ x) || decide (kindAt ds x.toNat = 0)
def formB (d : FD) : Bool := decide (d.1.length = 0) || decide (kindAt d.1 0 ≠ 2) || decide (d.2.length ≠ 20)
def manyF (zss : List (List UInt8)) (i : Nat) : Int := if 8 < (zss[i]?.getD []).length then 2 else 0
def lostF (ds : List ID) : Int := if (allE ds).any (lostB ds) then 4 else 0
/-- What is wrong of inodes, data and entries. -/
def fsE (d : FD) : Int := if insF d.1 = 0 then (if formB d then 1 else if fstNZ (manyF d.2) d.2.length = 0 then (if onceB d.1 20 then lostF d.1 else 7) else fstNZ (manyF d.2) d.2.length) else insF d.1

set_option maxHeartbeats 800000 in
theorem l6Ent_bad (w : World) (b o : Nat) (d : FD) (aI : Option Addr) (cI : Nat) (aD : Option Addr) (cD : Nat) (h : FsX w b o d aI cI aD cD) (hi : ¬ insF d.1 = 0) :
    Calls Try.prog 59 #[.pointer (some ⟨b, o, none⟩)] w fun e w' => e = .returned (.int .i64 (fsE d)) ∧ ∃ m, w' = w.drewN m := by
  have HE : Hid (insF d.1 = fsE d) := by unfold Hid fsE; rw [if_neg hi]
  have HF : Hid (Calls Try.prog 87 #[.slice aI d.1.length cI] w fun e w' => e = .returned (.int .i64 (insF d.1)) ∧ ∃ m, w' = w.drewN m) := l5Fault_any h.ins
  have c0 := h.c0
  have hb : (insF d.1 != 0) = true := by simpa using hi
  clear h hi
  generalize insF d.1 = r at *
  generalize d.1.length = n at *
  go_enter Try.func59, Try.ntmps59
  go_wp2_with fail
  refine HF.out.mono ?_
  rintro e w1 ⟨rfl, q, rfl⟩
  go_wp2
  go_ret
  exact ⟨ret_int HE.out, _, rfl⟩

set_option maxHeartbeats 1600000 in
theorem l6Ent_form (w : World) (b o : Nat) (d : FD) (aI : Option Addr) (cI : Nat) (aD : Option Addr) (cD : Nat) (h : FsX w b o d aI cI aD cD) (hi : insF d.1 = 0) (hf : formB d = true) :
    Calls Try.prog 59 #[.pointer (some ⟨b, o, none⟩)] w fun e w' => e = .returned (.int .i64 (fsE d)) ∧ ∃ m, w' = w.drewN m := by
  have HE : Hid (1 = fsE d) := by unfold Hid fsE; rw [if_pos hi, if_pos hf]
  have HF : Hid (Calls Try.prog 87 #[.slice aI d.1.length cI] w fun e w' => e = .returned (.int .i64 (insF d.1)) ∧ ∃ m, w' = w.drewN m) := l5Fault_any h.ins
  have c0 := h.c0
  have c1 := h.c1
  rw [hi] at HF
  obtain ⟨_, _, e1, hm1, hAt⟩ := h.ins.open'
  obtain ⟨_, _, e2, hm2, _⟩ := h.byt.open'
  simp only [Value.slice.injEq] at e1 e2
  obtain ⟨rfl, -, rfl⟩ := e1
  obtain ⟨rfl, -, rfl⟩ := e2
  unfold maxLen at hm1 hm2
  by_cases h0 : d.1.length = 0
  · have hb0 : (((d.1.length : Nat) : Int) == 0) = true := by simp [h0]
    clear h hi hf hAt h0
    generalize d.1.length = n at *
    generalize d.2.length = n2 at *
    go_enter Try.func59, Try.ntmps59
    go_wp2_with fail
    refine HF.out.mono ?_
    rintro e w1 ⟨rfl, q, rfl⟩
    go_wp2
    go_ret
    exact ⟨ret_int HE.out, _, rfl⟩
  · have hb0 : (((d.1.length : Nat) : Int) == 0) = false := by rw [beq_eq_false_iff_ne]; omega
    obtain ⟨bI, oI, rfl, hI⟩ := hAt 0 (by omega)
    obtain ⟨_, _, _, _, k0, _⟩ := hI
    rw [Nat.zero_mul, Nat.add_zero] at k0
    have k0' : w.cell? ⟨bI, oI, none⟩ = some (.int .i64 (kindAt d.1 0)) := k0
    by_cases h1 : kindAt d.1 0 = 2
    · have h2 : ¬ d.2.length = 20 := fun e => by simp [formB, h0, h1, e] at hf
      have hk : (kindAt d.1 0 != 2) = false := by simp [h1]
      have hd : (((d.2.length : Nat) : Int) != 20) = true := by simp; omega
      clear h hi hf hAt h1 h2 k0
      generalize kindAt d.1 0 = kk at *
      generalize d.1.length = n at *
      generalize d.2.length = n2 at *
      go_enter Try.func59, Try.ntmps59
      go_wp2_with fail
      refine HF.out.mono ?_
      rintro e w1 ⟨rfl, q, rfl⟩
      go_wp2
      go_ret
      exact ⟨ret_int HE.out, _, rfl⟩
    · have hk : (kindAt d.1 0 != 2) = true := by simpa using h1
      clear h hi hf hAt h1 k0
      generalize kindAt d.1 0 = kk at *
      generalize d.1.length = n at *
      generalize d.2.length = n2 at *
      go_enter Try.func59, Try.ntmps59
      go_wp2_with fail
      refine HF.out.mono ?_
      rintro e w1 ⟨rfl, q, rfl⟩
      go_wp2
      go_ret
      exact ⟨ret_int HE.out, _, rfl⟩
end Go.Proofs.Ytlacppjlclfpmaa

namespace Go.Proofs.Ytlacppjlclfpmaa
open Go.RowKit
set_option maxRecDepth 100000

theorem ins_ino {ds : List ID} (h : insF ds = 0) : ∀ j, j < ds.length → inoF (ds[j]?.getD id0) = 0 := by
  unfold insF at h
  by_cases h1 : 10 < ds.length
  · rw [if_pos h1] at h; omega
  · rw [if_neg h1] at h; exact fstNZ_inv h
theorem ino_ent {d : ID} (h : inoF d = 0) : ∀ k, k < d.2.2.2.2.length → 0 ≤ (d.2.2.2.2[k]?.getD en0).2 := by
  intro k hk
  have hd : dpB d = true := by unfold dpB; simpa using by omega
  unfold inoF at h
  by_cases h0 : d.1 = 0
  · rw [if_pos h0, hd, Bool.or_true, if_pos rfl] at h; omega
  · rw [if_neg h0] at h
    by_cases h1 : d.1 = 1
    · rw [if_pos h1, hd, if_pos rfl] at h; omega
    · rw [if_neg h1] at h
      by_cases h2 : d.1 = 2
      · rw [if_pos h2] at h
        by_cases h3 : fpB d = true
        · rw [if_pos h3] at h; omega
        · rw [if_neg h3] at h
          unfold dirF at h
          by_cases h4 : 6 < d.2.2.2.2.length
          · rw [if_pos h4] at h; omega
          · rw [if_neg h4] at h
            have h5 := fstNZ_inv h k hk
            unfold entF at h5
            by_cases h6 : nameF (d.2.2.2.2[k]?.getD en0).1 = 0
            · rw [if_pos h6] at h5
              by_cases h7 : 0 ≤ (d.2.2.2.2[k]?.getD en0).2 ∧ (d.2.2.2.2[k]?.getD en0).2 ≤ 9
              · exact h7.1
              · rw [if_neg h7] at h5; omega
            · rw [if_neg h6] at h5; exact absurd h5 h6
      · rw [if_neg h2] at h; omega
theorem mem_allE {ds : List ID} {x : Int} : x ∈ allE ds ↔ ∃ j, j < ds.length ∧ ∃ k, k < (ds[j]?.getD id0).2.2.2.2.length ∧ ((ds[j]?.getD id0).2.2.2.2[k]?.getD en0).2 = x := by
  unfold allE entI
  simp only [List.mem_flatMap, List.mem_map]
  constructor
  · rintro ⟨d, hd, e, he, rfl⟩
    obtain ⟨j, hj, rfl⟩ := List.getElem_of_mem hd
    obtain ⟨k, hk, rfl⟩ := List.getElem_of_mem he
    have e1 : ds[j]?.getD id0 = ds[j] := by simp [hj]
    exact ⟨j, hj, k, by rw [e1]; exact hk, by rw [e1]; simp [hk]⟩
  · rintro ⟨j, hj, k, hk, rfl⟩
    have e1 : ds[j]?.getD id0 = ds[j] := by simp [hj]
    rw [e1] at hk ⊢
    exact ⟨ds[j], List.getElem_mem hj, ds[j].2.2.2.2[k], List.getElem_mem hk, by simp [hk]⟩
theorem lost_yes {ds : List ID} {j k : Nat} (hj : j < ds.length) (hk : k < (ds[j]?.getD id0).2.2.2.2.length) (h : lostB ds ((ds[j]?.getD id0).2.2.2.2[k]?.getD en0).2 = true) : lostF ds = 4 := by
  unfold lostF; rw [if_pos (List.any_eq_true.2 ⟨_, mem_allE.2 ⟨j, hj, k, hk, rfl⟩, h⟩)]
theorem lost_no {ds : List ID} (h : ∀ j, j < ds.length → ∀ k, k < (ds[j]?.getD id0).2.2.2.2.length → lostB ds ((ds[j]?.getD id0).2.2.2.2[k]?.getD en0).2 = false) : lostF ds = 0 := by
  unfold lostF; rw [if_neg]
  intro h1
  obtain ⟨x, hx, h2⟩ := List.any_eq_true.1 h1
  obtain ⟨j, hj, k, hk, rfl⟩ := mem_allE.1 hx
  rw [h j hj k hk] at h2
  exact Bool.noConfusion h2

set_option maxHeartbeats 3200000 in
theorem l6Ent_ok (w : World) (b o : Nat) (d : FD) (aI : Option Addr) (cI : Nat) (aD : Option Addr) (cD : Nat) (h : FsX w b o d aI cI aD cD) (hs : sizeInos d.1 ≤ 1048576) (hi : insF d.1 = 0) (hf : formB d = false) :
    Calls Try.prog 59 #[.pointer (some ⟨b, o, none⟩)] w fun e w' => e = .returned (.int .i64 (fsE d)) ∧ Below w.heap.size w w' := by
  have HFE : Hid (fsE d = if fstNZ (manyF d.2) d.2.length = 0 then (if onceB d.1 20 then lostF d.1 else 7) else fstNZ (manyF d.2) d.2.length) := by unfold Hid fsE; rw [if_pos hi, if_neg (by rw [hf]; exact Bool.noConfusion)]
  have HF : Hid (Calls Try.prog 87 #[.slice aI d.1.length cI] w fun e w' => e = .returned (.int .i64 (insF d.1)) ∧ ∃ m, w' = w.drewN m) := l5Fault_any h.ins
  have HU : Hid (∀ W, Below w.heap.size w W → Calls Try.prog 53 #[.slice aI d.1.length cI] W fun e w' => ∃ a c, e = .returned (.tuple #[.slice a (selL (usedP d.1) 20).length c, .bool (onceB d.1 20)]) ∧ Below W.heap.size W w') := fun W hW => (l5Used_any (h.ins.later hW) hs).mono fun e w' ⟨a, c, h1, h2, _⟩ => ⟨a, c, h1, h2⟩
  have HX : Hid (FsX w b o d aI cI aD cD) := h
  have HP : Hid (∀ j, j < d.1.length → ∀ k, k < (d.1[j]?.getD id0).2.2.2.2.length → 0 ≤ ((d.1[j]?.getD id0).2.2.2.2[k]?.getD en0).2) := fun j hj => ino_ent (ins_ino hi j hj)
  have c0 := h.c0
  have c1 := h.c1
  rw [hi] at HF
  obtain ⟨_, _, e1, hm1, hAt⟩ := h.ins.open'
  obtain ⟨_, _, e2, hm2, hAy⟩ := h.byt.open'
  simp only [Value.slice.injEq] at e1 e2
  obtain ⟨rfl, -, rfl⟩ := e1
  obtain ⟨rfl, -, rfl⟩ := e2
  unfold maxLen at hm1 hm2
  have hff : ¬ d.1.length = 0 ∧ kindAt d.1 0 = 2 ∧ d.2.length = 20 := by
    simp only [formB, Bool.or_eq_false_iff, decide_eq_false_iff_not, ne_eq, Decidable.not_not] at hf
    exact ⟨hf.1.1, hf.1.2, hf.2⟩
  obtain ⟨h0, hk2, hl2⟩ := hff
  have hb0 : (((d.1.length : Nat) : Int) == 0) = false := by rw [beq_eq_false_iff_ne]; omega
  have HAY : Hid (AtYs w aD 20 d.2) := by rw [hl2] at hAy; exact hAy
  have HL2 : Hid (d.2.length = 20) := hl2
  have HAT : Hid (AtI w aI d.1.length d.1) := hAt
  rw [hl2] at c1
  have k0' : ∃ bI oI, aI = some ⟨bI, oI, none⟩ ∧ w.cell? ⟨bI, oI, none⟩ = some (.int .i64 2) := by
    obtain ⟨bI, oI, rfl, hI⟩ := hAt 0 (by omega)
    obtain ⟨_, _, _, _, k0, _⟩ := hI
    rw [Nat.zero_mul, Nat.add_zero] at k0
    exact ⟨bI, oI, rfl, by rw [k0]; exact congrArg (fun z => some (Value.int .i64 z)) hk2⟩
  obtain ⟨bI, oI, rfl, k0⟩ := k0'
  clear h hi hf hAt hAy hk2 hl2 hm2
  have HNN : Hid (∃ n, d.1.length = n) := ⟨_, rfl⟩
  obtain ⟨n, hn⟩ := HNN.out
  have HN : Hid (d.1.length = n) := hn
  rw [hn] at HF HU HP c0 hm1 hb0 HAT h0
  clear hn HNN
  go_enter Try.func59, Try.ntmps59
  go_wp2_with fail
  refine HF.out.mono ?_
  rintro e w1 ⟨rfl, q, rfl⟩
  go_wp2
  go_loopw [4] (fun i wr => ∃ j m : Nat, j ≤ 20 ∧ i = .int .i64 j ∧ wr = w.drewN m ∧ ∀ i : Nat, i < j → manyF d.2 i = 0) (fun i _ => 20 - (intOf i).toNat)
  case atStart => exact ⟨0, _, Nat.zero_le _, rfl, rfl, fun i hi => by omega⟩
  case round =>
    obtain ⟨j, m, hj, rfl, rfl, hz⟩ := hrel
    have HZ : Hid (∀ i : Nat, i < j → manyF d.2 i = 0) := hz
    clear hz k0
    by_cases hlt : j < 20
    · obtain ⟨b', o', ua, uc, rfl, d0, i0⟩ := HAY.out j hlt
      have hlb : (d.2[j]?.getD []).length ≤ maxLen := by obtain ⟨_, _, _, h5, _⟩ := i0; exact h5.1
      unfold maxLen at hlb
      clear i0
      by_cases h8 : 8 < (d.2[j]?.getD []).length
      · have HE : Hid (2 = fsE d) := by
          have e1 : manyF d.2 j = 2 := by unfold manyF; rw [if_pos h8]
          have e2 := fstNZ_at (f := manyF d.2) HZ.out (by rw [e1]; omega) (n := d.2.length) (by rw [HL2.out]; exact hlt)
          unfold Hid; rw [HFE.out, e2, e1]; rfl
        have hd8 : decide ((8 : Int) < ((d.2[j]?.getD []).length : Nat)) = true := by simp; omega
        clear HFE HZ h8
        generalize (d.2[j]?.getD []).length = ln at *
        go_wp2
        go_ret
        exact ⟨ret_int HE.out, below_drewN (Below.refl _ _) _⟩
      · have HR : Hid (∀ i : Nat, i < j + 1 → manyF d.2 i = 0) := fun i hi => by
          by_cases e : i = j
          · subst e; unfold manyF; rw [if_neg h8]
          · exact HZ.out i (by omega)
        have hd8 : decide ((8 : Int) < ((d.2[j]?.getD []).length : Nat)) = false := by simp; omega
        clear HFE HZ h8
        generalize (d.2[j]?.getD []).length = ln at *
        go_wp2
        go_roundw
        case rel => exact ⟨j + 1, _, by omega, by go_num, rfl, HR.out⟩
        case measure => simp [intOf]; omega
    · have HM : Hid (fsE d = if onceB d.1 20 then lostF d.1 else 7) := by
        have e2 := fstNZ_zero (f := manyF d.2) (n := d.2.length) (fun i hi => HZ.out i (by rw [HL2.out] at hi; omega))
        unfold Hid; rw [HFE.out, if_pos e2]
      have HBL0 : Hid (Below w.heap.size w (w.drewN m)) := below_drewN (Below.refl _ _) m
      have HUU := HU.out _ HBL0.out
      clear HFE HZ HU HF
      go_wp2_with fail
      refine HUU.mono ?_
      rintro e w1 ⟨au, cu, rfl, hb1⟩
      have HBL1 : Hid (Below w.heap.size w w1) := HBL0.out.trans hb1
      have hx1 := HX.out.later HBL1.out
      have c0 := hx1.c0
      rw [HN.out] at c0
      clear hb1 HUU HBL0 hx1 c1
      generalize (selL (usedP d.1) 20).length = lu at *
      cases hon : onceB d.1 20 with
      | false =>
        have HE : Hid (7 = fsE d) := by unfold Hid; rw [HM.out, hon]; rfl
        clear HM hon
        go_wp2
        go_ret
        exact ⟨ret_int HE.out, HBL1.out⟩
      | true =>
        have HE : Hid (lostF d.1 = fsE d) := by unfold Hid; rw [HM.out, hon]; rfl
        clear HM hon
        go_wp2
        go_loopw [7] (fun i wr => ∃ j m : Nat, j ≤ n ∧ i = .int .i64 j ∧ wr = w1.drewN m ∧ ∀ i : Nat, i < j → ∀ k, k < (d.1[i]?.getD id0).2.2.2.2.length → lostB d.1 ((d.1[i]?.getD id0).2.2.2.2[k]?.getD en0).2 = false) (fun i _ => n - (intOf i).toNat)
        case atStart => exact ⟨0, 0, Nat.zero_le _, rfl, rfl, fun i hi => by omega⟩
        case round =>
          obtain ⟨j, m, hj, rfl, rfl, hz⟩ := hrel
          have HZ : Hid (∀ i : Nat, i < j → ∀ k, k < (d.1[i]?.getD id0).2.2.2.2.length → lostB d.1 ((d.1[i]?.getD id0).2.2.2.2[k]?.getD en0).2 = false) := hz
          clear hz
          by_cases hlj : j < n
          · have hAT1 := HAT.out.later HBL1.out
            obtain ⟨b2, o2, e2, hI⟩ := hAT1 j hlj
            simp only [Option.some.injEq, Addr.mk.injEq, and_true] at e2
            obtain ⟨rfl, rfl⟩ := e2
            have HAT1 : Hid (AtI w1 (some ⟨bI, oI, none⟩) n d.1) := hAT1
            obtain ⟨aB, cB, aE, cE, g0, g1, g2, g3, g4, g5⟩ := hI
            obtain ⟨_, _, e3, hm3, _, hc3⟩ := g5.2.2.open'
            simp only [Value.slice.injEq] at e3
            obtain ⟨rfl, _, rfl⟩ := e3
            clear g0 g1 g2 g3 g5 hAT1
            have HPJ : Hid (∀ k, k < (d.1[j]?.getD id0).2.2.2.2.length → 0 ≤ ((d.1[j]?.getD id0).2.2.2.2[k]?.getD en0).2) := HP.out j hlj
            have HY : Hid (∀ k, k < (d.1[j]?.getD id0).2.2.2.2.length → lostB d.1 ((d.1[j]?.getD id0).2.2.2.2[k]?.getD en0).2 = true → 4 = fsE d) := fun k hk hl => by rw [← HE.out, lost_yes (by rw [HN.out]; exact hlj) hk hl]
            have HR : Hid ((∀ k, k < (d.1[j]?.getD id0).2.2.2.2.length → lostB d.1 ((d.1[j]?.getD id0).2.2.2.2[k]?.getD en0).2 = false) → ∀ i : Nat, i < j + 1 → ∀ k, k < (d.1[i]?.getD id0).2.2.2.2.length → lostB d.1 ((d.1[i]?.getD id0).2.2.2.2[k]?.getD en0).2 = false) := fun h i hi => by
              by_cases e : i = j
              · subst e; exact h
              · exact HZ.out i (by omega)
            generalize (d.1[j]?.getD id0).2.2.2.2 = es at *
            have HCB : Hid (AtN w1 aE es.length es) := hc3
            obtain ⟨nB, hnB⟩ : ∃ nB, nB = es.length := ⟨_, rfl⟩
            have HNB : Hid (nB = es.length) := hnB
            rw [← hnB] at g4 hm3
            unfold maxLen at hm3
            clear hc3 hnB HZ HE HP HAT HAY
            go_wp2
            go_loopw [8] (fun i wr => ∃ k m2 : Nat, k ≤ nB ∧ i = .int .i64 k ∧ wr = w1.drewN m2 ∧ ∀ i : Nat, i < k → lostB d.1 (es[i]?.getD en0).2 = false) (fun i _ => nB - (intOf i).toNat)
            case atStart => exact ⟨0, m, Nat.zero_le _, rfl, rfl, fun i hi => by omega⟩
            case round =>
              obtain ⟨k, m2, hk, rfl, rfl, hz⟩ := hrel
              have HZ : Hid (∀ i : Nat, i < k → lostB d.1 (es[i]?.getD en0).2 = false) := hz
              clear hz
              by_cases hlk : k < nB
              · obtain ⟨b1, o1, rfl, _, d1⟩ := HCB.out k (by rw [← HNB.out]; exact hlk)
                have hp := HPJ.out k (by rw [← HNB.out]; exact hlk)
                have HYK : Hid (lostB d.1 (es[k]?.getD en0).2 = true → 4 = fsE d) := HY.out k (by rw [← HNB.out]; exact hlk)
                have HRK : Hid (lostB d.1 (es[k]?.getD en0).2 = false → ∀ i : Nat, i < k + 1 → lostB d.1 (es[i]?.getD en0).2 = false) := fun h i hi => by
                  by_cases e : i = k
                  · subst e; exact h
                  · exact HZ.out i (by omega)
                clear HZ HPJ HY HCB HR
                generalize (es[k]?.getD en0).2 = x at *
                obtain ⟨t, rfl⟩ := Int.eq_ofNat_of_zero_le hp
                by_cases hbig : n ≤ t
                · have HE4 : Hid (4 = fsE d) := HYK.out (by unfold lostB; rw [HN.out]; simp [hbig])
                  have hdb : decide ((n : Int) ≤ (t : Int)) = true := by simp; omega
                  clear HYK HRK hp
                  go_wp2
                  go_ret
                  exact ⟨ret_int HE4.out, below_drewN HBL1.out _⟩
                · have hdb : decide ((n : Int) ≤ (t : Int)) = false := by simp; omega
                  obtain ⟨b2, o2, e2, hI⟩ := HAT1.out t (by omega)
                  simp only [Option.some.injEq, Addr.mk.injEq, and_true] at e2
                  obtain ⟨rfl, rfl⟩ := e2
                  obtain ⟨_, _, _, _, kt, _⟩ := hI
                  have kt' : w1.cell? ⟨bI, oI + t * 5, none⟩ = some (.int .i64 (kindAt d.1 t)) := kt
                  clear kt HAT1
                  by_cases hkz : kindAt d.1 t = 0
                  · have HE4 : Hid (4 = fsE d) := HYK.out (by unfold lostB; simp [hkz])
                    have hkb : (kindAt d.1 t == 0) = true := by simpa using hkz
                    clear HYK HRK hp hkz
                    generalize kindAt d.1 t = kk at *
                    go_wp2
                    go_ret
                    exact ⟨ret_int HE4.out, below_drewN HBL1.out _⟩
                  · have HRR : Hid (∀ i : Nat, i < k + 1 → lostB d.1 (es[i]?.getD en0).2 = false) := HRK.out (by unfold lostB; rw [HN.out]; simp [hkz]; omega)
                    have hkb : (kindAt d.1 t == 0) = false := by simpa using hkz
                    clear HYK HRK hp hkz
                    generalize kindAt d.1 t = kk at *
                    go_wp2
                    go_roundw
                    case rel => exact ⟨k + 1, _, by omega, by go_num, rfl, HRR.out⟩
                    case measure => simp [intOf]; omega
              · have HRR := HR.out fun i hi => HZ.out i (by rw [← HNB.out] at hi; omega)
                have HRH : Hid (∀ i : Nat, i < j + 1 → ∀ k, k < (d.1[i]?.getD id0).2.2.2.2.length → lostB d.1 ((d.1[i]?.getD id0).2.2.2.2[k]?.getD en0).2 = false) := HRR
                clear HRR HZ
                go_wp2
                go_roundw
                case rel => exact ⟨j + 1, _, by omega, by go_num, rfl, HRH.out⟩
                case measure => simp [intOf]; omega
          · have HEZ : Hid (0 = fsE d) := by unfold Hid; rw [← HE.out]; exact (lost_no fun i hi => HZ.out i (by rw [HN.out] at hi; omega)).symm
            go_wp2
            go_ret
            exact ⟨ret_int HEZ.out, below_drewN HBL1.out _⟩
/-- The contract over every file system. -/
theorem l6Entries_any (w : World) (b o : Nat) (d : FD) (aI : Option Addr) (cI : Nat) (aD : Option Addr) (cD : Nat) (h : FsX w b o d aI cI aD cD) (hs : sizeInos d.1 ≤ 1048576) :
    Calls Try.prog 59 #[.pointer (some ⟨b, o, none⟩)] w fun e w' => e = .returned (.int .i64 (fsE d)) ∧ Below w.heap.size w w' := by
  by_cases hi : insF d.1 = 0
  · cases hf : formB d with
    | true => exact (l6Ent_form w b o d aI cI aD cD h hi hf).mono fun e w' ⟨h1, m, h2⟩ => ⟨h1, by rw [h2]; exact below_drewN (Below.refl _ _) m⟩
    | false => exact l6Ent_ok w b o d aI cI aD cD h hs hi hf
  · exact (l6Ent_bad w b o d aI cI aD cD h hi).mono fun e w' ⟨h1, m, h2⟩ => ⟨h1, by rw [h2]; exact below_drewN (Below.refl _ _) m⟩
end Go.Proofs.Ytlacppjlclfpmaa

namespace Go.Proofs.Ytlacppjlclfpmaa
open Go.RowKit
set_option maxRecDepth 100000

set_option maxHeartbeats 1600000 in
theorem hasFile_any (w : World) (k l s : Int) (a : Option Addr) (n c : Nat) (vE : Value) (a' : Option Addr) (n' c' : Nat) (hv : vE = .slice a' n' c') :
    Calls Try.prog 112 #[.agg #[.int .i64 k, .int .i64 l, .int .i64 s, .slice a n c, vE]] w fun e w' => e = .returned (.bool (decide (l ≠ 0) || decide (s ≠ 0) || decide (0 < n))) ∧ Below w.heap.size w w' := by
  subst hv
  by_cases hl : l = 0
  · subst hl
    by_cases hs : s = 0
    · subst hs
      by_cases hn : 0 < n
      · have hn' : decide ((0 : Int) < (n : Int)) = true := by simp; omega
        rw [show (decide ((0 : Int) ≠ 0) || decide ((0 : Int) ≠ 0) || decide (0 < n)) = true by simp; omega]
        go_enter Try.func112, Try.ntmps112
        go_wp2
        go_ret
        exact ⟨rfl, later1 _ _⟩
      · have hn' : decide ((0 : Int) < (n : Int)) = false := by simp; omega
        rw [show (decide ((0 : Int) ≠ 0) || decide ((0 : Int) ≠ 0) || decide (0 < n)) = false by simp; omega]
        go_enter Try.func112, Try.ntmps112
        go_wp2
        go_ret
        exact ⟨rfl, later1 _ _⟩
    · have hs' : (s != 0) = true := by simpa using hs
      rw [show (decide ((0 : Int) ≠ 0) || decide (s ≠ 0) || decide (0 < n)) = true by simp [hs]]
      go_enter Try.func112, Try.ntmps112
      go_wp2
      go_ret
      exact ⟨rfl, later1 _ _⟩
  · have hl' : (l != 0) = true := by simpa using hl
    rw [show (decide (l ≠ 0) || decide (s ≠ 0) || decide (0 < n)) = true by simp [hl]]
    go_enter Try.func112, Try.ntmps112
    go_wp2
    go_ret
    exact ⟨rfl, later1 _ _⟩
theorem hasDir_any (w : World) (k l s : Int) (a : Option Addr) (n c : Nat) (a' : Option Addr) (n' c' : Nat) :
    Calls Try.prog 113 #[.agg #[.int .i64 k, .int .i64 l, .int .i64 s, .slice a n c, .slice a' n' c']] w fun e w' => e = .returned (.bool (decide (0 < n'))) ∧ Below w.heap.size w w' := by
  by_cases hn : 0 < n'
  · have hn' : decide ((0 : Int) < (n' : Int)) = true := by simp; omega
    rw [show decide (0 < n') = true by simpa using hn]
    go_enter Try.func113, Try.ntmps113
    go_wp2
    go_ret
    exact ⟨rfl, later1 _ _⟩
  · have hn' : decide ((0 : Int) < (n' : Int)) = false := by simp; omega
    rw [show decide (0 < n') = false by simpa using hn]
    go_enter Try.func113, Try.ntmps113
    go_wp2
    go_ret
    exact ⟨rfl, later1 _ _⟩

/-- Whether one of the first n is x. -/
def hasI (bs : List Int) (n : Nat) (x : Int) : Bool := (List.range n).any fun k => bs[k]?.getD 0 == x
theorem hasI_yes {bs : List Int} {n k : Nat} {x : Int} (hk : k < n) (e : bs[k]?.getD 0 = x) : hasI bs n x = true := by
  unfold hasI; rw [List.any_eq_true]; exact ⟨k, by simpa using hk, by simp [e]⟩
theorem hasI_no {bs : List Int} {n : Nat} {x : Int} (h : ∀ k, k < n → ¬ bs[k]?.getD 0 = x) : hasI bs n x = false := by
  unfold hasI; rw [List.any_eq_false]; intro k hk; simp at hk; simp [h k hk]

set_option maxHeartbeats 1600000 in
theorem indexI_any (w : World) (a : Option Addr) (n c : Nat) (bs : List Int) (x : Int) (hn : n ≤ 1048576) (hc : At1 w a n (fun k => .int .i64 (bs[k]?.getD 0))) :
    Calls Try.prog 122 #[.slice a n c, .int .i64 x] w fun e w' => ∃ r : Int, e = .returned (.int .i64 r) ∧ decide (0 ≤ r) = hasI bs n x ∧ ∃ m, w' = w.drewN m := by
  have HC : Hid (At1 w a n (fun k => .int .i64 (bs[k]?.getD 0))) := hc
  clear hc
  go_enter Try.func122, Try.ntmps122
  go_wp2
  go_loopw [8] (fun i wr => ∃ j m : Nat, j ≤ n ∧ i = .int .i64 j ∧ wr = w.drewN m ∧ ∀ i : Nat, i < j → ¬ bs[i]?.getD 0 = x) (fun i _ => n - (intOf i).toNat)
  case atStart => exact ⟨0, 0, Nat.zero_le _, rfl, rfl, fun i hi => by omega⟩
  case round =>
    obtain ⟨j, m, hj, rfl, rfl, hall⟩ := hrel
    have HA : Hid (∀ i : Nat, i < j → ¬ bs[i]?.getD 0 = x) := hall
    clear hall
    by_cases hlt : j < n
    · obtain ⟨b1, off, rfl, e1⟩ := HC.out j hlt
      dsimp only at e1
      by_cases he : bs[j]?.getD 0 = x
      · have HH : Hid (hasI bs n x = true) := hasI_yes hlt he
        rw [he] at e1
        clear he
        go_wp2
        go_ret
        exact ⟨(j : Int), rfl, by rw [HH.out]; simp, m, rfl⟩
      · have HNE : Hid (∀ i : Nat, i < j + 1 → ¬ bs[i]?.getD 0 = x) := fun i hi => by
          by_cases e : i = j
          · rw [e]; exact he
          · exact HA.out i (by omega)
        have he' : (x == bs[j]?.getD 0) = false := by simp; exact fun h => he h.symm
        have he2 : (x = bs[j]?.getD 0) = False := by simp; exact fun h => he h.symm
        clear he
        generalize bs[j]?.getD 0 = y at *
        go_wp2
        go_roundw
        case rel => exact ⟨j + 1, m, by omega, by go_num, rfl, HNE.out⟩
        case measure => simp [intOf]; omega
    · have HH : Hid (hasI bs n x = false) := hasI_no fun k hk => HA.out k (by omega)
      go_wp2
      go_ret
      exact ⟨-1, rfl, by rw [HH.out]; rfl, m, rfl⟩

set_option maxHeartbeats 1600000 in
theorem containsI_any (w : World) (a : Option Addr) (n c : Nat) (bs : List Int) (x : Int) (hn : n ≤ 1048576) (hc : At1 w a n (fun k => .int .i64 (bs[k]?.getD 0))) :
    Calls Try.prog 120 #[.slice a n c, .int .i64 x] w fun e w' => e = .returned (.bool (hasI bs n x)) ∧ ∃ m, w' = w.drewN m := by
  have HC : Hid (At1 w a n (fun k => .int .i64 (bs[k]?.getD 0))) := hc
  clear hc
  go_enter Try.func120, Try.ntmps120
  go_wp2_with fail
  refine (indexI_any _ a n c bs x hn HC.out).mono ?_
  rintro e w1 ⟨r, rfl, hr, m, rfl⟩
  have HR : Hid (decide (0 ≤ r) = hasI bs n x) := hr
  clear hr
  go_wp2
  go_ret
  exact ⟨by rw [← HR.out]; rfl, m, rfl⟩

set_option maxHeartbeats 3200000 in
theorem blocksFault_any (w : World) (a : Option Addr) (n c : Nat) (bs : List Int) (hn : n ≤ 1048576) (hcap : n ≤ c) (hbn : bs.length = n) (hc : At1 w a n (fun k => .int .i64 (bs[k]?.getD 0))) :
    Calls Try.prog 115 #[.slice a n c] w fun e w' => e = .returned (.int .i64 (blkF bs)) ∧ ∃ m, w' = w.drewN m := by
  have HC : Hid (At1 w a n (fun k => .int .i64 (bs[k]?.getD 0))) := hc
  have HN : Hid (bs.length = n) := hbn
  clear hc hbn
  go_enter Try.func115, Try.ntmps115
  go_wp2
  go_loopw [9] (fun i wr => ∃ j m : Nat, j ≤ n ∧ i = .int .i64 j ∧ wr = w.drewN m ∧ ∀ i : Nat, i < j → rngF bs i = 0) (fun i _ => n - (intOf i).toNat)
  case atStart => exact ⟨0, 0, Nat.zero_le _, rfl, rfl, fun i hi => by omega⟩
  case round =>
    obtain ⟨j, m, hj, rfl, rfl, hall⟩ := hrel
    have HA : Hid (∀ i : Nat, i < j → rngF bs i = 0) := hall
    clear hall
    by_cases hlt : j < n
    · obtain ⟨b1, off, rfl, e1⟩ := HC.out j hlt
      dsimp only at e1
      have HRF : Hid (rngF bs j = if 0 ≤ bs[j]?.getD 0 ∧ bs[j]?.getD 0 ≤ 19 then 0 else 3) := rfl
      generalize bs[j]?.getD 0 = x at *
      have HB3 : Hid (rngF bs j = 3 → blkF bs = 3) := fun h => by
        have h3 : fstNZ (rngF bs) bs.length = 3 := by rw [fstNZ_at HA.out (by rw [h]; decide) (by rw [HN.out]; exact hlt), h]
        unfold blkF; rw [h3]; rfl
      by_cases h0 : x < 0
      · have HZ : Hid (blkF bs = 3) := HB3.out (by rw [HRF.out, if_neg (by omega)])
        go_wp2
        go_ret
        exact ⟨ret_int HZ.out.symm, m, rfl⟩
      · by_cases h1 : 20 ≤ x
        · have HZ : Hid (blkF bs = 3) := HB3.out (by rw [HRF.out, if_neg (by omega)])
          go_wp2
          go_ret
          exact ⟨ret_int HZ.out.symm, m, rfl⟩
        · have HZ : Hid (rngF bs j = 0) := by unfold Hid; rw [HRF.out, if_pos (by omega)]
          go_wp2
          go_roundw
          case rel =>
            refine ⟨j + 1, m, by omega, by go_num, rfl, fun i hi => ?_⟩
            by_cases e : i = j
            · subst e; exact HZ.out
            · exact HA.out i (by omega)
          case measure => simp [intOf]; omega
    · have HB : Hid (blkF bs = fstNZ (dupF bs) bs.length) := by
        unfold Hid blkF; rw [if_pos (fstNZ_zero fun i hi => HA.out i (by rw [HN.out] at hi; omega))]
      clear HA
      go_wp2
      go_loopw [22] (fun i wr => ∃ j m : Nat, j ≤ n ∧ i = .int .i64 j ∧ wr = w.drewN m ∧ ∀ i : Nat, i < j → dupF bs i = 0) (fun i _ => n - (intOf i).toNat)
      case atStart => exact ⟨0, m, Nat.zero_le _, rfl, rfl, fun i hi => by omega⟩
      case round =>
        obtain ⟨j2, m2, hj2, rfl, rfl, hall⟩ := hrel
        have HA : Hid (∀ i : Nat, i < j2 → dupF bs i = 0) := hall
        clear hall
        by_cases hlt2 : j2 < n
        · obtain ⟨b1, off, rfl, e1⟩ := HC.out j2 hlt2
          dsimp only at e1
          have HD : Hid (dupF bs j2 = if hasI bs j2 (bs[j2]?.getD 0) then 7 else 0) := rfl
          have HCN : Hid (∀ W : World, At1 W (some ⟨b1, off, none⟩) j2 (fun k => .int .i64 (bs[k]?.getD 0)) → ∀ cc, Calls Try.prog 120 #[.slice (some ⟨b1, off, none⟩) j2 cc, .int .i64 (bs[j2]?.getD 0)] W fun e w' => e = .returned (.bool (hasI bs j2 (bs[j2]?.getD 0))) ∧ ∃ m, w' = W.drewN m) := fun W hW cc => containsI_any W _ j2 cc bs _ (by omega) hW
          have HAT : Hid (At1 w (some ⟨b1, off, none⟩) j2 (fun k => .int .i64 (bs[k]?.getD 0))) := fun k hk => HC.out k (by omega)
          generalize hasI bs j2 (bs[j2]?.getD 0) = hh at *
          generalize bs[j2]?.getD 0 = x at *
          have hj2c : j2 ≤ c := by omega
          cases hh
          · have HZ : Hid (∀ i : Nat, i < j2 + 1 → dupF bs i = 0) := fun i hi => by
              by_cases e : i = j2
              · rw [e, HD.out]; rfl
              · exact HA.out i (by omega)
            go_wp2_with fail
            refine (HCN.out (w.drewN m2) HAT.out _).mono ?_
            rintro e w2 ⟨rfl, m3, rfl⟩
            go_wp2
            go_roundw
            case rel => exact ⟨j2 + 1, _, by omega, by go_num, by first | rfl | rw [World.drewN_drewN], HZ.out⟩
            case measure => simp [intOf]; omega
          · have HZ : Hid (blkF bs = 7) := by
              have h7 : dupF bs j2 = 7 := by rw [HD.out]; rfl
              unfold Hid; rw [HB.out, fstNZ_at HA.out (by rw [h7]; decide) (by rw [HN.out]; exact hlt2), h7]
            go_wp2_with fail
            refine (HCN.out (w.drewN m2) HAT.out _).mono ?_
            rintro e w2 ⟨rfl, m3, rfl⟩
            go_wp2
            go_ret
            exact ⟨ret_int HZ.out.symm, _, by first | rfl | rw [World.drewN_drewN]⟩
        · have HZ : Hid (blkF bs = 0) := by unfold Hid; rw [HB.out, fstNZ_zero fun i hi => HA.out i (by rw [HN.out] at hi; omega)]
          go_wp2
          go_ret
          exact ⟨ret_int HZ.out.symm, m2, rfl⟩
end Go.Proofs.Ytlacppjlclfpmaa

namespace Go.Proofs.Ytlacppjlclfpmaa
open Go.RowKit
set_option maxRecDepth 100000

set_option maxHeartbeats 1600000 in
theorem freeFault_any (w : World) (k l s : Int) (a : Option Addr) (n c : Nat) (a' : Option Addr) (n' c' : Nat) :
    Calls Try.prog 107 #[.agg #[.int .i64 k, .int .i64 l, .int .i64 s, .slice a n c, .slice a' n' c']] w fun e w' => e = .returned (.int .i64 (if (decide (l ≠ 0) || decide (s ≠ 0) || decide (0 < n)) || decide (0 < n') then 1 else 0)) ∧ Below w.heap.size w w' := by
  have HF := fun W => hasFile_any W k l s a n c (.slice a' n' c') a' n' c' rfl
  have HD := fun W => hasDir_any W k l s a n c a' n' c'
  generalize (decide (l ≠ 0) || decide (s ≠ 0) || decide (0 < n)) = f at *
  generalize decide (0 < n') = g at *
  have HHF : Hid (∀ W : World, _) := HF
  have HHD : Hid (∀ W : World, _) := HD
  clear HF HD
  cases f
  · have HG : Hid ((if (false || g) = true then (1 : Int) else 0) = if g = true then 1 else 0) := by unfold Hid; cases g <;> rfl
    rw [HG.out]
    go_enter Try.func107, Try.ntmps107
    go_wp2_with fail
    refine (HHF.out _).mono ?_
    rintro e w1 ⟨rfl, hb1⟩
    have HB1 : Hid (Below w.heap.size w w1) := (later1 _ _).trans (hb1.mono (by simp))
    have hx : Bx w1 w.heap.size [.int .i64 k, .int .i64 l, .int .i64 s, .slice a n c, .slice a' n' c'] := (Bx.new w _ _).later hb1
    have c0 := hx 0 _ rfl
    have c1 := hx 1 _ rfl
    have c2 := hx 2 _ rfl
    have c3 := hx 3 _ rfl
    have c4 := hx 4 _ rfl
    clear hb1 hx
    go_wp2_with fail
    refine (HHD.out _).mono ?_
    rintro e w2 ⟨rfl, hb2⟩
    have HB2 : Hid (Below w.heap.size w w2) := HB1.out.trans (hb2.mono HB1.out.size)
    clear hb2 c0 c1 c2 c3 c4
    cases g
    · go_wp2
      go_ret
      exact ⟨rfl, HB2.out⟩
    · go_wp2
      go_ret
      exact ⟨rfl, HB2.out⟩
  · go_enter Try.func107, Try.ntmps107
    go_wp2_with fail
    refine (HHF.out _).mono ?_
    rintro e w1 ⟨rfl, hb1⟩
    have HB1 : Hid (Below w.heap.size w w1) := (later1 _ _).trans (hb1.mono (by simp))
    clear hb1
    go_wp2
    go_ret
    exact ⟨rfl, HB1.out⟩

set_option maxHeartbeats 3200000 in
theorem fileFault_any (w : World) (k l s : Int) (a : Option Addr) (n c : Nat) (a' : Option Addr) (n' c' : Nat) (bs : List Int) (hn : n ≤ 1048576) (hcap : n ≤ c) (hbn : bs.length = n) (hc : At1 w a n (fun k => .int .i64 (bs[k]?.getD 0))) :
    Calls Try.prog 108 #[.agg #[.int .i64 k, .int .i64 l, .int .i64 s, .slice a n c, .slice a' n' c']] w fun e w' => e = .returned (.int .i64 (if decide (0 < n') then 1 else fileF l s bs)) ∧ Below w.heap.size w w' := by
  have HD := fun W => hasDir_any W k l s a n c a' n' c'
  generalize decide (0 < n') = g at *
  have HHD : Hid (∀ W : World, _) := HD
  have HC : Hid (At1 w a n (fun k => .int .i64 (bs[k]?.getD 0))) := hc
  have HN : Hid (bs.length = n) := hbn
  clear HD hc hbn
  cases g
  rotate_left
  · go_enter Try.func108, Try.ntmps108
    go_wp2_with fail
    refine (HHD.out _).mono ?_
    rintro e w1 ⟨rfl, hb1⟩
    have HB1 : Hid (Below w.heap.size w w1) := (later1 _ _).trans (hb1.mono (by simp))
    clear hb1
    go_wp2
    go_ret
    exact ⟨rfl, HB1.out⟩
  · have HFF : Hid (fileF l s bs = if linkB l = true ∧ sizeB s = true then (if (n : Int) = (s + 7) / 8 then blkF bs else 1) else 3) := by unfold Hid fileF; rw [HN.out]
    have HBF : Hid (bforR s = if sizeB s then (0, (s + 7) / 8) else (3, 0)) := rfl
    have HLK : Hid (linkB l = decide (1 ≤ l ∧ l ≤ 60)) := rfl
    go_enter Try.func108, Try.ntmps108
    go_wp2_with fail
    refine (HHD.out _).mono ?_
    rintro e w1 ⟨rfl, hb1⟩
    have HB1 : Hid (Below w.heap.size w w1) := (later1 _ _).trans (hb1.mono (by simp))
    have hx : Bx w1 w.heap.size [.int .i64 k, .int .i64 l, .int .i64 s, .slice a n c, .slice a' n' c'] := (Bx.new w _ _).later hb1
    have HX1 : Hid (Bx w1 w.heap.size [.int .i64 k, .int .i64 l, .int .i64 s, .slice a n c, .slice a' n' c']) := hx
    have c2 := hx 2 _ rfl
    clear hb1 hx
    go_wp2_with fail
    refine (implBFor_any _ s).mono ?_
    rw [HBF.out]
    rintro e w2 ⟨rfl, hb2⟩
    have HB2 : Hid (Below w.heap.size w w2) := HB1.out.trans (hb2.mono HB1.out.size)
    have hx : Bx w2 w.heap.size [.int .i64 k, .int .i64 l, .int .i64 s, .slice a n c, .slice a' n' c'] := HX1.out.later hb2
    have c1 := hx 1 _ rfl
    have c3 := hx 3 _ rfl
    have hlt := hx.lt
    clear hb2 hx c2 HX1 HB1
    by_cases hl1 : l < 1
    · have HR : Hid (fileF l s bs = 3) := by unfold Hid; rw [HFF.out, if_neg]; intro h; have := h.1; rw [HLK.out] at this; simp at this; omega
      go_wp2
      all_goals
        go_ret
        exact ⟨ret_int HR.out.symm, HB2.out.trans ((later1 _ _).mono HB2.out.size)⟩
    · by_cases hl2 : 60 < l
      · have HR : Hid (fileF l s bs = 3) := by unfold Hid; rw [HFF.out, if_neg]; intro h; have := h.1; rw [HLK.out] at this; simp at this; omega
        go_wp2
        all_goals
          go_ret
          exact ⟨ret_int HR.out.symm, HB2.out.trans ((later1 _ _).mono HB2.out.size)⟩
      · have hlk : linkB l = true := by rw [HLK.out]; simp; omega
        cases hsz : sizeB s
        · have HR : Hid (fileF l s bs = 3) := by unfold Hid; rw [HFF.out, if_neg]; intro h; rw [hsz] at h; exact absurd h.2 (by decide)
          clear hsz hlk
          go_wp2
          go_ret
          exact ⟨ret_int HR.out.symm, HB2.out.trans ((later1 _ _).mono HB2.out.size)⟩
        · by_cases hlen : (n : Int) = (s + 7) / 8
          · have HR : Hid (fileF l s bs = blkF bs) := by unfold Hid; rw [HFF.out, if_pos ⟨hlk, hsz⟩, if_pos hlen]
            have HBK : Hid (∀ W, Below w.heap.size w W → Calls Try.prog 115 #[.slice a n c] W fun e w' => e = .returned (.int .i64 (blkF bs)) ∧ ∃ m, w' = W.drewN m) := fun W hW => blocksFault_any W a n c bs hn hcap HN.out (fun k hk => by
              obtain ⟨b, off, e, h⟩ := HC.out k hk
              exact ⟨b, off, e, cell_later hW h⟩)
            have hnn : ((n : Int) != (n : Int)) = false := by simp
            have HLE : Hid ((n : Int) = (s + 7) / 8) := hlen
            rw [← hlen]
            clear hsz hlk hlen
            go_wp2_with fail
            refine (HBK.out _ (HB2.out.trans ((later1 _ _).mono HB2.out.size))).mono ?_
            rintro e w3 ⟨rfl, m, rfl⟩
            go_wp2
            go_ret
            exact ⟨ret_int HR.out.symm, below_drewN (HB2.out.trans ((later1 _ _).mono HB2.out.size)) m⟩
          · have HR : Hid (fileF l s bs = 1) := by unfold Hid; rw [HFF.out, if_pos ⟨hlk, hsz⟩, if_neg hlen]
            have hne : ((n : Int) != (s + 7) / 8) = true := by simpa using hlen
            clear hsz hlk hlen
            generalize (s + 7) / 8 = q at *
            go_wp2
            go_ret
            exact ⟨ret_int HR.out.symm, HB2.out.trans ((later1 _ _).mono HB2.out.size)⟩
end Go.Proofs.Ytlacppjlclfpmaa

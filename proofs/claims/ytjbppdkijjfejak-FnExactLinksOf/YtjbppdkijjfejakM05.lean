/- The specification's lists of blocks. The walks of the laws' functions over lists of entries. Marks of lists of entries. The walks of the laws' functions over inodes. The law's copy of an inode. The specification's l4Pack. PackInode, both sides. The specification's UsedBlocks, FreeBlocks, PickBlocks and FreeInode. -/
import Derived.Test.YtjbppdkijjfejakM04
import Derived.Test.YtjbppdkijjfejakRows
import Derived.Test.YtjbppdkijjfejakM02
import Derived.Deep.RegionWith
import Derived.Deep.RegionHeld3
import Derived.Test.YtjbppdkijjfejakM03
namespace Go.Proofs.Ytjbppdkijjfejak
open Go.RowKit
set_option maxRecDepth 100000

theorem Wds.lit0 (w : World) : Wds (w.alloc (.cells #[] 2)) w.heap.size (.slice (Option.some ⟨w.heap.size, 0, none⟩) 0 0) [] := Wds.lit w w.heap.size (Nat.le_refl _) [] #[] rfl 0 rfl (by omega)

set_option maxHeartbeats 3200000 in
theorem l5Used_any {w : World} {v : Value} {ds : List ID} (h : Inos w v ds) (hs : sizeInos ds ≤ 1048576) :
    Calls Try.prog 43 #[v] w fun e w' => ∃ a c, e = .returned (.tuple #[.slice a (selL (usedP ds) 20).length c, .bool (onceB ds 20)]) ∧ Below w.heap.size w w' ∧ Wds w' w.heap.size (.slice a (selL (usedP ds) 20).length c) (selL (usedP ds) 20) := by
  obtain ⟨a, cap, rfl, _⟩ := h.open'
  have HC : Hid (∀ W, Below w.heap.size w W → ∀ j : Nat, Calls Try.prog 63 #[.slice a ds.length cap, .int .i64 (j : Int)] W fun e w' => e = .returned (.int .i64 ((cntB ds (j : Int) : Nat) : Int)) ∧ ∃ m, w' = W.drewN m) := fun W hW j => l5Count_any (h.later hW) hs (j : Int)
  have HCB : Hid (∀ j : Int, cntB ds j ≤ 1048576) := fun j => by
    have h2 := allB_len ds
    have h3 := List.count_le_length (a := j) (l := allB ds)
    unfold sizeInos at hs
    unfold cntB
    omega
  have HY : Hid (∀ j : Nat, 0 < cntB ds (j : Int) → selL (usedP ds) (j + 1) = selL (usedP ds) j ++ [(j : Int)]) := fun j hj => selL_yes (by simpa [usedP] using hj)
  have HNO : Hid (∀ j : Nat, ¬ 0 < cntB ds (j : Int) → selL (usedP ds) (j + 1) = selL (usedP ds) j) := fun j hj => selL_no (by simpa [usedP] using hj)
  have HL : Hid (∀ j, (selL (usedP ds) j).length ≤ j) := fun j => selL_len _ _
  have HO : Hid (∀ j, onceB ds (j + 1) = (onceB ds j && decide (cntB ds (j : Int) ≤ 1))) := fun j => onceB_next ds j
  have HO0 : Hid (onceB ds 0 = true) := rfl
  have HS0 : Hid (selL (usedP ds) 0 = []) := rfl
  generalize usedP ds = p at *
  generalize onceB ds = on at *
  generalize ds.length = n at *
  clear h hs
  go_enter Try.func43, Try.ntmps43
  go_wp2
  go_loopw [4, 5, 6] (fun o q i wr => ∃ (j : Nat) (v : Value), j ≤ 20 ∧ i = .int .i64 j ∧ o = v ∧ q = .bool (on j) ∧ Below w.heap.size w wr ∧ Wds wr w.heap.size v (selL p j)) (fun _ _ i _ => 20 - (intOf i).toNat)
  case atStart => exact ⟨0, _, Nat.zero_le _, rfl, rfl, by rw [HO0.out], later1 _ _, by rw [HS0.out]; exact Wds.lit0 w⟩
  case round =>
    obtain ⟨j, v, hj, rfl, rfl, rfl, hbl, hwd⟩ := hrel
    obtain ⟨aV, cV, rfl⟩ := hwd.shape
    have HBL : Hid (Below w.heap.size w wr) := hbl
    have HWD : Hid (Wds wr w.heap.size (.slice aV (selL p j).length cV) (selL p j)) := hwd
    clear hbl hwd
    by_cases hlt : j < 20
    · have HC' := HC.out wr HBL.out j
      have HCC : Hid (Calls Try.prog 63 #[.slice a n cap, .int .i64 (j : Int)] wr fun e w' => e = .returned (.int .i64 ((cntB ds (j : Int) : Nat) : Int)) ∧ ∃ m, w' = wr.drewN m) := HC'
      have hcb := HCB.out (j : Int)
      have HOJ := HO.out j
      have HY' := HY.out j
      have HN' := HNO.out j
      have hlj := HL.out j
      clear HC'
      generalize cntB ds (j : Int) = cnt at *
      by_cases h0 : 0 < cnt
      · have HYJ : Hid (selL p (j + 1) = selL p j ++ [(j : Int)]) := HY' h0
        have hd0 : decide ((0 : Int) < (cnt : Int)) = true := by simp; omega
        clear HY' HN'
        have HOJ' : Hid (on (j + 1) = (on j && decide (cnt ≤ 1))) := HOJ
        clear HOJ
        generalize on j = bo at *
        have tail : ∀ (b1 : Bool), decide ((cnt : Int) ≤ 1) = b1 → Hid (on (j + 1) = (bo && b1)) := fun b1 hb => by unfold Hid; rw [HOJ'.out, ← hb]; congr 1; rw [decide_eq_decide]; omega
        cases hb1 : decide ((cnt : Int) ≤ 1) with
        | true =>
          have HF : Hid (on (j + 1) = (bo && true)) := tail true hb1
          clear tail HOJ'
          go_wp2_with fail
          refine HCC.out.mono ?_
          rintro e w1 ⟨rfl, m, rfl⟩
          obtain ⟨a', c', X, hr, hw, hb, _⟩ := append_w1 (wr.drewN m) w.heap.size _ (selL p j) (j : Int) HWD.out HBL.out.size (by omega)
          have HR : Hid (_ = _) := hr
          rw [← HYJ.out] at HR hw
          have HW : Hid (Wds X w.heap.size _ (selL p (j + 1))) := hw
          have HB : Hid (Below w.heap.size w X) := (below_drewN HBL.out m).trans hb
          clear hr hw hb
          cases bo
          all_goals
            go_wp2_with (at_builtin; refine wpList_append_run rfl _ _ 22 rfl _ _ rfl rfl _ _ HR.out ?_)
            go_roundw
            case rel => exact ⟨j + 1, _, by omega, by go_num, rfl, by rw [HF.out]; rfl, HB.out, HW.out⟩
            case measure => simp [intOf]; omega
        | false =>
          have HF : Hid (on (j + 1) = (bo && false)) := tail false hb1
          clear tail HOJ'
          go_wp2_with fail
          refine HCC.out.mono ?_
          rintro e w1 ⟨rfl, m, rfl⟩
          obtain ⟨a', c', X, hr, hw, hb, _⟩ := append_w1 (wr.drewN m) w.heap.size _ (selL p j) (j : Int) HWD.out HBL.out.size (by omega)
          have HR : Hid (_ = _) := hr
          rw [← HYJ.out] at HR hw
          have HW : Hid (Wds X w.heap.size _ (selL p (j + 1))) := hw
          have HB : Hid (Below w.heap.size w X) := (below_drewN HBL.out m).trans hb
          clear hr hw hb
          cases bo
          all_goals
            go_wp2_with (at_builtin; refine wpList_append_run rfl _ _ 22 rfl _ _ rfl rfl _ _ HR.out ?_)
            go_roundw
            case rel => exact ⟨j + 1, _, by omega, by go_num, rfl, by rw [HF.out]; rfl, HB.out, HW.out⟩
            case measure => simp [intOf]; omega
      · have HNJ : Hid (selL p (j + 1) = selL p j) := HN' h0
        have hc0 : cnt = 0 := by omega
        subst hc0
        have HF : Hid (on (j + 1) = (on j && true)) := HOJ
        clear HY' HN' HOJ h0
        have HW : Hid (Wds wr w.heap.size (.slice aV (selL p j).length cV) (selL p (j + 1))) := by unfold Hid; rw [HNJ.out]; exact HWD.out
        generalize on j = bo at *
        cases bo
        all_goals
          go_wp2_with fail
          refine HCC.out.mono ?_
          rintro e w1 ⟨rfl, m, rfl⟩
          go_wp2
          go_roundw
          case rel => exact ⟨j + 1, _, by omega, by go_num, rfl, by rw [HF.out]; rfl, below_drewN HBL.out m, HW.out⟩
          case measure => simp [intOf]; omega
    · have he : j = 20 := by omega
      subst he
      clear hlt
      go_wp2
      go_ret2
      exact ⟨_, _, rfl, HBL.out, HWD.out⟩

set_option maxHeartbeats 3200000 in
theorem l5Free_any {w : World} {v v' : Value} {ds : List ID} {bs : List Int} (h : Inos w v ds) (h' : Ints w v' bs) (hs : sizeInos ds ≤ 1048576) :
    Calls Try.prog 51 #[v, v'] w fun e w' => ∃ a c, e = .returned (.slice a (selL (freeP ds bs) 20).length c) ∧ Below w.heap.size w w' ∧ Wds w' w.heap.size (.slice a (selL (freeP ds bs) 20).length c) (selL (freeP ds bs) 20) := by
  obtain ⟨a, cap, rfl, _⟩ := h.open'
  obtain ⟨a', cap', rfl, _⟩ := h'.open'
  have HC : Hid (∀ W, Below w.heap.size w W → ∀ j : Nat, Calls Try.prog 63 #[.slice a ds.length cap, .int .i64 (j : Int)] W fun e w' => e = .returned (.int .i64 ((cntB ds (j : Int) : Nat) : Int)) ∧ ∃ m, w' = W.drewN m) := fun W hW j => l5Count_any (h.later hW) hs (j : Int)
  have HA : Hid (∀ W, Below w.heap.size w W → ∀ j : Nat, Calls Try.prog 67 #[.slice a' bs.length cap', .int .i64 (j : Int)] W fun e w' => e = .returned (.bool (bs.contains (j : Int))) ∧ ∃ m, w' = W.drewN m) := fun W hW j => l5Among_any (h'.later hW) (j : Int)
  have HY : Hid (∀ j : Nat, cntB ds (j : Int) = 0 → bs.contains (j : Int) = false → selL (freeP ds bs) (j + 1) = selL (freeP ds bs) j ++ [(j : Int)]) := fun j h1 h2 => selL_yes (by unfold freeP; rw [h2]; simpa using h1)
  have HN1 : Hid (∀ j : Nat, ¬ cntB ds (j : Int) = 0 → selL (freeP ds bs) (j + 1) = selL (freeP ds bs) j) := fun j h1 => selL_no (by unfold freeP; rw [decide_eq_false h1]; rfl)
  have HN2 : Hid (∀ j : Nat, bs.contains (j : Int) = true → selL (freeP ds bs) (j + 1) = selL (freeP ds bs) j) := fun j h1 => selL_no (by unfold freeP; rw [h1]; simp)
  have HL : Hid (∀ j, (selL (freeP ds bs) j).length ≤ j) := fun j => selL_len _ _
  have HS0 : Hid (selL (freeP ds bs) 0 = []) := rfl
  generalize freeP ds bs = p at *
  generalize ds.length = n at *
  generalize bs.length = n' at *
  clear h h' hs
  go_enter Try.func51, Try.ntmps51
  go_wp2
  go_loopw [5, 6] (fun o i wr => ∃ (j : Nat) (v : Value), j ≤ 20 ∧ i = .int .i64 j ∧ o = v ∧ Below w.heap.size w wr ∧ Wds wr w.heap.size v (selL p j)) (fun _ i _ => 20 - (intOf i).toNat)
  case atStart => exact ⟨0, _, Nat.zero_le _, rfl, rfl, later1 _ _, by rw [HS0.out]; exact Wds.lit0 w⟩
  case round =>
    obtain ⟨j, v, hj, rfl, rfl, hbl, hwd⟩ := hrel
    obtain ⟨aV, cV, rfl⟩ := hwd.shape
    have HBL : Hid (Below w.heap.size w wr) := hbl
    have HWD : Hid (Wds wr w.heap.size (.slice aV (selL p j).length cV) (selL p j)) := hwd
    clear hbl hwd
    by_cases hlt : j < 20
    · have HCC : Hid (Calls Try.prog 63 #[.slice a n cap, .int .i64 (j : Int)] wr fun e w' => e = .returned (.int .i64 ((cntB ds (j : Int) : Nat) : Int)) ∧ ∃ m, w' = wr.drewN m) := HC.out wr HBL.out j
      have HAA : Hid (∀ m, Calls Try.prog 67 #[.slice a' n' cap', .int .i64 (j : Int)] (wr.drewN m) fun e w' => e = .returned (.bool (bs.contains (j : Int))) ∧ ∃ m', w' = (wr.drewN m).drewN m') := fun m => HA.out _ (below_drewN HBL.out m) j
      have HYJ := HY.out j
      have HN1J := HN1.out j
      have HN2J := HN2.out j
      have hlj := HL.out j
      generalize cntB ds (j : Int) = cnt at *
      generalize bs.contains (j : Int) = bb at *
      by_cases h0 : cnt = 0
      · subst h0
        cases bb
        · have HYY : Hid (selL p (j + 1) = selL p j ++ [(j : Int)]) := HYJ rfl rfl
          clear HYJ HN1J HN2J
          go_wp2_with fail
          refine HCC.out.mono ?_
          rintro e w1 ⟨rfl, m, rfl⟩
          go_wp2_with fail
          refine (HAA.out m).mono ?_
          rintro e w1 ⟨rfl, m2, rfl⟩
          obtain ⟨a2, c2, X, hr, hw, hb, _⟩ := append_w1 (wr.drewN (m + m2)) w.heap.size _ (selL p j) (j : Int) HWD.out HBL.out.size (by omega)
          have HR : Hid (_ = _) := hr
          rw [← HYY.out] at HR hw
          have HW : Hid (Wds X w.heap.size _ (selL p (j + 1))) := hw
          have HB : Hid (Below w.heap.size w X) := (below_drewN HBL.out _).trans hb
          clear hr hw hb
          go_wp2_with (at_builtin; refine wpList_append_run rfl _ _ 22 rfl _ _ rfl rfl _ _ HR.out ?_)
          go_roundw
          case rel => exact ⟨j + 1, _, by omega, by go_num, rfl, HB.out, HW.out⟩
          case measure => simp [intOf]; omega
        · have HYY : Hid (selL p (j + 1) = selL p j) := HN2J rfl
          clear HYJ HN1J HN2J
          have HW : Hid (Wds wr w.heap.size (.slice aV (selL p j).length cV) (selL p (j + 1))) := by unfold Hid; rw [HYY.out]; exact HWD.out
          go_wp2_with fail
          refine HCC.out.mono ?_
          rintro e w1 ⟨rfl, m, rfl⟩
          go_wp2_with fail
          refine (HAA.out m).mono ?_
          rintro e w1 ⟨rfl, m2, rfl⟩
          go_wp2
          go_roundw
          case rel => exact ⟨j + 1, _, by omega, by go_num, rfl, below_drewN HBL.out _, HW.out⟩
          case measure => simp [intOf]; omega
      · have HYY : Hid (selL p (j + 1) = selL p j) := HN1J h0
        clear HYJ HN1J HN2J
        have hcc : ((cnt : Int) == 0) = false := by rw [beq_eq_false_iff_ne]; omega
        clear h0
        have HW : Hid (Wds wr w.heap.size (.slice aV (selL p j).length cV) (selL p (j + 1))) := by unfold Hid; rw [HYY.out]; exact HWD.out
        go_wp2_with fail
        refine HCC.out.mono ?_
        rintro e w1 ⟨rfl, m, rfl⟩
        go_wp2
        go_roundw
        case rel => exact ⟨j + 1, _, by omega, by go_num, rfl, below_drewN HBL.out _, HW.out⟩
        case measure => simp [intOf]; omega
    · have he : j = 20 := by omega
      subst he
      clear hlt
      go_wp2
      go_ret
      exact ⟨_, _, rfl, HBL.out, HWD.out⟩
end Go.Proofs.Ytjbppdkijjfejak

namespace Go.Proofs.Ytjbppdkijjfejak
open Go.RowKit
set_option maxRecDepth 100000

theorem Try.infoEnt : (Try.prog.info? 64).map (fun i => (i.zero, i.size, i.bytes)) = some (some (.agg #[.string ⟨#[]⟩, .int .i64 0]), 2, 24) := by kernel_rfl

set_option maxHeartbeats 400000 in
theorem szEnt_any (w : World) (s : ByteArray) (z left : Int) (hs : s.size ≤ maxLen) (h0 : 0 ≤ left) (h1 : left ≤ 1048576) :
    Calls Try.prog 58 #[.agg #[.string s, .int .i64 z], .int .i64 left] w fun e w' => e = .returned (.int .i64 (szf left s.size)) ∧ Below w.heap.size w w' := by
  unfold maxLen at hs
  by_cases h : left < (s.size : Int)
  · rw [szf_no h]
    have h' : left - (s.size : Int) < 0 := by omega
    go_enter Try.func58, Try.ntmps58
    go_wp2
    go_ret
    exact ⟨rfl, later1 _ _⟩
  · rw [szf_yes h]
    have h' : ¬ left - (s.size : Int) < 0 := by omega
    go_enter Try.func58, Try.ntmps58
    go_wp2
    go_ret
    exact ⟨rfl, later1 _ _⟩

set_option maxHeartbeats 800000 in
theorem szEnts_walk (w : World) (a : Option Addr) (n cap : Nat) (es : List EN) (left : Int) (h0 : 0 ≤ left) (h1 : left ≤ 1048576) (hl : es.length = n) (hn : n ≤ maxLen) (hz : ∀ k : Nat, (es[k]?.getD en0).1.size ≤ maxLen) (hc : AtN w a n es) :
    Calls Try.prog 36 #[.slice a n cap, .int .i64 left] w fun e w' => e = .returned (.int .i64 (szf left (sizeN es))) ∧ Below w.heap.size w w' := by
  have HC : Hid (AtN w a n es) := hc
  have HZ : Hid (∀ k : Nat, (es[k]?.getD en0).1.size ≤ maxLen) := hz
  have HS : Hid (sizeN es = n + (nlens es).sum) := by unfold Hid sizeN; rw [hl]
  have HL : Hid (es.length = n) := hl
  unfold maxLen at hn
  clear hc hz hl
  by_cases h : left < (n : Int)
  · rw [szf_no (by rw [HS.out]; omega)]
    have h' : left - (n : Int) < 0 := by omega
    go_enter Try.func36, Try.ntmps36
    go_wp2
    go_ret
    exact ⟨rfl, Below.refl _ _⟩
  · have h' : ¬ left - (n : Int) < 0 := by omega
    go_enter Try.func36, Try.ntmps36
    go_wp2
    go_loopw [1, 5] (fun q i wr => ∃ j : Nat, j ≤ n ∧ i = .int .i64 j ∧ q = .int .i64 (left - (n : Int) - (upto (nlens es) j : Nat)) ∧ 0 ≤ left - (n : Int) - (upto (nlens es) j : Nat) ∧ Below w.heap.size w wr) (fun _ i _ => n - (intOf i).toNat)
    case atStart => exact ⟨0, Nat.zero_le _, rfl, by rw [upto_zero]; simp, by rw [upto_zero]; simp; omega, Below.refl _ _⟩
    case round =>
      obtain ⟨j, hj, rfl, rfl, hge, hbl⟩ := hrel
      have HBL : Hid (Below w.heap.size w wr) := hbl
      clear hbl
      by_cases hlt : j < n
      · obtain ⟨b, off, rfl, c0, c1⟩ := HC.out j hlt
        replace c0 := cell_later HBL.out c0
        replace c1 := cell_later HBL.out c1
        have HNX : Hid (upto (nlens es) (j + 1) = upto (nlens es) j + (es[j]?.getD en0).1.size) := by unfold Hid; rw [upto_succ _ _ (by rw [nlens_length, HL.out]; exact hlt), nlens_get]
        have HSZ : Hid ((es[j]?.getD en0).1.size ≤ maxLen) := HZ.out j
        have HUP : Hid (upto (nlens es) (j + 1) ≤ (nlens es).sum) := upto_le _ _
        generalize hL : left - (n : Int) - ((upto (nlens es) j : Nat) : Int) = L at *
        have HLL : Hid (left - (n : Int) - ((upto (nlens es) j : Nat) : Int) = L) := hL
        have hL1 : L ≤ 1048576 := by omega
        clear hL
        generalize (es[j]?.getD en0).1 = s at *
        generalize (es[j]?.getD en0).2 = z at *
        by_cases hs : L < (s.size : Int)
        · have HR : Hid (szf L s.size = -1) := szf_no hs
          have HM : Hid (szf left (sizeN es) = -1) := szf_no (by rw [HS.out]; have := HNX.out; have := HUP.out; have := HLL.out; omega)
          clear hs
          go_wp2_with fail
          refine (szEnt_any _ s z L HSZ.out hge hL1).mono ?_
          rw [HR.out]
          rintro e w1 ⟨rfl, hb1⟩
          have HB1 : Hid (Below w.heap.size w w1) := HBL.out.trans (hb1.mono HBL.out.size)
          clear hb1
          go_wp2
          go_ret
          exact ⟨ret_int HM.out.symm, HB1.out⟩
        · have HR : Hid (szf L s.size = L - (s.size : Int)) := szf_yes hs
          have hs' : ¬ L - (s.size : Int) < 0 := by omega
          have HE : Hid (left - (n : Int) - ((upto (nlens es) (j + 1) : Nat) : Int) = L - (s.size : Int)) := by unfold Hid; rw [HNX.out]; have := HLL.out; omega
          clear hs
          go_wp2_with fail
          refine (szEnt_any _ s z L HSZ.out hge hL1).mono ?_
          rw [HR.out]
          rintro e w1 ⟨rfl, hb1⟩
          have HB1 : Hid (Below w.heap.size w w1) := HBL.out.trans (hb1.mono HBL.out.size)
          clear hb1
          go_wp2
          go_roundw
          case rel => exact ⟨j + 1, by omega, by go_num, by rw [HE.out], by rw [HE.out]; omega, HB1.out⟩
          case measure => simp [intOf]; omega
      · have e : j = n := by omega
        have HE : Hid (left - (n : Int) - ((upto (nlens es) j : Nat) : Int) = szf left (sizeN es)) := by
          unfold Hid
          have h2 : upto (nlens es) j = (nlens es).sum := by rw [e, ← HL.out, ← nlens_length]; exact upto_all _
          rw [szf_yes (by rw [HS.out]; omega), HS.out]; omega
        go_wp2
        go_ret
        exact ⟨ret_int HE.out, HBL.out⟩
theorem szEnts_any {w : World} {v : Value} {es : List EN} (h : Ents w v es) (left : Int) (h0 : 0 ≤ left) (h1 : left ≤ 1048576) :
    Calls Try.prog 36 #[v, .int .i64 left] w fun e w' => e = .returned (.int .i64 (szf left (sizeN es))) ∧ Below w.heap.size w w' := by
  obtain ⟨a, cap, rfl, hm, hz, hc⟩ := h.open'
  exact szEnts_walk w a _ cap es left h0 h1 rfl hm hz hc

theorem toEnt_any (w : World) (s : ByteArray) (z : Int) :
    Calls Try.prog 60 #[.agg #[.string s, .int .i64 z]] w fun e w' => e = .returned (.agg #[.string s, .int .i64 z]) ∧ Below w.heap.size w w' := by
  go_enter Try.func60, Try.ntmps60
  go_wp2
  exact bodyPost_ret (v := .agg #[.string s, .int .i64 z]) (by simp [results, Try.results60, go_sem]) rfl ⟨rfl, later3 _ _ _ _⟩

set_option maxHeartbeats 800000 in
theorem toEnts_walk (w : World) (a : Option Addr) (cap n : Nat) (es : List EN) (hn : n ≤ 1048576) (hc : AtN w a n es) :
    Calls Try.prog 38 #[.slice a n cap] w fun e w' => e = .returned (.slice (some ⟨w.heap.size, 0, none⟩) n n) ∧ Below w.heap.size w w' ∧ OwnRow w' w.heap.size (n * 2) (enCell es) := by
  have hmk := fun w => run_make_pair (P := Try.prog) 28 64 (.string ⟨#[]⟩) (.int .i64 0) 24 Try.underlying28 Try.infoEnt rfl .i64 .i64 n (by omega) (by omega) w
  have HC : Hid (AtN w a n es) := hc
  clear hc
  go_enter Try.func38, Try.ntmps38
  go_wp2
  clear hmk
  go_loopw [4] (fun i wr => ∃ j : Nat, j ≤ n ∧ i = .int .i64 j ∧ Below w.heap.size w wr ∧ OwnRow wr w.heap.size (n * 2) (partN es j)) (fun i _ => n - (intOf i).toNat)
  case atStart => exact ⟨0, Nat.zero_le _, rfl, later1 _ _, (OwnRow.madePair w (.string ⟨#[]⟩) (.int .i64 0) n 64).congr fun i _ => by simp [partN]⟩
  case round =>
    obtain ⟨j, hj, rfl, hbl, hrow⟩ := hrel
    by_cases hlt : j < n
    · obtain ⟨b, off, rfl, c0, c1⟩ := HC.out j hlt
      replace c0 := cell_later hbl c0
      replace c1 := cell_later hbl c1
      have HBL : Hid (Below w.heap.size w wr) := hbl
      have HROW : Hid (OwnRow wr w.heap.size (n * 2) (partN es j)) := hrow
      have NX : ∀ c, (if c = j * 2 + 1 then .int .i64 (es[j]?.getD en0).2 else (if c = j * 2 then .string (es[j]?.getD en0).1 else partN es j c)) = partN es (j + 1) c := partN_next es j
      generalize (es[j]?.getD en0).1 = x at c0 NX
      generalize (es[j]?.getD en0).2 = y at c1 NX
      have HNX : Hid (∀ c, (if c = j * 2 + 1 then .int .i64 y else (if c = j * 2 then .string x else partN es j c)) = partN es (j + 1) c) := NX
      clear hbl hrow NX
      go_wp2_with fail
      refine (toEnt_any _ x y).mono ?_
      rintro e w1 ⟨rfl, hb1⟩
      have HB1 : Hid (Below wr.heap.size wr w1) := hb1
      have HROW1 : Hid (OwnRow w1 w.heap.size (n * 2) (partN es j)) := HROW.out.block (hb1.block _ HROW.out.lt)
      have d0 : w1.cell? ⟨w.heap.size, j * 2, none⟩ = some (.string ⟨#[]⟩) := by rw [HROW1.out.cell (by omega)]; simp [partN, pairCell]
      have d1 : w1.cell? ⟨w.heap.size, j * 2 + 1, none⟩ = some (.int .i64 0) := by rw [HROW1.out.cell (by omega)]; unfold partN pairCell; rw [if_neg (by omega), if_neg (by omega)]
      have f0 := HROW1.out.frozen (j * 2)
      have f1 := HROW1.out.frozen (j * 2 + 1)
      clear hb1
      go_wp2
      go_roundw
      case rel =>
        refine ⟨j + 1, by omega, by go_num, ((HBL.out.trans (HB1.out.mono HBL.out.size)).setCell (Nat.le_refl _) _).setCell (Nat.le_refl _) _, ((HROW1.out.set (j * 2) _).set (j * 2 + 1) _).congr fun c _ => HNX.out c⟩
      case measure => simp [intOf]; omega
    · go_wp2
      go_ret
      have e : j = n := by omega
      subst e
      exact ⟨rfl, hbl, hrow.congr fun i hi => by simp [partN, hi]⟩
theorem toEntsU {w : World} {v : Value} {es : List EN} (h : Ents w v es) (hn : es.length ≤ 1048576) :
    Calls Try.prog 38 #[v] w fun e w' => ∃ a n c, e = .returned (.slice a n c) ∧ Below w.heap.size w w' ∧ EntsO w' (.slice a n c) es (fresh w w') := by
  obtain ⟨a, cap, rfl, hm, hz, hc⟩ := h.open'
  exact (toEnts_walk w a cap es.length es hn hc).mono fun e w' ⟨he, hb, hr⟩ => ⟨_, _, _, he, hb, Or.inr ⟨w.heap.size, _, ⟨Nat.le_refl _, hr.lt⟩, rfl, ⟨hm, Nat.le_refl _, hz⟩, hr⟩⟩

theorem eqEnt_true (w : World) (s : ByteArray) (z : Int) :
    Calls Try.prog 61 #[.agg #[.string s, .int .i64 z], .agg #[.string s, .int .i64 z]] w fun e w' => e = .returned (.bool true) ∧ Below w.heap.size w w' := by
  have h0 : (s.toList != s.toList) = false := by simp
  have h2 : (z != z) = false := by simp
  go_enter Try.func61, Try.ntmps61
  go_wp2
  go_ret
  exact ⟨rfl, later2 _ _ _⟩

set_option maxHeartbeats 800000 in
theorem eqEnts_walk (w : World) (a a' : Option Addr) (cap cap' n : Nat) (es : List EN) (hn : n ≤ maxLen) (hc : AtN w a n es) (hc' : AtN w a' n es) :
    Calls Try.prog 41 #[.slice a n cap, .slice a' n cap'] w fun e w' => e = .returned (.bool true) ∧ Below w.heap.size w w' := by
  unfold maxLen at hn
  have HC : Hid (AtN w a n es) := hc
  have HC' : Hid (AtN w a' n es) := hc'
  clear hc hc'
  go_enter Try.func41, Try.ntmps41
  go_wp2
  go_loopw [5] (fun i wr => ∃ k : Nat, k ≤ n ∧ i = .int .i64 k ∧ Below w.heap.size w wr) (fun i _ => n - (intOf i).toNat)
  case atStart => exact ⟨0, Nat.zero_le _, rfl, Below.refl _ _⟩
  case round =>
    obtain ⟨j, hj, rfl, hbl⟩ := hrel
    by_cases hlt : j < n
    · obtain ⟨b, off, rfl, c0, c1⟩ := HC.out j hlt
      obtain ⟨b', off', rfl, d0, d1⟩ := HC'.out j hlt
      replace c0 := cell_later hbl c0
      replace c1 := cell_later hbl c1
      replace d0 := cell_later hbl d0
      replace d1 := cell_later hbl d1
      generalize (es[j]?.getD en0).1 = x at c0 d0
      generalize (es[j]?.getD en0).2 = y at c1 d1
      have HBL : Hid (Below w.heap.size w wr) := hbl
      clear hbl
      go_wp2_with fail
      go_region_with ((go_at_call 61; refine (eqEnt_true _ x y).mono ?_; rintro e w' ⟨rfl, hb2⟩))
      all_goals
        go_wp2
        go_roundw
        case rel => exact ⟨j + 1, by omega, by go_num, (HBL.out.drew).trans (hb2.mono HBL.out.size)⟩
        case measure => simp [intOf]; omega
    · go_wp2
      go_ret
      exact ⟨rfl, hbl⟩
theorem eqEntsU {w : World} {v v' : Value} {es : List EN} (h : Ents w v es) (h' : Ents w v' es) : Calls Try.prog 41 #[v, v'] w fun e w' => e = .returned (.bool true) ∧ Below w.heap.size w w' := by
  obtain ⟨a, cap, rfl, hm, _, hc⟩ := h.open'
  obtain ⟨a', cap', rfl, _, hc'⟩ := h'
  exact eqEnts_walk w a a' cap cap' es.length es hm hc hc'
end Go.Proofs.Ytjbppdkijjfejak

namespace Go.Proofs.Ytjbppdkijjfejak
open Go.RowKit
set_option maxRecDepth 100000

set_option maxHeartbeats 400000 in
theorem markEnts_nil (w : World) (a : Option Addr) (cap k : Nat) :
    Calls Try.prog 48 #[.slice a 0 cap, .int .i64 (k : Int)] w fun e w' => e = .returned (.int .i64 (k : Int)) ∧ w' = w := by
  go_enter Try.func48, Try.ntmps48
  go_wp2
  go_loop [1, 5] (fun q i => i = .int .i64 0 ∧ q = .int .i64 (k : Int)) (fun _ _ => 0)
  case atStart => exact ⟨rfl, rfl⟩
  case round =>
    obtain ⟨rfl, rfl⟩ := hrel
    go_wp2
    go_ret
    exact ⟨rfl, rfl⟩

theorem markCell_0 (k j : Nat) : markCell k (j * 2) = mkT (k + 2 * j) := by unfold markCell; rw [if_pos (by omega), show k + j * 2 = k + 2 * j by omega]
theorem markCell_1 (k j : Nat) : markCell k (j * 2 + 1) = .int .i64 ((k + 2 * j : Nat) + 1 : Int) := by unfold markCell; rw [if_neg (by omega)]; congr 1; omega

set_option maxHeartbeats 1600000 in
theorem markEnts_walk (w : World) (b cap n k : Nat) (f : Nat → Value) (hk0 : 1 ≤ k) (hk : k + 2 * n ≤ 4294967296) (hr : OwnRow w b (n * 2) f) :
    Calls Try.prog 48 #[.slice (some ⟨b, 0, none⟩) n cap, .int .i64 (k : Int)] w fun e w' => e = .returned (.int .i64 ((k + 2 * n : Nat) : Int)) ∧ OwnRow w' b (n * 2) (markCell k) ∧ Chg (fun c => c = b) w w' := by
  have HR : Hid (OwnRow w b (n * 2) f) := hr
  clear hr
  go_enter Try.func48, Try.ntmps48
  go_wp2
  go_loopw [1, 5] (fun q i wr => ∃ j : Nat, j ≤ n ∧ i = .int .i64 j ∧ q = .int .i64 ((k + 2 * j : Nat) : Int) ∧ OwnRow wr b (n * 2) (fun c => if c < j * 2 then markCell k c else f c) ∧ Chg (fun c => c = b) w wr) (fun _ i _ => n - (intOf i).toNat)
  case atStart => exact ⟨0, Nat.zero_le _, rfl, by simp, HR.out.congr fun i _ => by simp, Chg.refl _ _⟩
  case round =>
    obtain ⟨j, hj, rfl, rfl, hrow, hch⟩ := hrel
    have HROW : Hid (OwnRow wr b (n * 2) (fun c => if c < j * 2 then markCell k c else f c)) := hrow
    have HCH : Hid (Chg (fun c => c = b) w wr) := hch
    clear hch
    by_cases hlt : j < n
    · have c3 := hrow.lt
      have c1 := hrow.cell (i := j * 2) (by omega)
      have c2 := hrow.frozen (j * 2)
      simp only [Nat.lt_irrefl, if_false] at c1
      clear hrow
      have hkk : k + 2 * j + 2 ≤ 4294967296 := by omega
      have hk1 : 1 ≤ k + 2 * j := by omega
      have HV : Hid (∀ c : Nat, (if c = j * 2 + 1 then Value.int .i64 (((k + 2 * j : Nat) : Int) + 1) else if c = j * 2 then mkT (k + 2 * j) else if c < j * 2 then markCell k c else f c) = if c < (j + 1) * 2 then markCell k c else f c) := by
        intro c
        by_cases e1 : c = j * 2 + 1
        · subst e1; rw [if_pos rfl, if_pos (by omega), markCell_1]
        · rw [if_neg e1]
          by_cases e0 : c = j * 2
          · subst e0; rw [if_pos rfl, if_pos (by omega), markCell_0]
          · rw [if_neg e0]
            by_cases h : c < j * 2
            · rw [if_pos h, if_pos (by omega)]
            · rw [if_neg h, if_neg (by omega)]
      have HQ : Hid (k + 2 * (j + 1) = k + 2 * j + 2) := by unfold Hid; omega
      generalize hq : k + 2 * j = q at *
      clear hq
      go_wp2_with fail
      refine (markText_any _ q hk1 (by omega)).mono ?_
      rintro e w1 ⟨rfl, hb1⟩
      have HCH1 : Hid (Chg (fun c => c = b) w w1) := HCH.out.trans (Chg.of_below hb1)
      have hrow1 := HROW.out.block (hb1.block b c3)
      have HROW1 : Hid (OwnRow w1 b (n * 2) (fun c => if c < j * 2 then markCell k c else f c)) := hrow1
      have d0 := hrow1.cell (i := j * 2) (by omega)
      have d1 := hrow1.cell (i := j * 2 + 1) (by omega)
      simp only [Nat.lt_irrefl, if_false] at d0
      rw [if_neg (by omega)] at d1
      have f0 := hrow1.frozen (j * 2)
      have f1 := hrow1.frozen (j * 2 + 1)
      have HT : Hid (mkT q = .string (mkB (109 :: dg q []))) := rfl
      rw [HT.out] at HV
      generalize mkB (109 :: dg q []) = v at *
      clear hb1 hrow1 HROW HCH HT c1 c2
      go_wp2
      go_roundw
      case rel =>
        refine ⟨j + 1, by omega, by go_num, by rw [HQ.out]; go_num, ((HROW1.out.set (j * 2) _).set (j * 2 + 1) _).congr fun c hc => ?_, (HCH1.out.set rfl _ _).set rfl _ _⟩
        rw [← HV.out c]
      case measure => simp [intOf]; omega
    · have hjn : j = n := by omega
      clear hrow
      go_wp2
      go_ret
      subst hjn
      exact ⟨rfl, HROW.out.congr fun i hi => by simp [hi], HCH.out⟩
theorem markEntsU {w : World} {v : Value} {es : List EN} {F : Nat → Prop} (k : Nat) (h : EntsO w v es F) (hk0 : 1 ≤ k) (hk : k + 2 * es.length ≤ 4294967296) :
    Calls Try.prog 48 #[v, .int .i64 (k : Int)] w fun e w' => e = .returned (.int .i64 ((k + 2 * es.length : Nat) : Int)) ∧ EntsO w' v (marksN k es.length) F ∧ Chg F w w' := by
  rcases h with ⟨rfl, a, cap, rfl⟩ | ⟨b, cap, hF, rfl, hl, hr⟩
  · exact (markEnts_nil w a cap k).mono fun e w' ⟨he, hw⟩ => ⟨by rw [he]; simp, Or.inl ⟨rfl, a, cap, rfl⟩, hw ▸ Chg.refl _ _⟩
  · refine (markEnts_walk w b cap es.length k _ hk0 hk hr).mono fun e w' ⟨he, hrow, hc⟩ => ⟨he, Or.inr ⟨b, cap, hF, by rw [marksN_length], by rw [marksN_length]; exact ⟨hl.1, hl.2.1, marksN_size k _ hk⟩, ?_⟩, hc.mono fun c hc => hc ▸ hF⟩
    rw [marksN_length]
    exact hrow.congr fun c hc => (enCell_marks k hc).symm

end Go.Proofs.Ytjbppdkijjfejak

namespace Go.Proofs.Ytjbppdkijjfejak
open Go.RowKit
set_option maxRecDepth 100000

theorem OwnRow.newV (w : World) (vs : List Value) (t : TypeId) : OwnRow (w.alloc (.cells vs.toArray t)) w.heap.size vs.length (fun i => vs[i]?.getD (.int .i64 0)) := by
  refine ⟨_, t, Go.Deep.blk_alloc_new _ _, by simp, fun i hi => ?_⟩
  simp [List.getElem?_eq_getElem hi]

set_option maxHeartbeats 800000 in
theorem szInodeU (w : World) (z0 z1 z2 : Int) (aB : Option Addr) (nB cB : Nat) (aE : Option Addr) (nE cE : Nat) (d : ID) (h : InoR w (.int .i64 z0) (.int .i64 z1) (.int .i64 z2) (.slice aB nB cB) (.slice aE nE cE) d) (left : Int) (l0 : 0 ≤ left) (l1 : left ≤ 1048576) :
    Calls Try.prog 9 #[.agg #[.int .i64 z0, .int .i64 z1, .int .i64 z2, .slice aB nB cB, .slice aE nE cE], .int .i64 left] w fun e w' => e = .returned (.int .i64 (szf left (sizeIno d))) ∧ Below w.heap.size w w' := by
  have H1 : Hid (Ints w (.slice aB nB cB) d.2.2.2.1) := h.2.1
  have H2 : Hid (Ents w (.slice aE nE cE) d.2.2.2.2) := h.2.2
  clear h
  by_cases hm : left < ((d.2.2.2.1.length : Nat) : Int)
  · have HR : Hid (szf left d.2.2.2.1.length = -1) := szf_no hm
    have HM : Hid (szf left (sizeIno d) = -1) := szf_no (by unfold sizeIno; omega)
    rw [HM.out]
    go_enter Try.func9, Try.ntmps9
    go_wp2_with fail
    refine (szInts_any (H1.out.later (later1 _ _)) _ l0 l1).mono ?_
    rw [HR.out]
    rintro e w1 ⟨rfl, rfl⟩
    go_wp2
    go_ret
    exact ⟨rfl, later1 _ _⟩
  · have HR : Hid (szf left d.2.2.2.1.length = left - (d.2.2.2.1.length : Nat)) := szf_yes hm
    have hpos : ¬ left - ((d.2.2.2.1.length : Nat) : Int) < 0 := by omega
    have HD : Hid (szf (left - ((d.2.2.2.1.length : Nat) : Int)) (sizeN d.2.2.2.2) = szf left (sizeIno d)) := by
      unfold Hid szf sizeIno
      split <;> split <;> omega
    have hx0 : (0 : Int) ≤ ((d.2.2.2.1.length : Nat) : Int) := by omega
    generalize ((d.2.2.2.1.length : Nat) : Int) = X at *
    have hrr : szf left (sizeIno d) = -1 ∨ 0 ≤ szf left (sizeIno d) := by unfold szf; split <;> omega
    generalize hr : szf left (sizeIno d) = r at *
    clear hr
    have step : ∀ (P : Prop), (r = -1 → P) → (0 ≤ r → P) → P := fun P h1 h2 => hrr.elim h1 h2
    apply step
    · intro hneg
      subst hneg
      clear step hrr
      go_enter Try.func9, Try.ntmps9
      go_wp2_with fail
      refine (szInts_any (H1.out.later (later1 _ _)) _ l0 l1).mono ?_
      rw [HR.out]
      rintro e w1 ⟨rfl, rfl⟩
      go_wp2_with fail
      refine (szEnts_any (H2.out.later (later1 _ _)) _ (by omega) (by omega)).mono ?_
      rw [HD.out]
      rintro e w2 ⟨rfl, hb2⟩
      have HB2 : Hid (Below w.heap.size w w2) := (later1 _ _).trans (hb2.mono (by simp))
      clear hb2
      go_wp2
      go_ret
      exact ⟨rfl, HB2.out⟩
    · intro hge
      have hnn : ¬ r < 0 := by omega
      clear step hrr
      go_enter Try.func9, Try.ntmps9
      go_wp2_with fail
      refine (szInts_any (H1.out.later (later1 _ _)) _ l0 l1).mono ?_
      rw [HR.out]
      rintro e w1 ⟨rfl, rfl⟩
      go_wp2_with fail
      refine (szEnts_any (H2.out.later (later1 _ _)) _ (by omega) (by omega)).mono ?_
      rw [HD.out]
      rintro e w2 ⟨rfl, hb2⟩
      have HB2 : Hid (Below w.heap.size w w2) := (later1 _ _).trans (hb2.mono (by simp))
      clear hb2
      go_wp2
      go_ret
      exact ⟨rfl, HB2.out⟩

set_option maxHeartbeats 1600000 in
theorem eqInodeU (w : World) (v0 v1 v2 vB vE v0' v1' v2' vB' vE' : Value) (d : ID) (h : InoR w v0 v1 v2 vB vE d) (h' : InoR w v0' v1' v2' vB' vE' d) :
    Calls Try.prog 13 #[.agg #[v0, v1, v2, vB, vE], .agg #[v0', v1', v2', vB', vE']] w fun e w' => e = .returned (.bool true) ∧ Below w.heap.size w w' := by
  obtain ⟨⟨rfl, rfl, rfl, _⟩, h1, h2⟩ := h
  obtain ⟨⟨rfl, rfl, rfl, _⟩, h1', h2'⟩ := h'
  obtain ⟨a1, c1, rfl, _⟩ := h1.open'
  obtain ⟨a2, c2, rfl, _⟩ := h2.open'
  obtain ⟨b1, k1, rfl, _⟩ := h1'.open'
  obtain ⟨b2, k2, rfl, _⟩ := h2'.open'
  have H1 : Hid (Ints w _ d.2.2.2.1) := h1
  have H1' : Hid (Ints w _ d.2.2.2.1) := h1'
  have H2 : Hid (Ents w _ d.2.2.2.2) := h2
  have H2' : Hid (Ents w _ d.2.2.2.2) := h2'
  clear h1 h2 h1' h2'
  generalize d.1 = z0
  generalize d.2.1 = z1
  generalize d.2.2.1 = z2
  generalize d.2.2.2.1.length = m1 at *
  generalize d.2.2.2.2.length = m2 at *
  have e0 : (z0 != z0) = false := by simp
  have e1 : (z1 != z1) = false := by simp
  have e2 : (z2 != z2) = false := by simp
  go_enter Try.func13, Try.ntmps13
  go_wp2_with fail
  refine (eqIntsU (H1.out.later (later2 _ _ _)) (H1'.out.later (later2 _ _ _))).mono ?_
  rintro e w1 ⟨rfl, hb1⟩
  have HB1 : Hid (Below w.heap.size w w1) := (later2 _ _ _).trans (hb1.mono (by simp; omega))
  have x2 : w1.cell? ⟨w.heap.size, 4, none⟩ = some (.slice a2 m2 c2) := by
    rw [hb1.cell (by simp; omega)]
    exact ((OwnRow.newV w [.int .i64 z0, .int .i64 z1, .int .i64 z2, .slice a1 m1 c1, .slice a2 m2 c2] 30).later (later1 _ _)).cell (i := 4) (by simp)
  have y2 : w1.cell? ⟨w.heap.size + 1, 4, none⟩ = some (.slice b2 m2 k2) := by
    rw [hb1.cell (by simp)]
    have := (OwnRow.newV (w.alloc (.cells #[.int .i64 z0, .int .i64 z1, .int .i64 z2, .slice a1 m1 c1, .slice a2 m2 c2] 30)) [.int .i64 z0, .int .i64 z1, .int .i64 z2, .slice b1 m1 k1, .slice b2 m2 k2] 30).cell (i := 4) (by simp)
    rw [World.size_alloc] at this
    exact this
  clear hb1
  go_wp2_with fail
  refine (eqEntsU (H2.out.later HB1.out) (H2'.out.later HB1.out)).mono ?_
  rintro e w2 ⟨rfl, hb2⟩
  have HB2 : Hid (Below w.heap.size w w2) := HB1.out.trans (hb2.mono HB1.out.size)
  clear hb2
  go_wp2
  go_ret
  exact ⟨rfl, HB2.out⟩

/-- An inode whose lists are marked from k on. -/
def mkIno (k : Int) (d : ID) : ID := (d.1, d.2.1, d.2.2.1, marks k d.2.2.2.1.length, marksN (k + (d.2.2.2.1.length : Nat)).toNat d.2.2.2.2.length)

end Go.Proofs.Ytjbppdkijjfejak

namespace Go.Proofs.Ytjbppdkijjfejak
open Go.RowKit
set_option maxRecDepth 100000

def z5 : List Value := [.int .i64 0, .int .i64 0, .int .i64 0, .slice none 0 0, .slice none 0 0]
theorem box5 (w : World) (o1 o2 : Obj) (t : TypeId) (z0 z1 z2 : Value) :
    OwnRow (((w.alloc o1).alloc o2).alloc (.cells #[z0, z1, z2, .slice none 0 0, .slice none 0 0] t)) (w.heap.size + 1 + 1) 5 (fun i => if i = 0 then z0 else if i = 1 then z1 else if i = 2 then z2 else .slice none 0 0) := by
  have h := OwnRow.newV ((w.alloc o1).alloc o2) [z0, z1, z2, .slice none 0 0, .slice none 0 0] t
  simp only [World.size_alloc] at h
  refine OwnRow.congr (n := 5) h fun i hi => ?_
  have : i = 0 ∨ i = 1 ∨ i = 2 ∨ i = 3 ∨ i = 4 := by omega
  rcases this with rfl | rfl | rfl | rfl | rfl <;> simp
theorem box5' (w : World) (o1 o3 : Obj) (t : TypeId) :
    OwnRow (((w.alloc o1).alloc (.cells #[.int .i64 0, .int .i64 0, .int .i64 0, .slice none 0 0, .slice none 0 0] t)).alloc o3) (w.heap.size + 1) 5 (fun i => if i < 3 then .int .i64 0 else .slice none 0 0) := by
  have h := (OwnRow.newV (w.alloc o1) z5 t).later (later1 _ o3)
  simp only [World.size_alloc] at h
  refine OwnRow.congr (n := 5) h fun i hi => ?_
  have : i = 0 ∨ i = 1 ∨ i = 2 ∨ i = 3 ∨ i = 4 := by omega
  rcases this with rfl | rfl | rfl | rfl | rfl <;> simp [z5]
theorem box5p (w : World) (x0 x1 x2 x3 x4 : Value) (o2 o3 : Obj) (t : TypeId) :
    OwnRow (((w.alloc (.cells #[x0, x1, x2, x3, x4] t)).alloc o2).alloc o3) w.heap.size 5 (fun i => [x0, x1, x2, x3, x4][i]?.getD (.int .i64 0)) :=
  ((OwnRow.newV w [x0, x1, x2, x3, x4] t).later (later1 _ o2)).later (later1 _ o3)

theorem toIntsC {w : World} {v : Value} {zs : List Int} (h : Ints w v zs) (hn : zs.length ≤ 1048576) :
    Calls Try.prog 24 #[v] w fun e w' => ∃ a n c, e = .returned (.slice a n c) ∧ Below w.heap.size w w' ∧ IntsO w' (.slice a n c) zs (fresh w w') ∧ n ≤ c :=
  (toInts_any h hn).mono fun _ _ ⟨h1, h2, h3⟩ => ⟨_, _, _, h1, h2, h3, Nat.le_refl _⟩

set_option maxHeartbeats 3200000 in
theorem toInodeU (w : World) (z0 z1 z2 : Int) (aB : Option Addr) (nB cB : Nat) (aE : Option Addr) (nE cE : Nat) (d : ID) (h : InoR w (.int .i64 z0) (.int .i64 z1) (.int .i64 z2) (.slice aB nB cB) (.slice aE nE cE) d) (hs : sizeIno d ≤ 1048576) :
    Calls Try.prog 11 #[.agg #[.int .i64 z0, .int .i64 z1, .int .i64 z2, .slice aB nB cB, .slice aE nE cE]] w fun e w' => ∃ y0 y1 y2 dB eB fB dE eE fE, e = .returned (.agg #[.int .i64 y0, .int .i64 y1, .int .i64 y2, .slice dB eB fB, .slice dE eE fE]) ∧ Below w.heap.size w w' ∧ InoU w' (.int .i64 y0) (.int .i64 y1) (.int .i64 y2) (.slice dB eB fB) (.slice dE eE fE) d (fresh w w') := by
  have H0 : Hid (Value.int .i64 z0 = .int .i64 d.1 ∧ Value.int .i64 z1 = .int .i64 d.2.1 ∧ Value.int .i64 z2 = .int .i64 d.2.2.1 ∧ capOK (.slice aB nB cB)) := h.1
  have H1 : Hid (Ints w (.slice aB nB cB) d.2.2.2.1) := h.2.1
  have H2 : Hid (Ents w (.slice aE nE cE) d.2.2.2.2) := h.2.2
  have L1 : Hid (d.2.2.2.1.length ≤ 1048576) := by unfold sizeIno at hs; unfold Hid; omega
  have L2 : Hid (d.2.2.2.2.length ≤ 1048576) := by unfold sizeIno sizeN at hs; unfold Hid; omega
  clear h hs
  go_enter Try.func11, Try.ntmps11
  go_wp2_with fail
  have O2 := box5 w (Obj.cells #[.int .i64 z0, .int .i64 z1, .int .i64 z2, .slice aB nB cB, .slice aE nE cE] 25) (Obj.cells #[.int .i64 0, .int .i64 0, .int .i64 0, .slice none 0 0, .slice none 0 0] 30) 30 (.int .i64 z0) (.int .i64 z1) (.int .i64 z2)
  have O1 := box5' w (Obj.cells #[.int .i64 z0, .int .i64 z1, .int .i64 z2, .slice aB nB cB, .slice aE nE cE] 25) (Obj.cells #[.int .i64 z0, .int .i64 z1, .int .i64 z2, .slice none 0 0, .slice none 0 0] 30) 30
  have O0 := box5p w (.int .i64 z0) (.int .i64 z1) (.int .i64 z2) (.slice aB nB cB) (.slice aE nE cE) (Obj.cells #[.int .i64 0, .int .i64 0, .int .i64 0, .slice none 0 0, .slice none 0 0] 30) (Obj.cells #[.int .i64 z0, .int .i64 z1, .int .i64 z2, .slice none 0 0, .slice none 0 0] 30) 25
  have HBA : Hid (Below w.heap.size w (((w.alloc (Obj.cells #[.int .i64 z0, .int .i64 z1, .int .i64 z2, .slice aB nB cB, .slice aE nE cE] 25)).alloc (Obj.cells #[.int .i64 0, .int .i64 0, .int .i64 0, .slice none 0 0, .slice none 0 0] 30)).alloc (Obj.cells #[.int .i64 z0, .int .i64 z1, .int .i64 z2, .slice none 0 0, .slice none 0 0] 30))) := later3 _ _ _ _
  have hWs : (((w.alloc (Obj.cells #[.int .i64 z0, .int .i64 z1, .int .i64 z2, .slice aB nB cB, .slice aE nE cE] 25)).alloc (Obj.cells #[.int .i64 0, .int .i64 0, .int .i64 0, .slice none 0 0, .slice none 0 0] 30)).alloc (Obj.cells #[.int .i64 z0, .int .i64 z1, .int .i64 z2, .slice none 0 0, .slice none 0 0] 30)).heap.size = w.heap.size + 3 := by simp
  generalize hW : (((w.alloc (Obj.cells #[.int .i64 z0, .int .i64 z1, .int .i64 z2, .slice aB nB cB, .slice aE nE cE] 25)).alloc (Obj.cells #[.int .i64 0, .int .i64 0, .int .i64 0, .slice none 0 0, .slice none 0 0] 30)).alloc (Obj.cells #[.int .i64 z0, .int .i64 z1, .int .i64 z2, .slice none 0 0, .slice none 0 0] 30)) = W at *
  clear hW
  have hz0 := O2.lt
  refine (toIntsC (H1.out.later HBA.out) L1.out).mono ?_
  rintro e w1 ⟨dB, eB, fB, rfl, hb1, ho1, hcap⟩
  have HCAP : Hid (capOK (.slice dB eB fB)) := ⟨_, _, _, rfl, hcap⟩
  clear hcap
  have HB1 : Hid (Below w.heap.size w w1) := HBA.out.trans (hb1.mono HBA.out.size)
  replace O2 := O2.later hb1
  replace O1 := O1.later hb1
  replace O0 := O0.later hb1
  have HO1 : Hid (IntsO w1 (.slice dB eB fB) d.2.2.2.1 (fun b => w.heap.size + 3 ≤ b ∧ b < w1.heap.size)) := ho1.mono fun b hb => ⟨by have := hb.1; omega, hb.2⟩
  clear hb1 ho1
  have P0 := O0.cell (i := 4) (by omega)
  have d0 := O2.cell (i := 3) (by omega)
  have f0 := O2.frozen 3
  simp at P0 d0
  have HO2 : Hid (OwnRow w1 (w.heap.size + 1 + 1) 5 (fun i => if i = 0 then .int .i64 z0 else if i = 1 then .int .i64 z1 else if i = 2 then .int .i64 z2 else .slice none 0 0)) := O2
  have HR1 : Hid (OwnRow w1 (w.heap.size + 1) 5 (fun i => if i < 3 then .int .i64 0 else .slice none 0 0)) := O1
  have hz1 : w.heap.size + 1 + 1 < w1.heap.size := O2.lt
  clear O0 O1 O2
  go_wp2_with fail
  clear d0 f0 P0
  have HBX : Hid (Below w.heap.size w (w1.setCell ⟨w.heap.size + 1 + 1, 3, none⟩ (.slice dB eB fB))) := HB1.out.setCell (by simp; omega) _
  refine (toEntsU (H2.out.later HBX.out) L2.out).mono ?_
  rintro e w2 ⟨dE, eE, fE, rfl, hb2, ho2⟩
  have HOX := (HO2.out.set 3 (.slice dB eB fB)).later hb2
  have HRX := (HR1.out.store (p := ⟨w.heap.size + 1 + 1, 3, none⟩) (by simp) (.slice dB eB fB)).later hb2
  have e1 : (w1.setCell ⟨w.heap.size + 1 + 1, 3, none⟩ (.slice dB eB fB)).heap.size = w1.heap.size := by simp [World.setCell]
  have HIX : Hid (IntsO w2 (.slice dB eB fB) d.2.2.2.1 (fun b => w.heap.size + 3 ≤ b ∧ b < w1.heap.size)) := HO1.out.keep fun b hb hlt => by
    rw [hb2.block b (by rw [e1]; exact hlt), Below.heap_setCell _ _ _ _ (by simp; omega)]
  have HPX : Hid (EntsO w2 (.slice dE eE fE) d.2.2.2.2 (fun b => w1.heap.size ≤ b ∧ b < w2.heap.size)) := by
    unfold fresh at ho2
    rw [e1] at ho2
    exact ho2
  have HB2 : Hid (Below w.heap.size w w2) := HBX.out.trans (hb2.mono HBX.out.size)
  have e2 : w1.heap.size ≤ w2.heap.size := by have := hb2.size; rwa [e1] at this
  have q0 := HOX.cell (i := 0) (by omega)
  have q1 := HOX.cell (i := 1) (by omega)
  have q2 := HOX.cell (i := 2) (by omega)
  have q3 := HOX.cell (i := 3) (by omega)
  have q4 := HOX.cell (i := 4) (by omega)
  have qf := HOX.frozen 4
  have t0 := HRX.cell (i := 0) (by omega)
  have t1 := HRX.cell (i := 1) (by omega)
  have t2 := HRX.cell (i := 2) (by omega)
  have t3 := HRX.cell (i := 3) (by omega)
  have t4 := HRX.cell (i := 4) (by omega)
  have s0 := HRX.frozen 0
  have s1 := HRX.frozen 1
  have s2 := HRX.frozen 2
  have s3 := HRX.frozen 3
  have s4 := HRX.frozen 4
  simp at q0 q1 q2 q3 q4 t0 t1 t2 t3 t4
  clear HOX HRX hb2 ho2
  go_wp2
  refine bodyPost_ret (v := .agg #[.int .i64 z0, .int .i64 z1, .int .i64 z2, .slice dB eB fB, .slice dE eE fE]) (by simp [results, Try.results11, go_sem, t0, t1, t2, t3, t4]) rfl ⟨_, _, _, _, _, _, _, _, _, rfl, ?_, ?_⟩
  · exact (((((HB2.out.setCell (by simp; omega) _).setCell (by simp) _).setCell (by simp) _).setCell (by simp) _).setCell (by simp) _).setCell (by simp) _
  · refine ⟨⟨H0.out.1, H0.out.2.1, H0.out.2.2.1, HCAP.out⟩, fun b => w.heap.size + 3 ≤ b ∧ b < w1.heap.size, fun b => w1.heap.size ≤ b ∧ b < w2.heap.size, HIX.out.keep fun b hb hlt => ?_, HPX.out.keep fun b hb hlt => ?_, fun b hb hb' => by omega, fun b hb => ?_⟩
    · rw [Below.heap_setCell _ _ _ _ (by simp; omega), Below.heap_setCell _ _ _ _ (by simp; omega), Below.heap_setCell _ _ _ _ (by simp; omega), Below.heap_setCell _ _ _ _ (by simp; omega), Below.heap_setCell _ _ _ _ (by simp; omega), Below.heap_setCell _ _ _ _ (by simp; omega)]
    · rw [Below.heap_setCell _ _ _ _ (by simp; omega), Below.heap_setCell _ _ _ _ (by simp; omega), Below.heap_setCell _ _ _ _ (by simp; omega), Below.heap_setCell _ _ _ _ (by simp; omega), Below.heap_setCell _ _ _ _ (by simp; omega), Below.heap_setCell _ _ _ _ (by simp; omega)]
    · unfold fresh
      simp only [World.setCell, Array.size_modify]
      rcases hb with hb | hb <;> omega
end Go.Proofs.Ytjbppdkijjfejak

namespace Go.Proofs.Ytjbppdkijjfejak
open Go.RowKit
set_option maxRecDepth 100000

/-- The first append: three words, then the blocks. -/
theorem append_first (w W : World) (hW : Below w.heap.size w W) (z0 z1 z2 : Int) (aB : Option Addr) (nB cB : Nat) (bs : List Int) (hn : nB ≤ 1048576) (hbn : bs.length = nB) (hc : At1 w aB nB (fun k => .int .i64 (bs[k]?.getD 0))) :
    ∃ v' X, (Builtin.append_ #[22, 22] 22 #[.slice (some ⟨W.heap.size, 0, none⟩) 3 3, .slice aB nB cB]).run Try.prog (W.alloc (.cells #[.int .i64 z0, .int .i64 z1, .int .i64 z2] 2)) = .ok v' X ∧ Wds X w.heap.size v' ([z0, z1, z2] ++ bs) ∧ Below w.heap.size w X ∧ KeepT W X := by
  have hW1 : Below w.heap.size w (W.alloc (.cells #[.int .i64 z0, .int .i64 z1, .int .i64 z2] 2)) := hW.trans ((later1 _ _).mono hW.size)
  have hl := Wds.lit W w.heap.size hW.size [z0, z1, z2] #[.int .i64 z0, .int .i64 z1, .int .i64 z2] rfl 3 rfl (by omega)
  obtain ⟨v', X, h1, h2, h3, h4⟩ := append_any _ w.heap.size _ [z0, z1, z2] bs aB nB cB hl hW1.size hbn (by simp) hn (fun k hk => by
    obtain ⟨b, off, e, h⟩ := hc k hk
    exact ⟨b, off, e, cell_later hW1 h⟩) (hl.some (by simp))
  exact ⟨v', X, h1, h2, hW1.trans h3, (KeepT.later (later1 _ _)).trans h4⟩

end Go.Proofs.Ytjbppdkijjfejak

namespace Go.Proofs.Ytjbppdkijjfejak
open Go.RowKit
set_option maxRecDepth 100000

/-- Answers that are a code and words. -/
def AnsIR (w : World) (r : Int × List Int) (e : Ending) (w' : World) : Prop := ∃ a n c, e = .returned (.agg #[.int .i64 r.1, .slice a n c]) ∧ Below w.heap.size w w' ∧ IntsO w' (.slice a n c) r.2 (fresh w w')

end Go.Proofs.Ytjbppdkijjfejak

namespace Go.Proofs.Ytjbppdkijjfejak
open Go.RowKit
set_option maxRecDepth 100000

theorem AnsIR.box {w w2 : World} {a : Option Addr} {n c : Nat} {zs : List Int} (hb : Below w.heap.size w w2) (ho : IntsO w2 (.slice a n c) zs (fun b => w.heap.size + 1 ≤ b ∧ b < w2.heap.size)) (x y : Value) :
    AnsIR w (0, zs) (.returned (.agg #[.int .i64 0, .slice a n c])) ((w2.setCell ⟨w.heap.size, 0, none⟩ x).setCell ⟨w.heap.size, 1, none⟩ y) := by
  refine ⟨_, _, _, rfl, (hb.setCell (by simp) _).setCell (by simp) _, (ho.keep fun b hb hlt => ?_).mono fun b hb => ⟨by omega, by simp only [World.setCell, Array.size_modify]; exact hb.2⟩⟩
  rw [Below.heap_setCell _ _ _ _ (by simp; omega), Below.heap_setCell _ _ _ _ (by simp; omega)]
theorem AnsIR.bad {w w2 : World} (r : Int) (hb : Below w.heap.size w w2) (x y : Value) :
    AnsIR w (r, []) (.returned (.agg #[.int .i64 r, .slice none 0 0])) ((w2.setCell ⟨w.heap.size, 0, none⟩ x).setCell ⟨w.heap.size, 1, none⟩ y) :=
  ⟨_, _, _, rfl, (hb.setCell (by simp) _).setCell (by simp) _, Or.inl ⟨rfl, _, _, rfl⟩⟩
/-- The result's box, made first. -/
theorem box2 (w : World) (t : TypeId) : OwnRow (w.alloc (.cells #[.int .i64 0, .slice none 0 0] t)) w.heap.size 2 (fun i => if i = 0 then .int .i64 0 else .slice none 0 0) := OwnRow.newS w (.int .i64 0) (.slice none 0 0) t
theorem Wds.box {w W w2 : World} {a : Option Addr} {n c : Nat} {zs : List Int} (hW : W.heap.size = w.heap.size + 1) (h : Wds w2 W.heap.size (.slice a n c) zs) : IntsO w2 (.slice a n c) zs (fun b => w.heap.size + 1 ≤ b ∧ b < w2.heap.size) :=
  (h.own' (w0 := W) (Nat.le_refl _)).mono fun b hb => ⟨by have := hb.1; omega, hb.2⟩

set_option maxHeartbeats 3200000 in
theorem specUsedU (w : World) (a : Option Addr) (n c : Nat) (ds : List ID) (h : Inos w (.slice a n c) ds) (hs : sizeInos ds ≤ 1048576) :
    Calls Try.prog 15 #[.slice a n c] w (AnsIR w (usedR ds)) := by
  have HF : Hid (∀ W, Below w.heap.size w W → Calls Try.prog 42 #[.slice a n c] W fun e w' => e = .returned (.int .i64 (insF ds)) ∧ ∃ m, w' = W.drewN m) := fun W hW => l5Fault_any (h.later hW)
  have HU : Hid (∀ W, Below w.heap.size w W → Calls Try.prog 43 #[.slice a n c] W fun e w' => ∃ a c, e = .returned (.tuple #[.slice a (selL (usedP ds) 20).length c, .bool (onceB ds 20)]) ∧ Below W.heap.size W w' ∧ Wds w' W.heap.size (.slice a (selL (usedP ds) 20).length c) (selL (usedP ds) 20)) := fun W hW => l5Used_any (h.later hW) hs
  have HR : Hid (usedR ds = if insF ds = 0 then (if onceB ds 20 = true then (0, selL (usedP ds) 20) else (7, [])) else (insF ds, [])) := rfl
  rw [HR.out]
  clear HR h hs
  generalize insF ds = r at *
  generalize onceB ds 20 = bo at *
  generalize selL (usedP ds) 20 = zs at *
  have HRB : Hid (OwnRow (w.alloc (.cells #[.int .i64 0, .slice none 0 0] 36)) w.heap.size 2 (fun i => if i = 0 then .int .i64 0 else .slice none 0 0)) := box2 w _
  have HB0 : Hid (Below w.heap.size w (w.alloc (.cells #[.int .i64 0, .slice none 0 0] 36))) := later1 _ _
  have hwz : (w.alloc (.cells #[.int .i64 0, .slice none 0 0] 36)).heap.size = w.heap.size + 1 := by simp
  by_cases hf : r = 0
  · rw [if_pos hf]
    subst hf
    cases bo
    all_goals
      go_enter Try.func15, Try.ntmps15
      go_wp2_with fail
      generalize hW : w.alloc (Obj.cells #[.int .i64 0, .slice none 0 0] 36) = W at *
      clear hW
      refine (HF.out _ HB0.out).mono ?_
      rintro e w1 ⟨rfl, m, rfl⟩
      go_wp2_with fail
      refine (HU.out _ (below_drewN HB0.out m)).mono ?_
      rintro e w2 ⟨aV, cV, rfl, hb2, hw2⟩
      have HB2 : Hid (Below w.heap.size w w2) := (below_drewN HB0.out m).trans (hb2.mono (below_drewN HB0.out m).size)
      have hrow : OwnRow w2 w.heap.size 2 (fun i => if i = 0 then .int .i64 0 else .slice none 0 0) := OwnRow.later (w := W.drewN m) HRB.out hb2
      have HI : Hid (IntsO w2 (.slice aV zs.length cV) zs (fun b => w.heap.size + 1 ≤ b ∧ b < w2.heap.size)) := hw2.box (W := W.drewN m) hwz
      have t0 := hrow.cell (i := 0) (by omega)
      have t1 := hrow.cell (i := 1) (by omega)
      have s0 := hrow.frozen 0
      have s1 := hrow.frozen 1
      simp at t0 t1
      have hz2 := hrow.lt
      clear hb2 hw2 hrow
      go_wp2
    · exact bodyPost_ret (v := .agg #[.int .i64 7, .slice none 0 0]) (by simp [results, Try.results15, go_sem, t0, t1]) rfl (AnsIR.bad 7 HB2.out _ _)
    · exact bodyPost_ret (v := .agg #[.int .i64 0, .slice aV zs.length cV]) (by simp [results, Try.results15, go_sem, t0, t1]) rfl (AnsIR.box HB2.out HI.out _ _)
  · rw [if_neg hf]
    have hr : (r != 0) = true := by simpa using hf
    go_enter Try.func15, Try.ntmps15
    go_wp2_with fail
    generalize hW : w.alloc (Obj.cells #[.int .i64 0, .slice none 0 0] 36) = W at *
    clear hW
    refine (HF.out _ HB0.out).mono ?_
    rintro e w1 ⟨rfl, m, rfl⟩
    have t0 := HRB.out.cell (i := 0) (by omega)
    have t1 := HRB.out.cell (i := 1) (by omega)
    have s0 := HRB.out.frozen 0
    have s1 := HRB.out.frozen 1
    simp at t0 t1
    go_wp2
    exact bodyPost_ret (v := .agg #[.int .i64 r, .slice none 0 0]) (by simp [results, Try.results15, go_sem, t0, t1]) rfl (AnsIR.bad r (below_drewN HB0.out m) _ _)

set_option maxHeartbeats 3200000 in
theorem specFreeU (w : World) (a : Option Addr) (n c : Nat) (ds : List ID) (a' : Option Addr) (n' c' : Nat) (bs : List Int) (h : Inos w (.slice a n c) ds) (h' : Ints w (.slice a' n' c') bs) (hs : sizeInos ds ≤ 1048576) (_ : bs.length ≤ 1048576) :
    Calls Try.prog 23 #[.slice a n c, .slice a' n' c'] w (AnsIR w (freeR ds bs)) := by
  have HF : Hid (∀ W, Below w.heap.size w W → Calls Try.prog 50 #[.slice a n c, .slice a' n' c'] W fun e w' => e = .returned (.int .i64 (askF ds bs)) ∧ ∃ m, w' = W.drewN m) := fun W hW => l5Asked_any (h.later hW) (h'.later hW)
  have HU : Hid (∀ W, Below w.heap.size w W → Calls Try.prog 51 #[.slice a n c, .slice a' n' c'] W fun e w' => ∃ a c, e = .returned (.slice a (selL (freeP ds bs) 20).length c) ∧ Below W.heap.size W w' ∧ Wds w' W.heap.size (.slice a (selL (freeP ds bs) 20).length c) (selL (freeP ds bs) 20)) := fun W hW => l5Free_any (h.later hW) (h'.later hW) hs
  have HR : Hid (freeR ds bs = if askF ds bs = 0 then (0, selL (freeP ds bs) 20) else (askF ds bs, [])) := rfl
  rw [HR.out]
  clear HR h hs h'
  generalize askF ds bs = r at *
  generalize selL (freeP ds bs) 20 = zs at *
  have HRB : Hid (OwnRow (w.alloc (.cells #[.int .i64 0, .slice none 0 0] 36)) w.heap.size 2 (fun i => if i = 0 then .int .i64 0 else .slice none 0 0)) := box2 w _
  have HB0 : Hid (Below w.heap.size w (w.alloc (.cells #[.int .i64 0, .slice none 0 0] 36))) := later1 _ _
  have hwz : (w.alloc (.cells #[.int .i64 0, .slice none 0 0] 36)).heap.size = w.heap.size + 1 := by simp
  by_cases hf : r = 0
  · rw [if_pos hf]
    subst hf
    go_enter Try.func23, Try.ntmps23
    go_wp2_with fail
    generalize hW : w.alloc (Obj.cells #[.int .i64 0, .slice none 0 0] 36) = W at *
    clear hW
    refine (HF.out _ HB0.out).mono ?_
    rintro e w1 ⟨rfl, m, rfl⟩
    go_wp2_with fail
    refine (HU.out _ (below_drewN HB0.out m)).mono ?_
    rintro e w2 ⟨aV, cV, rfl, hb2, hw2⟩
    have HB2 : Hid (Below w.heap.size w w2) := (below_drewN HB0.out m).trans (hb2.mono (below_drewN HB0.out m).size)
    have hrow : OwnRow w2 w.heap.size 2 (fun i => if i = 0 then .int .i64 0 else .slice none 0 0) := OwnRow.later (w := W.drewN m) HRB.out hb2
    have HI : Hid (IntsO w2 (.slice aV zs.length cV) zs (fun b => w.heap.size + 1 ≤ b ∧ b < w2.heap.size)) := hw2.box (W := W.drewN m) hwz
    have t0 := hrow.cell (i := 0) (by omega)
    have t1 := hrow.cell (i := 1) (by omega)
    have s0 := hrow.frozen 0
    have s1 := hrow.frozen 1
    simp at t0 t1
    have hz2 := hrow.lt
    clear hb2 hw2 hrow
    go_wp2
    exact bodyPost_ret (v := .agg #[.int .i64 0, .slice aV zs.length cV]) (by simp [results, Try.results23, go_sem, t0, t1]) rfl (AnsIR.box HB2.out HI.out _ _)
  · rw [if_neg hf]
    have hr : (r != 0) = true := by simpa using hf
    go_enter Try.func23, Try.ntmps23
    go_wp2_with fail
    generalize hW : w.alloc (Obj.cells #[.int .i64 0, .slice none 0 0] 36) = W at *
    clear hW
    refine (HF.out _ HB0.out).mono ?_
    rintro e w1 ⟨rfl, m, rfl⟩
    have t0 := HRB.out.cell (i := 0) (by omega)
    have t1 := HRB.out.cell (i := 1) (by omega)
    have s0 := HRB.out.frozen 0
    have s1 := HRB.out.frozen 1
    simp at t0 t1
    go_wp2
    exact bodyPost_ret (v := .agg #[.int .i64 r, .slice none 0 0]) (by simp [results, Try.results23, go_sem, t0, t1]) rfl (AnsIR.bad r (below_drewN HB0.out m) _ _)

set_option maxHeartbeats 3200000 in
theorem specFinU (w : World) (a : Option Addr) (n c : Nat) (ds : List ID) (h : Inos w (.slice a n c) ds) (_hs : sizeInos ds ≤ 1048576) :
    Calls Try.prog 30 #[.slice a n c] w fun e w' => e = .returned (.agg #[.int .i64 (finR ds).1, .int .i64 (finR ds).2]) ∧ Below w.heap.size w w' := by
  have HF : Hid (∀ W, Below w.heap.size w W → Calls Try.prog 42 #[.slice a n c] W fun e w' => e = .returned (.int .i64 (insF ds)) ∧ ∃ m, w' = W.drewN m) := fun W hW => l5Fault_any (h.later hW)
  have HU : Hid (insF ds = 0 → ∀ W, Below w.heap.size w W → Calls Try.prog 56 #[.slice a n c] W fun e w' => e = .returned (.int .i64 (plcI ds ds.length)) ∧ ∃ m, w' = W.drewN m) := fun hz W hW => l5Place_any (h.later hW) (by
    unfold insF at hz
    by_cases e : 10 < ds.length
    · rw [if_pos e] at hz; omega
    · omega)
  have HR : Hid (finR ds = if insF ds = 0 then (if plcI ds ds.length < 0 then (8, 0) else (0, plcI ds ds.length)) else (insF ds, 0)) := rfl
  rw [HR.out]
  clear HR h
  generalize insF ds = r at *
  generalize plcI ds ds.length = q at *
  have HRB : Hid (OwnRow (w.alloc (.cells #[.int .i64 0, .int .i64 0] 53)) w.heap.size 2 (fun i => if i = 0 then .int .i64 0 else .int .i64 0)) := OwnRow.newS w (.int .i64 0) (.int .i64 0) _
  have HB0 : Hid (Below w.heap.size w (w.alloc (.cells #[.int .i64 0, .int .i64 0] 53))) := later1 _ _
  have t0 := HRB.out.cell (i := 0) (by omega)
  have t1 := HRB.out.cell (i := 1) (by omega)
  have s0 := HRB.out.frozen 0
  have s1 := HRB.out.frozen 1
  simp only [ite_self] at t0 t1
  by_cases hf : r = 0
  · have HU' : Hid (∀ W, Below w.heap.size w W → Calls Try.prog 56 #[.slice a n c] W fun e w' => e = .returned (.int .i64 q) ∧ ∃ m, w' = W.drewN m) := HU.out hf
    rw [if_pos hf]
    subst hf
    clear HU
    by_cases hq : q < 0
    · rw [if_pos hq]
      have hqd : decide (q < 0) = true := by simpa using hq
      clear hq
      go_enter Try.func30, Try.ntmps30
      go_wp2_with fail
      generalize hW : w.alloc (Obj.cells #[.int .i64 0, .int .i64 0] 53) = W at *
      clear hW
      refine (HF.out _ HB0.out).mono ?_
      rintro e w1 ⟨rfl, m, rfl⟩
      go_wp2_with fail
      refine (HU'.out _ (below_drewN HB0.out m)).mono ?_
      rintro e w1 ⟨rfl, m2, rfl⟩
      go_wp2
      exact bodyPost_ret (v := .agg #[.int .i64 8, .int .i64 0]) (by simp [results, Try.results30, go_sem, t0, t1]) rfl ⟨rfl, ((below_drewN HB0.out _).setCell (by simp) _).setCell (by simp) _⟩
    · rw [if_neg hq]
      have hqd : decide (q < 0) = false := by simpa using hq
      clear hq
      go_enter Try.func30, Try.ntmps30
      go_wp2_with fail
      generalize hW : w.alloc (Obj.cells #[.int .i64 0, .int .i64 0] 53) = W at *
      clear hW
      refine (HF.out _ HB0.out).mono ?_
      rintro e w1 ⟨rfl, m, rfl⟩
      go_wp2_with fail
      refine (HU'.out _ (below_drewN HB0.out m)).mono ?_
      rintro e w1 ⟨rfl, m2, rfl⟩
      go_wp2
      exact bodyPost_ret (v := .agg #[.int .i64 0, .int .i64 q]) (by simp [results, Try.results30, go_sem, t0, t1]) rfl ⟨rfl, ((below_drewN HB0.out _).setCell (by simp) _).setCell (by simp) _⟩
  · rw [if_neg hf]
    have hr : (r != 0) = true := by simpa using hf
    clear HU
    go_enter Try.func30, Try.ntmps30
    go_wp2_with fail
    generalize hW : w.alloc (Obj.cells #[.int .i64 0, .int .i64 0] 53) = W at *
    clear hW
    refine (HF.out _ HB0.out).mono ?_
    rintro e w1 ⟨rfl, m, rfl⟩
    go_wp2
    exact bodyPost_ret (v := .agg #[.int .i64 r, .int .i64 0]) (by simp [results, Try.results30, go_sem, t0, t1]) rfl ⟨rfl, ((below_drewN HB0.out _).setCell (by simp) _).setCell (by simp) _⟩
end Go.Proofs.Ytjbppdkijjfejak

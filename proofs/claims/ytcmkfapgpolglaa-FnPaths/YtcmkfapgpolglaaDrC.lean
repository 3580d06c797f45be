
/- The specification's draws: a path. -/
import Derived.Test.YtcmkfapgpolglaaDrB
namespace Go.Proofs.Ytcmkfapgpolglaa
open Go.RowKit
set_option maxRecDepth 100000

theorem ownsRow_chg {w w' : World} {B : Nat} {e : TypeId} {k : Nat} {v : Value} {n : Nat} {xs : List Value} {sb : Nat} (h : w.ownsRow B e k v n xs) (hc : Chg (fun b => b = sb) w w') (hs : sb < B) : w'.ownsRow B e k v n xs := by
  obtain ⟨hl, h | ⟨g, cap, cur, h1, h2, h3, h4⟩⟩ := h
  · exact ⟨hl, Or.inl h⟩
  · exact ⟨hl, Or.inr ⟨g, cap, cur, h1, h2, (hc.block g (Array.getElem?_eq_some_iff.1 h3).1 (by omega)).trans h3, h4⟩⟩

set_option maxHeartbeats 3200000 in
theorem pick6_ds (w0 w : World) (sb : Nat) (a : Option Addr) (n c at' : Nat) (lb : Nat) (h : DS w0 w sb a n c at') (hat : at' ≤ 1000000) (hl : OwnRow w lb 6 (fun i => .int .i64 ([1, 1, 2, 2, 3, 0][i]?.getD 0))) (hne : lb ≠ sb) :
    Calls Try.prog 74 #[.pointer (some ⟨sb, 0, none⟩), .slice (some ⟨lb, 0, none⟩) 6 6] w fun e w' => ∃ r : Nat, e = .returned (.int .i64 (r : Int)) ∧ r ≤ 3 ∧ DS w0 w' sb a n c (at' + 1) ∧ Chg (fun b => b = sb) w w' := by
  have H : Hid (DS w0 w sb a n c at') := h
  have HL : Hid (OwnRow w lb 6 (fun i => .int .i64 ([1, 1, 2, 2, 3, 0][i]?.getD 0))) := hl
  clear h hl
  go_enter Try.func74, Try.ntmps74
  go_wp2_with fail
  refine (l1Next_ds w0 _ sb a n c at' 6 H.out hat (by omega) (by omega)).mono ?_
  rintro e w1 ⟨r, rfl, hr, hd, hc⟩
  have hrow := HL.out.block (hc.block lb HL.out.lt hne)
  have c0 := hrow.cell hr
  have HD : Hid (DS w0 w1 sb a n c (at' + 1)) := hd
  have HC : Hid (Chg (fun b => b = sb) w w1) := hc
  obtain ⟨q, hq, hq3⟩ : ∃ q : Nat, ([1, 1, 2, 2, 3, 0][r]?.getD (0 : Int)) = (q : Int) ∧ q ≤ 3 := by
    match r, hr with
    | 0, _ => exact ⟨1, rfl, by omega⟩
    | 1, _ => exact ⟨1, rfl, by omega⟩
    | 2, _ => exact ⟨2, rfl, by omega⟩
    | 3, _ => exact ⟨2, rfl, by omega⟩
    | 4, _ => exact ⟨3, rfl, by omega⟩
    | 5, _ => exact ⟨0, rfl, by omega⟩
  simp only [hq] at c0
  clear hd hc hrow hq
  go_wp2
  go_ret
  exact ⟨q, rfl, hq3, HD.out, HC.out⟩

set_option maxHeartbeats 3200000 in
theorem l3Path_ds (w0 w : World) (sb : Nat) (a : Option Addr) (n c at' : Nat) (h : DS w0 w sb a n c at') (hat : at' ≤ 1000) :
    Calls Try.prog 107 #[.pointer (some ⟨sb, 0, none⟩)] w fun e w' => ∃ y : List UInt8, e = .returned (.string (mkB y)) ∧ y.length ≤ 1048576 ∧ Below w0.heap.size w0 w' := by
  have H : Hid (DS w0 w sb a n c at') := h
  have hsb := h.lt
  clear h
  go_enter Try.func107, Try.ntmps107
  go_wp2_with fail
  have HLR : Hid (OwnRow ((w.alloc (Obj.cells #[] 9)).alloc (Obj.cells #[.int .i64 1, .int .i64 1, .int .i64 2, .int .i64 2, .int .i64 3, .int .i64 0] 2)) (w.heap.size + 1) 6 (fun i => .int .i64 ([1, 1, 2, 2, 3, 0][i]?.getD 0))) := by
    refine ⟨#[.int .i64 1, .int .i64 1, .int .i64 2, .int .i64 2, .int .i64 3, .int .i64 0], 2, ?_, ?_, fun i hi => ?_⟩
    · have := Go.Deep.blk_alloc_new (w.alloc (Obj.cells #[] 9)) (Obj.cells #[.int .i64 1, .int .i64 1, .int .i64 2, .int .i64 2, .int .i64 3, .int .i64 0] 2)
      rw [World.size_alloc] at this
      exact this
    · simp
    · match i, hi with
      | 0, _ => rfl
      | 1, _ => rfl
      | 2, _ => rfl
      | 3, _ => rfl
      | 4, _ => rfl
      | 5, _ => rfl
  have HOW : Hid (((w.alloc (Obj.cells #[] 9)).alloc (Obj.cells #[.int .i64 1, .int .i64 1, .int .i64 2, .int .i64 2, .int .i64 3, .int .i64 0] 2)).ownsRow w.heap.size 9 1 (.slice (some ⟨w.heap.size, 0, none⟩) 0 0) 0 []) := ownsRow_later (World.ownsRow_lit w #[] 0 (Nat.le_refl _) (by simp) rfl) (later1 _ _)
  refine (pick6_ds w0 _ sb a n c at' (w.heap.size + 1) (H.out.later (later2 _ _ _)) (by omega) HLR.out (by omega)).mono ?_
  rintro e w1 ⟨k, rfl, hk3, hd, hc⟩
  have HD : Hid (DS w0 w1 sb a n c (at' + 1)) := hd
  have HOW1 : Hid (w1.ownsRow w.heap.size 9 1 (.slice (some ⟨w.heap.size, 0, none⟩) 0 0) 0 []) := ownsRow_chg HOW.out hc hsb
  have hw1 : w.heap.size ≤ w1.heap.size := by have := hc.size; simp at this; omega
  clear hd hc HLR HOW H
  generalize hlo : w.heap.size = lo at *
  clear hlo
  go_wp2
  go_loopw [3, 4] (fun o i wr => ∃ (j : Nat) (v : Value) (ys : List (List UInt8)), o = v ∧ i = .int .i64 (j : Int) ∧ j + ys.length = k ∧ (∀ q : Nat, (ys[q]?.getD []).length ≤ 4) ∧ DS w0 wr sb a n c (at' + 1 + ys.length) ∧ lo ≤ wr.heap.size ∧ wr.ownsRow lo 9 1 v ys.length (ys.map strV)) (fun _ i _ => (intOf i).toNat)
  case atStart => exact ⟨k, _, [], rfl, rfl, by simp, fun q => by simp, HD.out, hw1, HOW1.out⟩
  case round =>
    clear HD HOW1
    obtain ⟨j, v, ys, rfl, rfl, hjk, hy4, hd, hlo, hrow⟩ := hrel
    have HD : Hid (DS w0 wr sb a n c (at' + 1 + ys.length)) := hd
    have HRW : Hid (wr.ownsRow lo 9 1 _ ys.length (ys.map strV)) := hrow
    have HY4 : Hid (∀ q : Nat, (ys[q]?.getD []).length ≤ 4) := hy4
    obtain ⟨aV, cV, rfl⟩ := ownsRow_shape hrow
    clear hd hrow hy4
    by_cases h0 : j = 0
    · subst h0
      have HA := ownsRow_at HRW.out
      have HAT : Hid (AtT wr aV ys.length ys) := HA.2
      have HB : Hid (Below w0.heap.size w0 wr) := HD.out.below
      have hyl : ys.length ≤ 3 := by omega
      clear HA
      go_wp2_with fail
      refine (l3Join_any _ aV ys.length cV ys (Nat.le_refl _) (by omega) (fun q => by have := HY4.out q; omega) HAT.out).mono ?_
      have HJL : Hid ((joinT (ys.take ys.length)).length ≤ 1048576) := by
        unfold Hid joinT
        have h1 := joinL_len (j := ys.length) HY4.out (Nat.le_refl _)
        have h2 : ys.length * (4 + 1) ≤ 3 * (4 + 1) := Nat.mul_le_mul_right _ hyl
        split
        · simp
        · omega
      generalize joinT (ys.take ys.length) = y at *
      rintro e w2 ⟨rfl, rfl⟩
      go_wp2
      go_ret
      exact ⟨y, rfl, HJL.out, HB.out⟩
    · have hj : (0 : Int) < (j : Int) := by omega
      go_wp2_with fail
      refine (l3Name_ds w0 _ sb a n c _ HD.out (by omega)).mono ?_
      rintro e w2 ⟨y, rfl, hy, hd2, hc2⟩
      have hrow2 := ownsRow_chg HRW.out hc2 hsb
      have hlo2 : lo ≤ w2.heap.size := Nat.le_trans hlo hc2.size
      obtain ⟨v', X, hap, hoX, hBX⟩ := append_strN w2 lo _ ys.length _ y (by simp) hrow2 hlo2 (by omega)
      have HAP : Hid (_ = _) := hap
      have hnew := hd2.new
      have HDX : Hid (DS w0 X sb a n c (at' + 1 + (ys ++ [y]).length)) := by
        unfold Hid
        rw [List.length_append]
        exact ⟨OwnRow.block hd2.src (hBX.block sb hsb), hd2.below.trans (hBX.mono (by omega)), hd2.new, hd2.len, hd2.bytes⟩
      have HOX : Hid (X.ownsRow lo 9 1 v' (ys ++ [y]).length ((ys ++ [y]).map strV)) := by unfold Hid; rw [List.length_append, List.map_append]; exact hoX
      have HLX : Hid (lo ≤ X.heap.size) := Nat.le_trans hlo2 hBX.size
      have HYX : Hid (∀ q : Nat, ((ys ++ [y])[q]?.getD []).length ≤ 4) := fun q => by
        by_cases hq : q < ys.length
        · rw [List.getElem?_append_left hq]; exact HY4.out q
        · rw [List.getElem?_append_right (by omega)]
          by_cases hq2 : q - ys.length = 0
          · rw [hq2]; simpa using hy
          · rw [List.getElem?_eq_none (by simp; omega)]; simp
      obtain ⟨i, hi⟩ : ∃ i, j = i + 1 := ⟨j - 1, by omega⟩
      subst hi
      clear hap hoX hBX hd2 hc2 hrow2 hnew h0
      go_wp2_with (at_builtin; refine wpList_append_run rfl _ _ 64 rfl _ _ rfl rfl _ _ HAP.out ?_)
      go_roundw
      case rel => exact ⟨i, _, ys ++ [y], rfl, by go_num, by simp; omega, HYX.out, HDX.out, HLX.out, HOX.out⟩
      case measure => simp [intOf]

def bent10 : List (List UInt8) := [[], [97], [47, 97, 47], [47, 47], [47, 65], [47, 97, 98, 99, 100, 101], [47, 97, 47, 98, 47, 99, 47, 100, 47, 97, 47, 98, 47, 99], [47, 97, 32, 98], [47, 104, 97, 108, 108, 47, 104, 97, 108, 108, 47, 104, 97, 108, 108, 47, 104, 97, 108, 108, 47, 104, 97, 108, 108, 47, 104, 97, 108, 108], [47, 104, 97, 108, 108, 47, 104, 97, 108, 108, 47, 104, 97, 108, 108, 47, 104, 97, 108, 108, 47, 104, 97, 108, 108, 47, 104, 97, 108, 108, 115]]
def names8 : List (List UInt8) := [[97], [97, 98, 99, 100], [97, 98, 99, 100, 101], [], [65], [97, 47], [122, 122], [97, 98, 99, 100, 69]]
theorem lit_len {ys : List (List UInt8)} (h : ∀ y ∈ ys, y.length ≤ 1048576) (r : Nat) : (ys[r]?.getD []).length ≤ 1048576 := by
  by_cases hr : r < ys.length
  · rw [List.getElem?_eq_getElem hr]; exact h _ (List.getElem_mem hr)
  · rw [List.getElem?_eq_none (by omega)]; simp

set_option maxHeartbeats 3200000 in
theorem l3Bent_ds (w0 w : World) (sb : Nat) (a : Option Addr) (n c at' : Nat) (h : DS w0 w sb a n c at') (hat : at' ≤ 100) :
    Calls Try.prog 81 #[.pointer (some ⟨sb, 0, none⟩)] w fun e w' => ∃ y : List UInt8, e = .returned (.string (mkB y)) ∧ y.length ≤ 1048576 ∧ Below w0.heap.size w0 w' := by
  have H : Hid (DS w0 w sb a n c at') := h
  clear h
  go_enter Try.func81, Try.ntmps81
  go_wp2_with fail
  refine (l1Chance_ds w0 _ sb a n c at' 4 H.out (by omega) (by omega) (by omega)).mono ?_
  rintro e w1 ⟨b, rfl, hd, hc⟩
  have HD : Hid (DS w0 w1 sb a n c (at' + 1)) := hd
  have hsb := hd.lt
  clear hd hc H
  cases b
  · go_wp2_with fail
    refine (l3Path_ds w0 _ sb a n c _ HD.out (by omega)).mono ?_
    rintro e w2 ⟨y, rfl, hy, hb⟩
    have HB : Hid (Below w0.heap.size w0 w2) := hb
    clear hb
    go_wp2
    go_ret
    exact ⟨y, rfl, hy, HB.out⟩
  · go_wp2_with fail
    refine (l1Next_ds w0 _ sb a n c _ 10 (HD.out.later (later1 _ _)) (by omega) (by omega) (by omega)).mono ?_
    rintro e w2 ⟨r, rfl, hr, hd2, hc2⟩
    have hrow : OwnRow w2 w1.heap.size 10 (fun i => strV (bent10[i]?.getD [])) := (litRow w1 bent10 _ rfl 9).block (hc2.block _ (by simp) (by omega))
    have c0 := hrow.cell hr
    unfold strV at c0
    have HB : Hid (Below w0.heap.size w0 w2) := hd2.below
    have HL : Hid ((bent10[r]?.getD []).length ≤ 1048576) := lit_len (by decide) r
    generalize bent10[r]?.getD [] = y at *
    clear hd2 hc2 hrow HD
    go_wp2
    go_ret
    exact ⟨y, rfl, HL.out, HB.out⟩

theorem source_any (w : World) (a : Option Addr) (n c : Nat) :
    Calls Try.prog 40 #[.slice a n c] w fun e w' => e = .returned (.pointer (some ⟨w.heap.size, 0, none⟩)) ∧ w' = w.alloc (.cells #[.slice a n c, .int .i64 0] 144) := by
  go_enter Try.func40, Try.ntmps40
  go_wp2
  go_ret
  exact ⟨rfl, rfl⟩
theorem DS.start (w : World) (a : Option Addr) (n c : Nat) (hn : n ≤ 1048576) (hb : AtB w a n) : DS w (w.alloc (.cells #[.slice a n c, .int .i64 0] 144)) w.heap.size a n c 0 :=
  ⟨OwnRow.newS w (.slice a n c) (.int .i64 0) 144, later1 _ _, Nat.le_refl _, hn, hb⟩

set_option maxHeartbeats 1600000 in
theorem drawSplit_any (w : World) (a : Option Addr) (n c : Nat) (hn : n ≤ 1048576) (hb : AtB w a n) :
    Calls Try.prog 30 #[.slice a n c] w fun e w' => ∃ y : List UInt8, e = .returned (.string (mkB y)) ∧ y.length ≤ 1048576 ∧ Below w.heap.size w w' := by
  have H : Hid (DS w (w.alloc (.cells #[.slice a n c, .int .i64 0] 144)) w.heap.size a n c 0) := DS.start w a n c hn hb
  clear hb
  go_enter Try.func30, Try.ntmps30
  go_wp2_with fail
  refine (source_any _ a n c).mono ?_
  rintro e w1 ⟨rfl, rfl⟩
  go_wp2_with fail
  refine (l3Bent_ds w _ w.heap.size a n c 0 H.out (by omega)).mono ?_
  rintro e w2 ⟨y, rfl, hy, hb2⟩
  have HB : Hid (Below w.heap.size w w2) := hb2
  clear hb2
  go_wp2
  go_ret
  exact ⟨y, rfl, hy, HB.out⟩

set_option maxHeartbeats 1600000 in
theorem drawName_any (w : World) (a : Option Addr) (n c : Nat) (hn : n ≤ 1048576) (hb : AtB w a n) :
    Calls Try.prog 37 #[.slice a n c] w fun e w' => ∃ y : List UInt8, e = .returned (.string (mkB y)) ∧ y.length ≤ 1048576 ∧ Below w.heap.size w w' := by
  have H : Hid (DS w (w.alloc (.cells #[.slice a n c, .int .i64 0] 144)) w.heap.size a n c 0) := DS.start w a n c hn hb
  clear hb
  go_enter Try.func37, Try.ntmps37
  go_wp2_with fail
  refine (source_any _ a n c).mono ?_
  rintro e w1 ⟨rfl, rfl⟩
  go_wp2_with fail
  refine (l1Next_ds w _ w.heap.size a n c 0 8 (H.out.later (later1 _ _)) (by omega) (by omega) (by omega)).mono ?_
  rintro e w2 ⟨r, rfl, hr, hd2, hc2⟩
  have hrow : OwnRow w2 (w.heap.size + 1) 8 (fun i => strV (names8[i]?.getD [])) := by
    have h1 := litRow (w.alloc (.cells #[.slice a n c, .int .i64 0] 144)) names8 _ rfl 9
    rw [World.size_alloc] at h1
    exact h1.block (hc2.block _ (by simp) (by omega))
  have c0 := hrow.cell hr
  unfold strV at c0
  have HB : Hid (Below w.heap.size w w2) := hd2.below
  have HL : Hid ((names8[r]?.getD []).length ≤ 1048576) := lit_len (by decide) r
  generalize names8[r]?.getD [] = y at *
  clear hd2 hc2 hrow
  go_wp2
  go_ret
  exact ⟨y, rfl, HL.out, HB.out⟩
end Go.Proofs.Ytcmkfapgpolglaa

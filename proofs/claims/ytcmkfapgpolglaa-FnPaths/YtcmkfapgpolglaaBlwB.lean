
/- Whether a path lies below another one: the program's side. -/
import Derived.Test.YtcmkfapgpolglaaBlwA
namespace Go.Proofs.Ytcmkfapgpolglaa
open Go.RowKit
set_option maxRecDepth 100000

theorem equalS_any (w : World) (a b : Option Addr) (m c d : Nat) (xs ys : List (List UInt8)) (hm : ys.length = m) (hx : m ≤ xs.length) (hbig : m ≤ 1048577) (h1 : AtT w a m xs) (h2 : AtT w b m ys) :
    Calls Try.prog 87 #[.slice a m c, .slice b m d] w fun e w' => e = .returned (.bool (decide (xs.take m = ys))) ∧ ∃ q, w' = w.drewN q := by
  rcases Nat.eq_zero_or_pos m with h0 | h0
  · subst h0
    have : ys = [] := List.length_eq_zero_iff.1 hm
    subst this
    refine (Try.slices_Equal_string_empty a b c 0 d w (by omega)).mono ?_
    rintro e w' ⟨rfl, rfl⟩
    exact ⟨rfl, 0, rfl⟩
  · obtain ⟨b1, o1, rfl, _⟩ := h1 0 h0
    obtain ⟨b2, o2, rfl, _⟩ := h2 0 h0
    have hg : ∀ (zs : List (List UInt8)) (j : Nat), j < zs.length → (zs.map mkB).getD j ByteArray.empty = mkB (zs[j]?.getD []) := fun zs j hj => by
      rw [List.getD_eq_getElem?_getD, List.getElem?_map, List.getElem?_eq_getElem hj]; rfl
    refine (Try.slices_Equal_string b1 o1 m c b2 o2 m d ((xs.take m).map mkB) (ys.map mkB) w (by simp; omega) (by simp; omega) (by omega) (by omega) (fun j hj => ?_) (fun j hj => ?_)).mono ?_
    · have hj' : j < m := by simp at hj; omega
      obtain ⟨b', o', e, c0⟩ := h1 j hj'
      cases e
      rw [c0, hg _ _ (by simp; omega), List.getElem?_take, if_pos hj']
    · have hj' : j < m := by simp at hj; omega
      obtain ⟨b', o', e, c0⟩ := h2 j hj'
      cases e
      rw [c0, hg _ _ (by omega)]
    · rintro e w' ⟨rfl, hq⟩
      refine ⟨?_, hq⟩
      have h1 : (List.map mkB (xs.take m)).take m = List.map mkB (xs.take m) := List.take_of_length_le (by simp; omega)
      have h2 : (List.map mkB ys).take m = List.map mkB ys := List.take_of_length_le (by simp; omega)
      rw [h1, h2]
      congr 2
      refine decide_eq_decide.2 ⟨fun h => ?_, fun h => by rw [h]⟩
      exact (List.map_inj_right fun x y h => mkB_inj h).1 h

set_option maxHeartbeats 3200000 in
theorem implBelow_bad1 (w : World) (p t : List UInt8) (hp : p.length ≤ 1048576) (ht : t.length ≤ 1048576) (h1 : ¬ pathF p = 0) :
    Calls Try.prog 34 #[.string (mkB p), .string (mkB t)] w fun e w' => e = .returned (.bool false) ∧ Below w.heap.size w w' := by
  have HP : Hid (∀ W, Calls Try.prog 31 #[.string (mkB p)] W fun e w' => ∃ a c, e = .returned (.agg #[.int .i64 (pathF p), .slice a (splitL p).length c]) ∧ Spl W w' p a c) := fun W => implSplit_any W p hp
  have HT : Hid (∀ W, Calls Try.prog 31 #[.string (mkB t)] W fun e w' => ∃ a c, e = .returned (.agg #[.int .i64 (pathF t), .slice a (splitL t).length c]) ∧ Spl W w' t a c) := fun W => implSplit_any W t ht
  have hlp := splitL_len p hp
  have hlt := splitL_len t ht
  unfold Spl at HP HT
  clear hp ht
  generalize pathF p = cp at *
  generalize pathF t = ct at *
  generalize splitL p = xs at *
  generalize splitL t = ys at *
  have h1' : (cp != 0) = true := by simpa using h1
  clear h1
  generalize ys.length = m at *
  generalize xs.length = n at *
  go_enter Try.func34, Try.ntmps34
  go_wp2_with fail
  refine (HP.out _).mono ?_
  rintro e w1 ⟨a, c, rfl, hb1, _, _⟩
  have HW1 : Hid (Below w.heap.size w w1) := hb1
  clear hb1 HP
  go_wp2_with fail
  refine (HT.out _).mono ?_
  rintro e w2 ⟨b, d, rfl, hb2, _, _⟩
  have HW2 : Hid (Below w.heap.size w w2) := HW1.out.trans (hb2.mono HW1.out.size)
  clear hb2 HT HW1
  go_wp2
  go_ret
  exact ⟨rfl, HW2.out.trans ((later2 _ _ _).mono HW2.out.size)⟩

set_option maxHeartbeats 3200000 in
theorem implBelow_bad2 (w : World) (p t : List UInt8) (hp : p.length ≤ 1048576) (ht : t.length ≤ 1048576) (h1 : pathF p = 0) (h2 : ¬ pathF t = 0) :
    Calls Try.prog 34 #[.string (mkB p), .string (mkB t)] w fun e w' => e = .returned (.bool false) ∧ Below w.heap.size w w' := by
  have HP : Hid (∀ W, Calls Try.prog 31 #[.string (mkB p)] W fun e w' => ∃ a c, e = .returned (.agg #[.int .i64 (pathF p), .slice a (splitL p).length c]) ∧ Spl W w' p a c) := fun W => implSplit_any W p hp
  have HT : Hid (∀ W, Calls Try.prog 31 #[.string (mkB t)] W fun e w' => ∃ a c, e = .returned (.agg #[.int .i64 (pathF t), .slice a (splitL t).length c]) ∧ Spl W w' t a c) := fun W => implSplit_any W t ht
  have hlp := splitL_len p hp
  have hlt := splitL_len t ht
  unfold Spl at HP HT
  clear hp ht
  generalize pathF p = cp at *
  generalize pathF t = ct at *
  generalize splitL p = xs at *
  generalize splitL t = ys at *
  subst h1
  have h2' : (ct != 0) = true := by simpa using h2
  clear h2
  generalize ys.length = m at *
  generalize xs.length = n at *
  go_enter Try.func34, Try.ntmps34
  go_wp2_with fail
  refine (HP.out _).mono ?_
  rintro e w1 ⟨a, c, rfl, hb1, _, _⟩
  have HW1 : Hid (Below w.heap.size w w1) := hb1
  clear hb1 HP
  go_wp2_with fail
  refine (HT.out _).mono ?_
  rintro e w2 ⟨b, d, rfl, hb2, _, _⟩
  have HW2 : Hid (Below w.heap.size w w2) := HW1.out.trans (hb2.mono HW1.out.size)
  clear hb2 HT HW1
  go_wp2
  go_ret
  exact ⟨rfl, HW2.out.trans ((later2 _ _ _).mono HW2.out.size)⟩

set_option maxHeartbeats 3200000 in
theorem implBelow_few (w : World) (p t : List UInt8) (hp : p.length ≤ 1048576) (ht : t.length ≤ 1048576) (h1 : pathF p = 0) (h2 : pathF t = 0) (h3 : ¬ (splitL t).length < (splitL p).length) :
    Calls Try.prog 34 #[.string (mkB p), .string (mkB t)] w fun e w' => e = .returned (.bool false) ∧ Below w.heap.size w w' := by
  have HP : Hid (∀ W, Calls Try.prog 31 #[.string (mkB p)] W fun e w' => ∃ a c, e = .returned (.agg #[.int .i64 (pathF p), .slice a (splitL p).length c]) ∧ Spl W w' p a c) := fun W => implSplit_any W p hp
  have HT : Hid (∀ W, Calls Try.prog 31 #[.string (mkB t)] W fun e w' => ∃ a c, e = .returned (.agg #[.int .i64 (pathF t), .slice a (splitL t).length c]) ∧ Spl W w' t a c) := fun W => implSplit_any W t ht
  have hlp := splitL_len p hp
  have hlt := splitL_len t ht
  unfold Spl at HP HT
  clear hp ht
  generalize pathF p = cp at *
  generalize pathF t = ct at *
  generalize splitL p = xs at *
  generalize splitL t = ys at *
  subst h1
  subst h2
  have h3' : decide ((ys.length : Int) < (xs.length : Int)) = false := by simp; omega
  have h3'' : decide (ys.length < xs.length) = false := by simp; omega
  clear h3
  generalize ys.length = m at *
  generalize xs.length = n at *
  go_enter Try.func34, Try.ntmps34
  go_wp2_with fail
  refine (HP.out _).mono ?_
  rintro e w1 ⟨a, c, rfl, hb1, _, _⟩
  have HW1 : Hid (Below w.heap.size w w1) := hb1
  clear hb1 HP
  go_wp2_with fail
  refine (HT.out _).mono ?_
  rintro e w2 ⟨b, d, rfl, hb2, _, _⟩
  have HW2 : Hid (Below w.heap.size w w2) := HW1.out.trans (hb2.mono HW1.out.size)
  clear hb2 HT HW1
  go_wp2
  go_quiet (fail)
  go_wp2
  go_ret
  exact ⟨rfl, below_drewN (HW2.out.trans ((later2 _ _ _).mono HW2.out.size)) nq⟩

set_option maxHeartbeats 3200000 in
theorem implBelow_ok (w : World) (p t : List UInt8) (hp : p.length ≤ 1048576) (ht : t.length ≤ 1048576) (h1 : pathF p = 0) (h2 : pathF t = 0) (h3 : (splitL t).length < (splitL p).length) :
    Calls Try.prog 34 #[.string (mkB p), .string (mkB t)] w fun e w' => e = .returned (.bool (decide ((splitL p).take (splitL t).length = splitL t))) ∧ Below w.heap.size w w' := by
  have HP : Hid (∀ W, Calls Try.prog 31 #[.string (mkB p)] W fun e w' => ∃ a c, e = .returned (.agg #[.int .i64 (pathF p), .slice a (splitL p).length c]) ∧ Spl W w' p a c) := fun W => implSplit_any W p hp
  have HT : Hid (∀ W, Calls Try.prog 31 #[.string (mkB t)] W fun e w' => ∃ a c, e = .returned (.agg #[.int .i64 (pathF t), .slice a (splitL t).length c]) ∧ Spl W w' t a c) := fun W => implSplit_any W t ht
  have hlp := splitL_len p hp
  have hlt := splitL_len t ht
  unfold Spl at HP HT
  clear hp ht
  generalize pathF p = cp at *
  generalize pathF t = ct at *
  generalize splitL p = xs at *
  generalize splitL t = ys at *
  subst h1
  subst h2
  have HL : Hid (ys.length < xs.length) := h3
  have h3' : (ys.length : Int) < (xs.length : Int) := by omega
  generalize hm : ys.length = m at *
  generalize hn : xs.length = n at *
  have HM : Hid (ys.length = m) := hm
  have HN : Hid (xs.length = n) := hn
  clear hm hn
  go_enter Try.func34, Try.ntmps34
  go_wp2_with fail
  refine (HP.out _).mono ?_
  rintro e w1 ⟨a, c, rfl, hb1, hat1, hc1⟩
  have HW1 : Hid (Below w.heap.size w w1) := hb1
  have HA1 : Hid (AtT w1 a n xs) := hat1
  have HC1 : Hid (n ≤ c) := hc1
  clear hb1 hat1 hc1 HP
  go_wp2_with fail
  refine (HT.out _).mono ?_
  rintro e w2 ⟨b, d, rfl, hb2, hat2, _⟩
  have HW2 : Hid (Below w.heap.size w w2) := HW1.out.trans (hb2.mono HW1.out.size)
  have HA2 : Hid (AtT w2 a n xs) := HA1.out.later hb2
  have HB2 : Hid (AtT w2 b m ys) := hat2
  obtain ⟨A, C, hrun, htk⟩ := slice_takeT a n c m (by have := HC1.out; have := HL.out; omega)
  have HTK : Hid (AtT w2 A m xs) := htk w2 xs (by have := HL.out; omega) HA2.out
  clear hb2 hat2 HT HW1 HA1 htk
  have HEQ : Hid (∀ x, Calls Try.prog 87 #[.slice A m C, .slice b m d] (((w2.alloc (.cells #[.int .i64 0, .slice a n c] 66)).alloc (.cells #[.int .i64 0, .slice b m d] 66)).drewN x) fun e w' => e = .returned (.bool (decide (xs.take m = ys))) ∧ ∃ q, w' = (((w2.alloc (.cells #[.int .i64 0, .slice a n c] 66)).alloc (.cells #[.int .i64 0, .slice b m d] 66)).drewN x).drewN q) := fun x => equalS_any _ A b m C d xs ys HM.out (by rw [HN.out]; have := HL.out; omega) hlt (HTK.out.later (below_drewN (later2 _ _ _) x)) (HB2.out.later (below_drewN (later2 _ _ _) x))
  go_wp2_with fail
  go_quiet ((go_at_call 87; exact Calls.quiet_of (HEQ.out _)))
  go_wp2
  go_ret
  exact ⟨rfl, below_drewN (HW2.out.trans ((later2 _ _ _).mono HW2.out.size)) nq⟩

theorem implBelow_any (w : World) (p t : List UInt8) (hp : p.length ≤ 1048576) (ht : t.length ≤ 1048576) :
    Calls Try.prog 34 #[.string (mkB p), .string (mkB t)] w fun e w' => e = .returned (.bool (belowB p t)) ∧ Below w.heap.size w w' := by
  unfold belowB
  by_cases h1 : pathF p = 0
  · by_cases h2 : pathF t = 0
    · by_cases h3 : (splitL t).length < (splitL p).length
      · rw [decide_eq_true h1, decide_eq_true h2, decide_eq_true h3, Bool.true_and, Bool.true_and, Bool.true_and]
        exact implBelow_ok w p t hp ht h1 h2 h3
      · rw [decide_eq_false h3, Bool.false_and, Bool.and_false, Bool.and_false]
        exact implBelow_few w p t hp ht h1 h2 h3
    · rw [decide_eq_false h2, Bool.false_and, Bool.and_false]
      exact implBelow_bad2 w p t hp ht h1 h2
  · rw [decide_eq_false h1, Bool.false_and]
    exact implBelow_bad1 w p t hp ht h1

end Go.Proofs.Ytcmkfapgpolglaa

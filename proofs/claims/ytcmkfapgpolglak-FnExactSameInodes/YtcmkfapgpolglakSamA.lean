
/- What compares lists of integers and of entries: the specification's and slices.Equal. -/
import Derived.Test.YtcmkfapgpolglakRows
import Derived.Test.YtcmkfapgpolglakInoT
import Derived.Laws.StructEq
namespace Go.Proofs.Ytcmkfapgpolglak
open Go.RowKit

set_option maxHeartbeats 400000 in
theorem l4Ints_len (w : World) (a a' : Option Addr) (cap cap' n n' : Nat) (hn : ¬ n = n') :
    Calls Try.prog 19 #[.slice a n cap, .slice a' n' cap'] w fun e w' => e = .returned (.bool false) ∧ w' = w := by
  have hb : ((n : Int) != (n' : Int)) = true := by simp; omega
  clear hn
  go_enter Try.func19, Try.ntmps19
  go_wp2
  go_ret
  exact ⟨rfl, rfl⟩
set_option maxHeartbeats 1600000 in
theorem l4Ints_walk (w : World) (a a' : Option Addr) (cap cap' n : Nat) (xs ys : List Int) (hx : xs.length = n) (hy : ys.length = n) (hn : n ≤ maxLen)
    (cx : At1 w a n (fun k => .int .i64 (xs[k]?.getD 0))) (cy : At1 w a' n (fun k => .int .i64 (ys[k]?.getD 0))) :
    Calls Try.prog 19 #[.slice a n cap, .slice a' n cap'] w fun e w' => e = .returned (.bool (decide (xs = ys))) ∧ ∃ m, w' = w.drewN m := by
  unfold maxLen at hn
  have HX : Hid (xs.length = n) := hx
  have HY : Hid (ys.length = n) := hy
  have HCX : Hid (At1 w a n (fun k => .int .i64 (xs[k]?.getD 0))) := cx
  have HCY : Hid (At1 w a' n (fun k => .int .i64 (ys[k]?.getD 0))) := cy
  have hnn : ((n : Int) != (n : Int)) = false := by simp
  clear hx hy cx cy
  go_enter Try.func19, Try.ntmps19
  go_wp2
  go_loopw [5] (fun i wr => ∃ k m : Nat, k ≤ n ∧ i = .int .i64 k ∧ wr = w.drewN m ∧ xs.take k = ys.take k) (fun i _ => n - (intOf i).toNat)
  case atStart => exact ⟨0, 0, Nat.zero_le _, rfl, rfl, rfl⟩
  case round =>
    obtain ⟨k, m, hk, rfl, rfl, ht⟩ := hrel
    have HT : Hid (xs.take k = ys.take k) := ht
    clear ht
    by_cases hlt : k < n
    · obtain ⟨b, off, rfl, c1⟩ := HCX.out k hlt
      obtain ⟨b', off', rfl, c2⟩ := HCY.out k hlt
      dsimp only at c1 c2
      by_cases he : xs[k]?.getD 0 = ys[k]?.getD 0
      · have HTT : Hid (xs.take (k + 1) = ys.take (k + 1)) := take_more 0 HX.out HY.out hlt HT.out he
        rw [← he] at c2
        generalize xs[k]?.getD 0 = x at *
        have hb : (x != x) = false := by simp
        clear he
        go_wp2_with fail
        go_quiet (fail)
        go_wp2
        go_roundw
        case rel => exact ⟨k + 1, m + nq, by omega, by go_num, by first | rfl | rw [World.drewN_drewN], HTT.out⟩
        case measure => simp [intOf]; omega
      · have HR : Hid (decide (xs = ys) = false) := by unfold Hid; simp; intro h; rw [h] at he; exact he rfl
        have hb : (xs[k]?.getD 0 != ys[k]?.getD 0) = true := by simpa using he
        clear he
        generalize xs[k]?.getD 0 = x at *
        generalize ys[k]?.getD 0 = y at *
        go_wp2_with fail
        go_quiet (fail)
        go_wp2
        go_ret
        exact ⟨ret_bool HR.out.symm, m + nq, by first | rfl | rw [World.drewN_drewN]⟩
    · have HR : Hid (decide (xs = ys) = true) := by
        have h := HT.out
        rw [List.take_of_length_le (by rw [HX.out]; omega), List.take_of_length_le (by rw [HY.out]; omega)] at h
        unfold Hid; simp [h]
      go_wp2
      go_ret
      exact ⟨ret_bool HR.out.symm, m, rfl⟩
theorem l4Ints_any {w : World} {va vb : Value} {xs ys : List Int} (ha : Ints w va xs) (hb : Ints w vb ys) :
    Calls Try.prog 19 #[va, vb] w fun e w' => e = .returned (.bool (decide (xs = ys))) ∧ ∃ m, w' = w.drewN m := by
  obtain ⟨a, cap, rfl, hm, hc⟩ := ha.open'
  obtain ⟨a', cap', rfl, hm', hc'⟩ := hb.open'
  by_cases h : xs.length = ys.length
  · rw [h] at hc ⊢
    exact l4Ints_walk w a a' cap cap' ys.length xs ys h rfl hm' hc hc'
  · have hd : decide (xs = ys) = false := by simp; intro e; exact h (by rw [e])
    rw [hd]
    exact (l4Ints_len w a a' cap cap' _ _ h).mono fun e w' ⟨h1, h2⟩ => ⟨h1, 0, h2⟩

set_option maxHeartbeats 400000 in
theorem equalI_len (w : World) (a a' : Option Addr) (cap cap' n n' : Nat) (hn : ¬ n = n') :
    Calls Try.prog 14 #[.slice a n cap, .slice a' n' cap'] w fun e w' => e = .returned (.bool false) ∧ w' = w := by
  have hb : ((n : Int) != (n' : Int)) = true := by simp; omega
  clear hn
  go_enter Try.func14, Try.ntmps14
  go_wp2
  go_ret
  exact ⟨rfl, rfl⟩
set_option maxHeartbeats 1600000 in
theorem equalI_walk (w : World) (a a' : Option Addr) (cap cap' n : Nat) (xs ys : List Int) (hx : xs.length = n) (hy : ys.length = n) (hn : n ≤ maxLen)
    (cx : At1 w a n (fun k => .int .i64 (xs[k]?.getD 0))) (cy : At1 w a' n (fun k => .int .i64 (ys[k]?.getD 0))) :
    Calls Try.prog 14 #[.slice a n cap, .slice a' n cap'] w fun e w' => e = .returned (.bool (decide (xs = ys))) ∧ ∃ m, w' = w.drewN m := by
  unfold maxLen at hn
  have HX : Hid (xs.length = n) := hx
  have HY : Hid (ys.length = n) := hy
  have HCX : Hid (At1 w a n (fun k => .int .i64 (xs[k]?.getD 0))) := cx
  have HCY : Hid (At1 w a' n (fun k => .int .i64 (ys[k]?.getD 0))) := cy
  have hnn : ((n : Int) != (n : Int)) = false := by simp
  clear hx hy cx cy
  go_enter Try.func14, Try.ntmps14
  go_wp2
  go_loopw [13] (fun i wr => ∃ k m : Nat, k ≤ n ∧ i = .int .i64 k ∧ wr = w.drewN m ∧ xs.take k = ys.take k) (fun i _ => n - (intOf i).toNat)
  case atStart => exact ⟨0, 0, Nat.zero_le _, rfl, rfl, rfl⟩
  case round =>
    obtain ⟨k, m, hk, rfl, rfl, ht⟩ := hrel
    have HT : Hid (xs.take k = ys.take k) := ht
    clear ht
    by_cases hlt : k < n
    · obtain ⟨b, off, rfl, c1⟩ := HCX.out k hlt
      obtain ⟨b', off', rfl, c2⟩ := HCY.out k hlt
      dsimp only at c1 c2
      by_cases he : xs[k]?.getD 0 = ys[k]?.getD 0
      · have HTT : Hid (xs.take (k + 1) = ys.take (k + 1)) := take_more 0 HX.out HY.out hlt HT.out he
        rw [← he] at c2
        generalize xs[k]?.getD 0 = x at *
        have hb : (x != x) = false := by simp
        clear he
        go_wp2_with fail
        go_quiet (fail)
        go_wp2
        go_roundw
        case rel => exact ⟨k + 1, m + nq, by omega, by go_num, by first | rfl | rw [World.drewN_drewN], HTT.out⟩
        case measure => simp [intOf]; omega
      · have HR : Hid (decide (xs = ys) = false) := by unfold Hid; simp; intro h; rw [h] at he; exact he rfl
        have hb : (xs[k]?.getD 0 != ys[k]?.getD 0) = true := by simpa using he
        clear he
        generalize xs[k]?.getD 0 = x at *
        generalize ys[k]?.getD 0 = y at *
        go_wp2_with fail
        go_quiet (fail)
        go_wp2
        go_ret
        exact ⟨ret_bool HR.out.symm, m + nq, by first | rfl | rw [World.drewN_drewN]⟩
    · have HR : Hid (decide (xs = ys) = true) := by
        have h := HT.out
        rw [List.take_of_length_le (by rw [HX.out]; omega), List.take_of_length_le (by rw [HY.out]; omega)] at h
        unfold Hid; simp [h]
      go_wp2
      go_ret
      exact ⟨ret_bool HR.out.symm, m, rfl⟩
theorem equalI_any {w : World} {va vb : Value} {xs ys : List Int} (ha : Ints w va xs) (hb : Ints w vb ys) :
    Calls Try.prog 14 #[va, vb] w fun e w' => e = .returned (.bool (decide (xs = ys))) ∧ ∃ m, w' = w.drewN m := by
  obtain ⟨a, cap, rfl, hm, hc⟩ := ha.open'
  obtain ⟨a', cap', rfl, hm', hc'⟩ := hb.open'
  by_cases h : xs.length = ys.length
  · rw [h] at hc ⊢
    exact equalI_walk w a a' cap cap' ys.length xs ys h rfl hm' hc hc'
  · have hd : decide (xs = ys) = false := by simp; intro e; exact h (by rw [e])
    rw [hd]
    exact (equalI_len w a a' cap cap' _ _ h).mono fun e w' ⟨h1, h2⟩ => ⟨h1, 0, h2⟩

theorem bytes_eq {a b : ByteArray} (h : a.toList = b.toList) : a = b := by
  rw [ByteArray.toList_eq, ByteArray.toList_eq] at h
  cases a; cases b
  simp at h
  rw [h]

set_option maxHeartbeats 400000 in
theorem equalE_len (w : World) (a a' : Option Addr) (cap cap' n n' : Nat) (hn : ¬ n = n') :
    Calls Try.prog 15 #[.slice a n cap, .slice a' n' cap'] w fun e w' => e = .returned (.bool false) ∧ w' = w := by
  have hb : ((n : Int) != (n' : Int)) = true := by simp; omega
  clear hn
  go_enter Try.func15, Try.ntmps15
  go_wp2
  go_ret
  exact ⟨rfl, rfl⟩
set_option maxHeartbeats 1600000 in
theorem equalE_walk (w : World) (a a' : Option Addr) (cap cap' n : Nat) (xs ys : List EN) (hx : xs.length = n) (hy : ys.length = n) (hn : n ≤ maxLen)
    (cx : AtN w a n xs) (cy : AtN w a' n ys) :
    Calls Try.prog 15 #[.slice a n cap, .slice a' n cap'] w fun e w' => e = .returned (.bool (decide (xs = ys))) ∧ ∃ m, w' = w.drewN m := by
  unfold maxLen at hn
  have HX : Hid (xs.length = n) := hx
  have HY : Hid (ys.length = n) := hy
  have HCX : Hid (AtN w a n xs) := cx
  have HCY : Hid (AtN w a' n ys) := cy
  have hnn : ((n : Int) != (n : Int)) = false := by simp
  clear hx hy cx cy
  go_enter Try.func15, Try.ntmps15
  go_wp2
  go_loopw [13] (fun i wr => ∃ k m : Nat, k ≤ n ∧ i = .int .i64 k ∧ wr = w.drewN m ∧ xs.take k = ys.take k) (fun i _ => n - (intOf i).toNat)
  case atStart => exact ⟨0, 0, Nat.zero_le _, rfl, rfl, rfl⟩
  case round =>
    obtain ⟨k, m, hk, rfl, rfl, ht⟩ := hrel
    have HT : Hid (xs.take k = ys.take k) := ht
    clear ht
    by_cases hlt : k < n
    · obtain ⟨b, off, rfl, c1, d1⟩ := HCX.out k hlt
      obtain ⟨b', off', rfl, c2, d2⟩ := HCY.out k hlt
      by_cases he : xs[k]?.getD en0 = ys[k]?.getD en0
      · have HTT : Hid (xs.take (k + 1) = ys.take (k + 1)) := take_more en0 HX.out HY.out hlt HT.out he
        rw [← he] at c2 d2
        generalize (xs[k]?.getD en0).1 = x at *
        generalize (xs[k]?.getD en0).2 = z at *
        have hb : (x.toList == x.toList) = true := by simp
        have hb2 : (z == z) = true := by simp
        clear he
        go_wp2_with fail
        go_quiet (fail)
        go_wp2
        go_roundw
        case rel => exact ⟨k + 1, m + nq, by omega, by go_num, by first | rfl | rw [World.drewN_drewN], HTT.out⟩
        case measure => simp [intOf]; omega
      · have HR : Hid (decide (xs = ys) = false) := by unfold Hid; simp; intro h; rw [h] at he; exact he rfl
        have HEN : Hid ((xs[k]?.getD en0).1.toList = (ys[k]?.getD en0).1.toList → ¬ (xs[k]?.getD en0).2 = (ys[k]?.getD en0).2) := fun h1 h2 => he (Prod.ext (bytes_eq h1) h2)
        clear he
        generalize (xs[k]?.getD en0).1 = x at *
        generalize (xs[k]?.getD en0).2 = z at *
        generalize (ys[k]?.getD en0).1 = x' at *
        generalize (ys[k]?.getD en0).2 = z' at *
        by_cases h1 : x.toList = x'.toList
        · have hz : ¬ z = z' := HEN.out h1
          have hb : (x.toList == x'.toList) = true := by simpa using h1
          have hb2 : (z == z') = false := by simpa using hz
          clear h1 hz HEN
          go_wp2_with fail
          go_quiet (fail)
          go_wp2
          go_ret
          exact ⟨ret_bool HR.out.symm, m + nq, by first | rfl | rw [World.drewN_drewN]⟩
        · have hb : (x.toList == x'.toList) = false := by simpa using h1
          clear h1 HEN
          go_wp2_with fail
          go_quiet (fail)
          go_wp2
          go_ret
          exact ⟨ret_bool HR.out.symm, m + nq, by first | rfl | rw [World.drewN_drewN]⟩
    · have HR : Hid (decide (xs = ys) = true) := by
        have h := HT.out
        rw [List.take_of_length_le (by rw [HX.out]; omega), List.take_of_length_le (by rw [HY.out]; omega)] at h
        unfold Hid; simp [h]
      go_wp2
      go_ret
      exact ⟨ret_bool HR.out.symm, m, rfl⟩
theorem equalE_any {w : World} {va vb : Value} {xs ys : List EN} (ha : Ents w va xs) (hb : Ents w vb ys) :
    Calls Try.prog 15 #[va, vb] w fun e w' => e = .returned (.bool (decide (xs = ys))) ∧ ∃ m, w' = w.drewN m := by
  obtain ⟨a, cap, rfl, hm, _, hc⟩ := ha.open'
  obtain ⟨a', cap', rfl, hm', _, hc'⟩ := hb.open'
  by_cases h : xs.length = ys.length
  · rw [h] at hc ⊢
    exact equalE_walk w a a' cap cap' ys.length xs ys h rfl hm' hc hc'
  · have hd : decide (xs = ys) = false := by simp; intro e; exact h (by rw [e])
    rw [hd]
    exact (equalE_len w a a' cap cap' _ _ h).mono fun e w' ⟨h1, h2⟩ => ⟨h1, 0, h2⟩
end Go.Proofs.Ytcmkfapgpolglak

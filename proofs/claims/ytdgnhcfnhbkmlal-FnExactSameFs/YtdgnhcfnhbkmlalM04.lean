/- A file system is copied. What compares lists of integers and of entries: the specification's and slices.Equal. SameInodes, both sides. What an inode's fault is. No program is named here. Words that grow by append; what PackInode answers. Which blocks are used and which are free. No program is named here. -/
import Derived.Test.YtdgnhcfnhbkmlalM03
import Derived.Test.YtdgnhcfnhbkmlalRows
import Derived.Laws.StructEq
import Derived.Test.YtdgnhcfnhbkmlalM02
import Derived.Test.YtdgnhcfnhbkmlalM01
import Derived.Test.YtdgnhcfnhbkmlalM00
namespace Go.Proofs.Ytdgnhcfnhbkmlal
open Go.RowKit
set_option maxRecDepth 100000

set_option maxHeartbeats 3200000 in
theorem toFsU (w : World) (a1 : Option Addr) (n1 c1 : Nat) (a2 : Option Addr) (n2 c2 : Nat) (d : FD) (h : FsR w (.slice a1 n1 c1) (.slice a2 n2 c2) d) (hs : sizeFs d ≤ 1048576) :
    Calls Try.prog 10 #[.agg #[.slice a1 n1 c1, .slice a2 n2 c2]] w fun e w' => ∃ b1 m1 k1 b2 m2 k2, e = .returned (.agg #[.slice b1 m1 k1, .slice b2 m2 k2]) ∧ Below w.heap.size w w' ∧ FsU w' (.slice b1 m1 k1) (.slice b2 m2 k2) d (fresh w w') := by
  have H1 : Hid (Inos w (.slice a1 n1 c1) d.1) := h.1
  have H2 : Hid (Byts w (.slice a2 n2 c2) d.2) := h.2
  have L1 : Hid (sizeInos d.1 ≤ 1048576) := by unfold sizeFs at hs; unfold Hid; omega
  have L2 : Hid (sizeByts d.2 ≤ 1048576) := by unfold sizeFs at hs; unfold Hid; omega
  clear h hs
  go_enter Try.func10, Try.ntmps10
  go_wp2_with fail
  have O2 : OwnRow (((w.alloc (.cells #[.slice a1 n1 c1, .slice a2 n2 c2] 25)).alloc (.cells #[.slice none 0 0, .slice none 0 0] 30)).alloc (.cells #[.slice none 0 0, .slice none 0 0] 30)) (w.heap.size + 1 + 1) 2 (fun i => if i = 0 then .slice none 0 0 else .slice none 0 0) := by
    have := OwnRow.two ((w.alloc (.cells #[.slice a1 n1 c1, .slice a2 n2 c2] 25)).alloc (.cells #[.slice none 0 0, .slice none 0 0] 30)) (.slice none 0 0) (.slice none 0 0) 30
    simpa using this
  have O1 : OwnRow (((w.alloc (.cells #[.slice a1 n1 c1, .slice a2 n2 c2] 25)).alloc (.cells #[.slice none 0 0, .slice none 0 0] 30)).alloc (.cells #[.slice none 0 0, .slice none 0 0] 30)) (w.heap.size + 1) 2 (fun i => if i = 0 then .slice none 0 0 else .slice none 0 0) := by
    have := (OwnRow.two (w.alloc (.cells #[.slice a1 n1 c1, .slice a2 n2 c2] 25)) (.slice none 0 0) (.slice none 0 0) 30).later (later1 _ (.cells #[.slice none 0 0, .slice none 0 0] 30))
    simpa using this
  have O0 : OwnRow (((w.alloc (.cells #[.slice a1 n1 c1, .slice a2 n2 c2] 25)).alloc (.cells #[.slice none 0 0, .slice none 0 0] 30)).alloc (.cells #[.slice none 0 0, .slice none 0 0] 30)) w.heap.size 2 (fun i => if i = 0 then .slice a1 n1 c1 else .slice a2 n2 c2) := ((OwnRow.two w (.slice a1 n1 c1) (.slice a2 n2 c2) 25).later (later1 _ _)).later (later1 _ _)
  have HBA : Hid (Below w.heap.size w (((w.alloc (.cells #[.slice a1 n1 c1, .slice a2 n2 c2] 25)).alloc (.cells #[.slice none 0 0, .slice none 0 0] 30)).alloc (.cells #[.slice none 0 0, .slice none 0 0] 30))) := later3 _ _ _ _
  have hWs : (((w.alloc (.cells #[.slice a1 n1 c1, .slice a2 n2 c2] 25)).alloc (.cells #[.slice none 0 0, .slice none 0 0] 30)).alloc (.cells #[.slice none 0 0, .slice none 0 0] 30)).heap.size = w.heap.size + 3 := by simp
  generalize hW : (((w.alloc (.cells #[.slice a1 n1 c1, .slice a2 n2 c2] 25)).alloc (.cells #[.slice none 0 0, .slice none 0 0] 30)).alloc (.cells #[.slice none 0 0, .slice none 0 0] 30)) = W at *
  clear hW
  refine (toInosU (H1.out.later HBA.out) L1.out).mono ?_
  rintro e w1 ⟨b1, m1, k1, rfl, hb1, ho1⟩
  have HB1 : Hid (Below w.heap.size w w1) := HBA.out.trans (hb1.mono HBA.out.size)
  replace O2 := O2.later hb1
  replace O1 := O1.later hb1
  replace O0 := O0.later hb1
  have HO1 : Hid (InosO w1 (.slice b1 m1 k1) d.1 (fun b => w.heap.size + 3 ≤ b ∧ b < w1.heap.size)) := ho1.mono fun b hb => ⟨by have := hb.1; omega, hb.2⟩
  clear hb1 ho1
  have P0 := O0.cell (i := 1) (by omega)
  have d0 := O2.cell (i := 0) (by omega)
  have f0 := O2.frozen 0
  simp at P0 d0
  have HO2 : Hid (OwnRow w1 (w.heap.size + 1 + 1) 2 (fun i => if i = 0 then .slice none 0 0 else .slice none 0 0)) := O2
  have HR1 : Hid (OwnRow w1 (w.heap.size + 1) 2 (fun i => if i = 0 then .slice none 0 0 else .slice none 0 0)) := O1
  have hz1 : w.heap.size + 1 + 1 < w1.heap.size := O2.lt
  clear O0 O1 O2
  go_wp2_with fail
  clear d0 f0 P0
  have HBX : Hid (Below w.heap.size w (w1.setCell ⟨w.heap.size + 1 + 1, 0, none⟩ (.slice b1 m1 k1))) := HB1.out.setCell (by simp; omega) _
  refine (toBytsU (H2.out.later HBX.out) L2.out).mono ?_
  rintro e w2 ⟨b2, m2, k2, rfl, hb2, ho2⟩
  have HOX := (HO2.out.set 0 (.slice b1 m1 k1)).later hb2
  have HRX := (HR1.out.store (p := ⟨w.heap.size + 1 + 1, 0, none⟩) (by simp) (.slice b1 m1 k1)).later hb2
  have e1 : (w1.setCell ⟨w.heap.size + 1 + 1, 0, none⟩ (.slice b1 m1 k1)).heap.size = w1.heap.size := by simp [World.setCell]
  have HIX : Hid (InosO w2 (.slice b1 m1 k1) d.1 (fun b => w.heap.size + 3 ≤ b ∧ b < w1.heap.size)) := HO1.out.keep fun b hb hlt => by
    rw [hb2.block b (by rw [e1]; exact hlt), Below.heap_setCell _ _ _ _ (by simp; omega)]
  have HPX : Hid (BytsO w2 (.slice b2 m2 k2) d.2 (fun b => w1.heap.size ≤ b ∧ b < w2.heap.size)) := by
    unfold fresh at ho2
    rw [e1] at ho2
    exact ho2
  have HB2 : Hid (Below w.heap.size w w2) := HBX.out.trans (hb2.mono HBX.out.size)
  have e2 : w1.heap.size ≤ w2.heap.size := by have := hb2.size; rwa [e1] at this
  have q0 := HOX.cell (i := 0) (by omega)
  have q1 := HOX.cell (i := 1) (by omega)
  have qf := HOX.frozen 1
  have t0 := HRX.cell (i := 0) (by omega)
  have t1 := HRX.cell (i := 1) (by omega)
  have s0 := HRX.frozen 0
  have s1 := HRX.frozen 1
  simp at q0 q1 t0 t1
  clear HOX HRX hb2 ho2
  go_wp2
  refine bodyPost_ret (v := .agg #[.slice b1 m1 k1, .slice b2 m2 k2]) (by simp [results, Try.results10, go_sem, t0, t1]) rfl ⟨_, _, _, _, _, _, rfl, ?_, ?_⟩
  · exact ((HB2.out.setCell (by simp; omega) _).setCell (by simp) _).setCell (by simp) _
  · refine ⟨fun b => w.heap.size + 3 ≤ b ∧ b < w1.heap.size, fun b => w1.heap.size ≤ b ∧ b < w2.heap.size, HIX.out.keep fun b hb hlt => ?_, HPX.out.keep fun b hb hlt => ?_, fun b hb hb' => by omega, fun b hb => ?_⟩
    · rw [Below.heap_setCell _ _ _ _ (by simp; omega), Below.heap_setCell _ _ _ _ (by simp; omega), Below.heap_setCell _ _ _ _ (by simp; omega)]
    · rw [Below.heap_setCell _ _ _ _ (by simp; omega), Below.heap_setCell _ _ _ _ (by simp; omega), Below.heap_setCell _ _ _ _ (by simp; omega)]
    · unfold fresh
      simp only [World.setCell, Array.size_modify]
      rcases hb with hb | hb <;> omega
end Go.Proofs.Ytdgnhcfnhbkmlal

namespace Go.Proofs.Ytdgnhcfnhbkmlal
open Go.RowKit
set_option maxRecDepth 100000

set_option maxHeartbeats 400000 in
theorem l4Ints_len (w : World) (a a' : Option Addr) (cap cap' n n' : Nat) (hn : ¬ n = n') :
    Calls Try.prog 111 #[.slice a n cap, .slice a' n' cap'] w fun e w' => e = .returned (.bool false) ∧ w' = w := by
  have hb : ((n : Int) != (n' : Int)) = true := by simp; omega
  clear hn
  go_enter Try.func111, Try.ntmps111
  go_wp2
  go_ret
  exact ⟨rfl, rfl⟩
set_option maxHeartbeats 1600000 in
theorem l4Ints_walk (w : World) (a a' : Option Addr) (cap cap' n : Nat) (xs ys : List Int) (hx : xs.length = n) (hy : ys.length = n) (hn : n ≤ maxLen)
    (cx : At1 w a n (fun k => .int .i64 (xs[k]?.getD 0))) (cy : At1 w a' n (fun k => .int .i64 (ys[k]?.getD 0))) :
    Calls Try.prog 111 #[.slice a n cap, .slice a' n cap'] w fun e w' => e = .returned (.bool (decide (xs = ys))) ∧ ∃ m, w' = w.drewN m := by
  unfold maxLen at hn
  have HX : Hid (xs.length = n) := hx
  have HY : Hid (ys.length = n) := hy
  have HCX : Hid (At1 w a n (fun k => .int .i64 (xs[k]?.getD 0))) := cx
  have HCY : Hid (At1 w a' n (fun k => .int .i64 (ys[k]?.getD 0))) := cy
  have hnn : ((n : Int) != (n : Int)) = false := by simp
  clear hx hy cx cy
  go_enter Try.func111, Try.ntmps111
  go_wp2
  go_loopw [5] (fun i wr => ∃ k m : Nat, k ≤ n ∧ i = .int .i64 k ∧ wr = w.drewN m ∧ xs.take k = ys.take k) (fun i _ => n - (intOf i).toNat)
  case atStart => exact ⟨0, 0, Nat.zero_le _, rfl, rfl, rfl⟩
  case round =>
    obtain ⟨k, m, hk, rfl, rfl, ht⟩ := hrel
    have HT : Hid (xs.take k = ys.take k) := ht
    clear ht
    by_cases hlt : k < n
    · obtain ⟨b, off, rfl, c1⟩ := HCX.out k hlt
      obtain ⟨b', off', rfl, c2⟩ := HCY.out k hlt
      dsimp only at c1 c2
      by_cases he : xs[k]?.getD 0 = ys[k]?.getD 0
      · have HTT : Hid (xs.take (k + 1) = ys.take (k + 1)) := take_more 0 HX.out HY.out hlt HT.out he
        rw [← he] at c2
        generalize xs[k]?.getD 0 = x at *
        have hb : (x != x) = false := by simp
        clear he
        go_wp2_with fail
        go_quiet (fail)
        go_wp2
        go_roundw
        case rel => exact ⟨k + 1, m + nq, by omega, by go_num, by first | rfl | rw [World.drewN_drewN], HTT.out⟩
        case measure => simp [intOf]; omega
      · have HR : Hid (decide (xs = ys) = false) := by unfold Hid; simp; intro h; rw [h] at he; exact he rfl
        have hb : (xs[k]?.getD 0 != ys[k]?.getD 0) = true := by simpa using he
        clear he
        generalize xs[k]?.getD 0 = x at *
        generalize ys[k]?.getD 0 = y at *
        go_wp2_with fail
        go_quiet (fail)
        go_wp2
        go_ret
        exact ⟨ret_bool HR.out.symm, m + nq, by first | rfl | rw [World.drewN_drewN]⟩
    · have HR : Hid (decide (xs = ys) = true) := by
        have h := HT.out
        rw [List.take_of_length_le (by rw [HX.out]; omega), List.take_of_length_le (by rw [HY.out]; omega)] at h
        unfold Hid; simp [h]
      go_wp2
      go_ret
      exact ⟨ret_bool HR.out.symm, m, rfl⟩
theorem l4Ints_any {w : World} {va vb : Value} {xs ys : List Int} (ha : Ints w va xs) (hb : Ints w vb ys) :
    Calls Try.prog 111 #[va, vb] w fun e w' => e = .returned (.bool (decide (xs = ys))) ∧ ∃ m, w' = w.drewN m := by
  obtain ⟨a, cap, rfl, hm, hc⟩ := ha.open'
  obtain ⟨a', cap', rfl, hm', hc'⟩ := hb.open'
  by_cases h : xs.length = ys.length
  · rw [h] at hc ⊢
    exact l4Ints_walk w a a' cap cap' ys.length xs ys h rfl hm' hc hc'
  · have hd : decide (xs = ys) = false := by simp; intro e; exact h (by rw [e])
    rw [hd]
    exact (l4Ints_len w a a' cap cap' _ _ h).mono fun e w' ⟨h1, h2⟩ => ⟨h1, 0, h2⟩

set_option maxHeartbeats 400000 in
theorem equalI_len (w : World) (a a' : Option Addr) (cap cap' n n' : Nat) (hn : ¬ n = n') :
    Calls Try.prog 90 #[.slice a n cap, .slice a' n' cap'] w fun e w' => e = .returned (.bool false) ∧ w' = w := by
  have hb : ((n : Int) != (n' : Int)) = true := by simp; omega
  clear hn
  go_enter Try.func90, Try.ntmps90
  go_wp2
  go_ret
  exact ⟨rfl, rfl⟩
set_option maxHeartbeats 1600000 in
theorem equalI_walk (w : World) (a a' : Option Addr) (cap cap' n : Nat) (xs ys : List Int) (hx : xs.length = n) (hy : ys.length = n) (hn : n ≤ maxLen)
    (cx : At1 w a n (fun k => .int .i64 (xs[k]?.getD 0))) (cy : At1 w a' n (fun k => .int .i64 (ys[k]?.getD 0))) :
    Calls Try.prog 90 #[.slice a n cap, .slice a' n cap'] w fun e w' => e = .returned (.bool (decide (xs = ys))) ∧ ∃ m, w' = w.drewN m := by
  unfold maxLen at hn
  have HX : Hid (xs.length = n) := hx
  have HY : Hid (ys.length = n) := hy
  have HCX : Hid (At1 w a n (fun k => .int .i64 (xs[k]?.getD 0))) := cx
  have HCY : Hid (At1 w a' n (fun k => .int .i64 (ys[k]?.getD 0))) := cy
  have hnn : ((n : Int) != (n : Int)) = false := by simp
  clear hx hy cx cy
  go_enter Try.func90, Try.ntmps90
  go_wp2
  go_loopw [13] (fun i wr => ∃ k m : Nat, k ≤ n ∧ i = .int .i64 k ∧ wr = w.drewN m ∧ xs.take k = ys.take k) (fun i _ => n - (intOf i).toNat)
  case atStart => exact ⟨0, 0, Nat.zero_le _, rfl, rfl, rfl⟩
  case round =>
    obtain ⟨k, m, hk, rfl, rfl, ht⟩ := hrel
    have HT : Hid (xs.take k = ys.take k) := ht
    clear ht
    by_cases hlt : k < n
    · obtain ⟨b, off, rfl, c1⟩ := HCX.out k hlt
      obtain ⟨b', off', rfl, c2⟩ := HCY.out k hlt
      dsimp only at c1 c2
      by_cases he : xs[k]?.getD 0 = ys[k]?.getD 0
      · have HTT : Hid (xs.take (k + 1) = ys.take (k + 1)) := take_more 0 HX.out HY.out hlt HT.out he
        rw [← he] at c2
        generalize xs[k]?.getD 0 = x at *
        have hb : (x != x) = false := by simp
        clear he
        go_wp2_with fail
        go_quiet (fail)
        go_wp2
        go_roundw
        case rel => exact ⟨k + 1, m + nq, by omega, by go_num, by first | rfl | rw [World.drewN_drewN], HTT.out⟩
        case measure => simp [intOf]; omega
      · have HR : Hid (decide (xs = ys) = false) := by unfold Hid; simp; intro h; rw [h] at he; exact he rfl
        have hb : (xs[k]?.getD 0 != ys[k]?.getD 0) = true := by simpa using he
        clear he
        generalize xs[k]?.getD 0 = x at *
        generalize ys[k]?.getD 0 = y at *
        go_wp2_with fail
        go_quiet (fail)
        go_wp2
        go_ret
        exact ⟨ret_bool HR.out.symm, m + nq, by first | rfl | rw [World.drewN_drewN]⟩
    · have HR : Hid (decide (xs = ys) = true) := by
        have h := HT.out
        rw [List.take_of_length_le (by rw [HX.out]; omega), List.take_of_length_le (by rw [HY.out]; omega)] at h
        unfold Hid; simp [h]
      go_wp2
      go_ret
      exact ⟨ret_bool HR.out.symm, m, rfl⟩
theorem equalI_any {w : World} {va vb : Value} {xs ys : List Int} (ha : Ints w va xs) (hb : Ints w vb ys) :
    Calls Try.prog 90 #[va, vb] w fun e w' => e = .returned (.bool (decide (xs = ys))) ∧ ∃ m, w' = w.drewN m := by
  obtain ⟨a, cap, rfl, hm, hc⟩ := ha.open'
  obtain ⟨a', cap', rfl, hm', hc'⟩ := hb.open'
  by_cases h : xs.length = ys.length
  · rw [h] at hc ⊢
    exact equalI_walk w a a' cap cap' ys.length xs ys h rfl hm' hc hc'
  · have hd : decide (xs = ys) = false := by simp; intro e; exact h (by rw [e])
    rw [hd]
    exact (equalI_len w a a' cap cap' _ _ h).mono fun e w' ⟨h1, h2⟩ => ⟨h1, 0, h2⟩

theorem bytes_eq {a b : ByteArray} (h : a.toList = b.toList) : a = b := by
  rw [ByteArray.toList_eq, ByteArray.toList_eq] at h
  cases a; cases b
  simp at h
  rw [h]

set_option maxHeartbeats 400000 in
theorem equalE_len (w : World) (a a' : Option Addr) (cap cap' n n' : Nat) (hn : ¬ n = n') :
    Calls Try.prog 91 #[.slice a n cap, .slice a' n' cap'] w fun e w' => e = .returned (.bool false) ∧ w' = w := by
  have hb : ((n : Int) != (n' : Int)) = true := by simp; omega
  clear hn
  go_enter Try.func91, Try.ntmps91
  go_wp2
  go_ret
  exact ⟨rfl, rfl⟩
set_option maxHeartbeats 1600000 in
theorem equalE_walk (w : World) (a a' : Option Addr) (cap cap' n : Nat) (xs ys : List EN) (hx : xs.length = n) (hy : ys.length = n) (hn : n ≤ maxLen)
    (cx : AtN w a n xs) (cy : AtN w a' n ys) :
    Calls Try.prog 91 #[.slice a n cap, .slice a' n cap'] w fun e w' => e = .returned (.bool (decide (xs = ys))) ∧ ∃ m, w' = w.drewN m := by
  unfold maxLen at hn
  have HX : Hid (xs.length = n) := hx
  have HY : Hid (ys.length = n) := hy
  have HCX : Hid (AtN w a n xs) := cx
  have HCY : Hid (AtN w a' n ys) := cy
  have hnn : ((n : Int) != (n : Int)) = false := by simp
  clear hx hy cx cy
  go_enter Try.func91, Try.ntmps91
  go_wp2
  go_loopw [13] (fun i wr => ∃ k m : Nat, k ≤ n ∧ i = .int .i64 k ∧ wr = w.drewN m ∧ xs.take k = ys.take k) (fun i _ => n - (intOf i).toNat)
  case atStart => exact ⟨0, 0, Nat.zero_le _, rfl, rfl, rfl⟩
  case round =>
    obtain ⟨k, m, hk, rfl, rfl, ht⟩ := hrel
    have HT : Hid (xs.take k = ys.take k) := ht
    clear ht
    by_cases hlt : k < n
    · obtain ⟨b, off, rfl, c1, d1⟩ := HCX.out k hlt
      obtain ⟨b', off', rfl, c2, d2⟩ := HCY.out k hlt
      by_cases he : xs[k]?.getD en0 = ys[k]?.getD en0
      · have HTT : Hid (xs.take (k + 1) = ys.take (k + 1)) := take_more en0 HX.out HY.out hlt HT.out he
        rw [← he] at c2 d2
        generalize (xs[k]?.getD en0).1 = x at *
        generalize (xs[k]?.getD en0).2 = z at *
        have hb : (x.toList == x.toList) = true := by simp
        have hb2 : (z == z) = true := by simp
        clear he
        go_wp2_with fail
        go_quiet (fail)
        go_wp2
        go_roundw
        case rel => exact ⟨k + 1, m + nq, by omega, by go_num, by first | rfl | rw [World.drewN_drewN], HTT.out⟩
        case measure => simp [intOf]; omega
      · have HR : Hid (decide (xs = ys) = false) := by unfold Hid; simp; intro h; rw [h] at he; exact he rfl
        have HEN : Hid ((xs[k]?.getD en0).1.toList = (ys[k]?.getD en0).1.toList → ¬ (xs[k]?.getD en0).2 = (ys[k]?.getD en0).2) := fun h1 h2 => he (Prod.ext (bytes_eq h1) h2)
        clear he
        generalize (xs[k]?.getD en0).1 = x at *
        generalize (xs[k]?.getD en0).2 = z at *
        generalize (ys[k]?.getD en0).1 = x' at *
        generalize (ys[k]?.getD en0).2 = z' at *
        by_cases h1 : x.toList = x'.toList
        · have hz : ¬ z = z' := HEN.out h1
          have hb : (x.toList == x'.toList) = true := by simpa using h1
          have hb2 : (z == z') = false := by simpa using hz
          clear h1 hz HEN
          go_wp2_with fail
          go_quiet (fail)
          go_wp2
          go_ret
          exact ⟨ret_bool HR.out.symm, m + nq, by first | rfl | rw [World.drewN_drewN]⟩
        · have hb : (x.toList == x'.toList) = false := by simpa using h1
          clear h1 HEN
          go_wp2_with fail
          go_quiet (fail)
          go_wp2
          go_ret
          exact ⟨ret_bool HR.out.symm, m + nq, by first | rfl | rw [World.drewN_drewN]⟩
    · have HR : Hid (decide (xs = ys) = true) := by
        have h := HT.out
        rw [List.take_of_length_le (by rw [HX.out]; omega), List.take_of_length_le (by rw [HY.out]; omega)] at h
        unfold Hid; simp [h]
      go_wp2
      go_ret
      exact ⟨ret_bool HR.out.symm, m, rfl⟩
theorem equalE_any {w : World} {va vb : Value} {xs ys : List EN} (ha : Ents w va xs) (hb : Ents w vb ys) :
    Calls Try.prog 91 #[va, vb] w fun e w' => e = .returned (.bool (decide (xs = ys))) ∧ ∃ m, w' = w.drewN m := by
  obtain ⟨a, cap, rfl, hm, _, hc⟩ := ha.open'
  obtain ⟨a', cap', rfl, hm', _, hc'⟩ := hb.open'
  by_cases h : xs.length = ys.length
  · rw [h] at hc ⊢
    exact equalE_walk w a a' cap cap' ys.length xs ys h rfl hm' hc hc'
  · have hd : decide (xs = ys) = false := by simp; intro e; exact h (by rw [e])
    rw [hd]
    exact (equalE_len w a a' cap cap' _ _ h).mono fun e w' ⟨h1, h2⟩ => ⟨h1, 0, h2⟩
end Go.Proofs.Ytdgnhcfnhbkmlal

namespace Go.Proofs.Ytdgnhcfnhbkmlal
open Go.RowKit
set_option maxRecDepth 100000

/-- Whether two inodes are the same. -/
def sameB (d d' : ID) : Bool := decide (d = d')
theorem sameB_no {d d' : ID} (h : ¬ d = d') : sameB d d' = false := by unfold sameB; simpa using h
theorem sameB_yes {d d' : ID} (h : d = d') : sameB d d' = true := by unfold sameB; simpa using h

set_option maxHeartbeats 6400000 in
theorem l4Same_any (w : World) (pa pb : Nat) (d d' : ID) (a : Option Addr) (c : Nat) (ae : Option Addr) (ce : Nat) (a' : Option Addr) (c' : Nat) (ae' : Option Addr) (ce' : Nat)
    (hx : Bx w pa [.int .i64 d.1, .int .i64 d.2.1, .int .i64 d.2.2.1, .slice a d.2.2.2.1.length c, .slice ae d.2.2.2.2.length ce])
    (hx' : Bx w pb [.int .i64 d'.1, .int .i64 d'.2.1, .int .i64 d'.2.2.1, .slice a' d'.2.2.2.1.length c', .slice ae' d'.2.2.2.2.length ce'])
    (hi : Ints w (.slice a d.2.2.2.1.length c) d.2.2.2.1) (hi' : Ints w (.slice a' d'.2.2.2.1.length c') d'.2.2.2.1) (he : AtN w ae d.2.2.2.2.length d.2.2.2.2) (he' : AtN w ae' d'.2.2.2.2.length d'.2.2.2.2) (hm : d'.2.2.2.2.length ≤ maxLen) :
    Calls Try.prog 89 #[.pointer (some ⟨pa, 0, none⟩), .pointer (some ⟨pb, 0, none⟩)] w fun e w' => e = .returned (.bool (sameB d d')) ∧ ∃ m, w' = w.drewN m := by
  obtain ⟨k, l, s, bs, es⟩ := d
  obtain ⟨k', l', s', bs', es'⟩ := d'
  dsimp only at *
  have HLI : Hid (∀ m, Calls Try.prog 111 #[.slice a bs.length c, .slice a' bs'.length c'] (w.drewN m) fun e w' => e = .returned (.bool (decide (bs = bs'))) ∧ ∃ m', w' = (w.drewN m).drewN m') := fun m => l4Ints_any (hi.drewN m) (hi'.drewN m)
  have HE : Hid (AtN w ae es.length es) := he
  have HE' : Hid (AtN w ae' es'.length es') := he'
  have c0 := hx 0 _ rfl
  have c1 := hx 1 _ rfl
  have c2 := hx 2 _ rfl
  have c3 := hx 3 _ rfl
  have c4 := hx 4 _ rfl
  have e0 := hx' 0 _ rfl
  have e1 := hx' 1 _ rfl
  have e2 := hx' 2 _ rfl
  have e3 := hx' 3 _ rfl
  have e4 := hx' 4 _ rfl
  clear hx hx' hi hi' he he'
  by_cases hk : k = k'
  rotate_left
  · have HR : Hid (sameB (k, l, s, bs, es) (k', l', s', bs', es') = false) := sameB_no (by simp [hk])
    have hk' : (k != k') = true := by simpa using hk
    go_enter Try.func89, Try.ntmps89
    go_wp2_with fail
    go_quiet (fail)
    go_wp2
    go_ret
    exact ⟨ret_bool HR.out.symm, nq, rfl⟩
  · subst hk
    have hkk : (k != k) = false := by simp
    by_cases hl : l = l'
    rotate_left
    · have HR : Hid (sameB (k, l, s, bs, es) (k, l', s', bs', es') = false) := sameB_no (by simp [hl])
      have hl' : (l != l') = true := by simpa using hl
      go_enter Try.func89, Try.ntmps89
      go_wp2_with fail
      go_quiet (fail)
      go_wp2
      go_ret
      exact ⟨ret_bool HR.out.symm, nq, rfl⟩
    · subst hl
      have hll : (l != l) = false := by simp
      by_cases hs : s = s'
      rotate_left
      · have HR : Hid (sameB (k, l, s, bs, es) (k, l, s', bs', es') = false) := sameB_no (by simp [hs])
        have hs' : (s != s') = true := by simpa using hs
        go_enter Try.func89, Try.ntmps89
        go_wp2_with fail
        go_quiet (fail)
        go_wp2
        go_ret
        exact ⟨ret_bool HR.out.symm, nq, rfl⟩
      · subst hs
        have hss : (s != s) = false := by simp
        by_cases hb : bs = bs'
        rotate_left
        · have HR : Hid (sameB (k, l, s, bs, es) (k, l, s, bs', es') = false) := sameB_no (by simp [hb])
          rw [show decide (bs = bs') = false by simpa using hb] at HLI
          clear hb
          generalize bs.length = n at *
          generalize bs'.length = n' at *
          go_enter Try.func89, Try.ntmps89
          go_wp2_with fail
          go_quiet ((go_at_call 111; exact Calls.quiet_of (HLI.out _)))
          go_wp2
          go_ret
          exact ⟨ret_bool HR.out.symm, nq, rfl⟩
        · subst hb
          rw [show decide (bs = bs) = true by simp] at HLI
          by_cases hn : es.length = es'.length
          rotate_left
          · have HR : Hid (sameB (k, l, s, bs, es) (k, l, s, bs, es') = false) := sameB_no (by simp; intro h; exact hn (by rw [h]))
            have hn' : ((es.length : Int) != (es'.length : Int)) = true := by simp; omega
            clear hn
            generalize bs.length = n at *
            generalize es.length = m1 at *
            generalize es'.length = m2 at *
            go_enter Try.func89, Try.ntmps89
            go_wp2_with fail
            go_quiet ((go_at_call 111; exact Calls.quiet_of (HLI.out _)))
            go_wp2
            go_ret
            exact ⟨ret_bool HR.out.symm, nq, rfl⟩
          · have HS : Hid (sameB (k, l, s, bs, es) (k, l, s, bs, es') = decide (es = es')) := by unfold Hid sameB; simp
            have HN : Hid (es.length = es'.length) := hn
            have HNE : Hid (es'.length = es'.length) := rfl
            rw [hn] at c4 HE
            obtain ⟨ne, hne⟩ : ∃ ne, es'.length = ne := ⟨_, rfl⟩
            rw [hne] at c4 e4 HE HE' hm
            unfold maxLen at hm
            have HL1 : Hid (es.length = ne) := hn.trans hne
            have HL2 : Hid (es'.length = ne) := hne
            clear hn hne HN HNE
            generalize bs.length = n at *
            have hnn : ((ne : Int) != (ne : Int)) = false := by simp
            go_enter Try.func89, Try.ntmps89
            go_wp2_with fail
            go_quiet ((go_at_call 111; exact Calls.quiet_of (HLI.out _)))
            go_wp2
            go_loopw [5] (fun i wr => ∃ j m : Nat, j ≤ ne ∧ i = .int .i64 j ∧ wr = w.drewN m ∧ es.take j = es'.take j) (fun i _ => ne - (intOf i).toNat)
            case atStart => exact ⟨0, nq, Nat.zero_le _, rfl, rfl, rfl⟩
            case round =>
              obtain ⟨j, m, hj, rfl, rfl, ht⟩ := hrel
              have HT : Hid (es.take j = es'.take j) := ht
              clear ht
              by_cases hlt : j < ne
              · obtain ⟨b, off, rfl, f1, g1⟩ := HE.out j hlt
                obtain ⟨b', off', rfl, f2, g2⟩ := HE'.out j hlt
                by_cases heq : es[j]?.getD en0 = es'[j]?.getD en0
                · have HTT : Hid (es.take (j + 1) = es'.take (j + 1)) := take_more en0 HL1.out HL2.out hlt HT.out heq
                  rw [← heq] at f2 g2
                  generalize (es[j]?.getD en0).1 = x at *
                  generalize (es[j]?.getD en0).2 = z at *
                  have hb : (x.toList == x.toList) = true := by simp
                  have hb2 : (z == z) = true := by simp
                  clear heq
                  go_wp2_with fail
                  go_quiet (fail)
                  go_wp2
                  go_roundw
                  case rel => exact ⟨j + 1, m + nq, by omega, by go_num, by first | rfl | rw [World.drewN_drewN], HTT.out⟩
                  case measure => simp [intOf]; omega
                · have HR : Hid (sameB (k, l, s, bs, es) (k, l, s, bs, es') = false) := sameB_no (by simp; intro h; rw [h] at heq; exact heq rfl)
                  have HEN : Hid ((es[j]?.getD en0).1.toList = (es'[j]?.getD en0).1.toList → ¬ (es[j]?.getD en0).2 = (es'[j]?.getD en0).2) := fun h1 h2 => heq (Prod.ext (bytes_eq h1) h2)
                  clear heq
                  generalize (es[j]?.getD en0).1 = x at *
                  generalize (es[j]?.getD en0).2 = z at *
                  generalize (es'[j]?.getD en0).1 = x' at *
                  generalize (es'[j]?.getD en0).2 = z' at *
                  by_cases h1 : x.toList = x'.toList
                  · have hz : ¬ z = z' := HEN.out h1
                    have hb : (x.toList == x'.toList) = true := by simpa using h1
                    have hb2 : (z == z') = false := by simpa using hz
                    clear h1 hz HEN
                    go_wp2_with fail
                    go_quiet (fail)
                    go_wp2
                    go_ret
                    exact ⟨ret_bool HR.out.symm, m + nq, by first | rfl | rw [World.drewN_drewN]⟩
                  · have hb : (x.toList == x'.toList) = false := by simpa using h1
                    clear h1 HEN
                    go_wp2_with fail
                    go_quiet (fail)
                    go_wp2
                    go_ret
                    exact ⟨ret_bool HR.out.symm, m + nq, by first | rfl | rw [World.drewN_drewN]⟩
              · have HR : Hid (sameB (k, l, s, bs, es) (k, l, s, bs, es') = true) := by
                  have h := HT.out
                  rw [List.take_of_length_le (by rw [HL1.out]; omega), List.take_of_length_le (by rw [HL2.out]; omega)] at h
                  unfold Hid; rw [HS.out]; simp [h]
                go_wp2
                go_ret
                exact ⟨ret_bool HR.out.symm, m, rfl⟩

set_option maxHeartbeats 6400000 in
theorem implSameU (w : World) (z0 z1 z2 : Int) (aB : Option Addr) (nB cB : Nat) (aE : Option Addr) (nE cE : Nat) (d : ID) (y0 y1 y2 : Int) (aB' : Option Addr) (nB' cB' : Nat) (aE' : Option Addr) (nE' cE' : Nat) (d' : ID) (h : InoR w (.int .i64 z0) (.int .i64 z1) (.int .i64 z2) (.slice aB nB cB) (.slice aE nE cE) d) (h' : InoR w (.int .i64 y0) (.int .i64 y1) (.int .i64 y2) (.slice aB' nB' cB') (.slice aE' nE' cE') d') (_s : sizeIno d ≤ 1048576) (_s' : sizeIno d' ≤ 1048576) :
    Calls Try.prog 64 #[.agg #[.int .i64 z0, .int .i64 z1, .int .i64 z2, .slice aB nB cB, .slice aE nE cE], .agg #[.int .i64 y0, .int .i64 y1, .int .i64 y2, .slice aB' nB' cB', .slice aE' nE' cE']] w fun e w' => e = .returned (.bool (sameB d d')) ∧ Below w.heap.size w w' := by
  obtain ⟨⟨h0, h1, h2, _⟩, hi, he⟩ := h
  obtain ⟨⟨h0', h1', h2', _⟩, hi', he'⟩ := h'
  simp only [Value.int.injEq, true_and] at h0 h1 h2 h0' h1' h2'
  obtain ⟨_, _, e1, _⟩ := hi.open'
  obtain ⟨_, _, e2, hm2, _, hc2⟩ := he.open'
  obtain ⟨_, _, e1', _⟩ := hi'.open'
  obtain ⟨_, _, e2', hm2', _, hc2'⟩ := he'.open'
  simp only [Value.slice.injEq] at e1 e2 e1' e2'
  obtain ⟨rfl, rfl, rfl⟩ := e1
  obtain ⟨rfl, rfl, rfl⟩ := e2
  obtain ⟨rfl, rfl, rfl⟩ := e1'
  obtain ⟨rfl, rfl, rfl⟩ := e2'
  subst h0 h1 h2 h0' h1' h2'
  have HLI : Hid (∀ (o o' : Obj) (m : Nat), Calls Try.prog 90 #[.slice aB d.2.2.2.1.length cB, .slice aB' d'.2.2.2.1.length cB'] (((w.alloc o).alloc o').drewN m) fun e w' => e = .returned (.bool (decide (d.2.2.2.1 = d'.2.2.2.1))) ∧ ∃ m', w' = (((w.alloc o).alloc o').drewN m).drewN m') := fun o o' m => equalI_any ((hi.later (later2 _ _ _)).drewN m) ((hi'.later (later2 _ _ _)).drewN m)
  have HLE : Hid (∀ (o o' : Obj) (m : Nat), Calls Try.prog 91 #[.slice aE d.2.2.2.2.length cE, .slice aE' d'.2.2.2.2.length cE'] (((w.alloc o).alloc o').drewN m) fun e w' => e = .returned (.bool (decide (d.2.2.2.2 = d'.2.2.2.2))) ∧ ∃ m', w' = (((w.alloc o).alloc o').drewN m).drewN m') := fun o o' m => equalE_any (w := ((w.alloc o).alloc o').drewN m) (he.later (below_drewN (later2 _ _ _) m)) (he'.later (below_drewN (later2 _ _ _) m))
  clear hi hi' he he' hc2 hc2' hm2 hm2'
  obtain ⟨k, l, s, bs, es⟩ := d
  obtain ⟨k', l', s', bs', es'⟩ := d'
  dsimp only at *
  have HS : Hid (sameB (k, l, s, bs, es) (k', l', s', bs', es') = (k == k' && (l == l' && (s == s' && (decide (bs = bs') && decide (es = es')))))) := by
    unfold Hid sameB
    by_cases h1 : k = k' <;> by_cases h2 : l = l' <;> by_cases h3 : s = s' <;> by_cases h4 : bs = bs' <;> by_cases h5 : es = es' <;> simp [h1, h2, h3, h4, h5]
  generalize decide (bs = bs') = r1 at *
  generalize decide (es = es') = r2 at *
  generalize sameB (k, l, s, bs, es) (k', l', s', bs', es') = r at *
  generalize bs.length = n1 at *
  generalize bs'.length = n1' at *
  generalize es.length = n2 at *
  generalize es'.length = n2' at *
  by_cases hk : k = k'
  rotate_left
  · have hk' : (k == k') = false := by simpa using hk
    have HR : Hid (r = false) := by unfold Hid; rw [HS.out, hk']; rfl
    go_enter Try.func64, Try.ntmps64
    go_wp2
    go_ret
    exact ⟨ret_bool HR.out.symm, later2 _ _ _⟩
  · subst hk
    have hkk : (k == k) = true := by simp
    by_cases hl : l = l'
    rotate_left
    · have hl' : (l == l') = false := by simpa using hl
      have HR : Hid (r = false) := by unfold Hid; rw [HS.out, hl']; simp
      go_enter Try.func64, Try.ntmps64
      go_wp2
      go_ret
      exact ⟨ret_bool HR.out.symm, later2 _ _ _⟩
    · subst hl
      have hll : (l == l) = true := by simp
      by_cases hs : s = s'
      rotate_left
      · have hs' : (s == s') = false := by simpa using hs
        have HR : Hid (r = false) := by unfold Hid; rw [HS.out, hs']; simp
        go_enter Try.func64, Try.ntmps64
        go_wp2
        go_ret
        exact ⟨ret_bool HR.out.symm, later2 _ _ _⟩
      · subst hs
        have hss : (s == s) = true := by simp
        cases r1
        · have HR : Hid (r = false) := by unfold Hid; rw [HS.out]; simp
          go_enter Try.func64, Try.ntmps64
          go_wp2_with fail
          refine (HLI.out _ _ 0).mono ?_
          rintro e w1 ⟨rfl, m, rfl⟩
          go_wp2
          go_ret
          exact ⟨ret_bool HR.out.symm, below_drewN (later2 _ _ _) m⟩
        · have HR : Hid (r = r2) := by unfold Hid; rw [HS.out]; simp
          go_enter Try.func64, Try.ntmps64
          go_wp2_with fail
          refine (HLI.out _ _ 0).mono ?_
          rintro e w1 ⟨rfl, m, rfl⟩
          go_wp2_with fail
          refine (HLE.out _ _ m).mono ?_
          rintro e w2 ⟨rfl, m2, rfl⟩
          go_wp2
          go_ret
          exact ⟨ret_bool HR.out.symm, below_drewN (later2 _ _ _) (m + m2)⟩
end Go.Proofs.Ytdgnhcfnhbkmlal

namespace Go.Proofs.Ytdgnhcfnhbkmlal
open Go.RowKit
set_option maxRecDepth 100000

/-- The first of f 0 .. f (n - 1) that is not 0, or 0. -/
def fstNZ (f : Nat → Int) : Nat → Int
  | 0 => 0
  | n + 1 => if fstNZ f n = 0 then f n else fstNZ f n
theorem fstNZ_zero {f : Nat → Int} : ∀ {n : Nat}, (∀ i, i < n → f i = 0) → fstNZ f n = 0
  | 0, _ => rfl
  | n + 1, h => by
    show (if fstNZ f n = 0 then f n else fstNZ f n) = 0
    rw [if_pos (fstNZ_zero fun i hi => h i (by omega))]
    exact h n (by omega)
theorem fstNZ_at {f : Nat → Int} {j : Nat} (h : ∀ i, i < j → f i = 0) (hj : ¬ f j = 0) : ∀ {n : Nat}, j < n → fstNZ f n = f j
  | 0, hn => by omega
  | n + 1, hn => by
    show (if fstNZ f n = 0 then f n else fstNZ f n) = f j
    by_cases e : j = n
    · subst e
      rw [if_pos (fstNZ_zero h)]
    · have := fstNZ_at h hj (n := n) (by omega)
      rw [this, if_neg hj]
theorem fstNZ_inv {f : Nat → Int} : ∀ {n : Nat}, fstNZ f n = 0 → ∀ i, i < n → f i = 0
  | 0, _, i, hi => by omega
  | n + 1, h, i, hi => by
    have h' : (if fstNZ f n = 0 then f n else fstNZ f n) = 0 := h
    by_cases e : fstNZ f n = 0
    · rw [if_pos e] at h'
      by_cases e2 : i = n
      · rw [e2]; exact h'
      · exact fstNZ_inv e i (by omega)
    · rw [if_neg e] at h'; exact absurd h' e

def rngF (bs : List Int) (i : Nat) : Int := if 0 ≤ bs[i]?.getD 0 ∧ bs[i]?.getD 0 ≤ 19 then 0 else 3
/-- Whether one ahead of i is the same. -/
def dupB (bs : List Int) (i : Nat) : Bool := (List.range i).any fun k => bs[k]?.getD 0 == bs[i]?.getD 0
def dupF (bs : List Int) (i : Nat) : Int := if dupB bs i then 7 else 0
theorem dupB_yes {bs : List Int} {i k : Nat} (hk : k < i) (e : bs[k]?.getD 0 = bs[i]?.getD 0) : dupB bs i = true := by
  unfold dupB; rw [List.any_eq_true]; exact ⟨k, by simpa using hk, by simp [e]⟩
theorem dupB_no {bs : List Int} {i : Nat} (h : ∀ k, k < i → ¬ bs[k]?.getD 0 = bs[i]?.getD 0) : dupB bs i = false := by
  unfold dupB; rw [List.any_eq_false]; intro k hk; simp at hk; simp [h k hk]
def blkF (bs : List Int) : Int := if fstNZ (rngF bs) bs.length = 0 then fstNZ (dupF bs) bs.length else fstNZ (rngF bs) bs.length
def linkB (x : Int) : Bool := decide (1 ≤ x ∧ x ≤ 60)
def sizeB (x : Int) : Bool := decide (0 ≤ x ∧ x ≤ 32)
/-- BlocksFor. -/
def bforR (x : Int) : Int × Int := if sizeB x then (0, (x + 7) / 8) else (3, 0)
def fileF (l s : Int) (bs : List Int) : Int := if linkB l = true ∧ sizeB s = true then (if (bs.length : Int) = (s + 7) / 8 then blkF bs else 1) else 3
/-- One text is not above another. -/
def strLe (a b : ByteArray) : Bool := Op.bytesLess a.toList b.toList || a.toList == b.toList
def entF (es : List EN) (i : Nat) : Int := if nameF (es[i]?.getD en0).1 = 0 then (if 0 ≤ (es[i]?.getD en0).2 ∧ (es[i]?.getD en0).2 ≤ 9 then (if 0 < i ∧ strLe (es[i]?.getD en0).1 (es[i - 1]?.getD en0).1 = true then 1 else 0) else 3) else nameF (es[i]?.getD en0).1
def dirF (es : List EN) : Int := if 6 < es.length then 2 else fstNZ (entF es) es.length
/-- What a file alone has, and what a directory alone has. -/
def fpB (d : ID) : Bool := decide (d.2.1 ≠ 0) || decide (d.2.2.1 ≠ 0) || decide (0 < d.2.2.2.1.length)
def dpB (d : ID) : Bool := decide (0 < d.2.2.2.2.length)
def inoF (d : ID) : Int := if d.1 = 0 then (if fpB d || dpB d then 1 else 0) else if d.1 = 1 then (if dpB d then 1 else fileF d.2.1 d.2.2.1 d.2.2.2.1) else if d.1 = 2 then (if fpB d then 1 else dirF d.2.2.2.2) else 1
end Go.Proofs.Ytdgnhcfnhbkmlal

namespace Go.Proofs.Ytdgnhcfnhbkmlal
open Go.RowKit
set_option maxRecDepth 100000

def intV (z : Int) : Value := .int .i64 z
/-- Words in memory that the call made since n₀. -/
def Wds (w : World) (n₀ : Nat) (v : Value) (zs : List Int) : Prop := w.ownsRow n₀ 2 1 v zs.length (zs.map intV)
theorem Wds.later {w w' : World} {n₀ : Nat} {v : Value} {zs : List Int} (h : Wds w n₀ v zs) (hb : Below w.heap.size w w') : Wds w' n₀ v zs := ownsRow_later h hb
theorem Wds.shape {w : World} {n₀ : Nat} {v : Value} {zs : List Int} (h : Wds w n₀ v zs) : ∃ a c, v = .slice a zs.length c := ownsRow_shape h
theorem Wds.lit (w : World) (n₀ : Nat) (hn : n₀ ≤ w.heap.size) (zs : List Int) (arr : Array Value) (he : arr = (zs.map intV).toArray) (n : Nat) (hz : zs.length = n) (hm : n ≤ 1048576) : Wds (w.alloc (.cells arr 2)) n₀ (.slice (some ⟨w.heap.size, 0, none⟩) n n) zs := by
  subst he
  subst hz
  have := World.ownsRow_lit (e := 2) (size := 1) w (zs.map intV).toArray zs.length hn (by unfold maxLen; omega) (by simp)
  simpa [Wds] using this
/-- Blocks of other types than words' stand as they did. -/
def KeepT (w w' : World) : Prop := ∀ (b : Nat) (c : Array Value) (t : TypeId) (fr : Nat × Nat), t ≠ 2 → w.heap[b]? = some (Obj.cells c t fr) → w'.heap[b]? = some (Obj.cells c t fr)
theorem KeepT.refl (w : World) : KeepT w w := fun _ _ _ _ _ h => h
theorem KeepT.trans {a b c : World} (h : KeepT a b) (k : KeepT b c) : KeepT a c := fun i cs t fr ht hi => k i cs t fr ht (h i cs t fr ht hi)
theorem KeepT.later {w w' : World} (hb : Below w.heap.size w w') : KeepT w w' := fun b _ _ _ _ h => (hb.block b (Array.getElem?_eq_some_iff.1 h).1).trans h
theorem KeepT.grown {w w' : World} {n₀ : Nat} {v : Value} {zs : List Int} (h : Wds w n₀ v zs) (hg : w.grownBy w' v.ownBlock) : KeepT w w' := fun b c t fr ht hb => by
  refine (hg.block b (Array.getElem?_eq_some_iff.1 hb).1 fun e => ?_).trans hb
  rcases h.2 with ⟨rfl, _⟩ | ⟨g, cap, cur, rfl, _, hh, _⟩
  · simp [Value.ownBlock] at e
  · simp only [Value.ownBlock, Option.some.injEq] at e
    subst e
    rw [hh] at hb
    simp only [Option.some.injEq, Obj.cells.injEq] at hb
    exact ht hb.2.1.symm
theorem append_any (w : World) (n₀ : Nat) (v : Value) (zs ys : List Int) (a : Option Addr) (m c : Nat) (hrow : Wds w n₀ v zs) (hn₀ : n₀ ≤ w.heap.size) (hm : ys.length = m) (hz : zs.length ≤ 16777216) (hy : m ≤ 1048576) (hc : At1 w a m (fun k => .int .i64 (ys[k]?.getD 0))) (hnn : ∃ g cap, v = .slice (some ⟨g, 0, none⟩) zs.length cap ∧ n₀ ≤ g) :
    ∃ v' X, (Builtin.append_ #[51, 51] 51 #[v, .slice a m c]).run Try.prog w = .ok v' X ∧ Wds X n₀ v' (zs ++ ys) ∧ Below n₀ w X ∧ KeepT w X := by
  obtain ⟨i, hi, h1, h2, h3⟩ := Try.infoInt'
  obtain ⟨g, cap, rfl, hg0⟩ := hnn
  by_cases ha : a = none
  · subst ha
    have h0 : m = 0 := by
      by_cases h : m = 0
      · exact h
      · obtain ⟨_, _, e, _⟩ := hc 0 (by omega); cases e
    subst h0
    have hys : ys = [] := List.eq_nil_of_length_eq_zero hm
    subst hys
    have hlc : zs.length ≤ cap := by
      rcases hrow.2 with ⟨e, _⟩ | ⟨g', cap', cur, e, _, _, hnc, _⟩
      · cases e
      · simp only [Value.slice.injEq] at e
        rw [e.2.2]; exact hnc
    refine ⟨.slice (some ⟨g, 0, none⟩) zs.length cap, w, ?_, by rw [List.append_nil]; exact hrow, Below.refl _ _, KeepT.refl _⟩
    simp [Builtin.append_, run_underlying Try.underlying51, sizeOf, typeInfo, hi, Builtin.lenOf, Builtin.firstCells, storeCells, hlc]
  · obtain ⟨ad, rfl⟩ := Option.ne_none_iff_exists'.1 ha
    obtain ⟨v', X, hr, ho, hg, _⟩ := run_append_own (P := Try.prog) w n₀ 51 51 2 i (.int .i64 0) 1 8 Try.underlying51 hi h1 h2 h3 rfl (by decide) _ zs.length _ hrow ad m c (ys.map intV)
      (by simp [hm]) (fun j u hu => by
        rw [List.getElem?_map, Option.map_eq_some_iff] at hu
        obtain ⟨z, hz1, rfl⟩ := hu
        have hj : j < m := by rw [← hm]; exact (List.getElem?_eq_some_iff.1 hz1).1
        obtain ⟨b, off, e, h⟩ := hc j hj
        simp only [Option.some.injEq] at e
        rw [e, add_plain']
        replace h : w.cell? ⟨b, off + j, none⟩ = some (.int .i64 (ys[j]?.getD 0)) := h
        rw [hz1, Option.getD_some] at h
        exact h) (fun u hu => by
        obtain ⟨z, _, rfl⟩ := List.mem_map.1 hu
        rfl) (by unfold maxLen; omega) (by omega) hn₀
    refine ⟨v', X, hr, ?_, below_grown hg hn₀ (fun k hk => ?_), KeepT.grown hrow hg⟩
    · unfold Wds
      rw [List.length_append, List.map_append, hm]
      exact ho
    · simp [Value.ownBlock] at hk; omega
/-- Words that were appended are never nil. -/
theorem Wds.some {w : World} {n₀ : Nat} {v : Value} {zs : List Int} (h : Wds w n₀ v zs) (h0 : 0 < zs.length) : ∃ g cap, v = .slice (some ⟨g, 0, none⟩) zs.length cap ∧ n₀ ≤ g := by
  obtain ⟨g, cap, h1, h2, _⟩ := ownsRow_row h h0
  exact ⟨g, cap, h1, h2⟩
theorem Wds.own {w w0 : World} {n₀ : Nat} {v : Value} {zs : List Int} (h : Wds w n₀ v zs) (h0 : 0 < zs.length) (hn : w0.heap.size ≤ n₀) : IntsO w v zs (fresh w0 w) := by
  obtain ⟨g, cap, rfl, h2, h3, h4, h5⟩ := ownsRow_row h h0
  refine Or.inr ⟨g, cap, ⟨by omega, h3⟩, rfl, h4, h5.congr fun i hi => ?_⟩
  rw [List.getElem?_map, List.getElem?_eq_getElem hi]
  rfl
/-- An append of words that are written out. -/
theorem append_wds (w : World) (n₀ : Nat) (v : Value) (zs ys : List Int) (arr : Array Value) (m : Nat) (he : arr = (ys.map intV).toArray) (hm : ys.length = m) (hrow : Wds w n₀ v zs) (hn₀ : n₀ ≤ w.heap.size) (hz : zs.length ≤ 16777216) (hz0 : 0 < zs.length) (hy : m ≤ 1048576) :
    ∃ v' X, (Builtin.append_ #[51, 51] 51 #[v, .slice (some ⟨w.heap.size, 0, none⟩) m m]).run Try.prog (w.alloc (.cells arr 2)) = .ok v' X ∧ Wds X n₀ v' (zs ++ ys) ∧ Below n₀ w X ∧ KeepT w X := by
  subst he
  obtain ⟨v', X, h1, h2, h3, h4⟩ := append_any (w.alloc (.cells (ys.map intV).toArray 2)) n₀ v zs ys (some ⟨w.heap.size, 0, none⟩) m m (hrow.later (later1 _ _)) (by simp; omega) hm hz hy (fun k hk => ⟨w.heap.size, 0, rfl, by
    rw [Nat.zero_add, new_cell]
    have : k < ys.length := by omega
    simp [List.getElem?_eq_getElem this, intV]⟩) (hrow.some hz0)
  exact ⟨v', X, h1, h2, ((later1 w _).mono hn₀).trans h3, (KeepT.later (later1 _ _)).trans h4⟩

/-- Block b holds vs, as cells of type t. -/
def Obx (w : World) (b : Nat) (vs : List Value) (t : TypeId) : Prop := w.heap[b]? = some (.cells vs.toArray t)
theorem Obx.new (w : World) (vs : List Value) (t : TypeId) : Obx (w.alloc (.cells vs.toArray t)) w.heap.size vs t := Go.Deep.blk_alloc_new _ _
theorem Obx.keep {w w' : World} {b : Nat} {vs : List Value} {t : TypeId} (h : Obx w b vs t) (hk : KeepT w w') (ht : t ≠ 2) : Obx w' b vs t := hk _ _ _ _ ht h
theorem Obx.bx {w : World} {b : Nat} {vs : List Value} {t : TypeId} (h : Obx w b vs t) : Bx w b vs := fun i v hv => by
  unfold Obx at h
  simp [World.cell?, h, hv]
theorem Obx.lt {w : World} {b : Nat} {vs : List Value} {t : TypeId} (h : Obx w b vs t) : b < w.heap.size := (Array.getElem?_eq_some_iff.1 h).1

/-- The words of an entry. -/
def byteZ (b : UInt8) : Int := (b.toNat : Int)
def entW (e : EN) : List Int := e.2 :: (e.1.size : Int) :: e.1.data.toList.map byteZ
def entsW (es : List EN) : List Int := es.flatMap entW
def packL (d : ID) : List Int := [d.1, d.2.1, d.2.2.1] ++ d.2.2.2.1 ++ (if d.1 = 2 then ((d.2.2.2.2.length : Nat) : Int) :: entsW d.2.2.2.2 else [])
def packR (d : ID) : Int × List Int := if inoF d = 0 then (0, packL d) else (inoF d, [])
theorem entW_len (e : EN) : (entW e).length = 2 + e.1.size := by
  show (e.2 :: (e.1.size : Int) :: e.1.data.toList.map byteZ).length = _
  rw [List.length_cons, List.length_cons, List.length_map, Array.length_toList]; show e.1.size + 1 + 1 = 2 + e.1.size; omega
theorem entsW_len (es : List EN) : (entsW es).length ≤ 2 * sizeN es := by
  unfold sizeN
  induction es with
  | nil => simp [entsW, nlens]
  | cons e t ih =>
    have h1 : (entsW (e :: t)).length = (entW e).length + (entsW t).length := by simp [entsW]
    have h2 : (nlens (e :: t)).sum = e.1.size + (nlens t).sum := by simp [nlens]
    rw [h1, h2, entW_len]
    simp only [List.length_cons]
    omega
theorem packL_len (d : ID) : (packL d).length ≤ 4 + 2 * sizeIno d := by
  have := entsW_len d.2.2.2.2
  unfold packL sizeIno
  split <;> simp <;> omega
theorem packSpan (d : ID) (h : sizeIno d ≤ 1048576) : ((packR d).2.length : Int) ≤ 100000000 := by
  unfold packR
  split
  · have := packL_len d
    show ((packL d).length : Int) ≤ _
    omega
  · simp
/-- The words of a name's first k bytes. -/
def nameW (x : ByteArray) (k : Nat) : List Int := (x.data.toList.take k).map byteZ
theorem nameW_next (x : ByteArray) (k : Nat) (hk : k < x.size) : nameW x (k + 1) = nameW x k ++ [((x[k]'hk).toNat : Int)] := by
  unfold nameW
  have h : k < x.data.toList.length := by rw [Array.length_toList]; exact hk
  rw [List.take_succ_eq_append_getElem h, List.map_append]
  rfl
theorem nameW_len (x : ByteArray) (k : Nat) : (nameW x k).length ≤ x.size := by
  unfold nameW
  rw [List.length_map, List.length_take, Array.length_toList]
  exact Nat.min_le_right _ _
theorem nameW_all (x : ByteArray) (y : Int) : [y, (x.size : Int)] ++ nameW x x.size = entW (x, y) := by
  unfold nameW entW
  rw [List.take_of_length_le (by rw [Array.length_toList]; exact Nat.le_refl _)]
  rfl
theorem upto_size (es : List EN) (j : Nat) (hj : j < es.length) : (entsW (es.take j)).length + 2 + (es[j]?.getD en0).1.size ≤ (entsW es).length := by
  have h1 : es = es.take (j + 1) ++ es.drop (j + 1) := (List.take_append_drop _ _).symm
  have h2 : (entsW es).length = (entsW (es.take (j + 1))).length + (entsW (es.drop (j + 1))).length := by
    conv => lhs; rw [h1]
    unfold entsW
    rw [List.flatMap_append, List.length_append]
  have h3 : entsW (es.take (j + 1)) = entsW (es.take j) ++ entW (es[j]?.getD en0) := by
    unfold entsW
    rw [List.take_succ_eq_append_getElem hj, List.flatMap_append, List.getElem?_eq_getElem hj]
    simp
  rw [h2, h3, List.length_append, entW_len]
  omega
theorem entsW_take (es : List EN) (j : Nat) (hj : j < es.length) : entsW (es.take (j + 1)) = entsW (es.take j) ++ entW (es[j]?.getD en0) := by
  unfold entsW
  rw [List.take_succ_eq_append_getElem hj, List.flatMap_append, List.getElem?_eq_getElem hj]
  simp
end Go.Proofs.Ytdgnhcfnhbkmlal

namespace Go.Proofs.Ytdgnhcfnhbkmlal
open Go.RowKit
set_option maxRecDepth 100000

/-- The fault of a list of inodes, and of busy blocks. -/
def insF (ds : List ID) : Int := if 10 < ds.length then 2 else fstNZ (fun i => inoF (ds[i]?.getD id0)) ds.length
def busF (bs : List Int) : Int := if 20 < bs.length then 2 else fstNZ (rngF bs) bs.length
/-- All blocks of all inodes, and all entries' inodes. -/
def allB (ds : List ID) : List Int := ds.flatMap fun d => d.2.2.2.1
def cntB (ds : List ID) (v : Int) : Nat := (allB ds).count v
def entI (es : List EN) : List Int := es.map fun e => e.2
def allE (ds : List ID) : List Int := ds.flatMap fun d => entI d.2.2.2.2
theorem flat_next {α β : Type} (f : α → List β) (l : List α) (z : α) (j : Nat) (h : j < l.length) : (l.take (j + 1)).flatMap f = (l.take j).flatMap f ++ f (l[j]?.getD z) := by
  rw [List.take_succ_eq_append_getElem h, List.flatMap_append, List.getElem?_eq_getElem h]
  simp
theorem count_next (l : List Int) (v : Int) (k : Nat) (h : k < l.length) : (l.take (k + 1)).count v = (l.take k).count v + (if l[k]?.getD 0 = v then 1 else 0) := by
  rw [List.take_succ_eq_append_getElem h, List.count_append, List.getElem?_eq_getElem h, List.count_singleton]
  simp only [Option.getD_some]
  by_cases e : l[k] = v
  · rw [if_pos e, e, beq_self_eq_true]; rfl
  · rw [if_neg e, show (l[k] == v) = false by simpa using e]; rfl
theorem allB_len (ds : List ID) : (allB ds).length ≤ (isz ds).sum := by
  unfold allB isz
  induction ds with
  | nil => simp
  | cons d ds ih =>
    simp only [List.flatMap_cons, List.length_append, List.map_cons, List.sum_cons]
    have hd : sizeIno d = d.2.2.2.1.length + sizeN d.2.2.2.2 := rfl
    omega
theorem allE_len (ds : List ID) : (allE ds).length ≤ (isz ds).sum := by
  unfold allE isz
  induction ds with
  | nil => simp
  | cons d ds ih =>
    simp only [List.flatMap_cons, List.length_append, List.map_cons, List.sum_cons]
    have : (entI d.2.2.2.2).length = d.2.2.2.2.length := by simp [entI]
    have hd : sizeIno d = d.2.2.2.1.length + (d.2.2.2.2.length + (nlens d.2.2.2.2).sum) := rfl
    omega
theorem flat_take {α β : Type} (f : α → List β) (l : List α) (j : Nat) : ((l.take j).flatMap f).length ≤ (l.flatMap f).length := by
  conv => rhs; rw [← List.take_append_drop j l]
  rw [List.flatMap_append, List.length_append]
  omega

/-- The numbers below j that p picks. -/
def selL (p : Nat → Bool) (j : Nat) : List Int := ((List.range j).filter p).map fun k : Nat => (k : Int)
theorem selL_yes {p : Nat → Bool} {j : Nat} (h : p j = true) : selL p (j + 1) = selL p j ++ [(j : Int)] := by simp [selL, List.range_succ, h]
theorem selL_no {p : Nat → Bool} {j : Nat} (h : p j = false) : selL p (j + 1) = selL p j := by simp [selL, List.range_succ, h]
theorem selL_len (p : Nat → Bool) (j : Nat) : (selL p j).length ≤ j := by
  unfold selL
  rw [List.length_map]
  have := List.length_filter_le p (List.range j)
  simpa using this

def usedP (ds : List ID) (k : Nat) : Bool := decide (0 < cntB ds (k : Int))
def onceB (ds : List ID) (j : Nat) : Bool := (List.range j).all fun k => decide (cntB ds (k : Int) ≤ 1)
theorem onceB_next (ds : List ID) (j : Nat) : onceB ds (j + 1) = (onceB ds j && decide (cntB ds (j : Int) ≤ 1)) := by
  unfold onceB
  rw [List.range_succ, List.all_append]
  simp
/-- UsedBlocks. -/
def usedR (ds : List ID) : Int × List Int := if insF ds = 0 then (if onceB ds 20 = true then (0, selL (usedP ds) 20) else (7, [])) else (insF ds, [])
def freeP (ds : List ID) (bs : List Int) (k : Nat) : Bool := decide (cntB ds (k : Int) = 0) && !(bs.contains (k : Int))
def askF (ds : List ID) (bs : List Int) : Int := if insF ds = 0 then busF bs else insF ds
/-- FreeBlocks. -/
def freeR (ds : List ID) (bs : List Int) : Int × List Int := if askF ds bs = 0 then (0, selL (freeP ds bs) 20) else (askF ds bs, [])
/-- PickBlocks. -/
def pickR (ds : List ID) (bs : List Int) (n : Int) : Int × List Int :=
  if askF ds bs = 0 then (if 0 ≤ n ∧ n ≤ 4 then (if ((selL (freeP ds bs) 20).length : Int) < n then (8, []) else (0, (selL (freeP ds bs) 20).take n.toNat)) else (3, [])) else (askF ds bs, [])
/-- The first inode that is free, or the place behind the last, or none. -/
def kindAt (ds : List ID) (k : Nat) : Int := (ds[k]?.getD id0).1
def plcI (ds : List ID) : Nat → Int
  | 0 => if ds.length < 10 then (ds.length : Int) else -1
  | m + 1 => if kindAt ds (ds.length - (m + 1)) = 0 then ((ds.length - (m + 1) : Nat) : Int) else plcI ds m
theorem plcI_yes (ds : List ID) {j : Nat} (hj : j < ds.length) (h : kindAt ds j = 0) : plcI ds (ds.length - j) = (j : Int) := by
  obtain ⟨m, hm⟩ : ∃ m, ds.length - j = m + 1 := ⟨ds.length - j - 1, by omega⟩
  rw [hm]
  show (if kindAt ds (ds.length - (m + 1)) = 0 then ((ds.length - (m + 1) : Nat) : Int) else plcI ds m) = _
  rw [show ds.length - (m + 1) = j by omega, if_pos h]
theorem plcI_no (ds : List ID) {j : Nat} (hj : j < ds.length) (h : ¬ kindAt ds j = 0) : plcI ds (ds.length - (j + 1)) = plcI ds (ds.length - j) := by
  obtain ⟨m, hm⟩ : ∃ m, ds.length - j = m + 1 := ⟨ds.length - j - 1, by omega⟩
  rw [hm, show ds.length - (j + 1) = m by omega]
  show _ = (if kindAt ds (ds.length - (m + 1)) = 0 then ((ds.length - (m + 1) : Nat) : Int) else plcI ds m)
  rw [show ds.length - (m + 1) = j by omega, if_neg h]
/-- FreeInode. -/
def finR (ds : List ID) : Int × Int := if insF ds = 0 then (if plcI ds ds.length < 0 then (8, 0) else (0, plcI ds ds.length)) else (insF ds, 0)
/-- LinksOf. -/
def lnkR (ds : List ID) (at_ : Int) : Int × Int := if insF ds = 0 then (if 0 ≤ at_ ∧ at_ ≤ (ds.length : Int) - 1 then (0, ((allE ds).count at_ : Nat)) else (3, 0)) else (insF ds, 0)

/-- An append of one word. -/
theorem append_w1 (w : World) (n₀ : Nat) (v : Value) (zs : List Int) (y : Int) (hrow : Wds w n₀ v zs) (hn₀ : n₀ ≤ w.heap.size) (hz : zs.length ≤ 16777216) :
    ∃ a c X, (Builtin.append_ #[51, 51] 51 #[v, .slice (some ⟨w.heap.size, 0, none⟩) 1 1]).run Try.prog (w.alloc (.cells #[.int .i64 y] 2)) = .ok (.slice a (zs ++ [y]).length c) X ∧ Wds X n₀ (.slice a (zs ++ [y]).length c) (zs ++ [y]) ∧ Below n₀ w X ∧ KeepT w X := by
  obtain ⟨i, hi, h1, h2, h3⟩ := Try.infoInt'
  have hrow2 : Wds (w.alloc (.cells #[.int .i64 y] 2)) n₀ v zs := hrow.later (later1 _ _)
  obtain ⟨v', X, hr, ho, hg, _⟩ := run_append_own (P := Try.prog) (w.alloc (.cells #[.int .i64 y] 2)) n₀ 51 51 2 i (.int .i64 0) 1 8 Try.underlying51 hi h1 h2 h3 rfl (by decide) v zs.length _ hrow2 ⟨w.heap.size, 0, none⟩ 1 1 [intV y]
    (by simp) (fun j u hu => by
      have hj : j = 0 := by
        have := (List.getElem?_eq_some_iff.1 hu).1
        simp at this; omega
      subst hj
      simp only [List.getElem?_cons_zero, Option.some.injEq] at hu
      subst hu
      rw [add_plain', Nat.add_zero, new_cell]
      rfl) (fun u hu => by
      simp only [List.mem_singleton] at hu
      subst hu
      rfl) (by unfold maxLen; omega) (by omega) (by simp; omega)
  have how : Wds X n₀ v' (zs ++ [y]) := by
    unfold Wds
    rw [List.length_append, List.map_append]
    exact ho
  obtain ⟨a, c, rfl⟩ := how.shape
  refine ⟨a, c, X, hr, how, ((later1 w _).mono hn₀).trans (below_grown hg (by simp; omega) (fun k hk => ?_)), (KeepT.later (later1 _ _)).trans (KeepT.grown hrow2 hg)⟩
  rcases hrow.2 with ⟨e, _⟩ | ⟨g, cap, cur, e, hb, _⟩
  · rw [e] at hk; simp [Value.ownBlock] at hk
  · rw [e] at hk
    simp only [Value.ownBlock, Option.some.injEq] at hk
    omega
theorem Wds.nil (w : World) (n₀ : Nat) : Wds w n₀ (.slice none 0 0) [] := ⟨by simp, Or.inl ⟨rfl, rfl⟩⟩
theorem Wds.own' {w w0 : World} {n₀ : Nat} {v : Value} {zs : List Int} (h : Wds w n₀ v zs) (hn : w0.heap.size ≤ n₀) : IntsO w v zs (fresh w0 w) := by
  by_cases h0 : 0 < zs.length
  · exact h.own h0 hn
  · obtain ⟨a, c, rfl⟩ := h.shape
    have : zs = [] := List.eq_nil_of_length_eq_zero (by omega)
    subst this
    exact Or.inl ⟨rfl, a, c, rfl⟩
end Go.Proofs.Ytdgnhcfnhbkmlal

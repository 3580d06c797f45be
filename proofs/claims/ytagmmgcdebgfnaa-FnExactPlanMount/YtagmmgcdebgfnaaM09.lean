/- What compares lists of integers and of entries: the specification's and slices.Equal. The places in a head: the program. SeqOf, both sides; what is wrong of a disk that is to have a file system. The program's faults of lists of inodes and of busy blocks. The program's counts of who needs a block: an array. The program's counts, filled and read. The specification's PickBlocks. The program's UsedBlocks, FreeBlocks and PickBlocks. The program: what is wrong of inodes, data and entries of a file system. -/
import Derived.Test.YtagmmgcdebgfnaaRows
import Derived.Test.YtagmmgcdebgfnaaM05
import Derived.Laws.StructEq
import Derived.Test.YtagmmgcdebgfnaaM08
import Derived.Test.YtagmmgcdebgfnaaM03
import Derived.Test.YtagmmgcdebgfnaaM06
import Derived.Test.YtagmmgcdebgfnaaM07
import Derived.Deep.WholeRow
namespace Go.Proofs.Ytagmmgcdebgfnaa
open Go.RowKit
set_option maxRecDepth 100000

set_option maxHeartbeats 400000 in
theorem l4Ints_len (w : World) (a a' : Option Addr) (cap cap' n n' : Nat) (hn : ¬ n = n') :
    Calls Try.prog 94 #[.slice a n cap, .slice a' n' cap'] w fun e w' => e = .returned (.bool false) ∧ w' = w := by
  have hb : ((n : Int) != (n' : Int)) = true := by simp; omega
  clear hn
  go_enter Try.func94, Try.ntmps94
  go_wp2
  go_ret
  exact ⟨rfl, rfl⟩
set_option maxHeartbeats 1600000 in
theorem l4Ints_walk (w : World) (a a' : Option Addr) (cap cap' n : Nat) (xs ys : List Int) (hx : xs.length = n) (hy : ys.length = n) (hn : n ≤ maxLen)
    (cx : At1 w a n (fun k => .int .i64 (xs[k]?.getD 0))) (cy : At1 w a' n (fun k => .int .i64 (ys[k]?.getD 0))) :
    Calls Try.prog 94 #[.slice a n cap, .slice a' n cap'] w fun e w' => e = .returned (.bool (decide (xs = ys))) ∧ ∃ m, w' = w.drewN m := by
  unfold maxLen at hn
  have HX : Hid (xs.length = n) := hx
  have HY : Hid (ys.length = n) := hy
  have HCX : Hid (At1 w a n (fun k => .int .i64 (xs[k]?.getD 0))) := cx
  have HCY : Hid (At1 w a' n (fun k => .int .i64 (ys[k]?.getD 0))) := cy
  have hnn : ((n : Int) != (n : Int)) = false := by simp
  clear hx hy cx cy
  go_enter Try.func94, Try.ntmps94
  go_wp2
  go_loopw [5] (fun i wr => ∃ k m : Nat, k ≤ n ∧ i = .int .i64 k ∧ wr = w.drewN m ∧ xs.take k = ys.take k) (fun i _ => n - (intOf i).toNat)
  case atStart => exact ⟨0, 0, Nat.zero_le _, rfl, rfl, rfl⟩
  case round =>
    obtain ⟨k, m, hk, rfl, rfl, ht⟩ := hrel
    have HT : Hid (xs.take k = ys.take k) := ht
    clear ht
    by_cases hlt : k < n
    · obtain ⟨b, off, rfl, c1⟩ := HCX.out k hlt
      obtain ⟨b', off', rfl, c2⟩ := HCY.out k hlt
      dsimp only at c1 c2
      by_cases he : xs[k]?.getD 0 = ys[k]?.getD 0
      · have HTT : Hid (xs.take (k + 1) = ys.take (k + 1)) := take_more 0 HX.out HY.out hlt HT.out he
        rw [← he] at c2
        generalize xs[k]?.getD 0 = x at *
        have hb : (x != x) = false := by simp
        clear he
        go_wp2_with fail
        go_quiet (fail)
        go_wp2
        go_roundw
        case rel => exact ⟨k + 1, m + nq, by omega, by go_num, by first | rfl | rw [World.drewN_drewN], HTT.out⟩
        case measure => simp [intOf]; omega
      · have HR : Hid (decide (xs = ys) = false) := by unfold Hid; simp; intro h; rw [h] at he; exact he rfl
        have hb : (xs[k]?.getD 0 != ys[k]?.getD 0) = true := by simpa using he
        clear he
        generalize xs[k]?.getD 0 = x at *
        generalize ys[k]?.getD 0 = y at *
        go_wp2_with fail
        go_quiet (fail)
        go_wp2
        go_ret
        exact ⟨ret_bool HR.out.symm, m + nq, by first | rfl | rw [World.drewN_drewN]⟩
    · have HR : Hid (decide (xs = ys) = true) := by
        have h := HT.out
        rw [List.take_of_length_le (by rw [HX.out]; omega), List.take_of_length_le (by rw [HY.out]; omega)] at h
        unfold Hid; simp [h]
      go_wp2
      go_ret
      exact ⟨ret_bool HR.out.symm, m, rfl⟩
theorem l4Ints_any {w : World} {va vb : Value} {xs ys : List Int} (ha : Ints w va xs) (hb : Ints w vb ys) :
    Calls Try.prog 94 #[va, vb] w fun e w' => e = .returned (.bool (decide (xs = ys))) ∧ ∃ m, w' = w.drewN m := by
  obtain ⟨a, cap, rfl, hm, hc⟩ := ha.open'
  obtain ⟨a', cap', rfl, hm', hc'⟩ := hb.open'
  by_cases h : xs.length = ys.length
  · rw [h] at hc ⊢
    exact l4Ints_walk w a a' cap cap' ys.length xs ys h rfl hm' hc hc'
  · have hd : decide (xs = ys) = false := by simp; intro e; exact h (by rw [e])
    rw [hd]
    exact (l4Ints_len w a a' cap cap' _ _ h).mono fun e w' ⟨h1, h2⟩ => ⟨h1, 0, h2⟩

set_option maxHeartbeats 400000 in
theorem equalI_len (w : World) (a a' : Option Addr) (cap cap' n n' : Nat) (hn : ¬ n = n') :
    Calls Try.prog 69 #[.slice a n cap, .slice a' n' cap'] w fun e w' => e = .returned (.bool false) ∧ w' = w := by
  have hb : ((n : Int) != (n' : Int)) = true := by simp; omega
  clear hn
  go_enter Try.func69, Try.ntmps69
  go_wp2
  go_ret
  exact ⟨rfl, rfl⟩
set_option maxHeartbeats 1600000 in
theorem equalI_walk (w : World) (a a' : Option Addr) (cap cap' n : Nat) (xs ys : List Int) (hx : xs.length = n) (hy : ys.length = n) (hn : n ≤ maxLen)
    (cx : At1 w a n (fun k => .int .i64 (xs[k]?.getD 0))) (cy : At1 w a' n (fun k => .int .i64 (ys[k]?.getD 0))) :
    Calls Try.prog 69 #[.slice a n cap, .slice a' n cap'] w fun e w' => e = .returned (.bool (decide (xs = ys))) ∧ ∃ m, w' = w.drewN m := by
  unfold maxLen at hn
  have HX : Hid (xs.length = n) := hx
  have HY : Hid (ys.length = n) := hy
  have HCX : Hid (At1 w a n (fun k => .int .i64 (xs[k]?.getD 0))) := cx
  have HCY : Hid (At1 w a' n (fun k => .int .i64 (ys[k]?.getD 0))) := cy
  have hnn : ((n : Int) != (n : Int)) = false := by simp
  clear hx hy cx cy
  go_enter Try.func69, Try.ntmps69
  go_wp2
  go_loopw [13] (fun i wr => ∃ k m : Nat, k ≤ n ∧ i = .int .i64 k ∧ wr = w.drewN m ∧ xs.take k = ys.take k) (fun i _ => n - (intOf i).toNat)
  case atStart => exact ⟨0, 0, Nat.zero_le _, rfl, rfl, rfl⟩
  case round =>
    obtain ⟨k, m, hk, rfl, rfl, ht⟩ := hrel
    have HT : Hid (xs.take k = ys.take k) := ht
    clear ht
    by_cases hlt : k < n
    · obtain ⟨b, off, rfl, c1⟩ := HCX.out k hlt
      obtain ⟨b', off', rfl, c2⟩ := HCY.out k hlt
      dsimp only at c1 c2
      by_cases he : xs[k]?.getD 0 = ys[k]?.getD 0
      · have HTT : Hid (xs.take (k + 1) = ys.take (k + 1)) := take_more 0 HX.out HY.out hlt HT.out he
        rw [← he] at c2
        generalize xs[k]?.getD 0 = x at *
        have hb : (x != x) = false := by simp
        clear he
        go_wp2_with fail
        go_quiet (fail)
        go_wp2
        go_roundw
        case rel => exact ⟨k + 1, m + nq, by omega, by go_num, by first | rfl | rw [World.drewN_drewN], HTT.out⟩
        case measure => simp [intOf]; omega
      · have HR : Hid (decide (xs = ys) = false) := by unfold Hid; simp; intro h; rw [h] at he; exact he rfl
        have hb : (xs[k]?.getD 0 != ys[k]?.getD 0) = true := by simpa using he
        clear he
        generalize xs[k]?.getD 0 = x at *
        generalize ys[k]?.getD 0 = y at *
        go_wp2_with fail
        go_quiet (fail)
        go_wp2
        go_ret
        exact ⟨ret_bool HR.out.symm, m + nq, by first | rfl | rw [World.drewN_drewN]⟩
    · have HR : Hid (decide (xs = ys) = true) := by
        have h := HT.out
        rw [List.take_of_length_le (by rw [HX.out]; omega), List.take_of_length_le (by rw [HY.out]; omega)] at h
        unfold Hid; simp [h]
      go_wp2
      go_ret
      exact ⟨ret_bool HR.out.symm, m, rfl⟩
theorem equalI_any {w : World} {va vb : Value} {xs ys : List Int} (ha : Ints w va xs) (hb : Ints w vb ys) :
    Calls Try.prog 69 #[va, vb] w fun e w' => e = .returned (.bool (decide (xs = ys))) ∧ ∃ m, w' = w.drewN m := by
  obtain ⟨a, cap, rfl, hm, hc⟩ := ha.open'
  obtain ⟨a', cap', rfl, hm', hc'⟩ := hb.open'
  by_cases h : xs.length = ys.length
  · rw [h] at hc ⊢
    exact equalI_walk w a a' cap cap' ys.length xs ys h rfl hm' hc hc'
  · have hd : decide (xs = ys) = false := by simp; intro e; exact h (by rw [e])
    rw [hd]
    exact (equalI_len w a a' cap cap' _ _ h).mono fun e w' ⟨h1, h2⟩ => ⟨h1, 0, h2⟩

theorem bytes_eq {a b : ByteArray} (h : a.toList = b.toList) : a = b := by
  rw [ByteArray.toList_eq, ByteArray.toList_eq] at h
  cases a; cases b
  simp at h
  rw [h]

end Go.Proofs.Ytagmmgcdebgfnaa

namespace Go.Proofs.Ytagmmgcdebgfnaa
open Go.RowKit
set_option maxRecDepth 100000

theorem slice_dropA (a : Option Addr) (n c m : Nat) (hm : m ≤ n) :
    ∃ A, ∀ W : World, (Instr.slice 22 (.slice a n c) (some (.int .i64 (m : Int))) none none).run Try.prog W = .ok (.slice A (n - m) (c - m)) W := by
  obtain ⟨i, hi, _, h2, _⟩ := Try.infoInt'
  refine ⟨if c = m then a else a.map (·.add m), fun W => ?_⟩
  simp [Instr.slice, Instr.sliceBounds, Instr.sliceBound, asIntOf, run_underlying Try.underlying22, sizeOf, typeInfo, hi, h2]
  intro h
  omega
def jrnB (q : Int) (zs : List Int) : Bool := headB q zs && plcsB (zs.drop 3)
theorem jrnB_no {q : Int} {zs : List Int} (h : ¬ (3 ≤ zs.length ∧ (zs.drop 3).length ≤ 10 ∧ zs = headZ q (zs.drop 3))) : jrnB q zs = false := by unfold jrnB; rw [head_no h]; rfl
set_option maxHeartbeats 3200000 in
theorem placesIn_few (w : World) (a : Option Addr) (n c : Nat) (q : Int) (zs : List Int) (hl : zs.length = n) (hn : n < 3) (h : Ints w (.slice a n c) zs) :
    Calls Try.prog 68 #[.slice a n c, .int .i64 q] w fun e w' => e = .returned (.tuple #[.slice none 0 0, .bool false]) ∧ Below w.heap.size w w' := by
  obtain ⟨A, hsl⟩ := slice_dropA a n c n (Nat.le_refl _)
  have hmin : min (3 : Int) (n : Int) = (n : Int) := by omega
  rw [Nat.sub_self] at hsl
  have HH : Hid (∀ W, Below w.heap.size w W → Calls Try.prog 96 #[.int .i64 q, .slice A 0 (c - n)] W fun e w' => ∃ a' c', e = .returned (.slice a' 3 c') ∧ Below W.heap.size W w' ∧ IntsO w' (.slice a' 3 c') (headZ q []) (fresh W w')) := fun W _ => headWords_any W q A 0 (c - n) [] rfl (by omega) (fun k hk => by omega)
  have HQ : Hid (∀ W v, Below w.heap.size w W → Ints W v (headZ q []) → Calls Try.prog 69 #[.slice a n c, v] W fun e w' => e = .returned (.bool false) ∧ ∃ m, w' = W.drewN m) := fun W v hW hv => by
    have h1 := equalI_any (h.later hW) hv
    rw [decide_eq_false (fun e => by have := congrArg List.length e; rw [headZ_len] at this; simp at this; omega)] at h1
    exact h1
  clear h
  go_enter Try.func68, Try.ntmps68
  go_wp2_with fail
  refine (HH.out _ (Below.refl _ _)).mono ?_
  rintro e w1 ⟨a1, c1, rfl, hb1, ho1⟩
  go_wp2_with fail
  refine (HQ.out _ _ hb1 ho1.reads).mono ?_
  rintro e w2 ⟨rfl, m, rfl⟩
  have HB2 : Hid (Below w.heap.size w (w1.drewN m)) := below_drewN hb1 m
  clear hb1 ho1
  go_wp2
  go_ret2
  exact ⟨rfl, HB2.out⟩
set_option maxHeartbeats 3200000 in
theorem placesIn_many (w : World) (a : Option Addr) (n c : Nat) (q : Int) (zs : List Int) (hl : zs.length = n) (hn : 3 ≤ n) (hm : n ≤ 1048576) (hc : n ≤ c) (h : Ints w (.slice a n c) zs) :
    Calls Try.prog 68 #[.slice a n c, .int .i64 q] w fun e w' => Below w.heap.size w w' ∧
      ((jrnB q zs = false ∧ e = .returned (.tuple #[.slice none 0 0, .bool false])) ∨
       (jrnB q zs = true ∧ ∃ b o' c', e = .returned (.tuple #[.slice (some ⟨b, o', none⟩) (n - 3) c', .bool true]) ∧ At1 w (some ⟨b, o', none⟩) (n - 3) (fun k => .int .i64 ((zs.drop 3)[k]?.getD 0)))) := by
  obtain ⟨_, _, ev, _, hA⟩ := h.open'
  rw [hl] at ev hA
  simp only [Value.slice.injEq, true_and] at ev
  obtain ⟨rfl, rfl⟩ := ev
  obtain ⟨b, o, rfl, _⟩ := hA 0 (by omega)
  obtain ⟨o', hsl0, ho'⟩ := slice_dropZ b o n c 3 hn hc
  have hsl : ∀ W : World, (Instr.slice 22 (.slice (some ⟨b, o, none⟩) n c) (some (.int .i64 3)) none none).run Try.prog W = .ok (.slice (some ⟨b, o', none⟩) (n - 3) (c - 3)) W := hsl0
  have HP : Hid (At1 w (some ⟨b, o', none⟩) (n - 3) (fun k => .int .i64 ((zs.drop 3)[k]?.getD 0))) := hA.dropZ ho'
  have hmin : min (3 : Int) (n : Int) = 3 := by omega
  have hlp : (zs.drop 3).length = n - 3 := by rw [List.length_drop, hl]
  have HNO : Hid (¬ (n - 3 ≤ 10 ∧ zs = headZ q (zs.drop 3)) → jrnB q zs = false) := fun h1 => jrnB_no fun h2 => h1 ⟨by rw [← hlp]; exact h2.2.1, h2.2.2⟩
  have HYES : Hid (n - 3 ≤ 10 → zs = headZ q (zs.drop 3) → jrnB q zs = plcsB (zs.drop 3)) := fun h1 h2 => by unfold jrnB; rw [head_yes (by omega) (by omega) h2]; rfl
  have HH : Hid (∀ W, Below w.heap.size w W → Calls Try.prog 96 #[.int .i64 q, .slice (some ⟨b, o', none⟩) (n - 3) (c - 3)] W fun e w' => ∃ a' m' c', e = .returned (.slice a' m' c') ∧ Below W.heap.size W w' ∧ IntsO w' (.slice a' m' c') (headZ q (zs.drop 3)) (fresh W w')) := fun W hW => by
    refine (headWords_any W q (some ⟨b, o', none⟩) (n - 3) (c - 3) (zs.drop 3) hlp (by omega) fun k hk => ?_).mono fun e w' ⟨a', c', h1, h2, h3⟩ => ⟨a', _, c', h1, h2, h3⟩
    obtain ⟨b1, o1, e1, h1⟩ := HP.out k hk
    exact ⟨b1, o1, e1, cell_later hW h1⟩
  have HQ : Hid (∀ W v, Below w.heap.size w W → Ints W v (headZ q (zs.drop 3)) → Calls Try.prog 69 #[.slice (some ⟨b, o, none⟩) n c, v] W fun e w' => e = .returned (.bool (decide (zs = headZ q (zs.drop 3)))) ∧ ∃ m, w' = W.drewN m) := fun W v hW hv => equalI_any (h.later hW) hv
  have HAT : Hid (∀ k, k < n - 3 → plcB ((zs.drop 3)[k]?.getD 0) = false → plcsB (zs.drop 3) = false) := fun k hk h1 => plcsB_no (by omega) h1
  have HALL : Hid ((∀ k, k < n - 3 → plcB ((zs.drop 3)[k]?.getD 0) = true) → plcsB (zs.drop 3) = true) := fun h1 => plcsB_yes fun k hk => h1 k (by omega)
  clear h hA hsl0 ho' hl hlp hn
  have hN : ((n - 3 : Nat) : Int) ≤ 1048576 := by omega
  generalize hPS : zs.drop 3 = ps at *
  clear hPS
  generalize n - 3 = m at *
  generalize jrnB q zs = RES at *
  by_cases h10 : m ≤ 10
  · have h10' : ¬ (10 < (m : Int)) := by omega
    by_cases he : zs = headZ q ps
    · have HE : Hid (RES = plcsB ps) := HYES.out h10 he
      rw [decide_eq_true he] at HQ
      clear HYES HNO he
      generalize plcsB ps = PB at *
      go_enter Try.func68, Try.ntmps68
      go_wp2_with fail
      refine (HH.out _ (Below.refl _ _)).mono ?_
      rintro e w1 ⟨a1, m1, c1, rfl, hb1, ho1⟩
      go_wp2_with fail
      refine (HQ.out _ _ hb1 ho1.reads).mono ?_
      rintro e w2 ⟨rfl, mm, rfl⟩
      have HB2 : Hid (Below w.heap.size w (w1.drewN mm)) := below_drewN hb1 mm
      clear hb1 ho1 HH HQ
      go_wp2
      generalize w1.drewN mm = w2 at *
      go_loopw [27] (fun i wr => ∃ k : Nat, k ≤ m ∧ i = .int .i64 k ∧ Below w.heap.size w wr ∧ ∀ i, i < k → plcB (ps[i]?.getD 0) = true) (fun i _ => m - (intOf i).toNat)
      case atStart => exact ⟨0, Nat.zero_le _, rfl, HB2.out, fun i hi => by omega⟩
      case round =>
        obtain ⟨k, hk, rfl, hbl, ht⟩ := hrel
        have HT : Hid (∀ i, i < k → plcB (ps[i]?.getD 0) = true) := ht
        have HBL : Hid (Below w.heap.size w wr) := hbl
        clear ht hbl
        by_cases hlt : k < m
        · obtain ⟨bb, oo, eb, k0⟩ := HP.out k hlt
          simp only [Option.some.injEq, Addr.mk.injEq, and_true] at eb
          obtain ⟨rfl, rfl⟩ := eb
          replace k0 := cell_later HBL.out k0
          dsimp only at k0
          have HMO : Hid (plcB (ps[k]?.getD 0) = true → ∀ i, i < k + 1 → plcB (ps[i]?.getD 0) = true) := fun h i hi => by
            by_cases e : i = k
            · rw [e]; exact h
            · exact HT.out i (by omega)
          have HBA : Hid (plcB (ps[k]?.getD 0) = false → RES = false) := fun h1 => by rw [HE.out]; exact HAT.out k hlt h1
          clear HT
          generalize ps[k]?.getD 0 = x at *
          by_cases h1 : x < 17
          · have HR : Hid (RES = false) := HBA.out (decide_eq_false (by omega))
            clear HBA HMO
            go_wp2
            go_ret2
            exact ⟨HBL.out, Or.inl ⟨HR.out, rfl⟩⟩
          · by_cases h2 : 27 ≤ x
            · have HR : Hid (RES = false) := HBA.out (decide_eq_false (by omega))
              have h1' : decide (x < 17) = false := by simpa using h1
              clear HBA HMO
              go_wp2
              go_ret2
              exact ⟨HBL.out, Or.inl ⟨HR.out, rfl⟩⟩
            · have HM : Hid (∀ i, i < k + 1 → plcB (ps[i]?.getD 0) = true) := HMO.out (decide_eq_true ⟨by omega, by omega⟩)
              have h1' : decide (x < 17) = false := by simpa using h1
              have h2' : decide (27 ≤ x) = false := by simpa using h2
              clear HBA HMO
              go_wp2
              go_roundw
              case rel => exact ⟨k + 1, by omega, by go_num, HBL.out, HM.out⟩
              case measure => simp [intOf]; omega
        · have e : k = m := by omega
          subst e
          have HR : Hid (RES = true) := by unfold Hid; rw [HE.out]; exact HALL.out HT.out
          clear HT
          go_wp2
          go_ret2
          exact ⟨HBL.out, Or.inr ⟨HR.out, b, o', _, rfl, HP.out⟩⟩
    · have HE : Hid (RES = false) := HNO.out fun h1 => he h1.2
      rw [decide_eq_false he] at HQ
      clear HYES HNO he HAT HALL
      go_enter Try.func68, Try.ntmps68
      go_wp2_with fail
      refine (HH.out _ (Below.refl _ _)).mono ?_
      rintro e w1 ⟨a1, m1, c1, rfl, hb1, ho1⟩
      go_wp2_with fail
      refine (HQ.out _ _ hb1 ho1.reads).mono ?_
      rintro e w2 ⟨rfl, mm, rfl⟩
      have HB2 : Hid (Below w.heap.size w (w1.drewN mm)) := below_drewN hb1 mm
      clear hb1 ho1 HH HQ
      go_wp2
      go_ret2
      exact ⟨HB2.out, Or.inl ⟨HE.out, rfl⟩⟩
  · have h10' : 10 < (m : Int) := by omega
    have HE : Hid (RES = false) := HNO.out fun h1 => h10 h1.1
    clear HYES HNO HAT HALL HH HQ
    go_enter Try.func68, Try.ntmps68
    go_wp2
    go_ret2
    exact ⟨Below.refl _ _, Or.inl ⟨HE.out, rfl⟩⟩
theorem placesIn_any (w : World) (a : Option Addr) (c : Nat) (q : Int) (zs : List Int) (hm : zs.length ≤ 1048576) (hc : zs.length ≤ c) (h : Ints w (.slice a zs.length c) zs) :
    Calls Try.prog 68 #[.slice a zs.length c, .int .i64 q] w fun e w' => Below w.heap.size w w' ∧
      ((jrnB q zs = false ∧ e = .returned (.tuple #[.slice none 0 0, .bool false])) ∨
       (jrnB q zs = true ∧ ∃ b o' c', e = .returned (.tuple #[.slice (some ⟨b, o', none⟩) (zs.length - 3) c', .bool true]) ∧ At1 w (some ⟨b, o', none⟩) (zs.length - 3) (fun k => .int .i64 ((zs.drop 3)[k]?.getD 0)))) := by
  by_cases hn : zs.length < 3
  · exact (placesIn_few w a zs.length c q zs rfl hn h).mono fun e w' ⟨h1, h2⟩ => ⟨h2, Or.inl ⟨jrnB_no fun h3 => by omega, h1⟩⟩
  · exact placesIn_many w a zs.length c q zs rfl (by omega) hm hc h
end Go.Proofs.Ytagmmgcdebgfnaa

namespace Go.Proofs.Ytagmmgcdebgfnaa
open Go.RowKit
set_option maxRecDepth 100000

def seqB (x : Int) : Bool := decide (1 ≤ x ∧ x ≤ 60000)
theorem isSeq_any (w : World) (x : Int) : Calls Try.prog 65 #[.int .i64 x] w fun e w' => e = .returned (.bool (seqB x)) ∧ w' = w := by
  by_cases h1 : 1 ≤ x
  · have HE : Hid (seqB x = decide (x ≤ 60000)) := by unfold Hid seqB; simp [h1]
    go_enter Try.func65, Try.ntmps65
    go_wp2
    go_ret
    exact ⟨ret_bool (by rw [HE.out]), rfl⟩
  · have HE : Hid (seqB x = false) := by unfold Hid seqB; simp [h1]
    have hd : decide (1 ≤ x) = false := by simpa using h1
    go_enter Try.func65, Try.ntmps65
    go_wp2
    go_ret
    exact ⟨ret_bool (by rw [HE.out]), rfl⟩
theorem l12Seq_any (w : World) (x : Int) : Calls Try.prog 60 #[.int .i64 x] w fun e w' => e = .returned (.bool (seqB x)) ∧ w' = w := by
  have HE : Hid ((decide (1 ≤ x) && decide (x ≤ 60000)) = seqB x) := by unfold Hid seqB; simp
  go_enter Try.func60, Try.ntmps60
  go_wp2_with fail
  refine (l1In_any _ _ _ _).mono ?_
  rintro e w1 ⟨rfl, rfl⟩
  go_wp2
  go_ret
  exact ⟨ret_bool HE.out, rfl⟩
theorem superB_two (z0 z1 : Int) : superB [z0, z1] = (decide (z0 = 7) && seqB z1) := by unfold superB seqB; simp
theorem superB_len {zs : List Int} (h : ¬ zs.length = 2) : superB zs = false := by unfold superB; simp [h]
theorem two_of {zs : List Int} (h : zs.length = 2) : ∃ z0 z1, zs = [z0, z1] := by
  match zs, h with
  | [a, b], _ => exact ⟨a, b, rfl⟩

set_option maxHeartbeats 1600000 in
theorem sizeFault_any (w : World) (a1 : Option Addr) (n1 c1 : Nat) (a2 : Option Addr) (n2 c2 : Nat) (d : DK) (h : DiskR w (.slice a1 n1 c1) (.slice a2 n2 c2) d) :
    Calls Try.prog 62 #[.agg #[.slice a1 n1 c1, .slice a2 n2 c2]] w fun e w' => e = .returned (.int .i64 (sizF d)) ∧ Below w.heap.size w w' := by
  have HF : Hid (∀ W, Below w.heap.size w W → Calls Try.prog 90 #[.agg #[.slice a1 n1 c1, .slice a2 n2 c2]] W fun e w' => e = .returned (.int .i64 (faultF d.1 d.2)) ∧ Below W.heap.size W w') := fun W hW => fault_any W _ _ d.1 d.2 (h.1.later hW) (h.2.later hW)
  have HR : Hid (sizF d = if faultF d.1 d.2 = 0 then (if d.1.length = 47 then 0 else 1) else faultF d.1 d.2) := rfl
  have HX : Hid (Bx (w.alloc (.cells #[.slice a1 n1 c1, .slice a2 n2 c2] 49)) w.heap.size [.slice a1 n1 c1, .slice a2 n2 c2]) := Bx.new w [.slice a1 n1 c1, .slice a2 n2 c2] _
  obtain ⟨_, _, e1, hm, _⟩ := h.1.open'
  simp only [Value.slice.injEq] at e1
  obtain ⟨rfl, rfl, rfl⟩ := e1
  unfold maxLen at hm
  have x0 := HX.out 0 _ rfl
  have x1 := HX.out 1 _ rfl
  clear h
  generalize sizF d = RES at *
  generalize faultF d.1 d.2 = r at *
  generalize d.1.length = n at *
  go_enter Try.func62, Try.ntmps62
  go_wp2_with fail
  refine (HF.out _ (later1 _ _)).mono ?_
  rintro e w1 ⟨rfl, hb⟩
  have HB : Hid (Below w.heap.size w w1) := (later1 _ _).trans (hb.mono (by simp))
  have y0 := (HX.out.later hb) 0 _ rfl
  clear hb x0 x1
  by_cases h0 : r = 0
  · have hr : (r != 0) = false := by simpa using h0
    by_cases h1 : n = 47
    · have hn : (((n : Nat) : Int) != 47) = false := by simp; omega
      have HE : Hid (RES = 0) := by unfold Hid; rw [HR.out, if_pos h0, if_pos h1]
      clear h0 h1 HR
      go_wp2
      go_ret
      exact ⟨ret_int HE.out.symm, HB.out⟩
    · have hn : (((n : Nat) : Int) != 47) = true := by simp; omega
      have HE : Hid (RES = 1) := by unfold Hid; rw [HR.out, if_pos h0, if_neg h1]
      clear h0 h1 HR
      go_wp2
      go_ret
      exact ⟨ret_int HE.out.symm, HB.out⟩
  · have hr : (r != 0) = true := by simpa using h0
    have HE : Hid (RES = r) := by unfold Hid; rw [HR.out, if_neg h0]
    clear h0 HR
    go_wp2
    go_ret
    exact ⟨ret_int HE.out.symm, HB.out⟩

set_option maxHeartbeats 3200000 in
theorem implSeqU (w : World) (a1 : Option Addr) (n1 c1 : Nat) (a2 : Option Addr) (n2 c2 : Nat) (d : DK) (h : DiskR w (.slice a1 n1 c1) (.slice a2 n2 c2) d) (hs : sizeDisk d ≤ 1048576) :
    Calls Try.prog 23 #[.agg #[.slice a1 n1 c1, .slice a2 n2 c2]] w fun e w' => e = .returned (.agg #[.int .i64 (seqR d).1, .int .i64 (seqR d).2]) ∧ Below w.heap.size w w' := by
  have HF : Hid (∀ W, Below w.heap.size w W → Calls Try.prog 62 #[.agg #[.slice a1 n1 c1, .slice a2 n2 c2]] W fun e w' => e = .returned (.int .i64 (sizF d)) ∧ Below W.heap.size W w') := fun W hW => sizeFault_any W _ _ _ _ _ _ d (h.later hW)
  have HO : Hid (sizF d = 0 → ∀ W, Below w.heap.size w W → Calls Try.prog 63 #[.agg #[.slice a1 n1 c1, .slice a2 n2 c2]] W fun e w' => ∃ bd, e = .returned (.pointer (some ⟨bd, 0, none⟩)) ∧ Below W.heap.size W w' ∧ DrvK w' bd d) := fun hf W hW => open_drv (h.later hW) (sizF_zero hf).1 hs
  have HRD : Hid (sizF d = 0 → ∀ W bd, DrvK W bd d → Calls Try.prog 64 #[.pointer (some ⟨bd, 0, none⟩), .int .i64 0] W fun e w' => ∃ a n c, e = .returned (.slice a n c) ∧ Below W.heap.size W w' ∧ IntsO w' (.slice a n c) (atF d.1 d.2 0) (fresh W w')) := fun hf W bd hd => read_drv hd 0 (by have := (sizF_zero hf).2; omega)
  have HRA : Hid (sizF d = 0 → superB (atF d.1 d.2 0) = true → seqR d = (0, (atF d.1 d.2 0)[1]?.getD 0)) := fun h1 h2 => by unfold seqR; rw [if_pos h1, if_pos h2]
  have HRB : Hid (sizF d = 0 → superB (atF d.1 d.2 0) = false → seqR d = (5, 0)) := fun h1 h2 => by unfold seqR; rw [if_pos h1, if_neg (by rw [h2]; simp)]
  have HRC : Hid (¬ sizF d = 0 → seqR d = (sizF d, 0)) := fun h1 => by unfold seqR; rw [if_neg h1]
  have HSB : Hid (∃ SB, SB = superB (atF d.1 d.2 0)) := ⟨_, rfl⟩
  clear h hs
  generalize seqR d = RES at *
  generalize sizF d = r at *
  generalize hzz : atF d.1 d.2 0 = zs at *
  clear hzz
  obtain ⟨SB, hsb⟩ := HSB.out
  replace HSB : Hid (SB = superB zs) := hsb
  rw [← hsb] at HRA HRB
  clear hsb
  have HB0 : Hid (Below w.heap.size w ((w.alloc (.cells #[.slice a1 n1 c1, .slice a2 n2 c2] 49)).alloc (.cells #[.int .i64 0, .int .i64 0] 34))) := later2 _ _ _
  have HX0 : Hid (Bx ((w.alloc (.cells #[.slice a1 n1 c1, .slice a2 n2 c2] 49)).alloc (.cells #[.int .i64 0, .int .i64 0] 34)) (w.heap.size) [.slice a1 n1 c1, .slice a2 n2 c2]) := (Bx.new w [.slice a1 n1 c1, .slice a2 n2 c2] _).later (later1 _ _)
  have HR0 : Hid (OwnRow ((w.alloc (.cells #[.slice a1 n1 c1, .slice a2 n2 c2] 49)).alloc (.cells #[.int .i64 0, .int .i64 0] 34)) (w.heap.size + 1) 2 (cel [.int .i64 0, .int .i64 0])) := (show OwnRow ((w.alloc (.cells #[.slice a1 n1 c1, .slice a2 n2 c2] 49)).alloc (.cells #[.int .i64 0, .int .i64 0] 34)) (w.heap.size + 1) 2 (cel [.int .i64 0, .int .i64 0]) from by have := newCel (w.alloc (.cells #[.slice a1 n1 c1, .slice a2 n2 c2] 49)) [.int .i64 0, .int .i64 0] 34; rw [World.size_alloc] at this; exact this)
  go_enter Try.func23, Try.ntmps23
  have xHX0 := HX0.out 0 _ rfl
  have xHX1 := HX0.out 1 _ rfl
  go_wp2_with fail
  clear xHX0 xHX1
  refine (HF.out _ HB0.out).mono ?_
  rintro e w1 ⟨rfl, hb⟩
  have HB1 : Hid (Below w.heap.size w w1) := HB0.out.trans (hb.mono HB0.out.size)
  have HX1 : Hid (Bx w1 (w.heap.size) [.slice a1 n1 c1, .slice a2 n2 c2]) := HX0.out.later hb
  have HR1 : Hid (OwnRow w1 (w.heap.size + 1) 2 (cel [.int .i64 0, .int .i64 0])) := HR0.out.later hb
  clear hb
  by_cases hf : r = 0
  · skip
    have hfb : (r != 0) = false := by simpa using hf
    replace HRA : Hid (SB = true → RES = (0, zs[1]?.getD 0)) := HRA.out hf
    replace HRB : Hid (SB = false → RES = (5, 0)) := HRB.out hf
    clear HRC
    have xHX0 := HX1.out 0 _ rfl
    have xHX1 := HX1.out 1 _ rfl
    go_wp2_with fail
    clear xHX0 xHX1
    refine (HO.out hf _ HB1.out).mono ?_
    rintro e w2 ⟨bd, rfl, hb, hdk⟩
    have HDK : Hid (DrvK w2 bd d) := hdk
    clear hdk
    have HB2 : Hid (Below w.heap.size w w2) := HB1.out.trans (hb.mono HB1.out.size)
    have HX2 : Hid (Bx w2 (w.heap.size) [.slice a1 n1 c1, .slice a2 n2 c2]) := HX1.out.later hb
    have HR2 : Hid (OwnRow w2 (w.heap.size + 1) 2 (cel [.int .i64 0, .int .i64 0])) := HR1.out.later hb
    clear hb
    go_wp2_with fail
    refine (HRD.out hf _ _ HDK.out).mono ?_
    rintro e w3 ⟨az, nz, cz, rfl, hb, ho⟩
    obtain ⟨_, _, ez, _, hat⟩ := ho.reads.open'
    simp only [Value.slice.injEq] at ez
    obtain ⟨rfl, rfl, rfl⟩ := ez
    have HAT : Hid (At1 w3 az zs.length (fun k => .int .i64 (zs[k]?.getD 0))) := hat
    clear ho hat
    have HB3 : Hid (Below w.heap.size w w3) := HB2.out.trans (hb.mono HB2.out.size)
    have HX3 : Hid (Bx w3 (w.heap.size) [.slice a1 n1 c1, .slice a2 n2 c2]) := HX2.out.later hb
    have HR3 : Hid (OwnRow w3 (w.heap.size + 1) 2 (cel [.int .i64 0, .int .i64 0])) := HR2.out.later hb
    clear hb
    clear HF HO HRD HDK
    by_cases hl : zs.length = 2
    · skip
      obtain ⟨z0, z1, rfl⟩ := two_of hl
      have hz0 := HAT.out 0 (by simp)
      have hz1 := HAT.out 1 (by simp)
      obtain ⟨bz, oz, rfl, k0⟩ := hz0
      obtain ⟨_, _, ez, k1⟩ := hz1
      simp only [Option.some.injEq, Addr.mk.injEq, and_true] at ez
      obtain ⟨rfl, rfl⟩ := ez
      replace k0 : w3.cell? ⟨bz, oz + 0, none⟩ = some (.int .i64 z0) := k0
      replace k1 : w3.cell? ⟨bz, oz + 1, none⟩ = some (.int .i64 z1) := k1
      rw [Nat.add_zero] at k0
      have hbz := World.block_lt_of_cell? _ _ k0
      have HS : Hid (SB = (decide (z0 = 7) && seqB z1)) := by unfold Hid; rw [HSB.out, superB_two]
      by_cases h7 : z0 = 7
      · skip
        have h7b : (z0 != 7) = false := by simpa using h7
        cases hq : seqB z1 with
        | true =>
          have HE : Hid (RES = (0, z1)) := HRA.out (by rw [HS.out, decide_eq_true h7, hq]; rfl)
          have HQ : Hid (∀ W, Calls Try.prog 65 #[.int .i64 z1] W fun e w' => e = .returned (.bool true) ∧ w' = W) := fun W => by rw [← hq]; exact isSeq_any W z1
          clear h7 hl HS HSB HAT hq
          go_wp2_with fail
          refine (HQ.out _).mono ?_
          rintro e wq ⟨rfl, hwq⟩
          subst wq
          have hrr := HR3.out
          have t0 : w3.cell? ⟨w.heap.size + 1, 0, none⟩ = some (.int .i64 0) := hrr.cell (i := 0) (by omega)
          have t1 : w3.cell? ⟨w.heap.size + 1, 1, none⟩ = some (.int .i64 0) := hrr.cell (i := 1) (by omega)
          have f0 := hrr.frozen 0
          have f1 := hrr.frozen 1
          have hlr := hrr.lt
          clear hrr
          go_wp2
          exact bodyPost_ret (v := .agg #[.int .i64 0, .int .i64 z1]) (by simp [results, Try.results23, go_sem, t0, t1]) rfl (⟨by rw [HE.out], ((HB3.out).setCell (by first | omega | (simp <;> omega)) _).setCell (by first | omega | (simp <;> omega)) _⟩)
        | false =>
          have HE : Hid (RES = (5, 0)) := HRB.out (by rw [HS.out, hq, Bool.and_false])
          have HQ : Hid (∀ W, Calls Try.prog 65 #[.int .i64 z1] W fun e w' => e = .returned (.bool false) ∧ w' = W) := fun W => by rw [← hq]; exact isSeq_any W z1
          clear h7 hl HS HSB HAT hq
          go_wp2_with fail
          refine (HQ.out _).mono ?_
          rintro e wq ⟨rfl, hwq⟩
          subst wq
          have hrr := HR3.out
          have t0 : w3.cell? ⟨w.heap.size + 1, 0, none⟩ = some (.int .i64 0) := hrr.cell (i := 0) (by omega)
          have t1 : w3.cell? ⟨w.heap.size + 1, 1, none⟩ = some (.int .i64 0) := hrr.cell (i := 1) (by omega)
          have f0 := hrr.frozen 0
          have f1 := hrr.frozen 1
          have hlr := hrr.lt
          clear hrr
          go_wp2
          exact bodyPost_ret (v := .agg #[.int .i64 5, .int .i64 0]) (by simp [results, Try.results23, go_sem, t0, t1]) rfl (⟨by rw [HE.out], ((HB3.out).setCell (by first | omega | (simp <;> omega)) _).setCell (by first | omega | (simp <;> omega)) _⟩)
      · skip
        have h7b : (z0 != 7) = true := by simpa using h7
        have HE : Hid (RES = (5, 0)) := HRB.out (by rw [HS.out, decide_eq_false h7]; rfl)
        clear h7 hl HS HSB HAT
        have hrr := HR3.out
        have t0 : w3.cell? ⟨w.heap.size + 1, 0, none⟩ = some (.int .i64 0) := hrr.cell (i := 0) (by omega)
        have t1 : w3.cell? ⟨w.heap.size + 1, 1, none⟩ = some (.int .i64 0) := hrr.cell (i := 1) (by omega)
        have f0 := hrr.frozen 0
        have f1 := hrr.frozen 1
        have hlr := hrr.lt
        clear hrr
        go_wp2
        exact bodyPost_ret (v := .agg #[.int .i64 5, .int .i64 0]) (by simp [results, Try.results23, go_sem, t0, t1]) rfl (⟨by rw [HE.out], ((HB3.out).setCell (by first | omega | (simp <;> omega)) _).setCell (by first | omega | (simp <;> omega)) _⟩)
    · skip
      have hlb : (((zs.length : Nat) : Int) != 2) = true := by simp; omega
      have HE : Hid (RES = (5, 0)) := HRB.out (by rw [HSB.out, superB_len hl])
      clear hl HSB HAT
      have hrr := HR3.out
      have t0 : w3.cell? ⟨w.heap.size + 1, 0, none⟩ = some (.int .i64 0) := hrr.cell (i := 0) (by omega)
      have t1 : w3.cell? ⟨w.heap.size + 1, 1, none⟩ = some (.int .i64 0) := hrr.cell (i := 1) (by omega)
      have f0 := hrr.frozen 0
      have f1 := hrr.frozen 1
      have hlr := hrr.lt
      clear hrr
      go_wp2
      exact bodyPost_ret (v := .agg #[.int .i64 5, .int .i64 0]) (by simp [results, Try.results23, go_sem, t0, t1]) rfl (⟨by rw [HE.out], ((HB3.out).setCell (by first | omega | (simp <;> omega)) _).setCell (by first | omega | (simp <;> omega)) _⟩)
  · skip
    have hbb : (r != 0) = true := by simpa using hf
    have HE : Hid (RES = (r, 0)) := HRC.out hf
    have hrr := HR1.out
    have t0 : w1.cell? ⟨w.heap.size + 1, 0, none⟩ = some (.int .i64 0) := hrr.cell (i := 0) (by omega)
    have t1 : w1.cell? ⟨w.heap.size + 1, 1, none⟩ = some (.int .i64 0) := hrr.cell (i := 1) (by omega)
    have f0 := hrr.frozen 0
    have f1 := hrr.frozen 1
    have hlr := hrr.lt
    clear hrr
    go_wp2
    exact bodyPost_ret (v := .agg #[.int .i64 r, .int .i64 0]) (by simp [results, Try.results23, go_sem, t0, t1]) rfl (⟨by rw [HE.out], ((HB1.out).setCell (by first | omega | (simp <;> omega)) _).setCell (by first | omega | (simp <;> omega)) _⟩)

set_option maxHeartbeats 3200000 in
theorem specSeqU (w : World) (a1 : Option Addr) (n1 c1 : Nat) (a2 : Option Addr) (n2 c2 : Nat) (d : DK) (h : DiskR w (.slice a1 n1 c1) (.slice a2 n2 c2) d) (_hs : sizeDisk d ≤ 1048576) :
    Calls Try.prog 21 #[.agg #[.slice a1 n1 c1, .slice a2 n2 c2]] w fun e w' => e = .returned (.agg #[.int .i64 (seqR d).1, .int .i64 (seqR d).2]) ∧ Below w.heap.size w w' := by
  obtain ⟨_, _, e1, hm, sB⟩ := h.1.open'
  simp only [Value.slice.injEq] at e1
  obtain ⟨rfl, rfl, rfl⟩ := e1
  obtain ⟨_, _, e2, _, sP⟩ := h.2.open'
  simp only [Value.slice.injEq] at e2
  obtain ⟨rfl, rfl, rfl⟩ := e2
  have HF : Hid (∀ W, Below w.heap.size w W → W.cell? ⟨w.heap.size, 0, none⟩ = some (.slice a1 d.1.length c1) → W.cell? ⟨w.heap.size, 1, none⟩ = some (.slice a2 d.2.length c2) → Calls Try.prog 58 #[.pointer (some ⟨w.heap.size, 0, none⟩)] W fun e w' => e = .returned (.int .i64 (faultF d.1 d.2)) ∧ ∃ m, w' = W.drewN m) := fun W hW x0 x1 => l1Fault_any x0 x1 (h.1.later hW) (h.2.later hW)
  have HRD : Hid (faultF d.1 d.2 = 0 → d.1.length = 47 → ∀ W, Below w.heap.size w W → W.cell? ⟨w.heap.size, 0, none⟩ = some (.slice a1 d.1.length c1) → W.cell? ⟨w.heap.size, 1, none⟩ = some (.slice a2 d.2.length c2) → Calls Try.prog 59 #[.pointer (some ⟨w.heap.size, 0, none⟩), .int .i64 0] W fun e w' => ∃ ua un uc, e = .returned (.slice ua un uc) ∧ Ints W (.slice ua un uc) (atF d.1 d.2 0) ∧ w' = W) := fun hf h47 W hW x0 x1 => l1At_walk W _ _ _ _ c1 _ c2 d.1 d.2 0 (by omega) (faultF_lens hf).1 rfl (faultF_lens hf).2 x0 x1 (sB.later hW) (sP.later hW)
  have HRA : Hid (faultF d.1 d.2 = 0 → d.1.length = 47 → superB (atF d.1 d.2 0) = true → seqR d = (0, (atF d.1 d.2 0)[1]?.getD 0)) := fun h0 h1 h2 => by unfold seqR sizF; rw [if_pos h0, if_pos h1, if_pos rfl, if_pos h2]
  have HRB : Hid (faultF d.1 d.2 = 0 → d.1.length = 47 → superB (atF d.1 d.2 0) = false → seqR d = (5, 0)) := fun h0 h1 h2 => by unfold seqR sizF; rw [if_pos h0, if_pos h1, if_pos rfl, if_neg (by rw [h2]; simp)]
  have HRC : Hid (¬ faultF d.1 d.2 = 0 → seqR d = (faultF d.1 d.2, 0)) := fun h0 => by unfold seqR sizF; rw [if_neg h0, if_neg h0]
  have HRE : Hid (faultF d.1 d.2 = 0 → ¬ d.1.length = 47 → seqR d = (1, 0)) := fun h0 h1 => by unfold seqR sizF; rw [if_pos h0, if_neg h1, if_neg (by decide)]
  have HSB : Hid (∃ SB, SB = superB (atF d.1 d.2 0)) := ⟨_, rfl⟩
  unfold maxLen at hm
  clear h sB sP
  generalize seqR d = RES at *
  generalize hff : faultF d.1 d.2 = r at *
  generalize hzz : atF d.1 d.2 0 = zs at *
  clear hzz hff
  generalize d.1.length = n1 at *
  generalize d.2.length = n2 at *
  obtain ⟨SB, hsb⟩ := HSB.out
  replace HSB : Hid (SB = superB zs) := hsb
  rw [← hsb] at HRA HRB
  clear hsb
  have HB0 : Hid (Below w.heap.size w ((w.alloc (.cells #[.slice a1 n1 c1, .slice a2 n2 c2] 49)).alloc (.cells #[.int .i64 0, .int .i64 0] 34))) := later2 _ _ _
  have HX0 : Hid (Bx ((w.alloc (.cells #[.slice a1 n1 c1, .slice a2 n2 c2] 49)).alloc (.cells #[.int .i64 0, .int .i64 0] 34)) (w.heap.size) [.slice a1 n1 c1, .slice a2 n2 c2]) := (Bx.new w [.slice a1 n1 c1, .slice a2 n2 c2] _).later (later1 _ _)
  have HR0 : Hid (OwnRow ((w.alloc (.cells #[.slice a1 n1 c1, .slice a2 n2 c2] 49)).alloc (.cells #[.int .i64 0, .int .i64 0] 34)) (w.heap.size + 1) 2 (cel [.int .i64 0, .int .i64 0])) := (show OwnRow ((w.alloc (.cells #[.slice a1 n1 c1, .slice a2 n2 c2] 49)).alloc (.cells #[.int .i64 0, .int .i64 0] 34)) (w.heap.size + 1) 2 (cel [.int .i64 0, .int .i64 0]) from by have := newCel (w.alloc (.cells #[.slice a1 n1 c1, .slice a2 n2 c2] 49)) [.int .i64 0, .int .i64 0] 34; rw [World.size_alloc] at this; exact this)
  go_enter Try.func21, Try.ntmps21
  go_wp2_with fail
  refine (HF.out _ HB0.out (HX0.out 0 _ rfl) (HX0.out 1 _ rfl)).mono ?_
  rintro e w1 ⟨rfl, m, rfl⟩
  have hb := below_drewN (Below.refl ((w.alloc (.cells #[.slice a1 n1 c1, .slice a2 n2 c2] 49)).alloc (.cells #[.int .i64 0, .int .i64 0] 34)).heap.size ((w.alloc (.cells #[.slice a1 n1 c1, .slice a2 n2 c2] 49)).alloc (.cells #[.int .i64 0, .int .i64 0] 34))) m
  have HB1 : Hid (Below w.heap.size w (((w.alloc (.cells #[.slice a1 n1 c1, .slice a2 n2 c2] 49)).alloc (.cells #[.int .i64 0, .int .i64 0] 34)).drewN m)) := HB0.out.trans (hb.mono HB0.out.size)
  have HX1 : Hid (Bx (((w.alloc (.cells #[.slice a1 n1 c1, .slice a2 n2 c2] 49)).alloc (.cells #[.int .i64 0, .int .i64 0] 34)).drewN m) (w.heap.size) [.slice a1 n1 c1, .slice a2 n2 c2]) := HX0.out.later hb
  have HR1 : Hid (OwnRow (((w.alloc (.cells #[.slice a1 n1 c1, .slice a2 n2 c2] 49)).alloc (.cells #[.int .i64 0, .int .i64 0] 34)).drewN m) (w.heap.size + 1) 2 (cel [.int .i64 0, .int .i64 0])) := HR0.out.later hb
  clear hb
  generalize (((w.alloc (.cells #[.slice a1 n1 c1, .slice a2 n2 c2] 49)).alloc (.cells #[.int .i64 0, .int .i64 0] 34)).drewN m) = w1 at *
  by_cases hf : r = 0
  · skip
    have hfb : (r != 0) = false := by simpa using hf
    by_cases hq : n1 = 47
    · skip
      have h47 : (((n1 : Nat) : Int) != 47) = false := by simp; omega
      replace HRA : Hid (SB = true → RES = (0, zs[1]?.getD 0)) := HRA.out hf hq
      replace HRB : Hid (SB = false → RES = (5, 0)) := HRB.out hf hq
      clear HRC HRE
      have xHX0 := HX1.out 0 _ rfl
      go_wp2_with fail
      clear xHX0
      refine (HRD.out hf hq _ HB1.out (HX1.out 0 _ rfl) (HX1.out 1 _ rfl)).mono ?_
      rintro e w2 ⟨az, nz, cz, rfl, ho, hw2⟩
      subst w2
      obtain ⟨_, _, ez, _, hat⟩ := ho.open'
      simp only [Value.slice.injEq] at ez
      obtain ⟨rfl, rfl, rfl⟩ := ez
      have HAT : Hid (At1 w1 az zs.length (fun k => .int .i64 (zs[k]?.getD 0))) := hat
      clear ho hat HF HRD
      by_cases hl : zs.length = 2
      · skip
        obtain ⟨z0, z1, rfl⟩ := two_of hl
        have hz0 := HAT.out 0 (by simp)
        have hz1 := HAT.out 1 (by simp)
        obtain ⟨bz, oz, rfl, k0⟩ := hz0
        obtain ⟨_, _, ez, k1⟩ := hz1
        simp only [Option.some.injEq, Addr.mk.injEq, and_true] at ez
        obtain ⟨rfl, rfl⟩ := ez
        replace k0 : w1.cell? ⟨bz, oz + 0, none⟩ = some (.int .i64 z0) := k0
        replace k1 : w1.cell? ⟨bz, oz + 1, none⟩ = some (.int .i64 z1) := k1
        rw [Nat.add_zero] at k0
        have hbz := World.block_lt_of_cell? _ _ k0
        have HS : Hid (SB = (decide (z0 = 7) && seqB z1)) := by unfold Hid; rw [HSB.out, superB_two]
        by_cases h7 : z0 = 7
        · skip
          have h7b : (z0 != 7) = false := by simpa using h7
          cases hq : seqB z1 with
          | true =>
            have HE : Hid (RES = (0, z1)) := HRA.out (by rw [HS.out, decide_eq_true h7, hq]; rfl)
            have HQ : Hid (∀ W, Calls Try.prog 60 #[.int .i64 z1] W fun e w' => e = .returned (.bool true) ∧ w' = W) := fun W => by rw [← hq]; exact l12Seq_any W z1
            clear h7 hl HS HSB HAT hq
            go_wp2_with fail
            refine (HQ.out _).mono ?_
            rintro e wq ⟨rfl, hwq⟩
            subst wq
            have hrr := HR1.out
            have t0 : w1.cell? ⟨w.heap.size + 1, 0, none⟩ = some (.int .i64 0) := hrr.cell (i := 0) (by omega)
            have t1 : w1.cell? ⟨w.heap.size + 1, 1, none⟩ = some (.int .i64 0) := hrr.cell (i := 1) (by omega)
            have f0 := hrr.frozen 0
            have f1 := hrr.frozen 1
            have hlr := hrr.lt
            clear hrr
            go_wp2
            exact bodyPost_ret (v := .agg #[.int .i64 0, .int .i64 z1]) (by simp [results, Try.results21, go_sem, t0, t1]) rfl (⟨by rw [HE.out], ((HB1.out).setCell (by first | omega | (simp <;> omega)) _).setCell (by first | omega | (simp <;> omega)) _⟩)
          | false =>
            have HE : Hid (RES = (5, 0)) := HRB.out (by rw [HS.out, hq, Bool.and_false])
            have HQ : Hid (∀ W, Calls Try.prog 60 #[.int .i64 z1] W fun e w' => e = .returned (.bool false) ∧ w' = W) := fun W => by rw [← hq]; exact l12Seq_any W z1
            clear h7 hl HS HSB HAT hq
            go_wp2_with fail
            refine (HQ.out _).mono ?_
            rintro e wq ⟨rfl, hwq⟩
            subst wq
            have hrr := HR1.out
            have t0 : w1.cell? ⟨w.heap.size + 1, 0, none⟩ = some (.int .i64 0) := hrr.cell (i := 0) (by omega)
            have t1 : w1.cell? ⟨w.heap.size + 1, 1, none⟩ = some (.int .i64 0) := hrr.cell (i := 1) (by omega)
            have f0 := hrr.frozen 0
            have f1 := hrr.frozen 1
            have hlr := hrr.lt
            clear hrr
            go_wp2
            exact bodyPost_ret (v := .agg #[.int .i64 5, .int .i64 0]) (by simp [results, Try.results21, go_sem, t0, t1]) rfl (⟨by rw [HE.out], ((HB1.out).setCell (by first | omega | (simp <;> omega)) _).setCell (by first | omega | (simp <;> omega)) _⟩)
        · skip
          have h7b : (z0 != 7) = true := by simpa using h7
          have HE : Hid (RES = (5, 0)) := HRB.out (by rw [HS.out, decide_eq_false h7]; rfl)
          clear h7 hl HS HSB HAT
          have hrr := HR1.out
          have t0 : w1.cell? ⟨w.heap.size + 1, 0, none⟩ = some (.int .i64 0) := hrr.cell (i := 0) (by omega)
          have t1 : w1.cell? ⟨w.heap.size + 1, 1, none⟩ = some (.int .i64 0) := hrr.cell (i := 1) (by omega)
          have f0 := hrr.frozen 0
          have f1 := hrr.frozen 1
          have hlr := hrr.lt
          clear hrr
          go_wp2
          exact bodyPost_ret (v := .agg #[.int .i64 5, .int .i64 0]) (by simp [results, Try.results21, go_sem, t0, t1]) rfl (⟨by rw [HE.out], ((HB1.out).setCell (by first | omega | (simp <;> omega)) _).setCell (by first | omega | (simp <;> omega)) _⟩)
      · skip
        have hlb : (((zs.length : Nat) : Int) != 2) = true := by simp; omega
        have HE : Hid (RES = (5, 0)) := HRB.out (by rw [HSB.out, superB_len hl])
        clear hl HSB HAT
        have hrr := HR1.out
        have t0 : w1.cell? ⟨w.heap.size + 1, 0, none⟩ = some (.int .i64 0) := hrr.cell (i := 0) (by omega)
        have t1 : w1.cell? ⟨w.heap.size + 1, 1, none⟩ = some (.int .i64 0) := hrr.cell (i := 1) (by omega)
        have f0 := hrr.frozen 0
        have f1 := hrr.frozen 1
        have hlr := hrr.lt
        clear hrr
        go_wp2
        exact bodyPost_ret (v := .agg #[.int .i64 5, .int .i64 0]) (by simp [results, Try.results21, go_sem, t0, t1]) rfl (⟨by rw [HE.out], ((HB1.out).setCell (by first | omega | (simp <;> omega)) _).setCell (by first | omega | (simp <;> omega)) _⟩)
    · skip
      have h47 : (((n1 : Nat) : Int) != 47) = true := by simp; omega
      have HE : Hid (RES = (1, 0)) := HRE.out hf hq
      have xHX0 := HX1.out 0 _ rfl
      have hrr := HR1.out
      have t0 : w1.cell? ⟨w.heap.size + 1, 0, none⟩ = some (.int .i64 0) := hrr.cell (i := 0) (by omega)
      have t1 : w1.cell? ⟨w.heap.size + 1, 1, none⟩ = some (.int .i64 0) := hrr.cell (i := 1) (by omega)
      have f0 := hrr.frozen 0
      have f1 := hrr.frozen 1
      have hlr := hrr.lt
      clear hrr
      go_wp2
      exact bodyPost_ret (v := .agg #[.int .i64 1, .int .i64 0]) (by simp [results, Try.results21, go_sem, t0, t1]) rfl (⟨by rw [HE.out], ((HB1.out).setCell (by first | omega | (simp <;> omega)) _).setCell (by first | omega | (simp <;> omega)) _⟩)
  · skip
    have hbb : (r != 0) = true := by simpa using hf
    have HE : Hid (RES = (r, 0)) := HRC.out hf
    have hrr := HR1.out
    have t0 : w1.cell? ⟨w.heap.size + 1, 0, none⟩ = some (.int .i64 0) := hrr.cell (i := 0) (by omega)
    have t1 : w1.cell? ⟨w.heap.size + 1, 1, none⟩ = some (.int .i64 0) := hrr.cell (i := 1) (by omega)
    have f0 := hrr.frozen 0
    have f1 := hrr.frozen 1
    have hlr := hrr.lt
    clear hrr
    go_wp2
    exact bodyPost_ret (v := .agg #[.int .i64 r, .int .i64 0]) (by simp [results, Try.results21, go_sem, t0, t1]) rfl (⟨by rw [HE.out], ((HB1.out).setCell (by first | omega | (simp <;> omega)) _).setCell (by first | omega | (simp <;> omega)) _⟩)

end Go.Proofs.Ytagmmgcdebgfnaa

namespace Go.Proofs.Ytagmmgcdebgfnaa
open Go.RowKit
set_option maxRecDepth 100000

/-- An array that holds how many need each block. -/
def arrC (f : Nat → Nat) : Array Value := ((List.range 20).map fun i => intV ((f i : Nat) : Int)).toArray
theorem arrC_size (f : Nat → Nat) : (arrC f).size = 20 := by simp [arrC]
theorem arrC_get (f : Nat → Nat) {i : Nat} (h : i < 20) : (arrC f)[i]? = some (.int .i64 ((f i : Nat) : Int)) := by
  simp [arrC, h, intV]
theorem arrC_set (f : Nat → Nat) (q x : Nat) : (arrC f).setIfInBounds q (.int .i64 ((x : Nat) : Int)) = arrC (fun i => if i = q then x else f i) := by
  apply Array.ext_getElem?
  intro i
  rw [Array.getElem?_setIfInBounds]
  by_cases hi : i < 20
  · rw [arrC_get _ hi, arrC_get _ hi, arrC_size]
    by_cases e : q = i
    · subst e; simp [hi]
    · rw [if_neg e, if_neg (fun h => e h.symm)]
  · have h1 : (arrC f)[i]? = none := by rw [Array.getElem?_eq_none_iff, arrC_size]; omega
    have h2 : (arrC (fun i => if i = q then x else f i))[i]? = none := by rw [Array.getElem?_eq_none_iff, arrC_size]; omega
    rw [h1, h2, arrC_size]
    by_cases e : q = i
    · subst e; simp [hi]
    · rw [if_neg e]
theorem arrC_one (f : Nat → Nat) : (arrC f).all (·.oneCell') = true := by
  unfold arrC
  rw [Array.all_eq_true_iff_forall_mem]
  intro v hv
  simp only [List.mem_toArray, List.mem_map] at hv
  obtain ⟨i, _, rfl⟩ := hv
  rfl
section
variable {P : Program} {w : World}
/-- A load, a store whose run is known, at its place in a walk. -/
theorem wpList_load_run {ops : Array Oper} {rest : List Oper} {o : Oper} {a : Act} {Q : Exit → Act → World → Prop} (hgd : o.guard = none) (s : Operand) (t : TypeId) (ho : o.op = .load t s) (v : Value) (hs : a.eval s = v) (v' : Value) (w' : World)
    (hr : (Instr.loadAt t v).run P w = .ok v' w') (h : wpList P ops Q rest (a.put o.dst v') w') : wpList P ops Q (o :: rest) a w := by
  refine wpList_plain hgd fun K hK => ?_
  unfold Oper.wp execOp
  simp only [ho, Sem.run_bind, Sem.run_pure, hs, hr, Result.andThen_ok]
  exact hK _ _ h
theorem wpList_store_run {ops : Array Oper} {rest : List Oper} {o : Oper} {a : Act} {Q : Exit → Act → World → Prop} (hgd : o.guard = none) (s x : Operand) (t : TypeId) (ho : o.op = .store t s x) (v y : Value) (hs : a.eval s = v) (hx : a.eval x = y) (w' : World)
    (hr : (Instr.storeAt t v y).run P w = .ok () w') (h : wpList P ops Q rest (a.put o.dst undef) w') : wpList P ops Q (o :: rest) a w := by
  refine wpList_plain hgd fun K hK => ?_
  unfold Oper.wp execOp
  simp only [ho, Sem.run_bind, Sem.run_pure, hs, hx, hr, Result.andThen_ok]
  exact hK _ _ h
end

end Go.Proofs.Ytagmmgcdebgfnaa

namespace Go.Proofs.Ytagmmgcdebgfnaa
open Go.RowKit
set_option maxRecDepth 100000

/-- Blocks of inodes without a fault stand within the bounds. -/
theorem inoF_blocks {d : ID} (h : inoF d = 0) (k : Nat) (hk : k < d.2.2.2.1.length) : 0 ≤ d.2.2.2.1[k]?.getD 0 ∧ d.2.2.2.1[k]?.getD 0 < 20 := by
  have hp : ∀ x : Bool, (decide (d.2.1 ≠ 0) || decide (d.2.2.1 ≠ 0) || decide (0 < d.2.2.2.1.length)) = x → x = true := fun x hx => by
    rw [← hx, decide_eq_true (show 0 < d.2.2.2.1.length by omega)]; simp
  have hfp : fpB d = true := hp _ rfl
  unfold inoF at h
  rw [hfp] at h
  split at h
  · simp at h
  · split at h
    · split at h
      · omega
      · unfold fileF at h
        split at h
        · split at h
          · unfold blkF at h
            split at h
            · rename_i hz
              have := fstNZ_inv hz k hk
              unfold rngF at this
              split at this
              · omega
              · omega
            · rename_i hz; exact absurd h hz
          · omega
        · omega
    · split at h
      · simp at h
      · omega
theorem insF_len {ds : List ID} (h : insF ds = 0) : ds.length ≤ 10 := by
  unfold insF at h
  split at h
  · omega
  · omega
theorem insF_each {ds : List ID} (h : insF ds = 0) (j : Nat) (hj : j < ds.length) : inoF (ds[j]?.getD id0) = 0 := by
  unfold insF at h
  split at h
  · omega
  · exact fstNZ_inv (f := fun i => inoF (ds[i]?.getD id0)) h j hj
theorem insF_blocks {ds : List ID} (h : insF ds = 0) (j k : Nat) (hj : j < ds.length) (hk : k < (ds[j]?.getD id0).2.2.2.1.length) : 0 ≤ (ds[j]?.getD id0).2.2.2.1[k]?.getD 0 ∧ (ds[j]?.getD id0).2.2.2.1[k]?.getD 0 < 20 := inoF_blocks (insF_each h j hj) k hk

def manyB (f : Nat → Nat) : Bool := (List.range 20).any fun k => decide (1 < f k)
end Go.Proofs.Ytagmmgcdebgfnaa

namespace Go.Proofs.Ytagmmgcdebgfnaa
open Go.RowKit
set_option maxRecDepth 100000

/-- The same, and the list is no longer than its room. -/
def AnsIC (w : World) (r : Int × List Int) (e : Ending) (w' : World) : Prop := AnsIR w r e w' ∧ ∀ x a n c, e = .returned (.agg #[x, .slice a n c]) → n ≤ c
theorem AnsIC.mk {w w' : World} {r : Int × List Int} {x : Value} {a : Option Addr} {n c : Nat} (h : AnsIR w r (.returned (.agg #[x, .slice a n c])) w') (hc : n ≤ c) : AnsIC w r (.returned (.agg #[x, .slice a n c])) w' :=
  ⟨h, fun x' a' n' c' e => by
    simp only [Ending.returned.injEq, Value.agg.injEq, Array.mk.injEq, List.cons.injEq, Value.slice.injEq, and_true] at e
    omega⟩
theorem slice_takeI (a : Option Addr) (n c j : Nat) (hj : j ≤ c) :
    ∃ A C, j ≤ C ∧ (∀ W : World, (Instr.slice 22 (.slice a n c) none (some (.int .i64 (j : Int))) none).run Try.prog W = .ok (.slice A j C) W) ∧ ∀ (W : World) (zs : List Int) (F : Nat → Prop), j ≤ zs.length → IntsO W (.slice a n c) zs F → IntsO W (.slice A j C) (zs.take j) F := by
  obtain ⟨i, hi, _⟩ := Try.infoInt'
  refine ⟨if c = 0 then a else a.map (·.add (0 * 1)), c - 0, by omega, fun W => ?_, fun W zs F hjn h => ?_⟩
  · simp [Instr.slice, Instr.sliceBounds, Instr.sliceBound, asIntOf, run_underlying Try.underlying22, sizeOf, typeInfo, hi, hj]
  · by_cases hj0 : j = 0
    · subst hj0
      exact Or.inl ⟨by simp, _, _, rfl⟩
    · rw [if_neg (by omega)]
      rcases h with ⟨h, _⟩ | ⟨b, cap, hF, h1, h2, h3⟩
      · subst h; simp at hjn; omega
      · simp only [Value.slice.injEq] at h1
        obtain ⟨rfl, rfl, rfl⟩ := h1
        have hl : (zs.take j).length = j := by rw [List.length_take]; omega
        refine Or.inr ⟨b, c - 0, hF, by rw [hl]; simp [Addr.add], by rw [hl]; omega, ?_⟩
        obtain ⟨cs, t, hb, hn, hc⟩ := h3
        refine ⟨cs, t, hb, by rw [hl]; omega, fun k hk => ?_⟩
        rw [hl] at hk
        rw [hc k (by omega)]
        dsimp only
        rw [List.getElem?_take, if_pos hk]
theorem Wds.cap {w : World} {n₀ : Nat} {a : Option Addr} {n c : Nat} {zs : List Int} (h : Wds w n₀ (.slice a n c) zs) : n ≤ c := by
  rcases h.2 with ⟨e, h0⟩ | ⟨g, cap, cur, e, _, _, hnc, _⟩
  · simp only [Value.slice.injEq] at e; omega
  · simp only [Value.slice.injEq] at e; omega

end Go.Proofs.Ytagmmgcdebgfnaa

namespace Go.Proofs.Ytagmmgcdebgfnaa
open Go.RowKit
set_option maxRecDepth 100000

theorem busF_each {zs : List Int} (h : busF zs = 0) (k : Nat) (hk : k < zs.length) : 0 ≤ zs[k]?.getD 0 ∧ zs[k]?.getD 0 < 20 := by
  unfold busF at h
  split at h
  · omega
  · have := fstNZ_inv h k hk
    unfold rngF at this
    split at this <;> omega
theorem busF_len {zs : List Int} (h : busF zs = 0) : zs.length ≤ 20 := by
  unfold busF at h
  split at h <;> omega
theorem cntB_le (ds : List ID) (hs : sizeInos ds ≤ 1048576) (v : Int) : cntB ds v ≤ 1048576 := by
  have h2 := allB_len ds
  have h3 := List.count_le_length (a := v) (l := allB ds)
  unfold sizeInos at hs
  unfold cntB
  omega
theorem manyB_once (ds : List ID) : manyB (fun i => cntB ds (i : Int)) = !onceB ds 20 := by
  unfold manyB onceB
  rw [List.not_all_eq_any_not]
  congr 1
  funext k
  simp only [← decide_not]
  rw [decide_eq_decide]
  omega
theorem freeP_eq (ds : List ID) (bs : List Int) : (fun k : Nat => decide (cntB ds (k : Int) + bs.count (k : Int) = 0)) = freeP ds bs := by
  funext k
  unfold freeP
  cases hb : bs.contains (k : Int) with
  | true =>
    have h1 : (k : Int) ∈ bs := by simpa using hb
    have h2 := List.count_pos_iff.2 h1
    simp; omega
  | false =>
    have h1 : ¬ (k : Int) ∈ bs := by simpa using hb
    have h2 := List.count_eq_zero.2 h1
    rw [h2]; simp

end Go.Proofs.Ytagmmgcdebgfnaa

namespace Go.Proofs.Ytagmmgcdebgfnaa
open Go.RowKit
set_option maxRecDepth 100000

/-- A place of what is not free. -/
def thB (d : FD) (x : Int) : Bool := decide (0 ≤ x ∧ x < (d.1.length : Int)) && !decide (kindAt d.1 x.toNat = 0)
theorem th_lost {d : FD} {x : Int} (h : 0 ≤ x) : thB d x = !lostB d.1 x := by
  unfold thB lostB
  by_cases e : x < (d.1.length : Int)
  · rw [decide_eq_true (show 0 ≤ x ∧ x < (d.1.length : Int) from ⟨h, e⟩), decide_eq_false (show ¬ (d.1.length : Int) ≤ x by omega)]
    simp
  · rw [decide_eq_false (show ¬ (0 ≤ x ∧ x < (d.1.length : Int)) from fun hh => e hh.2), decide_eq_true (show (d.1.length : Int) ≤ x by omega)]
    simp

/-- What is wrong of data and blocks. -/
def dataF (d : FD) : Int := if d.2.length = 20 then (if fstNZ (manyF d.2) d.2.length = 0 then (if onceB d.1 20 then 0 else 7) else fstNZ (manyF d.2) d.2.length) else 1

end Go.Proofs.Ytagmmgcdebgfnaa

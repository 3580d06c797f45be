/- The law's copy of an inode. The specification's l4Pack. The heads and ends of a journal: the program's words. What compares lists of integers and of entries: the specification's and slices.Equal. The places in a head: the program. Rows told by the list of their values. SeqOf, both sides; what is wrong of a disk that is to have a file system. -/
import Derived.Test.YtagmmgcdebgfnaaM04
import Derived.Test.YtagmmgcdebgfnaaRows
import Derived.Laws.StructEq
import Derived.Test.YtagmmgcdebgfnaaM02
namespace Go.Proofs.Ytagmmgcdebgfnaa
open Go.RowKit
set_option maxRecDepth 100000

def z5 : List Value := [.int .i64 0, .int .i64 0, .int .i64 0, .slice none 0 0, .slice none 0 0]
theorem box5 (w : World) (o1 o2 : Obj) (t : TypeId) (z0 z1 z2 : Value) :
    OwnRow (((w.alloc o1).alloc o2).alloc (.cells #[z0, z1, z2, .slice none 0 0, .slice none 0 0] t)) (w.heap.size + 1 + 1) 5 (fun i => if i = 0 then z0 else if i = 1 then z1 else if i = 2 then z2 else .slice none 0 0) := by
  have h := OwnRow.newV ((w.alloc o1).alloc o2) [z0, z1, z2, .slice none 0 0, .slice none 0 0] t
  simp only [World.size_alloc] at h
  refine OwnRow.congr (n := 5) h fun i hi => ?_
  have : i = 0 ∨ i = 1 ∨ i = 2 ∨ i = 3 ∨ i = 4 := by omega
  rcases this with rfl | rfl | rfl | rfl | rfl <;> simp
theorem box5' (w : World) (o1 o3 : Obj) (t : TypeId) :
    OwnRow (((w.alloc o1).alloc (.cells #[.int .i64 0, .int .i64 0, .int .i64 0, .slice none 0 0, .slice none 0 0] t)).alloc o3) (w.heap.size + 1) 5 (fun i => if i < 3 then .int .i64 0 else .slice none 0 0) := by
  have h := (OwnRow.newV (w.alloc o1) z5 t).later (later1 _ o3)
  simp only [World.size_alloc] at h
  refine OwnRow.congr (n := 5) h fun i hi => ?_
  have : i = 0 ∨ i = 1 ∨ i = 2 ∨ i = 3 ∨ i = 4 := by omega
  rcases this with rfl | rfl | rfl | rfl | rfl <;> simp [z5]
theorem box5p (w : World) (x0 x1 x2 x3 x4 : Value) (o2 o3 : Obj) (t : TypeId) :
    OwnRow (((w.alloc (.cells #[x0, x1, x2, x3, x4] t)).alloc o2).alloc o3) w.heap.size 5 (fun i => [x0, x1, x2, x3, x4][i]?.getD (.int .i64 0)) :=
  ((OwnRow.newV w [x0, x1, x2, x3, x4] t).later (later1 _ o2)).later (later1 _ o3)

theorem toIntsC {w : World} {v : Value} {zs : List Int} (h : Ints w v zs) (hn : zs.length ≤ 1048576) :
    Calls Try.prog 48 #[v] w fun e w' => ∃ a n c, e = .returned (.slice a n c) ∧ Below w.heap.size w w' ∧ IntsO w' (.slice a n c) zs (fresh w w') ∧ n ≤ c :=
  (toInts_any h hn).mono fun _ _ ⟨h1, h2, h3⟩ => ⟨_, _, _, h1, h2, h3, Nat.le_refl _⟩

end Go.Proofs.Ytagmmgcdebgfnaa

namespace Go.Proofs.Ytagmmgcdebgfnaa
open Go.RowKit
set_option maxRecDepth 100000

/-- The first append: three words, then the blocks. -/
theorem append_first (w W : World) (hW : Below w.heap.size w W) (z0 z1 z2 : Int) (aB : Option Addr) (nB cB : Nat) (bs : List Int) (hn : nB ≤ 1048576) (hbn : bs.length = nB) (hc : At1 w aB nB (fun k => .int .i64 (bs[k]?.getD 0))) :
    ∃ v' X, (Builtin.append_ #[22, 22] 22 #[.slice (some ⟨W.heap.size, 0, none⟩) 3 3, .slice aB nB cB]).run Try.prog (W.alloc (.cells #[.int .i64 z0, .int .i64 z1, .int .i64 z2] 2)) = .ok v' X ∧ Wds X w.heap.size v' ([z0, z1, z2] ++ bs) ∧ Below w.heap.size w X ∧ KeepT W X := by
  have hW1 : Below w.heap.size w (W.alloc (.cells #[.int .i64 z0, .int .i64 z1, .int .i64 z2] 2)) := hW.trans ((later1 _ _).mono hW.size)
  have hl := Wds.lit W w.heap.size hW.size [z0, z1, z2] #[.int .i64 z0, .int .i64 z1, .int .i64 z2] rfl 3 rfl (by omega)
  obtain ⟨v', X, h1, h2, h3, h4⟩ := append_any _ w.heap.size _ [z0, z1, z2] bs aB nB cB hl hW1.size hbn (by simp) hn (fun k hk => by
    obtain ⟨b, off, e, h⟩ := hc k hk
    exact ⟨b, off, e, cell_later hW1 h⟩) (hl.some (by simp))
  exact ⟨v', X, h1, h2, hW1.trans h3, (KeepT.later (later1 _ _)).trans h4⟩

end Go.Proofs.Ytagmmgcdebgfnaa

namespace Go.Proofs.Ytagmmgcdebgfnaa
open Go.RowKit
set_option maxRecDepth 100000

theorem journalRow_any (w : World) (k : Nat) (hk : k ≤ 1048576) : Calls Try.prog 72 #[.int .i64 (k : Int)] w fun e w' => e = .returned (.int .i64 ((1 + k : Nat) : Int)) ∧ w' = w := by
  go_enter Try.func72, Try.ntmps72
  go_wp2
  go_ret
  exact ⟨ret_int (by go_num), rfl⟩
theorem commitRow_any (w : World) (k : Nat) (hk : k ≤ 1048575) : Calls Try.prog 70 #[.int .i64 (k : Int)] w fun e w' => e = .returned (.int .i64 ((2 + k : Nat) : Int)) ∧ w' = w := by
  have HJ : Hid (∀ W, Calls Try.prog 72 #[.int .i64 ((k : Int) + 1)] W fun e w' => e = .returned (.int .i64 ((2 + k : Nat) : Int)) ∧ w' = W) := fun W => by
    have h := journalRow_any W (k + 1) (by omega)
    rw [show 1 + (k + 1) = 2 + k by omega, Int.natCast_add k 1] at h
    exact h
  go_enter Try.func70, Try.ntmps70
  go_wp2_with fail
  refine (HJ.out _).mono ?_
  rintro e w1 ⟨rfl, rfl⟩
  go_wp2
  go_ret
  exact ⟨rfl, rfl⟩
theorem commitWords_any (w : World) (q : Int) (k : Nat) : Calls Try.prog 71 #[.int .i64 q, .int .i64 (k : Int)] w fun e w' => e = .returned (.slice (some ⟨w.heap.size, 0, none⟩) 3 3) ∧ w' = w.alloc (.cells #[.int .i64 2, .int .i64 q, .int .i64 (k : Int)] 2) := by
  go_enter Try.func71, Try.ntmps71
  go_wp2
  go_ret
  exact ⟨rfl, rfl⟩
set_option maxHeartbeats 1600000 in
theorem headWords_any (w : World) (q : Int) (a : Option Addr) (n c : Nat) (ps : List Int) (hl : ps.length = n) (hn : n ≤ 1048576) (hA : At1 w a n (fun k => .int .i64 (ps[k]?.getD 0))) :
    Calls Try.prog 96 #[.int .i64 q, .slice a n c] w fun e w' => ∃ a' c', e = .returned (.slice a' (headZ q ps).length c') ∧ Below w.heap.size w w' ∧ IntsO w' (.slice a' (headZ q ps).length c') (headZ q ps) (fresh w w') := by
  obtain ⟨v', X, hr, hw, hb, hk⟩ := append_first w w (Below.refl _ _) 1 q (n : Int) a n c ps hn hl hA
  have HR : Hid ((Builtin.append_ #[22, 22] 22 #[.slice (some ⟨w.heap.size, 0, none⟩) 3 3, .slice a n c]).run Try.prog (w.alloc (.cells #[.int .i64 1, .int .i64 q, .int .i64 (n : Int)] 2)) = .ok v' X) := hr
  have he : [1, q, (n : Int)] ++ ps = headZ q ps := by unfold headZ; rw [hl]
  rw [he] at hw
  have HW : Hid (Wds X w.heap.size v' (headZ q ps)) := hw
  have HB : Hid (Below w.heap.size w X) := hb
  have HL : Hid (0 < (headZ q ps).length) := by unfold Hid headZ; simp
  clear hr hw hb hk he hA
  go_enter Try.func96, Try.ntmps96
  go_wp2_with (at_builtin; refine wpList_append_run rfl _ _ 22 rfl _ _ rfl rfl _ _ HR.out ?_)
  go_ret
  obtain ⟨a', c', ev⟩ := HW.out.shape
  subst ev
  exact ⟨a', c', rfl, HB.out, HW.out.own HL.out (Nat.le_refl _)⟩
/-- What a drive reads has room for itself. -/
theorem read_drvC {w : World} {bd : Nat} {d : DK} (h : DrvK w bd d) (x : Nat) (hx : x < d.1.length) :
    Calls Try.prog 64 #[.pointer (some ⟨bd, 0, none⟩), .int .i64 (x : Int)] w fun e w' => ∃ a c, e = .returned (.slice a (atF d.1 d.2 x).length c) ∧ Below w.heap.size w w' ∧ IntsO w' (.slice a (atF d.1 d.2 x).length c) (atF d.1 d.2 x) (fresh w w') ∧ (atF d.1 d.2 x).length ≤ c := by
  obtain ⟨aB, cB, aP, cP, c0, c1, h1, h2⟩ := h.at'
  refine (read_cap w bd aB aP d.1.length cB d.2.length cP d.1 d.2 x hx h.g1 rfl h.g2 c0 c1 h1 h2 h.hz h.hzp).mono ?_
  rintro e w' ⟨a, n, c, rfl, hb, ho, hc⟩
  obtain ⟨_, _, ev, _⟩ := ho.reads.shape
  simp only [Value.slice.injEq] at ev
  obtain ⟨rfl, rfl, rfl⟩ := ev
  exact ⟨a, c, rfl, hb, ho, hc⟩
/-- Words from place m on. -/
theorem slice_dropZ (b o n c m : Nat) (hm : m ≤ n) (hc : n ≤ c) :
    ∃ o', (∀ W : World, (Instr.slice 22 (.slice (some ⟨b, o, none⟩) n c) (some (.int .i64 (m : Int))) none none).run Try.prog W = .ok (.slice (some ⟨b, o', none⟩) (n - m) (c - m)) W) ∧ (m < n → o' = o + m) := by
  obtain ⟨i, hi, _, h2, _⟩ := Try.infoInt'
  refine ⟨if c = m then o else o + m, fun W => ?_, fun h => by rw [if_neg (by omega)]⟩
  simp [Instr.slice, Instr.sliceBounds, Instr.sliceBound, asIntOf, run_underlying Try.underlying22, sizeOf, typeInfo, hi, h2]
  rw [if_pos hm]
  split <;> simp [Addr.add]
theorem At1.dropZ {w : World} {b o o' n m : Nat} {zs : List Int} (h : At1 w (some ⟨b, o, none⟩) n (fun k => .int .i64 (zs[k]?.getD 0))) (ho : m < n → o' = o + m) : At1 w (some ⟨b, o', none⟩) (n - m) (fun k => .int .i64 ((zs.drop m)[k]?.getD 0)) := fun k hk => by
  have e := ho (by omega)
  subst e
  obtain ⟨b', o', e, h1⟩ := h (m + k) (by omega)
  simp only [Option.some.injEq, Addr.mk.injEq, and_true] at e
  obtain ⟨rfl, rfl⟩ := e
  refine ⟨b, o + m, rfl, ?_⟩
  dsimp only at h1 ⊢
  rw [List.getElem?_drop, Nat.add_assoc]
  exact h1
end Go.Proofs.Ytagmmgcdebgfnaa

namespace Go.Proofs.Ytagmmgcdebgfnaa
open Go.RowKit
set_option maxRecDepth 100000

set_option maxHeartbeats 400000 in
theorem l4Ints_len (w : World) (a a' : Option Addr) (cap cap' n n' : Nat) (hn : ¬ n = n') :
    Calls Try.prog 94 #[.slice a n cap, .slice a' n' cap'] w fun e w' => e = .returned (.bool false) ∧ w' = w := by
  have hb : ((n : Int) != (n' : Int)) = true := by simp; omega
  clear hn
  go_enter Try.func94, Try.ntmps94
  go_wp2
  go_ret
  exact ⟨rfl, rfl⟩
set_option maxHeartbeats 1600000 in
theorem l4Ints_walk (w : World) (a a' : Option Addr) (cap cap' n : Nat) (xs ys : List Int) (hx : xs.length = n) (hy : ys.length = n) (hn : n ≤ maxLen)
    (cx : At1 w a n (fun k => .int .i64 (xs[k]?.getD 0))) (cy : At1 w a' n (fun k => .int .i64 (ys[k]?.getD 0))) :
    Calls Try.prog 94 #[.slice a n cap, .slice a' n cap'] w fun e w' => e = .returned (.bool (decide (xs = ys))) ∧ ∃ m, w' = w.drewN m := by
  unfold maxLen at hn
  have HX : Hid (xs.length = n) := hx
  have HY : Hid (ys.length = n) := hy
  have HCX : Hid (At1 w a n (fun k => .int .i64 (xs[k]?.getD 0))) := cx
  have HCY : Hid (At1 w a' n (fun k => .int .i64 (ys[k]?.getD 0))) := cy
  have hnn : ((n : Int) != (n : Int)) = false := by simp
  clear hx hy cx cy
  go_enter Try.func94, Try.ntmps94
  go_wp2
  go_loopw [5] (fun i wr => ∃ k m : Nat, k ≤ n ∧ i = .int .i64 k ∧ wr = w.drewN m ∧ xs.take k = ys.take k) (fun i _ => n - (intOf i).toNat)
  case atStart => exact ⟨0, 0, Nat.zero_le _, rfl, rfl, rfl⟩
  case round =>
    obtain ⟨k, m, hk, rfl, rfl, ht⟩ := hrel
    have HT : Hid (xs.take k = ys.take k) := ht
    clear ht
    by_cases hlt : k < n
    · obtain ⟨b, off, rfl, c1⟩ := HCX.out k hlt
      obtain ⟨b', off', rfl, c2⟩ := HCY.out k hlt
      dsimp only at c1 c2
      by_cases he : xs[k]?.getD 0 = ys[k]?.getD 0
      · have HTT : Hid (xs.take (k + 1) = ys.take (k + 1)) := take_more 0 HX.out HY.out hlt HT.out he
        rw [← he] at c2
        generalize xs[k]?.getD 0 = x at *
        have hb : (x != x) = false := by simp
        clear he
        go_wp2_with fail
        go_quiet (fail)
        go_wp2
        go_roundw
        case rel => exact ⟨k + 1, m + nq, by omega, by go_num, by first | rfl | rw [World.drewN_drewN], HTT.out⟩
        case measure => simp [intOf]; omega
      · have HR : Hid (decide (xs = ys) = false) := by unfold Hid; simp; intro h; rw [h] at he; exact he rfl
        have hb : (xs[k]?.getD 0 != ys[k]?.getD 0) = true := by simpa using he
        clear he
        generalize xs[k]?.getD 0 = x at *
        generalize ys[k]?.getD 0 = y at *
        go_wp2_with fail
        go_quiet (fail)
        go_wp2
        go_ret
        exact ⟨ret_bool HR.out.symm, m + nq, by first | rfl | rw [World.drewN_drewN]⟩
    · have HR : Hid (decide (xs = ys) = true) := by
        have h := HT.out
        rw [List.take_of_length_le (by rw [HX.out]; omega), List.take_of_length_le (by rw [HY.out]; omega)] at h
        unfold Hid; simp [h]
      go_wp2
      go_ret
      exact ⟨ret_bool HR.out.symm, m, rfl⟩
theorem l4Ints_any {w : World} {va vb : Value} {xs ys : List Int} (ha : Ints w va xs) (hb : Ints w vb ys) :
    Calls Try.prog 94 #[va, vb] w fun e w' => e = .returned (.bool (decide (xs = ys))) ∧ ∃ m, w' = w.drewN m := by
  obtain ⟨a, cap, rfl, hm, hc⟩ := ha.open'
  obtain ⟨a', cap', rfl, hm', hc'⟩ := hb.open'
  by_cases h : xs.length = ys.length
  · rw [h] at hc ⊢
    exact l4Ints_walk w a a' cap cap' ys.length xs ys h rfl hm' hc hc'
  · have hd : decide (xs = ys) = false := by simp; intro e; exact h (by rw [e])
    rw [hd]
    exact (l4Ints_len w a a' cap cap' _ _ h).mono fun e w' ⟨h1, h2⟩ => ⟨h1, 0, h2⟩

set_option maxHeartbeats 400000 in
theorem equalI_len (w : World) (a a' : Option Addr) (cap cap' n n' : Nat) (hn : ¬ n = n') :
    Calls Try.prog 69 #[.slice a n cap, .slice a' n' cap'] w fun e w' => e = .returned (.bool false) ∧ w' = w := by
  have hb : ((n : Int) != (n' : Int)) = true := by simp; omega
  clear hn
  go_enter Try.func69, Try.ntmps69
  go_wp2
  go_ret
  exact ⟨rfl, rfl⟩
set_option maxHeartbeats 1600000 in
theorem equalI_walk (w : World) (a a' : Option Addr) (cap cap' n : Nat) (xs ys : List Int) (hx : xs.length = n) (hy : ys.length = n) (hn : n ≤ maxLen)
    (cx : At1 w a n (fun k => .int .i64 (xs[k]?.getD 0))) (cy : At1 w a' n (fun k => .int .i64 (ys[k]?.getD 0))) :
    Calls Try.prog 69 #[.slice a n cap, .slice a' n cap'] w fun e w' => e = .returned (.bool (decide (xs = ys))) ∧ ∃ m, w' = w.drewN m := by
  unfold maxLen at hn
  have HX : Hid (xs.length = n) := hx
  have HY : Hid (ys.length = n) := hy
  have HCX : Hid (At1 w a n (fun k => .int .i64 (xs[k]?.getD 0))) := cx
  have HCY : Hid (At1 w a' n (fun k => .int .i64 (ys[k]?.getD 0))) := cy
  have hnn : ((n : Int) != (n : Int)) = false := by simp
  clear hx hy cx cy
  go_enter Try.func69, Try.ntmps69
  go_wp2
  go_loopw [13] (fun i wr => ∃ k m : Nat, k ≤ n ∧ i = .int .i64 k ∧ wr = w.drewN m ∧ xs.take k = ys.take k) (fun i _ => n - (intOf i).toNat)
  case atStart => exact ⟨0, 0, Nat.zero_le _, rfl, rfl, rfl⟩
  case round =>
    obtain ⟨k, m, hk, rfl, rfl, ht⟩ := hrel
    have HT : Hid (xs.take k = ys.take k) := ht
    clear ht
    by_cases hlt : k < n
    · obtain ⟨b, off, rfl, c1⟩ := HCX.out k hlt
      obtain ⟨b', off', rfl, c2⟩ := HCY.out k hlt
      dsimp only at c1 c2
      by_cases he : xs[k]?.getD 0 = ys[k]?.getD 0
      · have HTT : Hid (xs.take (k + 1) = ys.take (k + 1)) := take_more 0 HX.out HY.out hlt HT.out he
        rw [← he] at c2
        generalize xs[k]?.getD 0 = x at *
        have hb : (x != x) = false := by simp
        clear he
        go_wp2_with fail
        go_quiet (fail)
        go_wp2
        go_roundw
        case rel => exact ⟨k + 1, m + nq, by omega, by go_num, by first | rfl | rw [World.drewN_drewN], HTT.out⟩
        case measure => simp [intOf]; omega
      · have HR : Hid (decide (xs = ys) = false) := by unfold Hid; simp; intro h; rw [h] at he; exact he rfl
        have hb : (xs[k]?.getD 0 != ys[k]?.getD 0) = true := by simpa using he
        clear he
        generalize xs[k]?.getD 0 = x at *
        generalize ys[k]?.getD 0 = y at *
        go_wp2_with fail
        go_quiet (fail)
        go_wp2
        go_ret
        exact ⟨ret_bool HR.out.symm, m + nq, by first | rfl | rw [World.drewN_drewN]⟩
    · have HR : Hid (decide (xs = ys) = true) := by
        have h := HT.out
        rw [List.take_of_length_le (by rw [HX.out]; omega), List.take_of_length_le (by rw [HY.out]; omega)] at h
        unfold Hid; simp [h]
      go_wp2
      go_ret
      exact ⟨ret_bool HR.out.symm, m, rfl⟩
theorem equalI_any {w : World} {va vb : Value} {xs ys : List Int} (ha : Ints w va xs) (hb : Ints w vb ys) :
    Calls Try.prog 69 #[va, vb] w fun e w' => e = .returned (.bool (decide (xs = ys))) ∧ ∃ m, w' = w.drewN m := by
  obtain ⟨a, cap, rfl, hm, hc⟩ := ha.open'
  obtain ⟨a', cap', rfl, hm', hc'⟩ := hb.open'
  by_cases h : xs.length = ys.length
  · rw [h] at hc ⊢
    exact equalI_walk w a a' cap cap' ys.length xs ys h rfl hm' hc hc'
  · have hd : decide (xs = ys) = false := by simp; intro e; exact h (by rw [e])
    rw [hd]
    exact (equalI_len w a a' cap cap' _ _ h).mono fun e w' ⟨h1, h2⟩ => ⟨h1, 0, h2⟩

theorem bytes_eq {a b : ByteArray} (h : a.toList = b.toList) : a = b := by
  rw [ByteArray.toList_eq, ByteArray.toList_eq] at h
  cases a; cases b
  simp at h
  rw [h]

end Go.Proofs.Ytagmmgcdebgfnaa

namespace Go.Proofs.Ytagmmgcdebgfnaa
open Go.RowKit
set_option maxRecDepth 100000

theorem slice_dropA (a : Option Addr) (n c m : Nat) (hm : m ≤ n) :
    ∃ A, ∀ W : World, (Instr.slice 22 (.slice a n c) (some (.int .i64 (m : Int))) none none).run Try.prog W = .ok (.slice A (n - m) (c - m)) W := by
  obtain ⟨i, hi, _, h2, _⟩ := Try.infoInt'
  refine ⟨if c = m then a else a.map (·.add m), fun W => ?_⟩
  simp [Instr.slice, Instr.sliceBounds, Instr.sliceBound, asIntOf, run_underlying Try.underlying22, sizeOf, typeInfo, hi, h2]
  intro h
  omega
def jrnB (q : Int) (zs : List Int) : Bool := headB q zs && plcsB (zs.drop 3)
theorem jrnB_no {q : Int} {zs : List Int} (h : ¬ (3 ≤ zs.length ∧ (zs.drop 3).length ≤ 10 ∧ zs = headZ q (zs.drop 3))) : jrnB q zs = false := by unfold jrnB; rw [head_no h]; rfl
set_option maxHeartbeats 3200000 in
theorem placesIn_few (w : World) (a : Option Addr) (n c : Nat) (q : Int) (zs : List Int) (hl : zs.length = n) (hn : n < 3) (h : Ints w (.slice a n c) zs) :
    Calls Try.prog 68 #[.slice a n c, .int .i64 q] w fun e w' => e = .returned (.tuple #[.slice none 0 0, .bool false]) ∧ Below w.heap.size w w' := by
  obtain ⟨A, hsl⟩ := slice_dropA a n c n (Nat.le_refl _)
  have hmin : min (3 : Int) (n : Int) = (n : Int) := by omega
  rw [Nat.sub_self] at hsl
  have HH : Hid (∀ W, Below w.heap.size w W → Calls Try.prog 96 #[.int .i64 q, .slice A 0 (c - n)] W fun e w' => ∃ a' c', e = .returned (.slice a' 3 c') ∧ Below W.heap.size W w' ∧ IntsO w' (.slice a' 3 c') (headZ q []) (fresh W w')) := fun W _ => headWords_any W q A 0 (c - n) [] rfl (by omega) (fun k hk => by omega)
  have HQ : Hid (∀ W v, Below w.heap.size w W → Ints W v (headZ q []) → Calls Try.prog 69 #[.slice a n c, v] W fun e w' => e = .returned (.bool false) ∧ ∃ m, w' = W.drewN m) := fun W v hW hv => by
    have h1 := equalI_any (h.later hW) hv
    rw [decide_eq_false (fun e => by have := congrArg List.length e; rw [headZ_len] at this; simp at this; omega)] at h1
    exact h1
  clear h
  go_enter Try.func68, Try.ntmps68
  go_wp2_with fail
  refine (HH.out _ (Below.refl _ _)).mono ?_
  rintro e w1 ⟨a1, c1, rfl, hb1, ho1⟩
  go_wp2_with fail
  refine (HQ.out _ _ hb1 ho1.reads).mono ?_
  rintro e w2 ⟨rfl, m, rfl⟩
  have HB2 : Hid (Below w.heap.size w (w1.drewN m)) := below_drewN hb1 m
  clear hb1 ho1
  go_wp2
  go_ret2
  exact ⟨rfl, HB2.out⟩
set_option maxHeartbeats 3200000 in
theorem placesIn_many (w : World) (a : Option Addr) (n c : Nat) (q : Int) (zs : List Int) (hl : zs.length = n) (hn : 3 ≤ n) (hm : n ≤ 1048576) (hc : n ≤ c) (h : Ints w (.slice a n c) zs) :
    Calls Try.prog 68 #[.slice a n c, .int .i64 q] w fun e w' => Below w.heap.size w w' ∧
      ((jrnB q zs = false ∧ e = .returned (.tuple #[.slice none 0 0, .bool false])) ∨
       (jrnB q zs = true ∧ ∃ b o' c', e = .returned (.tuple #[.slice (some ⟨b, o', none⟩) (n - 3) c', .bool true]) ∧ At1 w (some ⟨b, o', none⟩) (n - 3) (fun k => .int .i64 ((zs.drop 3)[k]?.getD 0)))) := by
  obtain ⟨_, _, ev, _, hA⟩ := h.open'
  rw [hl] at ev hA
  simp only [Value.slice.injEq, true_and] at ev
  obtain ⟨rfl, rfl⟩ := ev
  obtain ⟨b, o, rfl, _⟩ := hA 0 (by omega)
  obtain ⟨o', hsl0, ho'⟩ := slice_dropZ b o n c 3 hn hc
  have hsl : ∀ W : World, (Instr.slice 22 (.slice (some ⟨b, o, none⟩) n c) (some (.int .i64 3)) none none).run Try.prog W = .ok (.slice (some ⟨b, o', none⟩) (n - 3) (c - 3)) W := hsl0
  have HP : Hid (At1 w (some ⟨b, o', none⟩) (n - 3) (fun k => .int .i64 ((zs.drop 3)[k]?.getD 0))) := hA.dropZ ho'
  have hmin : min (3 : Int) (n : Int) = 3 := by omega
  have hlp : (zs.drop 3).length = n - 3 := by rw [List.length_drop, hl]
  have HNO : Hid (¬ (n - 3 ≤ 10 ∧ zs = headZ q (zs.drop 3)) → jrnB q zs = false) := fun h1 => jrnB_no fun h2 => h1 ⟨by rw [← hlp]; exact h2.2.1, h2.2.2⟩
  have HYES : Hid (n - 3 ≤ 10 → zs = headZ q (zs.drop 3) → jrnB q zs = plcsB (zs.drop 3)) := fun h1 h2 => by unfold jrnB; rw [head_yes (by omega) (by omega) h2]; rfl
  have HH : Hid (∀ W, Below w.heap.size w W → Calls Try.prog 96 #[.int .i64 q, .slice (some ⟨b, o', none⟩) (n - 3) (c - 3)] W fun e w' => ∃ a' m' c', e = .returned (.slice a' m' c') ∧ Below W.heap.size W w' ∧ IntsO w' (.slice a' m' c') (headZ q (zs.drop 3)) (fresh W w')) := fun W hW => by
    refine (headWords_any W q (some ⟨b, o', none⟩) (n - 3) (c - 3) (zs.drop 3) hlp (by omega) fun k hk => ?_).mono fun e w' ⟨a', c', h1, h2, h3⟩ => ⟨a', _, c', h1, h2, h3⟩
    obtain ⟨b1, o1, e1, h1⟩ := HP.out k hk
    exact ⟨b1, o1, e1, cell_later hW h1⟩
  have HQ : Hid (∀ W v, Below w.heap.size w W → Ints W v (headZ q (zs.drop 3)) → Calls Try.prog 69 #[.slice (some ⟨b, o, none⟩) n c, v] W fun e w' => e = .returned (.bool (decide (zs = headZ q (zs.drop 3)))) ∧ ∃ m, w' = W.drewN m) := fun W v hW hv => equalI_any (h.later hW) hv
  have HAT : Hid (∀ k, k < n - 3 → plcB ((zs.drop 3)[k]?.getD 0) = false → plcsB (zs.drop 3) = false) := fun k hk h1 => plcsB_no (by omega) h1
  have HALL : Hid ((∀ k, k < n - 3 → plcB ((zs.drop 3)[k]?.getD 0) = true) → plcsB (zs.drop 3) = true) := fun h1 => plcsB_yes fun k hk => h1 k (by omega)
  clear h hA hsl0 ho' hl hlp hn
  have hN : ((n - 3 : Nat) : Int) ≤ 1048576 := by omega
  generalize hPS : zs.drop 3 = ps at *
  clear hPS
  generalize n - 3 = m at *
  generalize jrnB q zs = RES at *
  by_cases h10 : m ≤ 10
  · have h10' : ¬ (10 < (m : Int)) := by omega
    by_cases he : zs = headZ q ps
    · have HE : Hid (RES = plcsB ps) := HYES.out h10 he
      rw [decide_eq_true he] at HQ
      clear HYES HNO he
      generalize plcsB ps = PB at *
      go_enter Try.func68, Try.ntmps68
      go_wp2_with fail
      refine (HH.out _ (Below.refl _ _)).mono ?_
      rintro e w1 ⟨a1, m1, c1, rfl, hb1, ho1⟩
      go_wp2_with fail
      refine (HQ.out _ _ hb1 ho1.reads).mono ?_
      rintro e w2 ⟨rfl, mm, rfl⟩
      have HB2 : Hid (Below w.heap.size w (w1.drewN mm)) := below_drewN hb1 mm
      clear hb1 ho1 HH HQ
      go_wp2
      generalize w1.drewN mm = w2 at *
      go_loopw [27] (fun i wr => ∃ k : Nat, k ≤ m ∧ i = .int .i64 k ∧ Below w.heap.size w wr ∧ ∀ i, i < k → plcB (ps[i]?.getD 0) = true) (fun i _ => m - (intOf i).toNat)
      case atStart => exact ⟨0, Nat.zero_le _, rfl, HB2.out, fun i hi => by omega⟩
      case round =>
        obtain ⟨k, hk, rfl, hbl, ht⟩ := hrel
        have HT : Hid (∀ i, i < k → plcB (ps[i]?.getD 0) = true) := ht
        have HBL : Hid (Below w.heap.size w wr) := hbl
        clear ht hbl
        by_cases hlt : k < m
        · obtain ⟨bb, oo, eb, k0⟩ := HP.out k hlt
          simp only [Option.some.injEq, Addr.mk.injEq, and_true] at eb
          obtain ⟨rfl, rfl⟩ := eb
          replace k0 := cell_later HBL.out k0
          dsimp only at k0
          have HMO : Hid (plcB (ps[k]?.getD 0) = true → ∀ i, i < k + 1 → plcB (ps[i]?.getD 0) = true) := fun h i hi => by
            by_cases e : i = k
            · rw [e]; exact h
            · exact HT.out i (by omega)
          have HBA : Hid (plcB (ps[k]?.getD 0) = false → RES = false) := fun h1 => by rw [HE.out]; exact HAT.out k hlt h1
          clear HT
          generalize ps[k]?.getD 0 = x at *
          by_cases h1 : x < 17
          · have HR : Hid (RES = false) := HBA.out (decide_eq_false (by omega))
            clear HBA HMO
            go_wp2
            go_ret2
            exact ⟨HBL.out, Or.inl ⟨HR.out, rfl⟩⟩
          · by_cases h2 : 27 ≤ x
            · have HR : Hid (RES = false) := HBA.out (decide_eq_false (by omega))
              have h1' : decide (x < 17) = false := by simpa using h1
              clear HBA HMO
              go_wp2
              go_ret2
              exact ⟨HBL.out, Or.inl ⟨HR.out, rfl⟩⟩
            · have HM : Hid (∀ i, i < k + 1 → plcB (ps[i]?.getD 0) = true) := HMO.out (decide_eq_true ⟨by omega, by omega⟩)
              have h1' : decide (x < 17) = false := by simpa using h1
              have h2' : decide (27 ≤ x) = false := by simpa using h2
              clear HBA HMO
              go_wp2
              go_roundw
              case rel => exact ⟨k + 1, by omega, by go_num, HBL.out, HM.out⟩
              case measure => simp [intOf]; omega
        · have e : k = m := by omega
          subst e
          have HR : Hid (RES = true) := by unfold Hid; rw [HE.out]; exact HALL.out HT.out
          clear HT
          go_wp2
          go_ret2
          exact ⟨HBL.out, Or.inr ⟨HR.out, b, o', _, rfl, HP.out⟩⟩
    · have HE : Hid (RES = false) := HNO.out fun h1 => he h1.2
      rw [decide_eq_false he] at HQ
      clear HYES HNO he HAT HALL
      go_enter Try.func68, Try.ntmps68
      go_wp2_with fail
      refine (HH.out _ (Below.refl _ _)).mono ?_
      rintro e w1 ⟨a1, m1, c1, rfl, hb1, ho1⟩
      go_wp2_with fail
      refine (HQ.out _ _ hb1 ho1.reads).mono ?_
      rintro e w2 ⟨rfl, mm, rfl⟩
      have HB2 : Hid (Below w.heap.size w (w1.drewN mm)) := below_drewN hb1 mm
      clear hb1 ho1 HH HQ
      go_wp2
      go_ret2
      exact ⟨HB2.out, Or.inl ⟨HE.out, rfl⟩⟩
  · have h10' : 10 < (m : Int) := by omega
    have HE : Hid (RES = false) := HNO.out fun h1 => h10 h1.1
    clear HYES HNO HAT HALL HH HQ
    go_enter Try.func68, Try.ntmps68
    go_wp2
    go_ret2
    exact ⟨Below.refl _ _, Or.inl ⟨HE.out, rfl⟩⟩
theorem placesIn_any (w : World) (a : Option Addr) (c : Nat) (q : Int) (zs : List Int) (hm : zs.length ≤ 1048576) (hc : zs.length ≤ c) (h : Ints w (.slice a zs.length c) zs) :
    Calls Try.prog 68 #[.slice a zs.length c, .int .i64 q] w fun e w' => Below w.heap.size w w' ∧
      ((jrnB q zs = false ∧ e = .returned (.tuple #[.slice none 0 0, .bool false])) ∨
       (jrnB q zs = true ∧ ∃ b o' c', e = .returned (.tuple #[.slice (some ⟨b, o', none⟩) (zs.length - 3) c', .bool true]) ∧ At1 w (some ⟨b, o', none⟩) (zs.length - 3) (fun k => .int .i64 ((zs.drop 3)[k]?.getD 0)))) := by
  by_cases hn : zs.length < 3
  · exact (placesIn_few w a zs.length c q zs rfl hn h).mono fun e w' ⟨h1, h2⟩ => ⟨h2, Or.inl ⟨jrnB_no fun h3 => by omega, h1⟩⟩
  · exact placesIn_many w a zs.length c q zs rfl (by omega) hm hc h
end Go.Proofs.Ytagmmgcdebgfnaa

namespace Go.Proofs.Ytagmmgcdebgfnaa
open Go.RowKit
set_option maxRecDepth 100000

theorem rowVL (w : World) (vs : List Value) (t : TypeId) : OwnRow (w.alloc (.cells vs.toArray t)) w.heap.size vs.length (fun i => vs[i]?.getD (.int .i64 0)) := by
  refine ⟨_, t, Go.Deep.blk_alloc_new _ _, by simp, fun i hi => ?_⟩
  simp [hi]

def cel (vs : List Value) (i : Nat) : Value := vs[i]?.getD (.int .i64 0)
theorem newCel (w : World) (vs : List Value) (t : TypeId) : OwnRow (w.alloc (.cells vs.toArray t)) w.heap.size vs.length (cel vs) := rowVL w vs t
end Go.Proofs.Ytagmmgcdebgfnaa

namespace Go.Proofs.Ytagmmgcdebgfnaa
open Go.RowKit
set_option maxRecDepth 100000

def seqB (x : Int) : Bool := decide (1 ≤ x ∧ x ≤ 60000)
theorem isSeq_any (w : World) (x : Int) : Calls Try.prog 65 #[.int .i64 x] w fun e w' => e = .returned (.bool (seqB x)) ∧ w' = w := by
  by_cases h1 : 1 ≤ x
  · have HE : Hid (seqB x = decide (x ≤ 60000)) := by unfold Hid seqB; simp [h1]
    go_enter Try.func65, Try.ntmps65
    go_wp2
    go_ret
    exact ⟨ret_bool (by rw [HE.out]), rfl⟩
  · have HE : Hid (seqB x = false) := by unfold Hid seqB; simp [h1]
    have hd : decide (1 ≤ x) = false := by simpa using h1
    go_enter Try.func65, Try.ntmps65
    go_wp2
    go_ret
    exact ⟨ret_bool (by rw [HE.out]), rfl⟩
theorem l12Seq_any (w : World) (x : Int) : Calls Try.prog 60 #[.int .i64 x] w fun e w' => e = .returned (.bool (seqB x)) ∧ w' = w := by
  have HE : Hid ((decide (1 ≤ x) && decide (x ≤ 60000)) = seqB x) := by unfold Hid seqB; simp
  go_enter Try.func60, Try.ntmps60
  go_wp2_with fail
  refine (l1In_any _ _ _ _).mono ?_
  rintro e w1 ⟨rfl, rfl⟩
  go_wp2
  go_ret
  exact ⟨ret_bool HE.out, rfl⟩
theorem superB_two (z0 z1 : Int) : superB [z0, z1] = (decide (z0 = 7) && seqB z1) := by unfold superB seqB; simp
theorem superB_len {zs : List Int} (h : ¬ zs.length = 2) : superB zs = false := by unfold superB; simp [h]
theorem two_of {zs : List Int} (h : zs.length = 2) : ∃ z0 z1, zs = [z0, z1] := by
  match zs, h with
  | [a, b], _ => exact ⟨a, b, rfl⟩

set_option maxHeartbeats 1600000 in
theorem sizeFault_any (w : World) (a1 : Option Addr) (n1 c1 : Nat) (a2 : Option Addr) (n2 c2 : Nat) (d : DK) (h : DiskR w (.slice a1 n1 c1) (.slice a2 n2 c2) d) :
    Calls Try.prog 62 #[.agg #[.slice a1 n1 c1, .slice a2 n2 c2]] w fun e w' => e = .returned (.int .i64 (sizF d)) ∧ Below w.heap.size w w' := by
  have HF : Hid (∀ W, Below w.heap.size w W → Calls Try.prog 90 #[.agg #[.slice a1 n1 c1, .slice a2 n2 c2]] W fun e w' => e = .returned (.int .i64 (faultF d.1 d.2)) ∧ Below W.heap.size W w') := fun W hW => fault_any W _ _ d.1 d.2 (h.1.later hW) (h.2.later hW)
  have HR : Hid (sizF d = if faultF d.1 d.2 = 0 then (if d.1.length = 47 then 0 else 1) else faultF d.1 d.2) := rfl
  have HX : Hid (Bx (w.alloc (.cells #[.slice a1 n1 c1, .slice a2 n2 c2] 49)) w.heap.size [.slice a1 n1 c1, .slice a2 n2 c2]) := Bx.new w [.slice a1 n1 c1, .slice a2 n2 c2] _
  obtain ⟨_, _, e1, hm, _⟩ := h.1.open'
  simp only [Value.slice.injEq] at e1
  obtain ⟨rfl, rfl, rfl⟩ := e1
  unfold maxLen at hm
  have x0 := HX.out 0 _ rfl
  have x1 := HX.out 1 _ rfl
  clear h
  generalize sizF d = RES at *
  generalize faultF d.1 d.2 = r at *
  generalize d.1.length = n at *
  go_enter Try.func62, Try.ntmps62
  go_wp2_with fail
  refine (HF.out _ (later1 _ _)).mono ?_
  rintro e w1 ⟨rfl, hb⟩
  have HB : Hid (Below w.heap.size w w1) := (later1 _ _).trans (hb.mono (by simp))
  have y0 := (HX.out.later hb) 0 _ rfl
  clear hb x0 x1
  by_cases h0 : r = 0
  · have hr : (r != 0) = false := by simpa using h0
    by_cases h1 : n = 47
    · have hn : (((n : Nat) : Int) != 47) = false := by simp; omega
      have HE : Hid (RES = 0) := by unfold Hid; rw [HR.out, if_pos h0, if_pos h1]
      clear h0 h1 HR
      go_wp2
      go_ret
      exact ⟨ret_int HE.out.symm, HB.out⟩
    · have hn : (((n : Nat) : Int) != 47) = true := by simp; omega
      have HE : Hid (RES = 1) := by unfold Hid; rw [HR.out, if_pos h0, if_neg h1]
      clear h0 h1 HR
      go_wp2
      go_ret
      exact ⟨ret_int HE.out.symm, HB.out⟩
  · have hr : (r != 0) = true := by simpa using h0
    have HE : Hid (RES = r) := by unfold Hid; rw [HR.out, if_neg h0]
    clear h0 HR
    go_wp2
    go_ret
    exact ⟨ret_int HE.out.symm, HB.out⟩

set_option maxHeartbeats 3200000 in
theorem implSeqU (w : World) (a1 : Option Addr) (n1 c1 : Nat) (a2 : Option Addr) (n2 c2 : Nat) (d : DK) (h : DiskR w (.slice a1 n1 c1) (.slice a2 n2 c2) d) (hs : sizeDisk d ≤ 1048576) :
    Calls Try.prog 23 #[.agg #[.slice a1 n1 c1, .slice a2 n2 c2]] w fun e w' => e = .returned (.agg #[.int .i64 (seqR d).1, .int .i64 (seqR d).2]) ∧ Below w.heap.size w w' := by
  have HF : Hid (∀ W, Below w.heap.size w W → Calls Try.prog 62 #[.agg #[.slice a1 n1 c1, .slice a2 n2 c2]] W fun e w' => e = .returned (.int .i64 (sizF d)) ∧ Below W.heap.size W w') := fun W hW => sizeFault_any W _ _ _ _ _ _ d (h.later hW)
  have HO : Hid (sizF d = 0 → ∀ W, Below w.heap.size w W → Calls Try.prog 63 #[.agg #[.slice a1 n1 c1, .slice a2 n2 c2]] W fun e w' => ∃ bd, e = .returned (.pointer (some ⟨bd, 0, none⟩)) ∧ Below W.heap.size W w' ∧ DrvK w' bd d) := fun hf W hW => open_drv (h.later hW) (sizF_zero hf).1 hs
  have HRD : Hid (sizF d = 0 → ∀ W bd, DrvK W bd d → Calls Try.prog 64 #[.pointer (some ⟨bd, 0, none⟩), .int .i64 0] W fun e w' => ∃ a n c, e = .returned (.slice a n c) ∧ Below W.heap.size W w' ∧ IntsO w' (.slice a n c) (atF d.1 d.2 0) (fresh W w')) := fun hf W bd hd => read_drv hd 0 (by have := (sizF_zero hf).2; omega)
  have HRA : Hid (sizF d = 0 → superB (atF d.1 d.2 0) = true → seqR d = (0, (atF d.1 d.2 0)[1]?.getD 0)) := fun h1 h2 => by unfold seqR; rw [if_pos h1, if_pos h2]
  have HRB : Hid (sizF d = 0 → superB (atF d.1 d.2 0) = false → seqR d = (5, 0)) := fun h1 h2 => by unfold seqR; rw [if_pos h1, if_neg (by rw [h2]; simp)]
  have HRC : Hid (¬ sizF d = 0 → seqR d = (sizF d, 0)) := fun h1 => by unfold seqR; rw [if_neg h1]
  have HSB : Hid (∃ SB, SB = superB (atF d.1 d.2 0)) := ⟨_, rfl⟩
  clear h hs
  generalize seqR d = RES at *
  generalize sizF d = r at *
  generalize hzz : atF d.1 d.2 0 = zs at *
  clear hzz
  obtain ⟨SB, hsb⟩ := HSB.out
  replace HSB : Hid (SB = superB zs) := hsb
  rw [← hsb] at HRA HRB
  clear hsb
  have HB0 : Hid (Below w.heap.size w ((w.alloc (.cells #[.slice a1 n1 c1, .slice a2 n2 c2] 49)).alloc (.cells #[.int .i64 0, .int .i64 0] 34))) := later2 _ _ _
  have HX0 : Hid (Bx ((w.alloc (.cells #[.slice a1 n1 c1, .slice a2 n2 c2] 49)).alloc (.cells #[.int .i64 0, .int .i64 0] 34)) (w.heap.size) [.slice a1 n1 c1, .slice a2 n2 c2]) := (Bx.new w [.slice a1 n1 c1, .slice a2 n2 c2] _).later (later1 _ _)
  have HR0 : Hid (OwnRow ((w.alloc (.cells #[.slice a1 n1 c1, .slice a2 n2 c2] 49)).alloc (.cells #[.int .i64 0, .int .i64 0] 34)) (w.heap.size + 1) 2 (cel [.int .i64 0, .int .i64 0])) := (show OwnRow ((w.alloc (.cells #[.slice a1 n1 c1, .slice a2 n2 c2] 49)).alloc (.cells #[.int .i64 0, .int .i64 0] 34)) (w.heap.size + 1) 2 (cel [.int .i64 0, .int .i64 0]) from by have := newCel (w.alloc (.cells #[.slice a1 n1 c1, .slice a2 n2 c2] 49)) [.int .i64 0, .int .i64 0] 34; rw [World.size_alloc] at this; exact this)
  go_enter Try.func23, Try.ntmps23
  have xHX0 := HX0.out 0 _ rfl
  have xHX1 := HX0.out 1 _ rfl
  go_wp2_with fail
  clear xHX0 xHX1
  refine (HF.out _ HB0.out).mono ?_
  rintro e w1 ⟨rfl, hb⟩
  have HB1 : Hid (Below w.heap.size w w1) := HB0.out.trans (hb.mono HB0.out.size)
  have HX1 : Hid (Bx w1 (w.heap.size) [.slice a1 n1 c1, .slice a2 n2 c2]) := HX0.out.later hb
  have HR1 : Hid (OwnRow w1 (w.heap.size + 1) 2 (cel [.int .i64 0, .int .i64 0])) := HR0.out.later hb
  clear hb
  by_cases hf : r = 0
  · skip
    have hfb : (r != 0) = false := by simpa using hf
    replace HRA : Hid (SB = true → RES = (0, zs[1]?.getD 0)) := HRA.out hf
    replace HRB : Hid (SB = false → RES = (5, 0)) := HRB.out hf
    clear HRC
    have xHX0 := HX1.out 0 _ rfl
    have xHX1 := HX1.out 1 _ rfl
    go_wp2_with fail
    clear xHX0 xHX1
    refine (HO.out hf _ HB1.out).mono ?_
    rintro e w2 ⟨bd, rfl, hb, hdk⟩
    have HDK : Hid (DrvK w2 bd d) := hdk
    clear hdk
    have HB2 : Hid (Below w.heap.size w w2) := HB1.out.trans (hb.mono HB1.out.size)
    have HX2 : Hid (Bx w2 (w.heap.size) [.slice a1 n1 c1, .slice a2 n2 c2]) := HX1.out.later hb
    have HR2 : Hid (OwnRow w2 (w.heap.size + 1) 2 (cel [.int .i64 0, .int .i64 0])) := HR1.out.later hb
    clear hb
    go_wp2_with fail
    refine (HRD.out hf _ _ HDK.out).mono ?_
    rintro e w3 ⟨az, nz, cz, rfl, hb, ho⟩
    obtain ⟨_, _, ez, _, hat⟩ := ho.reads.open'
    simp only [Value.slice.injEq] at ez
    obtain ⟨rfl, rfl, rfl⟩ := ez
    have HAT : Hid (At1 w3 az zs.length (fun k => .int .i64 (zs[k]?.getD 0))) := hat
    clear ho hat
    have HB3 : Hid (Below w.heap.size w w3) := HB2.out.trans (hb.mono HB2.out.size)
    have HX3 : Hid (Bx w3 (w.heap.size) [.slice a1 n1 c1, .slice a2 n2 c2]) := HX2.out.later hb
    have HR3 : Hid (OwnRow w3 (w.heap.size + 1) 2 (cel [.int .i64 0, .int .i64 0])) := HR2.out.later hb
    clear hb
    clear HF HO HRD HDK
    by_cases hl : zs.length = 2
    · skip
      obtain ⟨z0, z1, rfl⟩ := two_of hl
      have hz0 := HAT.out 0 (by simp)
      have hz1 := HAT.out 1 (by simp)
      obtain ⟨bz, oz, rfl, k0⟩ := hz0
      obtain ⟨_, _, ez, k1⟩ := hz1
      simp only [Option.some.injEq, Addr.mk.injEq, and_true] at ez
      obtain ⟨rfl, rfl⟩ := ez
      replace k0 : w3.cell? ⟨bz, oz + 0, none⟩ = some (.int .i64 z0) := k0
      replace k1 : w3.cell? ⟨bz, oz + 1, none⟩ = some (.int .i64 z1) := k1
      rw [Nat.add_zero] at k0
      have hbz := World.block_lt_of_cell? _ _ k0
      have HS : Hid (SB = (decide (z0 = 7) && seqB z1)) := by unfold Hid; rw [HSB.out, superB_two]
      by_cases h7 : z0 = 7
      · skip
        have h7b : (z0 != 7) = false := by simpa using h7
        cases hq : seqB z1 with
        | true =>
          have HE : Hid (RES = (0, z1)) := HRA.out (by rw [HS.out, decide_eq_true h7, hq]; rfl)
          have HQ : Hid (∀ W, Calls Try.prog 65 #[.int .i64 z1] W fun e w' => e = .returned (.bool true) ∧ w' = W) := fun W => by rw [← hq]; exact isSeq_any W z1
          clear h7 hl HS HSB HAT hq
          go_wp2_with fail
          refine (HQ.out _).mono ?_
          rintro e wq ⟨rfl, hwq⟩
          subst wq
          have hrr := HR3.out
          have t0 : w3.cell? ⟨w.heap.size + 1, 0, none⟩ = some (.int .i64 0) := hrr.cell (i := 0) (by omega)
          have t1 : w3.cell? ⟨w.heap.size + 1, 1, none⟩ = some (.int .i64 0) := hrr.cell (i := 1) (by omega)
          have f0 := hrr.frozen 0
          have f1 := hrr.frozen 1
          have hlr := hrr.lt
          clear hrr
          go_wp2
          exact bodyPost_ret (v := .agg #[.int .i64 0, .int .i64 z1]) (by simp [results, Try.results23, go_sem, t0, t1]) rfl (⟨by rw [HE.out], ((HB3.out).setCell (by first | omega | (simp <;> omega)) _).setCell (by first | omega | (simp <;> omega)) _⟩)
        | false =>
          have HE : Hid (RES = (5, 0)) := HRB.out (by rw [HS.out, hq, Bool.and_false])
          have HQ : Hid (∀ W, Calls Try.prog 65 #[.int .i64 z1] W fun e w' => e = .returned (.bool false) ∧ w' = W) := fun W => by rw [← hq]; exact isSeq_any W z1
          clear h7 hl HS HSB HAT hq
          go_wp2_with fail
          refine (HQ.out _).mono ?_
          rintro e wq ⟨rfl, hwq⟩
          subst wq
          have hrr := HR3.out
          have t0 : w3.cell? ⟨w.heap.size + 1, 0, none⟩ = some (.int .i64 0) := hrr.cell (i := 0) (by omega)
          have t1 : w3.cell? ⟨w.heap.size + 1, 1, none⟩ = some (.int .i64 0) := hrr.cell (i := 1) (by omega)
          have f0 := hrr.frozen 0
          have f1 := hrr.frozen 1
          have hlr := hrr.lt
          clear hrr
          go_wp2
          exact bodyPost_ret (v := .agg #[.int .i64 5, .int .i64 0]) (by simp [results, Try.results23, go_sem, t0, t1]) rfl (⟨by rw [HE.out], ((HB3.out).setCell (by first | omega | (simp <;> omega)) _).setCell (by first | omega | (simp <;> omega)) _⟩)
      · skip
        have h7b : (z0 != 7) = true := by simpa using h7
        have HE : Hid (RES = (5, 0)) := HRB.out (by rw [HS.out, decide_eq_false h7]; rfl)
        clear h7 hl HS HSB HAT
        have hrr := HR3.out
        have t0 : w3.cell? ⟨w.heap.size + 1, 0, none⟩ = some (.int .i64 0) := hrr.cell (i := 0) (by omega)
        have t1 : w3.cell? ⟨w.heap.size + 1, 1, none⟩ = some (.int .i64 0) := hrr.cell (i := 1) (by omega)
        have f0 := hrr.frozen 0
        have f1 := hrr.frozen 1
        have hlr := hrr.lt
        clear hrr
        go_wp2
        exact bodyPost_ret (v := .agg #[.int .i64 5, .int .i64 0]) (by simp [results, Try.results23, go_sem, t0, t1]) rfl (⟨by rw [HE.out], ((HB3.out).setCell (by first | omega | (simp <;> omega)) _).setCell (by first | omega | (simp <;> omega)) _⟩)
    · skip
      have hlb : (((zs.length : Nat) : Int) != 2) = true := by simp; omega
      have HE : Hid (RES = (5, 0)) := HRB.out (by rw [HSB.out, superB_len hl])
      clear hl HSB HAT
      have hrr := HR3.out
      have t0 : w3.cell? ⟨w.heap.size + 1, 0, none⟩ = some (.int .i64 0) := hrr.cell (i := 0) (by omega)
      have t1 : w3.cell? ⟨w.heap.size + 1, 1, none⟩ = some (.int .i64 0) := hrr.cell (i := 1) (by omega)
      have f0 := hrr.frozen 0
      have f1 := hrr.frozen 1
      have hlr := hrr.lt
      clear hrr
      go_wp2
      exact bodyPost_ret (v := .agg #[.int .i64 5, .int .i64 0]) (by simp [results, Try.results23, go_sem, t0, t1]) rfl (⟨by rw [HE.out], ((HB3.out).setCell (by first | omega | (simp <;> omega)) _).setCell (by first | omega | (simp <;> omega)) _⟩)
  · skip
    have hbb : (r != 0) = true := by simpa using hf
    have HE : Hid (RES = (r, 0)) := HRC.out hf
    have hrr := HR1.out
    have t0 : w1.cell? ⟨w.heap.size + 1, 0, none⟩ = some (.int .i64 0) := hrr.cell (i := 0) (by omega)
    have t1 : w1.cell? ⟨w.heap.size + 1, 1, none⟩ = some (.int .i64 0) := hrr.cell (i := 1) (by omega)
    have f0 := hrr.frozen 0
    have f1 := hrr.frozen 1
    have hlr := hrr.lt
    clear hrr
    go_wp2
    exact bodyPost_ret (v := .agg #[.int .i64 r, .int .i64 0]) (by simp [results, Try.results23, go_sem, t0, t1]) rfl (⟨by rw [HE.out], ((HB1.out).setCell (by first | omega | (simp <;> omega)) _).setCell (by first | omega | (simp <;> omega)) _⟩)

set_option maxHeartbeats 3200000 in
theorem specSeqU (w : World) (a1 : Option Addr) (n1 c1 : Nat) (a2 : Option Addr) (n2 c2 : Nat) (d : DK) (h : DiskR w (.slice a1 n1 c1) (.slice a2 n2 c2) d) (_hs : sizeDisk d ≤ 1048576) :
    Calls Try.prog 21 #[.agg #[.slice a1 n1 c1, .slice a2 n2 c2]] w fun e w' => e = .returned (.agg #[.int .i64 (seqR d).1, .int .i64 (seqR d).2]) ∧ Below w.heap.size w w' := by
  obtain ⟨_, _, e1, hm, sB⟩ := h.1.open'
  simp only [Value.slice.injEq] at e1
  obtain ⟨rfl, rfl, rfl⟩ := e1
  obtain ⟨_, _, e2, _, sP⟩ := h.2.open'
  simp only [Value.slice.injEq] at e2
  obtain ⟨rfl, rfl, rfl⟩ := e2
  have HF : Hid (∀ W, Below w.heap.size w W → W.cell? ⟨w.heap.size, 0, none⟩ = some (.slice a1 d.1.length c1) → W.cell? ⟨w.heap.size, 1, none⟩ = some (.slice a2 d.2.length c2) → Calls Try.prog 58 #[.pointer (some ⟨w.heap.size, 0, none⟩)] W fun e w' => e = .returned (.int .i64 (faultF d.1 d.2)) ∧ ∃ m, w' = W.drewN m) := fun W hW x0 x1 => l1Fault_any x0 x1 (h.1.later hW) (h.2.later hW)
  have HRD : Hid (faultF d.1 d.2 = 0 → d.1.length = 47 → ∀ W, Below w.heap.size w W → W.cell? ⟨w.heap.size, 0, none⟩ = some (.slice a1 d.1.length c1) → W.cell? ⟨w.heap.size, 1, none⟩ = some (.slice a2 d.2.length c2) → Calls Try.prog 59 #[.pointer (some ⟨w.heap.size, 0, none⟩), .int .i64 0] W fun e w' => ∃ ua un uc, e = .returned (.slice ua un uc) ∧ Ints W (.slice ua un uc) (atF d.1 d.2 0) ∧ w' = W) := fun hf h47 W hW x0 x1 => l1At_walk W _ _ _ _ c1 _ c2 d.1 d.2 0 (by omega) (faultF_lens hf).1 rfl (faultF_lens hf).2 x0 x1 (sB.later hW) (sP.later hW)
  have HRA : Hid (faultF d.1 d.2 = 0 → d.1.length = 47 → superB (atF d.1 d.2 0) = true → seqR d = (0, (atF d.1 d.2 0)[1]?.getD 0)) := fun h0 h1 h2 => by unfold seqR sizF; rw [if_pos h0, if_pos h1, if_pos rfl, if_pos h2]
  have HRB : Hid (faultF d.1 d.2 = 0 → d.1.length = 47 → superB (atF d.1 d.2 0) = false → seqR d = (5, 0)) := fun h0 h1 h2 => by unfold seqR sizF; rw [if_pos h0, if_pos h1, if_pos rfl, if_neg (by rw [h2]; simp)]
  have HRC : Hid (¬ faultF d.1 d.2 = 0 → seqR d = (faultF d.1 d.2, 0)) := fun h0 => by unfold seqR sizF; rw [if_neg h0, if_neg h0]
  have HRE : Hid (faultF d.1 d.2 = 0 → ¬ d.1.length = 47 → seqR d = (1, 0)) := fun h0 h1 => by unfold seqR sizF; rw [if_pos h0, if_neg h1, if_neg (by decide)]
  have HSB : Hid (∃ SB, SB = superB (atF d.1 d.2 0)) := ⟨_, rfl⟩
  unfold maxLen at hm
  clear h sB sP
  generalize seqR d = RES at *
  generalize hff : faultF d.1 d.2 = r at *
  generalize hzz : atF d.1 d.2 0 = zs at *
  clear hzz hff
  generalize d.1.length = n1 at *
  generalize d.2.length = n2 at *
  obtain ⟨SB, hsb⟩ := HSB.out
  replace HSB : Hid (SB = superB zs) := hsb
  rw [← hsb] at HRA HRB
  clear hsb
  have HB0 : Hid (Below w.heap.size w ((w.alloc (.cells #[.slice a1 n1 c1, .slice a2 n2 c2] 49)).alloc (.cells #[.int .i64 0, .int .i64 0] 34))) := later2 _ _ _
  have HX0 : Hid (Bx ((w.alloc (.cells #[.slice a1 n1 c1, .slice a2 n2 c2] 49)).alloc (.cells #[.int .i64 0, .int .i64 0] 34)) (w.heap.size) [.slice a1 n1 c1, .slice a2 n2 c2]) := (Bx.new w [.slice a1 n1 c1, .slice a2 n2 c2] _).later (later1 _ _)
  have HR0 : Hid (OwnRow ((w.alloc (.cells #[.slice a1 n1 c1, .slice a2 n2 c2] 49)).alloc (.cells #[.int .i64 0, .int .i64 0] 34)) (w.heap.size + 1) 2 (cel [.int .i64 0, .int .i64 0])) := (show OwnRow ((w.alloc (.cells #[.slice a1 n1 c1, .slice a2 n2 c2] 49)).alloc (.cells #[.int .i64 0, .int .i64 0] 34)) (w.heap.size + 1) 2 (cel [.int .i64 0, .int .i64 0]) from by have := newCel (w.alloc (.cells #[.slice a1 n1 c1, .slice a2 n2 c2] 49)) [.int .i64 0, .int .i64 0] 34; rw [World.size_alloc] at this; exact this)
  go_enter Try.func21, Try.ntmps21
  go_wp2_with fail
  refine (HF.out _ HB0.out (HX0.out 0 _ rfl) (HX0.out 1 _ rfl)).mono ?_
  rintro e w1 ⟨rfl, m, rfl⟩
  have hb := below_drewN (Below.refl ((w.alloc (.cells #[.slice a1 n1 c1, .slice a2 n2 c2] 49)).alloc (.cells #[.int .i64 0, .int .i64 0] 34)).heap.size ((w.alloc (.cells #[.slice a1 n1 c1, .slice a2 n2 c2] 49)).alloc (.cells #[.int .i64 0, .int .i64 0] 34))) m
  have HB1 : Hid (Below w.heap.size w (((w.alloc (.cells #[.slice a1 n1 c1, .slice a2 n2 c2] 49)).alloc (.cells #[.int .i64 0, .int .i64 0] 34)).drewN m)) := HB0.out.trans (hb.mono HB0.out.size)
  have HX1 : Hid (Bx (((w.alloc (.cells #[.slice a1 n1 c1, .slice a2 n2 c2] 49)).alloc (.cells #[.int .i64 0, .int .i64 0] 34)).drewN m) (w.heap.size) [.slice a1 n1 c1, .slice a2 n2 c2]) := HX0.out.later hb
  have HR1 : Hid (OwnRow (((w.alloc (.cells #[.slice a1 n1 c1, .slice a2 n2 c2] 49)).alloc (.cells #[.int .i64 0, .int .i64 0] 34)).drewN m) (w.heap.size + 1) 2 (cel [.int .i64 0, .int .i64 0])) := HR0.out.later hb
  clear hb
  generalize (((w.alloc (.cells #[.slice a1 n1 c1, .slice a2 n2 c2] 49)).alloc (.cells #[.int .i64 0, .int .i64 0] 34)).drewN m) = w1 at *
  by_cases hf : r = 0
  · skip
    have hfb : (r != 0) = false := by simpa using hf
    by_cases hq : n1 = 47
    · skip
      have h47 : (((n1 : Nat) : Int) != 47) = false := by simp; omega
      replace HRA : Hid (SB = true → RES = (0, zs[1]?.getD 0)) := HRA.out hf hq
      replace HRB : Hid (SB = false → RES = (5, 0)) := HRB.out hf hq
      clear HRC HRE
      have xHX0 := HX1.out 0 _ rfl
      go_wp2_with fail
      clear xHX0
      refine (HRD.out hf hq _ HB1.out (HX1.out 0 _ rfl) (HX1.out 1 _ rfl)).mono ?_
      rintro e w2 ⟨az, nz, cz, rfl, ho, hw2⟩
      subst w2
      obtain ⟨_, _, ez, _, hat⟩ := ho.open'
      simp only [Value.slice.injEq] at ez
      obtain ⟨rfl, rfl, rfl⟩ := ez
      have HAT : Hid (At1 w1 az zs.length (fun k => .int .i64 (zs[k]?.getD 0))) := hat
      clear ho hat HF HRD
      by_cases hl : zs.length = 2
      · skip
        obtain ⟨z0, z1, rfl⟩ := two_of hl
        have hz0 := HAT.out 0 (by simp)
        have hz1 := HAT.out 1 (by simp)
        obtain ⟨bz, oz, rfl, k0⟩ := hz0
        obtain ⟨_, _, ez, k1⟩ := hz1
        simp only [Option.some.injEq, Addr.mk.injEq, and_true] at ez
        obtain ⟨rfl, rfl⟩ := ez
        replace k0 : w1.cell? ⟨bz, oz + 0, none⟩ = some (.int .i64 z0) := k0
        replace k1 : w1.cell? ⟨bz, oz + 1, none⟩ = some (.int .i64 z1) := k1
        rw [Nat.add_zero] at k0
        have hbz := World.block_lt_of_cell? _ _ k0
        have HS : Hid (SB = (decide (z0 = 7) && seqB z1)) := by unfold Hid; rw [HSB.out, superB_two]
        by_cases h7 : z0 = 7
        · skip
          have h7b : (z0 != 7) = false := by simpa using h7
          cases hq : seqB z1 with
          | true =>
            have HE : Hid (RES = (0, z1)) := HRA.out (by rw [HS.out, decide_eq_true h7, hq]; rfl)
            have HQ : Hid (∀ W, Calls Try.prog 60 #[.int .i64 z1] W fun e w' => e = .returned (.bool true) ∧ w' = W) := fun W => by rw [← hq]; exact l12Seq_any W z1
            clear h7 hl HS HSB HAT hq
            go_wp2_with fail
            refine (HQ.out _).mono ?_
            rintro e wq ⟨rfl, hwq⟩
            subst wq
            have hrr := HR1.out
            have t0 : w1.cell? ⟨w.heap.size + 1, 0, none⟩ = some (.int .i64 0) := hrr.cell (i := 0) (by omega)
            have t1 : w1.cell? ⟨w.heap.size + 1, 1, none⟩ = some (.int .i64 0) := hrr.cell (i := 1) (by omega)
            have f0 := hrr.frozen 0
            have f1 := hrr.frozen 1
            have hlr := hrr.lt
            clear hrr
            go_wp2
            exact bodyPost_ret (v := .agg #[.int .i64 0, .int .i64 z1]) (by simp [results, Try.results21, go_sem, t0, t1]) rfl (⟨by rw [HE.out], ((HB1.out).setCell (by first | omega | (simp <;> omega)) _).setCell (by first | omega | (simp <;> omega)) _⟩)
          | false =>
            have HE : Hid (RES = (5, 0)) := HRB.out (by rw [HS.out, hq, Bool.and_false])
            have HQ : Hid (∀ W, Calls Try.prog 60 #[.int .i64 z1] W fun e w' => e = .returned (.bool false) ∧ w' = W) := fun W => by rw [← hq]; exact l12Seq_any W z1
            clear h7 hl HS HSB HAT hq
            go_wp2_with fail
            refine (HQ.out _).mono ?_
            rintro e wq ⟨rfl, hwq⟩
            subst wq
            have hrr := HR1.out
            have t0 : w1.cell? ⟨w.heap.size + 1, 0, none⟩ = some (.int .i64 0) := hrr.cell (i := 0) (by omega)
            have t1 : w1.cell? ⟨w.heap.size + 1, 1, none⟩ = some (.int .i64 0) := hrr.cell (i := 1) (by omega)
            have f0 := hrr.frozen 0
            have f1 := hrr.frozen 1
            have hlr := hrr.lt
            clear hrr
            go_wp2
            exact bodyPost_ret (v := .agg #[.int .i64 5, .int .i64 0]) (by simp [results, Try.results21, go_sem, t0, t1]) rfl (⟨by rw [HE.out], ((HB1.out).setCell (by first | omega | (simp <;> omega)) _).setCell (by first | omega | (simp <;> omega)) _⟩)
        · skip
          have h7b : (z0 != 7) = true := by simpa using h7
          have HE : Hid (RES = (5, 0)) := HRB.out (by rw [HS.out, decide_eq_false h7]; rfl)
          clear h7 hl HS HSB HAT
          have hrr := HR1.out
          have t0 : w1.cell? ⟨w.heap.size + 1, 0, none⟩ = some (.int .i64 0) := hrr.cell (i := 0) (by omega)
          have t1 : w1.cell? ⟨w.heap.size + 1, 1, none⟩ = some (.int .i64 0) := hrr.cell (i := 1) (by omega)
          have f0 := hrr.frozen 0
          have f1 := hrr.frozen 1
          have hlr := hrr.lt
          clear hrr
          go_wp2
          exact bodyPost_ret (v := .agg #[.int .i64 5, .int .i64 0]) (by simp [results, Try.results21, go_sem, t0, t1]) rfl (⟨by rw [HE.out], ((HB1.out).setCell (by first | omega | (simp <;> omega)) _).setCell (by first | omega | (simp <;> omega)) _⟩)
      · skip
        have hlb : (((zs.length : Nat) : Int) != 2) = true := by simp; omega
        have HE : Hid (RES = (5, 0)) := HRB.out (by rw [HSB.out, superB_len hl])
        clear hl HSB HAT
        have hrr := HR1.out
        have t0 : w1.cell? ⟨w.heap.size + 1, 0, none⟩ = some (.int .i64 0) := hrr.cell (i := 0) (by omega)
        have t1 : w1.cell? ⟨w.heap.size + 1, 1, none⟩ = some (.int .i64 0) := hrr.cell (i := 1) (by omega)
        have f0 := hrr.frozen 0
        have f1 := hrr.frozen 1
        have hlr := hrr.lt
        clear hrr
        go_wp2
        exact bodyPost_ret (v := .agg #[.int .i64 5, .int .i64 0]) (by simp [results, Try.results21, go_sem, t0, t1]) rfl (⟨by rw [HE.out], ((HB1.out).setCell (by first | omega | (simp <;> omega)) _).setCell (by first | omega | (simp <;> omega)) _⟩)
    · skip
      have h47 : (((n1 : Nat) : Int) != 47) = true := by simp; omega
      have HE : Hid (RES = (1, 0)) := HRE.out hf hq
      have xHX0 := HX1.out 0 _ rfl
      have hrr := HR1.out
      have t0 : w1.cell? ⟨w.heap.size + 1, 0, none⟩ = some (.int .i64 0) := hrr.cell (i := 0) (by omega)
      have t1 : w1.cell? ⟨w.heap.size + 1, 1, none⟩ = some (.int .i64 0) := hrr.cell (i := 1) (by omega)
      have f0 := hrr.frozen 0
      have f1 := hrr.frozen 1
      have hlr := hrr.lt
      clear hrr
      go_wp2
      exact bodyPost_ret (v := .agg #[.int .i64 1, .int .i64 0]) (by simp [results, Try.results21, go_sem, t0, t1]) rfl (⟨by rw [HE.out], ((HB1.out).setCell (by first | omega | (simp <;> omega)) _).setCell (by first | omega | (simp <;> omega)) _⟩)
  · skip
    have hbb : (r != 0) = true := by simpa using hf
    have HE : Hid (RES = (r, 0)) := HRC.out hf
    have hrr := HR1.out
    have t0 : w1.cell? ⟨w.heap.size + 1, 0, none⟩ = some (.int .i64 0) := hrr.cell (i := 0) (by omega)
    have t1 : w1.cell? ⟨w.heap.size + 1, 1, none⟩ = some (.int .i64 0) := hrr.cell (i := 1) (by omega)
    have f0 := hrr.frozen 0
    have f1 := hrr.frozen 1
    have hlr := hrr.lt
    clear hrr
    go_wp2
    exact bodyPost_ret (v := .agg #[.int .i64 r, .int .i64 0]) (by simp [results, Try.results21, go_sem, t0, t1]) rfl (⟨by rw [HE.out], ((HB1.out).setCell (by first | omega | (simp <;> omega)) _).setCell (by first | omega | (simp <;> omega)) _⟩)

end Go.Proofs.Ytagmmgcdebgfnaa

/- Whether two file systems are the same: the program. The law of SameFs: at every argument the program answers as the specification, leaves its arguments as they were, and its answer owns its memory. From the reading of an argument to the lists that it holds. No program is named here. What the rows of this seat share: how a disk that came in is opened. How inodes that came in are opened. How lists of inodes that came in are opened. How file systems that came in are opened. -/
import Derived.Test.YtdgnhcfnhbkmlalM06
import Derived.Test.YtdgnhcfnhbkmlalM09
import Derived.Test.YtdgnhcfnhbkmlalM04
import Derived.Test.YtdgnhcfnhbkmlalM00
import Derived.ProofKit
import Derived.Deep.Slices
import Derived.Deep.SlicePairs
import Derived.Lib.SmallJoins
import Derived.Test.YtdgnhcfnhbkmlalRows
import Derived.Test.YtdgnhcfnhbkmlalM02
import Derived.Test.YtdgnhcfnhbkmlalM03
namespace Go.Proofs.Ytdgnhcfnhbkmlal
open Go.RowKit
set_option maxRecDepth 100000

noncomputable def sameLB (ds ds' : List ID) : Bool := @decide (ds = ds') (Classical.propDecidable _)
theorem lbNo {ds ds' : List ID} (h : ¬ ds = ds') : sameLB ds ds' = false := @decide_eq_false _ (Classical.propDecidable _) h
theorem lbYes {ds ds' : List ID} (h : ds = ds') : sameLB ds ds' = true := @decide_eq_true _ (Classical.propDecidable _) h
theorem sameFB_eq (d d' : FD) : sameFB d d' = (sameLB d.1 d'.1 && decide (d.2 = d'.2)) := by
  by_cases h1 : d.1 = d'.1
  · by_cases h2 : d.2 = d'.2
    · rw [fdYes h1 h2, lbYes h1, decide_eq_true h2]; rfl
    · rw [fdNo2 h2, decide_eq_false h2, Bool.and_false]
  · rw [fdNo1 h1, lbNo h1]; rfl

set_option maxHeartbeats 400000 in
theorem eqfY_len (w : World) (a a' : Option Addr) (cap cap' n n' : Nat) (f : Value) (hn : ¬ n = n') :
    Calls Try.prog 65 #[.slice a n cap, .slice a' n' cap', f] w fun e w' => e = .returned (.bool false) ∧ w' = w := by
  have hb : ((n : Int) != (n' : Int)) = true := by simp; omega
  clear hn
  go_enter Try.func65, Try.ntmps65
  go_wp2
  go_ret
  exact ⟨rfl, rfl⟩
set_option maxHeartbeats 1600000 in
theorem eqfY_walk (w : World) (a a' : Option Addr) (cap cap' n : Nat) (xs ys : List (List UInt8)) (hx : xs.length = n) (hy : ys.length = n) (hn : n ≤ maxLen) (cx : AtYs w a n xs) (cy : AtYs w a' n ys) :
    Calls Try.prog 65 #[.slice a n cap, .slice a' n cap', .func (.func 66) #[] #[]] w fun e w' => e = .returned (.bool (decide (xs = ys))) ∧ Below w.heap.size w w' := by
  unfold maxLen at hn
  have HX : Hid (xs.length = n) := hx
  have HY : Hid (ys.length = n) := hy
  have HCX : Hid (AtYs w a n xs) := cx
  have HCY : Hid (AtYs w a' n ys) := cy
  have hnn : ((n : Int) != (n : Int)) = false := by simp
  clear hx hy cx cy
  go_enter Try.func65, Try.ntmps65
  go_wp2
  go_loopw [17] (fun i wr => ∃ k : Nat, k ≤ n ∧ i = .int .i64 k ∧ Below w.heap.size w wr ∧ xs.take k = ys.take k) (fun i _ => n - (intOf i).toNat)
  case atStart => exact ⟨0, Nat.zero_le _, rfl, Below.refl _ _, rfl⟩
  case round =>
    obtain ⟨k, hk, rfl, hbl, ht⟩ := hrel
    have HT : Hid (xs.take k = ys.take k) := ht
    have HB : Hid (Below w.heap.size w wr) := hbl
    clear ht hbl
    by_cases hlt : k < n
    · obtain ⟨b, o, ua, uc, rfl, d0, i0⟩ := HCX.out k hlt
      obtain ⟨b', o', ua', uc', rfl, d1, i1⟩ := HCY.out k hlt
      replace d0 := cell_later HB.out d0
      replace d1 := cell_later HB.out d1
      have HEQ : Hid (Calls Try.prog 66 #[.slice ua (xs[k]?.getD []).length uc, .slice ua' (ys[k]?.getD []).length uc'] wr fun e w' => e = .returned (.bool (decide (xs[k]?.getD [] = ys[k]?.getD []))) ∧ ∃ m, w' = wr.drewN m) := equalY_any (i0.later HB.out) (i1.later HB.out)
      have HTT : Hid (xs[k]?.getD [] = ys[k]?.getD [] → xs.take (k + 1) = ys.take (k + 1)) := fun e => take_more [] HX.out HY.out hlt HT.out e
      have HNO : Hid (¬ xs[k]?.getD [] = ys[k]?.getD [] → decide (xs = ys) = false) := fun e => by simp; intro h; exact e (by rw [h])
      clear i0 i1
      generalize xs[k]?.getD [] = X at *
      generalize ys[k]?.getD [] = Y at *
      by_cases he : X = Y
      · have HT2 : Hid (xs.take (k + 1) = ys.take (k + 1)) := HTT.out he
        rw [decide_eq_true he] at HEQ
        clear he HTT HNO
        generalize X.length = lx at *
        generalize Y.length = ly at *
        go_wp2_with fail
        refine HEQ.out.mono ?_
        rintro e w1 ⟨rfl, m, rfl⟩
        have HB1 : Hid (Below w.heap.size w (wr.drewN m)) := below_drewN HB.out m
        go_wp2
        go_roundw
        case rel => exact ⟨k + 1, by omega, by go_num, HB1.out, HT2.out⟩
        case measure => simp [intOf]; omega
      · have HR : Hid (decide (xs = ys) = false) := HNO.out he
        rw [decide_eq_false he] at HEQ
        clear he HTT HNO
        generalize X.length = lx at *
        generalize Y.length = ly at *
        go_wp2_with fail
        refine HEQ.out.mono ?_
        rintro e w1 ⟨rfl, m, rfl⟩
        have HB1 : Hid (Below w.heap.size w (wr.drewN m)) := below_drewN HB.out m
        go_wp2
        go_ret
        exact ⟨ret_bool HR.out.symm, HB1.out⟩
    · have HR : Hid (decide (xs = ys) = true) := by unfold Hid; simp; exact takeEq HX.out HY.out (by have := HT.out; rwa [show k = n by omega] at this)
      go_wp2
      go_ret
      exact ⟨ret_bool HR.out.symm, HB.out⟩
theorem eqfY_any {w : World} {va vb : Value} {xs ys : List (List UInt8)} (ha : Byts w va xs) (hb : Byts w vb ys) :
    Calls Try.prog 65 #[va, vb, .func (.func 66) #[] #[]] w fun e w' => e = .returned (.bool (decide (xs = ys))) ∧ Below w.heap.size w w' := by
  obtain ⟨a, cap, rfl, hm, hc⟩ := ha.open'
  obtain ⟨a', cap', rfl, hm', hc'⟩ := hb.open'
  by_cases h : xs.length = ys.length
  · rw [h] at hc ⊢
    exact eqfY_walk w a a' cap cap' ys.length xs ys h rfl hm'.1 hc hc'
  · have hd : decide (xs = ys) = false := by simp; intro e; exact h (by rw [e])
    rw [hd]
    exact (eqfY_len w a a' cap cap' _ _ _ h).mono fun e w' ⟨h1, h2⟩ => ⟨h1, h2 ▸ Below.refl _ _⟩

set_option maxHeartbeats 400000 in
theorem eqfI_len (w : World) (a a' : Option Addr) (cap cap' n n' : Nat) (f : Value) (hn : ¬ n = n') :
    Calls Try.prog 63 #[.slice a n cap, .slice a' n' cap', f] w fun e w' => e = .returned (.bool false) ∧ w' = w := by
  have hb : ((n : Int) != (n' : Int)) = true := by simp; omega
  clear hn
  go_enter Try.func63, Try.ntmps63
  go_wp2
  go_ret
  exact ⟨rfl, rfl⟩
set_option maxHeartbeats 3200000 in
theorem eqfI_walk (w : World) (a a' : Option Addr) (cap cap' n : Nat) (xs ys : List ID) (hx : xs.length = n) (hy : ys.length = n) (hn : n ≤ maxLen) (cx : AtI w a n xs) (cy : AtI w a' n ys) (zx : ∀ k : Nat, sizeIno (xs[k]?.getD id0) ≤ 1048576) (zy : ∀ k : Nat, sizeIno (ys[k]?.getD id0) ≤ 1048576) :
    Calls Try.prog 63 #[.slice a n cap, .slice a' n cap', .func (.func 64) #[] #[]] w fun e w' => e = .returned (.bool (sameLB xs ys)) ∧ Below w.heap.size w w' := by
  unfold maxLen at hn
  have HX : Hid (xs.length = n) := hx
  have HY : Hid (ys.length = n) := hy
  have HCX : Hid (AtI w a n xs) := cx
  have HCY : Hid (AtI w a' n ys) := cy
  have HZX : Hid (∀ k : Nat, sizeIno (xs[k]?.getD id0) ≤ 1048576) := zx
  have HZY : Hid (∀ k : Nat, sizeIno (ys[k]?.getD id0) ≤ 1048576) := zy
  have hnn : ((n : Int) != (n : Int)) = false := by simp
  clear hx hy cx cy zx zy
  go_enter Try.func63, Try.ntmps63
  go_wp2
  go_loopw [17] (fun i wr => ∃ k : Nat, k ≤ n ∧ i = .int .i64 k ∧ Below w.heap.size w wr ∧ xs.take k = ys.take k) (fun i _ => n - (intOf i).toNat)
  case atStart => exact ⟨0, Nat.zero_le _, rfl, Below.refl _ _, rfl⟩
  case round =>
    obtain ⟨k, hk, rfl, hbl, ht⟩ := hrel
    have HT : Hid (xs.take k = ys.take k) := ht
    have HB : Hid (Below w.heap.size w wr) := hbl
    clear ht hbl
    by_cases hlt : k < n
    · obtain ⟨b, o, rfl, hA⟩ := HCX.out k hlt
      obtain ⟨b', o', rfl, hA'⟩ := HCY.out k hlt
      obtain ⟨aB, cB, aE, cE, c0, c1, c2, c3, c4, hR⟩ := hA.later HB.out
      obtain ⟨aB', cB', aE', cE', e0, e1, e2, e3, e4, hR'⟩ := hA'.later HB.out
      have hlo := lt_of_cell c0
      have hlo' := lt_of_cell e0
      have hzx := HZX.out k
      have hzy := HZY.out k
      have HEQ : Hid (∀ W, Below wr.heap.size wr W → Calls Try.prog 64 #[.agg #[.int .i64 (xs[k]?.getD id0).1, .int .i64 (xs[k]?.getD id0).2.1, .int .i64 (xs[k]?.getD id0).2.2.1, .slice aB (xs[k]?.getD id0).2.2.2.1.length cB, .slice aE (xs[k]?.getD id0).2.2.2.2.length cE], .agg #[.int .i64 (ys[k]?.getD id0).1, .int .i64 (ys[k]?.getD id0).2.1, .int .i64 (ys[k]?.getD id0).2.2.1, .slice aB' (ys[k]?.getD id0).2.2.2.1.length cB', .slice aE' (ys[k]?.getD id0).2.2.2.2.length cE']] W fun e w' => e = .returned (.bool (sameB (xs[k]?.getD id0) (ys[k]?.getD id0))) ∧ Below W.heap.size W w') := fun W hW =>
        implSameU W _ _ _ _ _ _ _ _ _ _ _ _ _ _ _ _ _ _ _ _ (hR.later hW) (hR'.later hW) hzx hzy
      have HTT : Hid (xs[k]?.getD id0 = ys[k]?.getD id0 → xs.take (k + 1) = ys.take (k + 1)) := fun e => take_more id0 HX.out HY.out hlt HT.out e
      have HNO : Hid (¬ xs[k]?.getD id0 = ys[k]?.getD id0 → sameLB xs ys = false) := fun e => lbNo fun h => e (by rw [h])
      clear hA hA' hR hR' hzx hzy HCX HCY HZX HZY
      generalize xs[k]?.getD id0 = X at *
      generalize ys[k]?.getD id0 = Y at *
      by_cases he : X = Y
      · have HT2 : Hid (xs.take (k + 1) = ys.take (k + 1)) := HTT.out he
        rw [sameB_yes he] at HEQ
        clear he HTT HNO
        obtain ⟨x0, x1, x2, xB, xE⟩ := X
        obtain ⟨y0, y1, y2, yB, yE⟩ := Y
        dsimp only at *
        generalize xB.length = l1 at *
        generalize xE.length = l2 at *
        generalize yB.length = l3 at *
        generalize yE.length = l4 at *
        go_wp2_with fail
        refine (HEQ.out _ (later2 _ _ _)).mono ?_
        rintro e w1 ⟨rfl, hb1⟩
        have HB1 : Hid (Below w.heap.size w w1) := HB.out.trans (((later2 _ _ _).trans (hb1.mono (by simp; omega))).mono HB.out.size)
        clear hb1
        go_wp2
        go_roundw
        case rel => exact ⟨k + 1, by omega, by go_num, HB1.out, HT2.out⟩
        case measure => simp [intOf]; omega
      · have HR : Hid (sameLB xs ys = false) := HNO.out he
        rw [sameB_no he] at HEQ
        clear he HTT HNO
        obtain ⟨x0, x1, x2, xB, xE⟩ := X
        obtain ⟨y0, y1, y2, yB, yE⟩ := Y
        dsimp only at *
        generalize xB.length = l1 at *
        generalize xE.length = l2 at *
        generalize yB.length = l3 at *
        generalize yE.length = l4 at *
        go_wp2_with fail
        refine (HEQ.out _ (later2 _ _ _)).mono ?_
        rintro e w1 ⟨rfl, hb1⟩
        have HB1 : Hid (Below w.heap.size w w1) := HB.out.trans (((later2 _ _ _).trans (hb1.mono (by simp; omega))).mono HB.out.size)
        clear hb1
        go_wp2
        go_ret
        exact ⟨ret_bool HR.out.symm, HB1.out⟩
    · have HR : Hid (sameLB xs ys = true) := lbYes (takeEq HX.out HY.out (by have := HT.out; rwa [show k = n by omega] at this))
      go_wp2
      go_ret
      exact ⟨ret_bool HR.out.symm, HB.out⟩
theorem eqfI_any {w : World} {va vb : Value} {xs ys : List ID} (ha : Inos w va xs) (hb : Inos w vb ys) (hs : sizeInos xs ≤ 1048576) (hs' : sizeInos ys ≤ 1048576) :
    Calls Try.prog 63 #[va, vb, .func (.func 64) #[] #[]] w fun e w' => e = .returned (.bool (sameLB xs ys)) ∧ Below w.heap.size w w' := by
  obtain ⟨a, cap, rfl, hm, hc⟩ := ha.open'
  obtain ⟨a', cap', rfl, hm', hc'⟩ := hb.open'
  by_cases h : xs.length = ys.length
  · rw [h] at hc ⊢
    exact eqfI_walk w a a' cap cap' ys.length xs ys h rfl hm'.1 hc hc' (fun k => by have := isz_le xs k; unfold sizeInos at hs; omega) (fun k => by have := isz_le ys k; unfold sizeInos at hs'; omega)
  · rw [lbNo fun e => h (by rw [e])]
    exact (eqfI_len w a a' cap cap' _ _ _ h).mono fun e w' ⟨h1, h2⟩ => ⟨h1, h2 ▸ Below.refl _ _⟩

set_option maxHeartbeats 1600000 in
theorem specSmfU (w : World) (a1 : Option Addr) (n1 c1 : Nat) (a2 : Option Addr) (n2 c2 : Nat) (d : FD) (b1 : Option Addr) (m1 k1 : Nat) (b2 : Option Addr) (m2 k2 : Nat) (d' : FD) (h : FsR w (.slice a1 n1 c1) (.slice a2 n2 c2) d) (h' : FsR w (.slice b1 m1 k1) (.slice b2 m2 k2) d') (_hs : sizeFs d ≤ 1048576) (_hs' : sizeFs d' ≤ 1048576) :
    Calls Try.prog 33 #[.agg #[.slice a1 n1 c1, .slice a2 n2 c2], .agg #[.slice b1 m1 k1, .slice b2 m2 k2]] w fun e w' => e = .returned (.bool (sameFB d d')) ∧ Below w.heap.size w w' := by
  obtain ⟨hx, -, -⟩ := FsX.box h 30
  obtain ⟨hy, -, -⟩ := FsX.box (h'.later (later1 w (.cells #[.slice a1 n1 c1, .slice a2 n2 c2] 30))) 30
  replace hx := hx.later (later1 _ (.cells #[.slice b1 m1 k1, .slice b2 m2 k2] 30))
  rw [World.size_alloc] at hy
  have HS : Hid (Calls Try.prog 62 _ _ _) := l6Same_any _ _ _ _ _ d d' _ _ _ _ _ _ _ _ hx hy
  clear h h' hx hy
  go_enter Try.func33, Try.ntmps33
  go_wp2_with fail
  refine HS.out.mono ?_
  rintro e w1 ⟨rfl, m, rfl⟩
  have HB1 : Hid (Below w.heap.size w _) := below_drewN (later2 w (.cells #[.slice a1 n1 c1, .slice a2 n2 c2] 30) (.cells #[.slice b1 m1 k1, .slice b2 m2 k2] 30)) m
  go_wp2
  go_ret
  exact ⟨rfl, HB1.out⟩

set_option maxHeartbeats 1600000 in
theorem implSmfU (w : World) (a1 : Option Addr) (n1 c1 : Nat) (a2 : Option Addr) (n2 c2 : Nat) (d : FD) (b1 : Option Addr) (m1 k1 : Nat) (b2 : Option Addr) (m2 k2 : Nat) (d' : FD) (h : FsR w (.slice a1 n1 c1) (.slice a2 n2 c2) d) (h' : FsR w (.slice b1 m1 k1) (.slice b2 m2 k2) d') (hs : sizeFs d ≤ 1048576) (hs' : sizeFs d' ≤ 1048576) :
    Calls Try.prog 34 #[.agg #[.slice a1 n1 c1, .slice a2 n2 c2], .agg #[.slice b1 m1 k1, .slice b2 m2 k2]] w fun e w' => e = .returned (.bool (sameFB d d')) ∧ Below w.heap.size w w' := by
  have HI : Hid (∀ W, Below w.heap.size w W → Calls Try.prog 63 #[.slice a1 n1 c1, .slice b1 m1 k1, .func (.func 64) #[] #[]] W fun e w' => e = .returned (.bool (sameLB d.1 d'.1)) ∧ Below W.heap.size W w') := fun W hW => eqfI_any (h.1.later hW) (h'.1.later hW) (by unfold sizeFs at hs; omega) (by unfold sizeFs at hs'; omega)
  have HY : Hid (∀ W, Below w.heap.size w W → Calls Try.prog 65 #[.slice a2 n2 c2, .slice b2 m2 k2, .func (.func 66) #[] #[]] W fun e w' => e = .returned (.bool (decide (d.2 = d'.2))) ∧ Below W.heap.size W w') := fun W hW => eqfY_any (h.2.later hW) (h'.2.later hW)
  have HX : Hid (Bx ((w.alloc (.cells #[.slice a1 n1 c1, .slice a2 n2 c2] 30)).alloc (.cells #[.slice b1 m1 k1, .slice b2 m2 k2] 30)) w.heap.size [.slice a1 n1 c1, .slice a2 n2 c2]) := (Bx.new w [.slice a1 n1 c1, .slice a2 n2 c2] _).later (later1 _ _)
  have HZ : Hid (Bx ((w.alloc (.cells #[.slice a1 n1 c1, .slice a2 n2 c2] 30)).alloc (.cells #[.slice b1 m1 k1, .slice b2 m2 k2] 30)) (w.heap.size + 1) [.slice b1 m1 k1, .slice b2 m2 k2]) := by
    have := Bx.new (w.alloc (.cells #[.slice a1 n1 c1, .slice a2 n2 c2] 30)) [.slice b1 m1 k1, .slice b2 m2 k2] 30
    rw [World.size_alloc] at this
    exact this
  have HE : Hid (sameFB d d' = (sameLB d.1 d'.1 && decide (d.2 = d'.2))) := sameFB_eq d d'
  rw [HE.out]
  clear h h' hs hs' HE
  generalize sameLB d.1 d'.1 = lb at *
  generalize decide (d.2 = d'.2) = yb at *
  cases lb with
  | false =>
    go_enter Try.func34, Try.ntmps34
    go_wp2_with fail
    refine (HI.out _ (later2 _ _ _)).mono ?_
    rintro e w1 ⟨rfl, hb1⟩
    have HB1 : Hid (Below w.heap.size w w1) := (later2 _ _ _).trans (hb1.mono (by simp; omega))
    clear hb1
    go_wp2
    go_ret
    exact ⟨rfl, HB1.out⟩
  | true =>
    go_enter Try.func34, Try.ntmps34
    go_wp2_with fail
    refine (HI.out _ (later2 _ _ _)).mono ?_
    rintro e w1 ⟨rfl, hb1⟩
    have HB1 : Hid (Below w.heap.size w w1) := (later2 _ _ _).trans (hb1.mono (by simp; omega))
    have x1 := (HX.out.later hb1) 1 _ rfl
    have y1 := (HZ.out.later hb1) 1 _ rfl
    clear hb1
    go_wp2_with fail
    refine (HY.out _ HB1.out).mono ?_
    rintro e w2 ⟨rfl, hb2⟩
    have HB2 : Hid (Below w.heap.size w w2) := HB1.out.trans (hb2.mono HB1.out.size)
    clear hb2
    go_wp2
    go_ret
    exact ⟨rfl, HB2.out⟩
end Go.Proofs.Ytdgnhcfnhbkmlal

namespace Go.Proofs.Ytdgnhcfnhbkmlal
open Go.RowKit
set_option maxRecDepth 100000

set_option maxHeartbeats 1600000 in
theorem lawSameFs_big0 (w : World) (a0x0 : Option Addr) (n0x0 c0x0 : Nat) (a1x0 : Option Addr) (n1x0 c1x0 : Nat) (dx0 : FD) (a0x1 : Option Addr) (n0x1 c0x1 : Nat) (a1x1 : Option Addr) (n1x1 c1x1 : Nat) (hx0 : FsR w (.slice a0x0 n0x0 c0x0) (.slice a1x0 n1x0 c1x0) dx0) (hsz : 1048576 < sizeFs dx0) :
    Calls Try.prog 7 #[.agg #[.slice a0x0 n0x0 c0x0, .slice a1x0 n1x0 c1x0], .agg #[.slice a0x1 n0x1 c0x1, .slice a1x1 n1x1 c1x1]] w fun e w' => e = .returned (.bool true) ∧ Below w.heap.size w w' := by
  have Hx0 : Hid (FsR w (.slice a0x0 n0x0 c0x0) (.slice a1x0 n1x0 c1x0) dx0) := hx0
  have HS : Hid (szf 1048576 (sizeFs dx0) = -1) := szf_no (by omega)
  clear hx0 hsz
  go_enter Try.func7, Try.ntmps7
  go_wp2_with fail
  refine (szFsU _ _ _ _ _ _ _ dx0 (Hx0.out.later (later2 _ _ _)) 1048576 (by omega) (by omega)).mono ?_
  rw [HS.out]
  rintro e w1 ⟨rfl, hb1⟩
  have HBw1 : Hid (Below w.heap.size w w1) := (later2 _ _ _).trans (hb1.mono (by simp; omega))
  clear hb1
  go_wp2
  go_ret
  exact ⟨rfl, HBw1.out⟩

set_option maxHeartbeats 1600000 in
theorem lawSameFs_big1 (w : World) (a0x0 : Option Addr) (n0x0 c0x0 : Nat) (a1x0 : Option Addr) (n1x0 c1x0 : Nat) (dx0 : FD) (a0x1 : Option Addr) (n0x1 c0x1 : Nat) (a1x1 : Option Addr) (n1x1 c1x1 : Nat) (dx1 : FD) (hx0 : FsR w (.slice a0x0 n0x0 c0x0) (.slice a1x0 n1x0 c1x0) dx0) (hps : sizeFs dx0 ≤ 1048576) (hx1 : FsR w (.slice a0x1 n0x1 c0x1) (.slice a1x1 n1x1 c1x1) dx1) (hsz : 1048576 < sizeFs dx0 + sizeFs dx1) :
    Calls Try.prog 7 #[.agg #[.slice a0x0 n0x0 c0x0, .slice a1x0 n1x0 c1x0], .agg #[.slice a0x1 n0x1 c0x1, .slice a1x1 n1x1 c1x1]] w fun e w' => e = .returned (.bool true) ∧ Below w.heap.size w w' := by
  have Hx0 : Hid (FsR w (.slice a0x0 n0x0 c0x0) (.slice a1x0 n1x0 c1x0) dx0) := hx0
  have Hx1 : Hid (FsR w (.slice a0x1 n0x1 c0x1) (.slice a1x1 n1x1 c1x1) dx1) := hx1
  have HSx0 : Hid (szf 1048576 (sizeFs dx0) = 1048576 - ((sizeFs dx0 : Nat) : Int)) := szf_yes (by omega)
  have hposx0 : ¬ (1048576 - ((sizeFs dx0 : Nat) : Int) < 0) := by omega
  have hlex0 : 1048576 - ((sizeFs dx0 : Nat) : Int) ≤ 1048576 := by omega
  have HS : Hid (szf (1048576 - ((sizeFs dx0 : Nat) : Int)) (sizeFs dx1) = -1) := szf_no (by omega)
  clear hx0 hx1 hsz hps
  go_enter Try.func7, Try.ntmps7
  go_wp2_with fail
  refine (szFsU _ _ _ _ _ _ _ dx0 (Hx0.out.later (later2 _ _ _)) 1048576 (by omega) (by omega)).mono ?_
  rw [HSx0.out]
  rintro e w1 ⟨rfl, hb1⟩
  have HBw1 : Hid (Below w.heap.size w w1) := (later2 _ _ _).trans (hb1.mono (by simp; omega))
  have HQx1 : Hid (Bx w1 (w.heap.size + 1) [.slice a0x1 n0x1 c0x1, .slice a1x1 n1x1 c1x1]) := by
    have := Bx.new (w.alloc (.cells #[.slice a0x0 n0x0 c0x0, .slice a1x0 n1x0 c1x0] 25)) [.slice a0x1 n0x1 c0x1, .slice a1x1 n1x1 c1x1] 25
    rw [World.size_alloc] at this
    exact this.later hb1
  clear hb1
  have qx10 := HQx1.out 0 _ rfl
  have qx11 := HQx1.out 1 _ rfl
  have tqx1 := HQx1.out.lt
  go_wp2_with fail
  refine (szFsU _ _ _ _ _ _ _ dx1 (Hx1.out.later HBw1.out) (1048576 - ((sizeFs dx0 : Nat) : Int)) (by omega) (by omega)).mono ?_
  rw [HS.out]
  rintro e w2 ⟨rfl, hb1⟩
  have HBw2 : Hid (Below w.heap.size w w2) := HBw1.out.trans (hb1.mono HBw1.out.size)
  clear hb1
  go_wp2
  go_ret
  exact ⟨rfl, HBw2.out⟩

set_option maxHeartbeats 12800000 in
theorem lawSameFs_small (w : World) (a0x0 : Option Addr) (n0x0 c0x0 : Nat) (a1x0 : Option Addr) (n1x0 c1x0 : Nat) (dx0 : FD) (a0x1 : Option Addr) (n0x1 c0x1 : Nat) (a1x1 : Option Addr) (n1x1 c1x1 : Nat) (dx1 : FD) (hx0 : FsR w (.slice a0x0 n0x0 c0x0) (.slice a1x0 n1x0 c1x0) dx0) (hx1 : FsR w (.slice a0x1 n0x1 c0x1) (.slice a1x1 n1x1 c1x1) dx1) (stot : sizeFs dx0 + sizeFs dx1 ≤ 1048576) :
    Calls Try.prog 7 #[.agg #[.slice a0x0 n0x0 c0x0, .slice a1x0 n1x0 c1x0], .agg #[.slice a0x1 n0x1 c0x1, .slice a1x1 n1x1 c1x1]] w fun e w' => e = .returned (.bool true) ∧ Below w.heap.size w w' := by
  have Hx0 : Hid (FsR w (.slice a0x0 n0x0 c0x0) (.slice a1x0 n1x0 c1x0) dx0) := hx0
  have Hx1 : Hid (FsR w (.slice a0x1 n0x1 c0x1) (.slice a1x1 n1x1 c1x1) dx1) := hx1
  have Sx0 : Hid (sizeFs dx0 ≤ 1048576) := by unfold Hid; omega
  have HSx0 : Hid (szf 1048576 (sizeFs dx0) = 1048576 - (sizeFs dx0 : Nat)) := szf_yes (by omega)
  have hposx0 : ¬ (1048576 - ((sizeFs dx0 : Nat) : Int) < 0) := by omega
  have hlex0 : 1048576 - ((sizeFs dx0 : Nat) : Int) ≤ 1048576 := by omega
  have hspx0 : ((spanFs dx0 : Nat) : Int) ≤ 4194304 := by have := spanFs_le dx0; omega
  have Sx1 : Hid (sizeFs dx1 ≤ 1048576) := by unfold Hid; omega
  have HSx1 : Hid (szf (1048576 - ((sizeFs dx0 : Nat) : Int)) (sizeFs dx1) = (1048576 - ((sizeFs dx0 : Nat) : Int)) - (sizeFs dx1 : Nat)) := szf_yes (by omega)
  have hposx1 : ¬ ((1048576 - ((sizeFs dx0 : Nat) : Int)) - ((sizeFs dx1 : Nat) : Int) < 0) := by omega
  have hlex1 : (1048576 - ((sizeFs dx0 : Nat) : Int)) - ((sizeFs dx1 : Nat) : Int) ≤ 1048576 := by omega
  have hspx1 : ((spanFs dx1 : Nat) : Int) ≤ 4194304 := by have := spanFs_le dx1; omega
  generalize hr : sameFB dx0 dx1 = r at *
  have HR : Hid (sameFB dx0 dx1 = r) := hr
  have hrr : (r != r) = false := by simp
  clear hr hx0 hx1 stot
  go_enter Try.func7, Try.ntmps7
  go_wp2_with fail
  refine (szFsU _ _ _ _ _ _ _ dx0 (Hx0.out.later (later2 _ _ _)) 1048576 (by omega) (by omega)).mono ?_
  rw [HSx0.out]
  rintro e w1 ⟨rfl, hb⟩
  have HL_w1 : Hid (Below w.heap.size w w1) := (later2 _ _ _).trans (hb.mono (by simp; omega))
  have HB_w1 : Hid (Below w.heap.size w w1) := HL_w1.out
  have z_w1 : w.heap.size ≤ w1.heap.size := HL_w1.out.size
  have Bx0_w1 : Hid (Bx w1 w.heap.size [.slice a0x0 n0x0 c0x0, .slice a1x0 n1x0 c1x0]) := ((Bx.new w [.slice a0x0 n0x0 c0x0, .slice a1x0 n1x0 c1x0] 25).later (later1 _ _)).later hb
  have y_Bx0 : w.heap.size < w1.heap.size := Bx0_w1.out.lt
  have Bx1_w1 : Hid (Bx w1 (w.heap.size + 1) [.slice a0x1 n0x1 c0x1, .slice a1x1 n1x1 c1x1]) := (show Bx ((w.alloc (.cells #[.slice a0x0 n0x0 c0x0, .slice a1x0 n1x0 c1x0] 25)).alloc (.cells #[.slice a0x1 n0x1 c0x1, .slice a1x1 n1x1 c1x1] 25)) (w.heap.size + 1) [.slice a0x1 n0x1 c0x1, .slice a1x1 n1x1 c1x1] from by have := Bx.new (w.alloc (.cells #[.slice a0x0 n0x0 c0x0, .slice a1x0 n1x0 c1x0] 25)) [.slice a0x1 n0x1 c0x1, .slice a1x1 n1x1 c1x1] 25; rw [World.size_alloc] at this; exact this).later hb
  have y_Bx1 : (w.heap.size + 1) < w1.heap.size := Bx1_w1.out.lt
  clear HL_w1
  clear hb
  have qBx00 := Bx0_w1.out 0 _ rfl
  have qBx01 := Bx0_w1.out 1 _ rfl
  have tBx0 := Bx0_w1.out.lt
  have qBx10 := Bx1_w1.out 0 _ rfl
  have qBx11 := Bx1_w1.out 1 _ rfl
  have tBx1 := Bx1_w1.out.lt
  go_wp2_with fail
  clear qBx00 qBx01 tBx0 qBx10 qBx11 tBx1
  refine (szFsU _ _ _ _ _ _ _ dx1 (Hx1.out.later HB_w1.out) (1048576 - ((sizeFs dx0 : Nat) : Int)) (by omega) (by omega)).mono ?_
  rw [HSx1.out]
  rintro e w2 ⟨rfl, hb⟩
  have HL_w2 : Hid (Below w1.heap.size w1 w2) := hb
  have HB_w2 : Hid (Below w.heap.size w w2) := HB_w1.out.trans (HL_w2.out.mono HB_w1.out.size)
  have z_w2 : w1.heap.size ≤ w2.heap.size := HL_w2.out.size
  have Bx0_w2 : Hid (Bx w2 w.heap.size [.slice a0x0 n0x0 c0x0, .slice a1x0 n1x0 c1x0]) := Bx0_w1.out.later HL_w2.out
  have Bx1_w2 : Hid (Bx w2 (w.heap.size + 1) [.slice a0x1 n0x1 c0x1, .slice a1x1 n1x1 c1x1]) := Bx1_w1.out.later HL_w2.out
  clear Bx0_w1 Bx1_w1 HB_w1 HL_w2
  clear hb
  have qBx00 := Bx0_w2.out 0 _ rfl
  have qBx01 := Bx0_w2.out 1 _ rfl
  have tBx0 := Bx0_w2.out.lt
  have qBx10 := Bx1_w2.out 0 _ rfl
  have qBx11 := Bx1_w2.out 1 _ rfl
  have tBx1 := Bx1_w2.out.lt
  go_wp2_with fail
  go_region_with (first
    | (go_at_call 10; refine (toFsU _ _ _ _ _ _ _ dx0 ?_ Sx0.out).mono ?_; exact Hx0.out.later HB_w2.out.drew; rintro e w3 ⟨a0x0s, n0x0s, c0x0s, a1x0s, n1x0s, c1x0s, rfl, hb, ho⟩; have y0 := cell_later hb qBx10; have y1 := cell_later hb qBx11; have HLa : Hid (Below w2.heap.size w2 w3) := (Below.refl _ _).drew.trans hb; have HOa : Hid (FsR w3 (.slice a0x0s n0x0s c0x0s) (.slice a1x0s n1x0s c1x0s) dx0) := ho.reads; clear hb ho)
    | (go_at_call 10; refine (toFsU _ _ _ _ _ _ _ dx1 ?_ Sx1.out).mono ?_; exact Hx1.out.later (HB_w2.out.trans (HLa.out.mono HB_w2.out.size)); rintro e w4 ⟨a0x1s, n0x1s, c0x1s, a1x1s, n1x1s, c1x1s, rfl, hb, ho⟩; have HLb : Hid (Below w3.heap.size w3 w4) := hb; have HOb : Hid (FsR w4 (.slice a0x1s n0x1s c0x1s) (.slice a1x1s n1x1s c1x1s) dx1) := ho.reads; have HOc : Hid (FsR w4 (.slice a0x0s n0x0s c0x0s) (.slice a1x0s n1x0s c1x0s) dx0) := HOa.out.later hb; clear hb ho HOa)
    | (go_at_call 33; refine (specSmfU _ _ _ _ _ _ _ dx0 _ _ _ _ _ _ dx1 HOc.out HOb.out Sx0.out Sx1.out).mono ?_; rw [HR.out]; rintro e w5 ⟨rfl, hb⟩; have HLc : Hid (Below w4.heap.size w4 w5) := hb; clear hb))
  all_goals
    have hb : Below w2.heap.size w2 w5 := (HLa.out.trans (HLb.out.mono HLa.out.size)).trans (HLc.out.mono (HLa.out.trans (HLb.out.mono HLa.out.size)).size)
    clear qBx00 qBx01 tBx0 qBx10 qBx11 tBx1 HLa HLb HLc HOb HOc y0 y1
    have HL_w5 : Hid (Below w2.heap.size w2 w5) := hb
    have HB_w5 : Hid (Below w.heap.size w w5) := HB_w2.out.trans (HL_w5.out.mono HB_w2.out.size)
    have z_w5 : w2.heap.size ≤ w5.heap.size := HL_w5.out.size
    have Bx0_w5 : Hid (Bx w5 w.heap.size [.slice a0x0 n0x0 c0x0, .slice a1x0 n1x0 c1x0]) := Bx0_w2.out.later HL_w5.out
    have Bx1_w5 : Hid (Bx w5 (w.heap.size + 1) [.slice a0x1 n0x1 c0x1, .slice a1x1 n1x1 c1x1]) := Bx1_w2.out.later HL_w5.out
    clear Bx0_w2 Bx1_w2 HB_w2 HL_w5
    clear hb
    have qBx00 := Bx0_w5.out 0 _ rfl
    have qBx01 := Bx0_w5.out 1 _ rfl
    have tBx0 := Bx0_w5.out.lt
    have qBx10 := Bx1_w5.out 0 _ rfl
    have qBx11 := Bx1_w5.out 1 _ rfl
    have tBx1 := Bx1_w5.out.lt
    go_wp2_with fail
    clear qBx00 qBx01 tBx0 qBx10 qBx11 tBx1
    refine (toFsU _ _ _ _ _ _ _ dx0 (Hx0.out.later HB_w5.out) Sx0.out).mono ?_
    rintro e w6 ⟨a0x0p, n0x0p, c0x0p, a1x0p, n1x0p, c1x0p, rfl, hb, ho⟩
    have HL_w6 : Hid (Below w5.heap.size w5 w6) := hb
    have HB_w6 : Hid (Below w.heap.size w w6) := HB_w5.out.trans (HL_w6.out.mono HB_w5.out.size)
    have z_w6 : w5.heap.size ≤ w6.heap.size := HL_w6.out.size
    have Bx0_w6 : Hid (Bx w6 w.heap.size [.slice a0x0 n0x0 c0x0, .slice a1x0 n1x0 c1x0]) := Bx0_w5.out.later HL_w6.out
    have Bx1_w6 : Hid (Bx w6 (w.heap.size + 1) [.slice a0x1 n0x1 c0x1, .slice a1x1 n1x1 c1x1]) := Bx1_w5.out.later HL_w6.out
    have Px0_w6 : Hid (FsU w6 (.slice a0x0p n0x0p c0x0p) (.slice a1x0p n1x0p c1x0p) dx0 (fun b => w5.heap.size ≤ b ∧ b < w6.heap.size)) := ho
    clear Bx0_w5 Bx1_w5 HB_w5 HL_w6
    clear hb ho
    have qBx00 := Bx0_w6.out 0 _ rfl
    have qBx01 := Bx0_w6.out 1 _ rfl
    have tBx0 := Bx0_w6.out.lt
    have qBx10 := Bx1_w6.out 0 _ rfl
    have qBx11 := Bx1_w6.out 1 _ rfl
    have tBx1 := Bx1_w6.out.lt
    go_wp2_with fail
    clear qBx00 qBx01 tBx0 qBx10 qBx11 tBx1
    refine (toFsU _ _ _ _ _ _ _ dx1 ((Hx1.out.later HB_w6.out).later (later1 _ _)) Sx1.out).mono ?_
    rintro e w7 ⟨a0x1p, n0x1p, c0x1p, a1x1p, n1x1p, c1x1p, rfl, hb, ho⟩
    have HL_w7 : Hid (Below w6.heap.size w6 w7) := (later1 _ _).trans (hb.mono (by simp))
    have HB_w7 : Hid (Below w.heap.size w w7) := HB_w6.out.trans (HL_w7.out.mono HB_w6.out.size)
    have z_w7 : w6.heap.size ≤ w7.heap.size := HL_w7.out.size
    have Bx0_w7 : Hid (Bx w7 w.heap.size [.slice a0x0 n0x0 c0x0, .slice a1x0 n1x0 c1x0]) := Bx0_w6.out.later HL_w7.out
    have Bx1_w7 : Hid (Bx w7 (w.heap.size + 1) [.slice a0x1 n0x1 c0x1, .slice a1x1 n1x1 c1x1]) := Bx1_w6.out.later HL_w7.out
    have Px0_w7 : Hid (FsU w7 (.slice a0x0p n0x0p c0x0p) (.slice a1x0p n1x0p c1x0p) dx0 (fun b => w5.heap.size ≤ b ∧ b < w6.heap.size)) := Px0_w6.out.later HL_w7.out
    have Xx0_w7 : Hid (Bx w7 w6.heap.size [.slice a0x0p n0x0p c0x0p, .slice a1x0p n1x0p c1x0p]) := (Bx.new _ [.slice a0x0p n0x0p c0x0p, .slice a1x0p n1x0p c1x0p] _).later hb
    have y_Xx0 : w6.heap.size < w7.heap.size := Xx0_w7.out.lt
    have Px1_w7 : Hid (FsU w7 (.slice a0x1p n0x1p c0x1p) (.slice a1x1p n1x1p c1x1p) dx1 (fun b => w6.heap.size < b ∧ b < w7.heap.size)) := ho.mono fun b hb => ⟨by have := hb.1; simp at this; omega, hb.2⟩
    clear Bx0_w6 Bx1_w6 Px0_w6 HB_w6 HL_w7
    clear hb ho
    have qBx00 := Bx0_w7.out 0 _ rfl
    have qBx01 := Bx0_w7.out 1 _ rfl
    have tBx0 := Bx0_w7.out.lt
    have qBx10 := Bx1_w7.out 0 _ rfl
    have qBx11 := Bx1_w7.out 1 _ rfl
    have tBx1 := Bx1_w7.out.lt
    have qXx00 := Xx0_w7.out 0 _ rfl
    have qXx01 := Xx0_w7.out 1 _ rfl
    have tXx0 := Xx0_w7.out.lt
    go_wp2_with fail
    clear qBx00 qBx01 tBx0 qBx10 qBx11 tBx1 qXx00 qXx01 tXx0
    refine (implSmfU _ _ _ _ _ _ _ dx0 _ _ _ _ _ _ dx1 (Px0_w7.out.later (later1 _ _)).reads (Px1_w7.out.later (later1 _ _)).reads Sx0.out Sx1.out).mono ?_
    rw [HR.out]
    rintro e w8 ⟨rfl, hb⟩
    have HL_w8 : Hid (Below w7.heap.size w7 w8) := (later1 _ _).trans (hb.mono (by simp))
    have HB_w8 : Hid (Below w.heap.size w w8) := HB_w7.out.trans (HL_w8.out.mono HB_w7.out.size)
    have z_w8 : w7.heap.size ≤ w8.heap.size := HL_w8.out.size
    have Bx0_w8 : Hid (Bx w8 w.heap.size [.slice a0x0 n0x0 c0x0, .slice a1x0 n1x0 c1x0]) := Bx0_w7.out.later HL_w8.out
    have Bx1_w8 : Hid (Bx w8 (w.heap.size + 1) [.slice a0x1 n0x1 c0x1, .slice a1x1 n1x1 c1x1]) := Bx1_w7.out.later HL_w8.out
    have Px0_w8 : Hid (FsU w8 (.slice a0x0p n0x0p c0x0p) (.slice a1x0p n1x0p c1x0p) dx0 (fun b => w5.heap.size ≤ b ∧ b < w6.heap.size)) := Px0_w7.out.later HL_w8.out
    have Xx0_w8 : Hid (Bx w8 w6.heap.size [.slice a0x0p n0x0p c0x0p, .slice a1x0p n1x0p c1x0p]) := Xx0_w7.out.later HL_w8.out
    have Px1_w8 : Hid (FsU w8 (.slice a0x1p n0x1p c0x1p) (.slice a1x1p n1x1p c1x1p) dx1 (fun b => w6.heap.size < b ∧ b < w7.heap.size)) := Px1_w7.out.later HL_w8.out
    have Xx1_w8 : Hid (Bx w8 w7.heap.size [.slice a0x1p n0x1p c0x1p, .slice a1x1p n1x1p c1x1p]) := (Bx.new _ [.slice a0x1p n0x1p c0x1p, .slice a1x1p n1x1p c1x1p] _).later hb
    have y_Xx1 : w7.heap.size < w8.heap.size := Xx1_w8.out.lt
    clear Bx0_w7 Bx1_w7 Px0_w7 Xx0_w7 Px1_w7 HB_w7 HL_w8
    clear hb
    have qBx00 := Bx0_w8.out 0 _ rfl
    have qBx01 := Bx0_w8.out 1 _ rfl
    have tBx0 := Bx0_w8.out.lt
    have qBx10 := Bx1_w8.out 0 _ rfl
    have qBx11 := Bx1_w8.out 1 _ rfl
    have tBx1 := Bx1_w8.out.lt
    have qXx00 := Xx0_w8.out 0 _ rfl
    have qXx01 := Xx0_w8.out 1 _ rfl
    have tXx0 := Xx0_w8.out.lt
    have qXx10 := Xx1_w8.out 0 _ rfl
    have qXx11 := Xx1_w8.out 1 _ rfl
    have tXx1 := Xx1_w8.out.lt
    go_wp2_with fail
    go_region_with (first
      | (go_at_call 10; refine (toFsU _ _ _ _ _ _ _ dx0 ?_ Sx0.out).mono ?_; exact Hx0.out.later HB_w8.out.drew; rintro e w9 ⟨a0x0q, n0x0q, c0x0q, a1x0q, n1x0q, c1x0q, rfl, hb, ho⟩; have y0 := cell_later hb qXx00; have y1 := cell_later hb qXx01; have HL : Hid (Below w8.heap.size w8 w9) := (Below.refl _ _).drew.trans hb; have HO : Hid (FsR w9 (.slice a0x0q n0x0q c0x0q) (.slice a1x0q n1x0q c1x0q) dx0) := ho.reads; clear hb ho)
      | (go_at_call 12; refine (eqFsU _ _ _ _ _ dx0 ?_ ?_).mono ?_; exact Px0_w8.out.reads.later HL.out; exact HO.out; rintro e w10 ⟨rfl, hb⟩; have HL2 : Hid (Below w9.heap.size w9 w10) := hb; clear hb))
    all_goals
      have hb : Below w8.heap.size w8 w10 := HL.out.trans (HL2.out.mono HL.out.size)
      clear qBx00 qBx01 tBx0 qBx10 qBx11 tBx1 qXx00 qXx01 tXx0 qXx10 qXx11 tXx1 HL HL2 HO y0 y1
      have HL_w10 : Hid (Below w8.heap.size w8 w10) := hb
      have HB_w10 : Hid (Below w.heap.size w w10) := HB_w8.out.trans (HL_w10.out.mono HB_w8.out.size)
      have z_w10 : w8.heap.size ≤ w10.heap.size := HL_w10.out.size
      have Bx0_w10 : Hid (Bx w10 w.heap.size [.slice a0x0 n0x0 c0x0, .slice a1x0 n1x0 c1x0]) := Bx0_w8.out.later HL_w10.out
      have Bx1_w10 : Hid (Bx w10 (w.heap.size + 1) [.slice a0x1 n0x1 c0x1, .slice a1x1 n1x1 c1x1]) := Bx1_w8.out.later HL_w10.out
      have Px0_w10 : Hid (FsU w10 (.slice a0x0p n0x0p c0x0p) (.slice a1x0p n1x0p c1x0p) dx0 (fun b => w5.heap.size ≤ b ∧ b < w6.heap.size)) := Px0_w8.out.later HL_w10.out
      have Xx0_w10 : Hid (Bx w10 w6.heap.size [.slice a0x0p n0x0p c0x0p, .slice a1x0p n1x0p c1x0p]) := Xx0_w8.out.later HL_w10.out
      have Px1_w10 : Hid (FsU w10 (.slice a0x1p n0x1p c0x1p) (.slice a1x1p n1x1p c1x1p) dx1 (fun b => w6.heap.size < b ∧ b < w7.heap.size)) := Px1_w8.out.later HL_w10.out
      have Xx1_w10 : Hid (Bx w10 w7.heap.size [.slice a0x1p n0x1p c0x1p, .slice a1x1p n1x1p c1x1p]) := Xx1_w8.out.later HL_w10.out
      clear Bx0_w8 Bx1_w8 Px0_w8 Xx0_w8 Px1_w8 Xx1_w8 HB_w8 HL_w10
      clear hb
      have qBx00 := Bx0_w10.out 0 _ rfl
      have qBx01 := Bx0_w10.out 1 _ rfl
      have tBx0 := Bx0_w10.out.lt
      have qBx10 := Bx1_w10.out 0 _ rfl
      have qBx11 := Bx1_w10.out 1 _ rfl
      have tBx1 := Bx1_w10.out.lt
      have qXx00 := Xx0_w10.out 0 _ rfl
      have qXx01 := Xx0_w10.out 1 _ rfl
      have tXx0 := Xx0_w10.out.lt
      have qXx10 := Xx1_w10.out 0 _ rfl
      have qXx11 := Xx1_w10.out 1 _ rfl
      have tXx1 := Xx1_w10.out.lt
      go_wp2_with fail
      go_region_with (first
        | (go_at_call 10; refine (toFsU _ _ _ _ _ _ _ dx1 ?_ Sx1.out).mono ?_; exact Hx1.out.later HB_w10.out.drew; rintro e w11 ⟨a0x1q, n0x1q, c0x1q, a1x1q, n1x1q, c1x1q, rfl, hb, ho⟩; have y0 := cell_later hb qXx10; have y1 := cell_later hb qXx11; have HL : Hid (Below w10.heap.size w10 w11) := (Below.refl _ _).drew.trans hb; have HO : Hid (FsR w11 (.slice a0x1q n0x1q c0x1q) (.slice a1x1q n1x1q c1x1q) dx1) := ho.reads; clear hb ho)
        | (go_at_call 12; refine (eqFsU _ _ _ _ _ dx1 ?_ ?_).mono ?_; exact Px1_w10.out.reads.later HL.out; exact HO.out; rintro e w12 ⟨rfl, hb⟩; have HL2 : Hid (Below w11.heap.size w11 w12) := hb; clear hb))
      all_goals
        have hb : Below w10.heap.size w10 w12 := HL.out.trans (HL2.out.mono HL.out.size)
        clear qBx00 qBx01 tBx0 qBx10 qBx11 tBx1 qXx00 qXx01 tXx0 qXx10 qXx11 tXx1 HL HL2 HO y0 y1
        have HL_w12 : Hid (Below w10.heap.size w10 w12) := hb
        have HB_w12 : Hid (Below w.heap.size w w12) := HB_w10.out.trans (HL_w12.out.mono HB_w10.out.size)
        have z_w12 : w10.heap.size ≤ w12.heap.size := HL_w12.out.size
        have Bx0_w12 : Hid (Bx w12 w.heap.size [.slice a0x0 n0x0 c0x0, .slice a1x0 n1x0 c1x0]) := Bx0_w10.out.later HL_w12.out
        have Bx1_w12 : Hid (Bx w12 (w.heap.size + 1) [.slice a0x1 n0x1 c0x1, .slice a1x1 n1x1 c1x1]) := Bx1_w10.out.later HL_w12.out
        have Px0_w12 : Hid (FsU w12 (.slice a0x0p n0x0p c0x0p) (.slice a1x0p n1x0p c1x0p) dx0 (fun b => w5.heap.size ≤ b ∧ b < w6.heap.size)) := Px0_w10.out.later HL_w12.out
        have Xx0_w12 : Hid (Bx w12 w6.heap.size [.slice a0x0p n0x0p c0x0p, .slice a1x0p n1x0p c1x0p]) := Xx0_w10.out.later HL_w12.out
        have Px1_w12 : Hid (FsU w12 (.slice a0x1p n0x1p c0x1p) (.slice a1x1p n1x1p c1x1p) dx1 (fun b => w6.heap.size < b ∧ b < w7.heap.size)) := Px1_w10.out.later HL_w12.out
        have Xx1_w12 : Hid (Bx w12 w7.heap.size [.slice a0x1p n0x1p c0x1p, .slice a1x1p n1x1p c1x1p]) := Xx1_w10.out.later HL_w12.out
        clear Bx0_w10 Bx1_w10 Px0_w10 Xx0_w10 Px1_w10 Xx1_w10 HB_w10 HL_w12
        clear hb
        have qBx00 := Bx0_w12.out 0 _ rfl
        have qBx01 := Bx0_w12.out 1 _ rfl
        have tBx0 := Bx0_w12.out.lt
        have qBx10 := Bx1_w12.out 0 _ rfl
        have qBx11 := Bx1_w12.out 1 _ rfl
        have tBx1 := Bx1_w12.out.lt
        have qXx00 := Xx0_w12.out 0 _ rfl
        have qXx01 := Xx0_w12.out 1 _ rfl
        have tXx0 := Xx0_w12.out.lt
        have qXx10 := Xx1_w12.out 0 _ rfl
        have qXx11 := Xx1_w12.out 1 _ rfl
        have tXx1 := Xx1_w12.out.lt
        go_wp2
        go_ret
        exact ⟨rfl, HB_w12.out⟩

theorem lawSameFs_any (w : World) (v0x0 : Value) (v1x0 : Value) (dx0 : FD) (v0x1 : Value) (v1x1 : Value) (dx1 : FD) (hx0 : FsR w v0x0 v1x0 dx0) (hx1 : FsR w v0x1 v1x1 dx1) :
    Calls Try.prog 7 #[.agg #[v0x0, v1x0], .agg #[v0x1, v1x1]] w fun e w' => e = .returned (.bool true) ∧ Below w.heap.size w w' := by
  obtain ⟨_, _, rfl, _, _⟩ := hx0.1.open'
  obtain ⟨_, _, rfl, _, _⟩ := hx0.2.open'
  obtain ⟨_, _, rfl, _, _⟩ := hx1.1.open'
  obtain ⟨_, _, rfl, _, _⟩ := hx1.2.open'
  by_cases kx0 : sizeFs dx0 ≤ 1048576
  rotate_left
  · exact lawSameFs_big0 w _ _ _ _ _ _ dx0 _ _ _ _ _ _  hx0 (by omega)
  by_cases kx1 : sizeFs dx0 + sizeFs dx1 ≤ 1048576
  rotate_left
  · exact lawSameFs_big1 w _ _ _ _ _ _ dx0 _ _ _ _ _ _ dx1  hx0 kx0 hx1 (by omega)
  exact lawSameFs_small w _ _ _ _ _ _ dx0 _ _ _ _ _ _ dx1 hx0 hx1  kx1
end Go.Proofs.Ytdgnhcfnhbkmlal

namespace Go.Proofs.Ytdgnhcfnhbkmlal
open Go.ChangeShapes Go.WideShapes Go.ChangeAt Go.RowKit Go.Deep
set_option maxRecDepth 100000

section
variable {H : Type} {enc : TypeId × Value → H} {P : Program} {w : World} {base : Nat} {held : Bool}

theorem addr_of {a : Addr} {v : Value} (h : w.cell? (a.add 0) = some v) : a = ⟨a.block, a.off, none⟩ := by
  obtain ⟨b, o, s⟩ := a
  have : s = none := by simpa [Addr.add] using World.cell?_spot h
  subst this; rfl
theorem add_plain (b off k : Nat) : (⟨b, off, none⟩ : Addr).add k = ⟨b, off + k, none⟩ := by
  by_cases h : k = 0
  · subst h; simp [Addr.add]
  · simp [Addr.add, h]

theorem open_Ints {t e : TypeId} {fuel : Nat} {v : Value} {x : DataW H × List MemPlace} (ht : P.underlying t = some (.slice e)) (he : P.underlying e = some (.int .i64)) (ce : P.cellsOf e = 1) (h : DataW.trod enc P w base (fun _ => true) held fuel t [v] = some x) :
    ∃ zs, Ints w v zs := by
  rcases open_ints ht he ce h with ⟨hcs, _⟩ | ⟨a, len, cap, zs, hcs, _, hl, hm, hz, _, hcell, _⟩
  · simp only [List.cons.injEq, and_true] at hcs
    exact ⟨[], Or.inl ⟨rfl, none, 0, hcs⟩⟩
  · simp only [List.cons.injEq, and_true] at hcs
    simp only [if_true] at hz
    by_cases h0 : len = 0
    · subst h0; exact ⟨[], Or.inl ⟨rfl, some a, cap, hcs⟩⟩
    · have ha := addr_of (hcell 0 (by omega))
      refine ⟨zs.take len, Or.inr ⟨a.block, a.off, cap, ?_, ?_, fun k hk => ?_⟩⟩
      · rw [hcs, List.length_take, Nat.min_eq_left (by omega), ← ha]
      · rw [List.length_take]; omega
      · rw [List.length_take] at hk
        have h1 := hcell k (by omega)
        rw [ha, add_plain] at h1
        rw [h1, List.getElem?_take, if_pos (by omega)]
        rfl

theorem open_IntsS {t e q : TypeId} {fuel : Nat} {v : Value} {x : DataW H × List MemPlace} (ht : P.underlying t = some (.slice e)) (he : P.underlying e = some (.slice q)) (hq : P.underlying q = some (.int .i64)) (ce : P.cellsOf e = 1) (cq : P.cellsOf q = 1)
    (h : DataW.trod enc P w base (fun _ => true) held fuel t [v] = some x) : ∃ zss, IntsS w v zss := by
  rcases open_slice1 ht ce h with ⟨hcs, _⟩ | ⟨a, len, cap, m, n, V, D, Pl, hcs, _, hl, hm, hmm, _, hx⟩
  · simp only [List.cons.injEq, and_true] at hcs
    exact ⟨[], Or.inl ⟨rfl, none, 0, hcs⟩⟩
  · simp only [List.cons.injEq, and_true] at hcs
    simp only [if_true] at hmm
    by_cases h0 : len = 0
    · subst h0; exact ⟨[], Or.inl ⟨rfl, some a, cap, hcs⟩⟩
    · have ha := addr_of (hx 0 (by omega)).1
      obtain ⟨Z, hZ⟩ := choose_lt (α := List Int) (n := m) (p := fun i zs => Ints w (V i) zs) fun i hi => open_Ints he hq cq (hx i hi).2
      refine ⟨(List.range len).map Z, Or.inr ⟨a.block, a.off, cap, V, ?_, ?_, fun k hk => ?_⟩⟩
      · simp only [List.length_map, List.length_range]; rw [hcs, ← ha]
      · simp only [List.length_map, List.length_range]; omega
      · simp only [List.length_map, List.length_range] at hk
        have h1 := (hx k (by omega)).1
        rw [ha, add_plain] at h1
        refine ⟨h1, ?_⟩
        have := hZ k (by omega)
        simpa [hk] using this

theorem open_Puts {t e q : TypeId} {f0 f1 : Field} {fuel : Nat} {v : Value} {x : DataW H × List MemPlace} (ht : P.underlying t = some (.slice e)) (he : P.underlying e = some (.struct #[f0, f1]))
    (ce : P.cellsOf e = 2) (o0 : f0.offset = 0) (o1 : f1.offset = 1) (c0 : P.cellsOf f0.type = 1) (c1 : P.cellsOf f1.type = 1) (h0 : P.underlying f0.type = some (.int .i64)) (h1 : P.underlying f1.type = some (.slice q)) (hq : P.underlying q = some (.int .i64)) (cq : P.cellsOf q = 1)
    (h : DataW.trod enc P w base (fun _ => true) held fuel t [v] = some x) : ∃ ps, Puts w v ps := by
  rcases open_slice_pairs ht he ce o0 o1 c0 c1 h with ⟨hcs, _⟩ | ⟨a, len, cap, m, n, V0, V1, D0, D1, P0, P1, hcs, _, hl, hm, hmm, _, hx⟩
  · simp only [List.cons.injEq, and_true] at hcs
    exact ⟨[], Or.inl ⟨rfl, none, 0, hcs⟩⟩
  · simp only [List.cons.injEq, and_true] at hcs
    simp only [if_true] at hmm
    by_cases hl0 : len = 0
    · subst hl0; exact ⟨[], Or.inl ⟨rfl, some a, cap, hcs⟩⟩
    · have ha := addr_of (by simpa using (hx 0 (by omega)).1)
      obtain ⟨Z, hZ⟩ := choose_lt (α := Int × List Int) (n := m) (p := fun i z => V0 i = .int .i64 z.1 ∧ Ints w (V1 i) z.2) fun i hi => by
        obtain ⟨_, _, g0, g1⟩ := hx i hi
        obtain ⟨zs, hzs⟩ := open_Ints h1 hq cq g1
        obtain ⟨y, hy, _⟩ := DataW.trod_int h0 g0
        simp only [List.cons.injEq, and_true] at hy
        exact ⟨(y, zs), hy, hzs⟩
      refine ⟨(List.range len).map Z, Or.inr ⟨a.block, a.off, cap, V1, ?_, ?_, fun k hk => ?_⟩⟩
      · simp only [List.length_map, List.length_range]; rw [hcs, ← ha]
      · simp only [List.length_map, List.length_range]; omega
      · simp only [List.length_map, List.length_range] at hk
        obtain ⟨e0, e1, _, _⟩ := hx k (by omega)
        rw [ha, add_plain] at e0 e1
        obtain ⟨g0, g1⟩ := hZ k (by omega)
        rw [g0] at e0
        have hg : ((List.range len).map Z)[k]?.getD (0, []) = Z k := by simp [hk]
        rw [hg]
        exact ⟨e0, e1, g1⟩
end

end Go.Proofs.Ytdgnhcfnhbkmlal

namespace Go.Proofs.Ytdgnhcfnhbkmlal
open Go.ChangeShapes Go.WideShapes Go.ChangeAt Go.RowKit Go.Joins
set_option maxRecDepth 100000

theorem Try.own : ownKnob Try.prog.godebug = none := by kernel_rfl
theorem Try.laidOut : laidOutB Try.prog = true := by kernel_rfl
theorem Try.cellsInt : Try.prog.cellsOf 2 = 1 := by kernel_rfl
theorem Try.cellsInts : Try.prog.cellsOf 51 = 1 := by kernel_rfl

end Go.Proofs.Ytdgnhcfnhbkmlal

namespace Go.Proofs.Ytdgnhcfnhbkmlal
open Go.ChangeShapes Go.WideShapes Go.ChangeAt Go.RowKit Go.Joins Go.Deep
set_option maxRecDepth 100000

theorem open_Ents {H : Type} {enc : TypeId × Value → H} {P : Program} {w : World} {base : Nat} {held : Bool} {t e : TypeId} {f0 f1 : Field} {fuel : Nat} {v : Value} {x : DataW H × List MemPlace} (ht : P.underlying t = some (.slice e)) (he : P.underlying e = some (.struct #[f0, f1]))
    (ce : P.cellsOf e = 2) (o0 : f0.offset = 0) (o1 : f1.offset = 1) (c0 : P.cellsOf f0.type = 1) (c1 : P.cellsOf f1.type = 1) (h0 : P.underlying f0.type = some .string) (h1 : P.underlying f1.type = some (.int .i64))
    (h : DataW.trod enc P w base (fun _ => true) held fuel t [v] = some x) : ∃ es, Ents w v es := by
  rcases open_slice ht h with ⟨hcs, _⟩ | ⟨a, len, cap, m, n, D, Pl, hcs, hb, hl, hm, hmm, _, hx⟩
  · simp only [List.cons.injEq, and_true] at hcs
    exact ⟨[], by rw [hcs]; exact Ents.nil w none 0⟩
  · simp only [List.cons.injEq, and_true] at hcs
    simp only [if_true] at hmm
    by_cases hl0 : len = 0
    · subst hl0; exact ⟨[], by rw [hcs]; exact Ents.nil w (some a) cap⟩
    · have each : ∀ i, i < m → ∃ q : EN, w.cell? (a.add (i * 2)) = some (.string q.1) ∧ w.cell? (a.add (i * 2 + 1)) = some (.int .i64 q.2) ∧ q.1.size ≤ maxLen := by
        intro i hi
        obtain ⟨cs', k1, k2⟩ := hx i hi
        rw [ce] at k1
        obtain ⟨_, hlen, hcell⟩ := World.cells?_some k1
        obtain ⟨xs, k, hk, hxy, _, hxl, hf⟩ := DataW.trod_struct he k2
        match xs, hxl, cs', hlen with
        | [y0, y1], _, [v0, v1], _ =>
          have g0 := hf 0 f0 rfl
          have g1 := hf 1 f1 rfl
          simp [o0, o1, c0, c1] at g0 g1
          have e0 := hcell 0 (by omega)
          have e1 := hcell 1 (by omega)
          rw [add_add] at e0 e1
          obtain ⟨z0, hz0, _, hs⟩ := DataW.trod_string h0 g0
          obtain ⟨z1, hz1, _⟩ := DataW.trod_int h1 g1
          simp only [List.cons.injEq, and_true] at hz0 hz1
          subst hz0 hz1
          exact ⟨(z0, z1), by simpa using e0, by simpa using e1, hs⟩
      obtain ⟨q, hq⟩ := choose_lt each
      have ha := addr_of (by simpa using (hq 0 (by omega)).1)
      refine ⟨(List.range len).map q, some a, cap, ?_, ?_, fun k hk => ?_⟩
      · simp only [List.length_map, List.length_range]; exact hcs
      · simp only [List.length_map, List.length_range]
        refine ⟨by omega, by omega, fun k => ?_⟩
        by_cases hk : k < len
        · have hg : ((List.range len).map q)[k]?.getD en0 = q k := by simp [hk]
          rw [hg]
          exact (hq k (by omega)).2.2
        · rw [List.getElem?_eq_none (by simpa using Nat.le_of_not_lt hk)]
          simp [en0, ByteArray.size]
      · simp only [List.length_map, List.length_range] at hk
        obtain ⟨e0, e1, _⟩ := hq k (by omega)
        rw [ha, add_plain] at e0 e1
        have hg : ((List.range len).map q)[k]?.getD en0 = q k := by simp [hk]
        rw [hg]
        exact ⟨a.block, a.off, by rw [← ha], e0, e1⟩

theorem open_cap {H : Type} {enc : TypeId × Value → H} {P : Program} {w : World} {base : Nat} {held : Bool} {t e : TypeId} {fuel : Nat} {v : Value} {x : DataW H × List MemPlace} (ht : P.underlying t = some (.slice e)) (h : DataW.trod enc P w base (fun _ => true) held fuel t [v] = some x) : capOK v := by
  rcases DataW.trod_slice ht h with ⟨hcs, _⟩ | ⟨a, len, cap, _, _, _, _, hcs, _, _, hl, _⟩
  · simp only [List.cons.injEq, and_true] at hcs
    exact ⟨none, 0, 0, hcs, Nat.le_refl _⟩
  · simp only [List.cons.injEq, and_true] at hcs
    exact ⟨some a, len, cap, hcs, hl⟩
theorem Try.cellsStr : Try.prog.cellsOf 9 = 1 := by kernel_rfl
theorem Try.cellsEnt : Try.prog.cellsOf 134 = 2 := by kernel_rfl
theorem Try.cellsEnts : Try.prog.cellsOf 90 = 1 := by kernel_rfl
theorem Try.cellsIno : Try.prog.cellsOf 92 = 5 := by kernel_rfl
theorem array5 {α : Type} {a : Array α} (h : a.size = 5) : ∃ x0 x1 x2 x3 x4, a = #[x0, x1, x2, x3, x4] := by
  obtain ⟨l⟩ := a
  match l, h with
  | [x0, x1, x2, x3, x4], _ => exact ⟨x0, x1, x2, x3, x4, rfl⟩
theorem open_InoU {H : Type} {enc : TypeId × Value → H} {W : World} {r : Reach} {b0 : Nat} {v : Value} {d : DataW H} {p : List MemPlace} (hv : Value.okWide Try.prog W r b0 92 v) (h : DataW.Trod enc Try.prog W 0 (fun _ => true) true 92 v d p) :
    ∃ v0 v1 v2 vB vE id, v = .agg #[v0, v1, v2, vB, vE] ∧ InoR W v0 v1 v2 vB vE id := by
  obtain ⟨cs, rfl, hsz⟩ := okWide_struct Try.underlying92 hv
  obtain ⟨c0, c1, c2, c3, c4, rfl⟩ := array5 (hsz.trans Try.cellsIno)
  obtain ⟨fuel, hf⟩ := h
  obtain ⟨xs, k, hk, hxy, _, hxl, hg⟩ := DataW.trod_struct Try.underlying92 hf
  match xs, hxl with
  | [y0, y1, y2, y3, y4], _ =>
    have g0 : DataW.trod enc Try.prog W 0 (fun _ => true) true k 2 [c0] = some y0 := by simpa [Value.cells, Try.cellsInt] using hg 0 _ rfl
    have g1 : DataW.trod enc Try.prog W 0 (fun _ => true) true k 2 [c1] = some y1 := by simpa [Value.cells, Try.cellsInt] using hg 1 _ rfl
    have g2 : DataW.trod enc Try.prog W 0 (fun _ => true) true k 2 [c2] = some y2 := by simpa [Value.cells, Try.cellsInt] using hg 2 _ rfl
    have g3 : DataW.trod enc Try.prog W 0 (fun _ => true) true k 51 [c3] = some y3 := by simpa [Value.cells, Try.cellsInts] using hg 3 _ rfl
    have g4 : DataW.trod enc Try.prog W 0 (fun _ => true) true k 90 [c4] = some y4 := by simpa [Value.cells, Try.cellsEnts] using hg 4 _ rfl
    obtain ⟨z0, hz0, _⟩ := DataW.trod_int Try.underlying2 g0
    obtain ⟨z1, hz1, _⟩ := DataW.trod_int Try.underlying2 g1
    obtain ⟨z2, hz2, _⟩ := DataW.trod_int Try.underlying2 g2
    simp only [List.cons.injEq, and_true] at hz0 hz1 hz2
    obtain ⟨bs, hbs⟩ := open_Ints Try.underlying51 Try.underlying2 Try.cellsInt g3
    obtain ⟨es, hes⟩ := open_Ents Try.underlying90 Try.underlying134 Try.cellsEnt rfl rfl Try.cellsStr Try.cellsInt Try.underlying9 Try.underlying2 g4
    exact ⟨c0, c1, c2, c3, c4, (z0, z1, z2, bs, es), rfl, ⟨hz0, hz1, hz2, open_cap Try.underlying51 g3⟩, hbs, hes⟩
end Go.Proofs.Ytdgnhcfnhbkmlal

namespace Go.Proofs.Ytdgnhcfnhbkmlal
open Go.ChangeShapes Go.WideShapes Go.ChangeAt Go.RowKit Go.Joins Go.Deep
set_option maxRecDepth 100000

theorem open_Inos {H : Type} {enc : TypeId × Value → H} {w : World} {base : Nat} {held : Bool} {fuel : Nat} {v : Value} {x : DataW H × List MemPlace}
    (h : DataW.trod enc Try.prog w base (fun _ => true) held fuel 22 [v] = some x) : ∃ ds, Inos w v ds := by
  rcases open_slice Try.underlying22 h with ⟨hcs, _⟩ | ⟨a, len, cap, m, n, D, Pl, hcs, hb, hl, hm, hmm, _, hx⟩
  · simp only [List.cons.injEq, and_true] at hcs
    exact ⟨[], by rw [hcs]; exact Inos.nil w none 0⟩
  · simp only [List.cons.injEq, and_true] at hcs
    simp only [if_true] at hmm
    by_cases hl0 : len = 0
    · subst hl0; exact ⟨[], by rw [hcs]; exact Inos.nil w (some a) cap⟩
    · have each : ∀ i, i < m → ∃ q : ID, ∃ vB vE, w.cell? (a.add (i * 5)) = some (.int .i64 q.1) ∧ w.cell? (a.add (i * 5 + 1)) = some (.int .i64 q.2.1) ∧ w.cell? (a.add (i * 5 + 2)) = some (.int .i64 q.2.2.1) ∧ w.cell? (a.add (i * 5 + 3)) = some vB ∧ w.cell? (a.add (i * 5 + 4)) = some vE ∧ InoR w (.int .i64 q.1) (.int .i64 q.2.1) (.int .i64 q.2.2.1) vB vE q := by
        intro i hi
        obtain ⟨cs', k1, k2⟩ := hx i hi
        rw [Try.cellsIno] at k1
        obtain ⟨_, hlen, hcell⟩ := World.cells?_some k1
        obtain ⟨xs, k, hk, hxy, _, hxl, hg⟩ := DataW.trod_struct Try.underlying92 k2
        match xs, hxl, cs', hlen with
        | [y0, y1, y2, y3, y4], _, [c0, c1, c2, c3, c4], _ =>
          have g0 : DataW.trod enc Try.prog w base (fun _ => true) held k 2 [c0] = some y0 := by simpa [Try.cellsInt] using hg 0 _ rfl
          have g1 : DataW.trod enc Try.prog w base (fun _ => true) held k 2 [c1] = some y1 := by simpa [Try.cellsInt] using hg 1 _ rfl
          have g2 : DataW.trod enc Try.prog w base (fun _ => true) held k 2 [c2] = some y2 := by simpa [Try.cellsInt] using hg 2 _ rfl
          have g3 : DataW.trod enc Try.prog w base (fun _ => true) held k 51 [c3] = some y3 := by simpa [Try.cellsInts] using hg 3 _ rfl
          have g4 : DataW.trod enc Try.prog w base (fun _ => true) held k 90 [c4] = some y4 := by simpa [Try.cellsEnts] using hg 4 _ rfl
          have e0 := hcell 0 (by omega)
          have e1 := hcell 1 (by omega)
          have e2 := hcell 2 (by omega)
          have e3 := hcell 3 (by omega)
          have e4 := hcell 4 (by omega)
          rw [add_add] at e0 e1 e2 e3 e4
          obtain ⟨z0, hz0, _⟩ := DataW.trod_int Try.underlying2 g0
          obtain ⟨z1, hz1, _⟩ := DataW.trod_int Try.underlying2 g1
          obtain ⟨z2, hz2, _⟩ := DataW.trod_int Try.underlying2 g2
          simp only [List.cons.injEq, and_true] at hz0 hz1 hz2
          subst hz0 hz1 hz2
          obtain ⟨bs, hbs⟩ := open_Ints Try.underlying51 Try.underlying2 Try.cellsInt g3
          obtain ⟨es, hes⟩ := open_Ents Try.underlying90 Try.underlying134 Try.cellsEnt rfl rfl Try.cellsStr Try.cellsInt Try.underlying9 Try.underlying2 g4
          exact ⟨(z0, z1, z2, bs, es), c3, c4, by simpa using e0, by simpa using e1, by simpa using e2, by simpa using e3, by simpa using e4, ⟨rfl, rfl, rfl, open_cap Try.underlying51 g3⟩, hbs, hes⟩
      obtain ⟨q, hq⟩ := choose_lt each
      obtain ⟨_, _, hq0, _⟩ := hq 0 (by omega)
      have ha := addr_of (by simpa using hq0)
      refine ⟨(List.range len).map q, some a, cap, ?_, ?_, fun k hk => ?_⟩
      · simp only [List.length_map, List.length_range]; exact hcs
      · simp only [List.length_map, List.length_range]
        exact ⟨by omega, by omega⟩
      · simp only [List.length_map, List.length_range] at hk
        obtain ⟨vB, vE, e0, e1, e2, e3, e4, hR⟩ := hq k (by omega)
        rw [ha, add_plain] at e0 e1 e2 e3 e4
        have hg : ((List.range len).map q)[k]?.getD id0 = q k := by simp [hk]
        rw [hg]
        exact ⟨a.block, a.off, by rw [← ha], InoAt.mk' e0 e1 e2 e3 e4 hR⟩
end Go.Proofs.Ytdgnhcfnhbkmlal

namespace Go.Proofs.Ytdgnhcfnhbkmlal
open Go.ChangeShapes Go.WideShapes Go.ChangeAt Go.RowKit Go.Joins Go.Deep
set_option maxRecDepth 100000

theorem Try.cellsByteF : Try.prog.cellsOf 5 = 1 := by kernel_rfl
theorem Try.cellsBytF : Try.prog.cellsOf 43 = 1 := by kernel_rfl
theorem Try.cellsBytsF : Try.prog.cellsOf 23 = 1 := by kernel_rfl
theorem Try.cellsInosF : Try.prog.cellsOf 22 = 1 := by kernel_rfl
theorem Try.cellsFsF : Try.prog.cellsOf 25 = 2 := by kernel_rfl
theorem open_Byt {H : Type} {enc : TypeId × Value → H} {P : Program} {w : World} {base : Nat} {held : Bool} {t e : TypeId} {fuel : Nat} {v : Value} {x : DataW H × List MemPlace} (ht : P.underlying t = some (.slice e)) (he : P.underlying e = some (.int .u8)) (ce : P.cellsOf e = 1) (h : DataW.trod enc P w base (fun _ => true) held fuel t [v] = some x) :
    ∃ zs, Byt w v zs := by
  rcases open_slice1 ht ce h with ⟨hcs, _⟩ | ⟨a, len, cap, m, n, V, D, Pl, hcs, _, hl, hm, hmm, _, hx⟩
  · simp only [List.cons.injEq, and_true] at hcs
    exact ⟨[], by rw [hcs]; exact Byt.nil w none 0⟩
  · simp only [List.cons.injEq, and_true] at hcs
    simp only [if_true] at hmm
    by_cases h0 : len = 0
    · subst h0; exact ⟨[], by rw [hcs]; exact Byt.nil w (some a) cap⟩
    · have ha := addr_of (hx 0 (by omega)).1
      obtain ⟨Z, hZ⟩ := choose_lt (α := UInt8) (n := m) (p := fun i b => V i = .int .u8 ((b.toNat : Nat) : Int)) fun i hi => by
        obtain ⟨z, h1, _, hw⟩ := DataW.trod_int he (hx i hi).2
        have hz0 : IntKind.u8.min ≤ z ∧ z ≤ IntKind.u8.max := by simpa [Lit.wf] using hw
        have hz : 0 ≤ z ∧ z ≤ 255 := hz0
        refine ⟨UInt8.ofNat z.toNat, ?_⟩
        simp only [List.cons.injEq, and_true] at h1
        rw [h1]
        congr 1
        have : (UInt8.ofNat z.toNat).toNat = z.toNat := by simp; omega
        rw [this]; omega
      refine ⟨(List.range len).map Z, some a, cap, ?_, ?_, fun k hk => ?_⟩
      · simp only [List.length_map, List.length_range]; exact hcs
      · simp only [List.length_map, List.length_range]; exact ⟨by omega, by omega⟩
      · simp only [List.length_map, List.length_range] at hk
        have h1 := (hx k (by omega)).1
        rw [ha, add_plain] at h1
        refine ⟨a.block, a.off, by rw [← ha], ?_⟩
        rw [h1, hZ k (by omega)]
        simp [hk]
theorem open_Byts {H : Type} {enc : TypeId × Value → H} {P : Program} {w : World} {base : Nat} {held : Bool} {t e q : TypeId} {fuel : Nat} {v : Value} {x : DataW H × List MemPlace} (ht : P.underlying t = some (.slice e)) (he : P.underlying e = some (.slice q)) (hq : P.underlying q = some (.int .u8)) (ce : P.cellsOf e = 1) (cq : P.cellsOf q = 1)
    (h : DataW.trod enc P w base (fun _ => true) held fuel t [v] = some x) : ∃ zss, Byts w v zss := by
  rcases open_slice1 ht ce h with ⟨hcs, _⟩ | ⟨a, len, cap, m, n, V, D, Pl, hcs, _, hl, hm, hmm, _, hx⟩
  · simp only [List.cons.injEq, and_true] at hcs
    exact ⟨[], by rw [hcs]; exact Byts.nil w none 0⟩
  · simp only [List.cons.injEq, and_true] at hcs
    simp only [if_true] at hmm
    by_cases h0 : len = 0
    · subst h0; exact ⟨[], by rw [hcs]; exact Byts.nil w (some a) cap⟩
    · have ha := addr_of (hx 0 (by omega)).1
      obtain ⟨Z, hZ⟩ := choose_lt (α := List UInt8) (n := m) (p := fun i zs => Byt w (V i) zs) fun i hi => open_Byt he hq cq (hx i hi).2
      refine ⟨(List.range len).map Z, some a, cap, ?_, ?_, fun k hk => ?_⟩
      · simp only [List.length_map, List.length_range]; exact hcs
      · simp only [List.length_map, List.length_range]; exact ⟨by omega, by omega⟩
      · simp only [List.length_map, List.length_range] at hk
        have h1 := (hx k (by omega)).1
        rw [ha, add_plain] at h1
        have hg : ((List.range len).map Z)[k]?.getD [] = Z k := by simp [hk]
        rw [hg]
        obtain ⟨ua, uc, e1, e2, e3⟩ := hZ k (by omega)
        rw [e1] at h1
        exact ⟨a.block, a.off, ua, uc, by rw [← ha], h1, ua, uc, rfl, e2, e3⟩
theorem open_FsU {H : Type} {enc : TypeId × Value → H} {W : World} {r : Reach} {b0 : Nat} {v : Value} {d : DataW H} {p : List MemPlace} (hv : Value.okWide Try.prog W r b0 25 v) (h : DataW.Trod enc Try.prog W 0 (fun _ => true) true 25 v d p) :
    ∃ v0 v1 fd, v = .agg #[v0, v1] ∧ FsR W v0 v1 fd := by
  obtain ⟨cs, rfl, hsz⟩ := okWide_struct Try.underlying25 hv
  obtain ⟨c0, c1, rfl⟩ := array2 (hsz.trans Try.cellsFsF)
  obtain ⟨fuel, hf⟩ := h
  obtain ⟨xs, k, hk, hxy, _, hxl, hg⟩ := DataW.trod_struct Try.underlying25 hf
  match xs, hxl with
  | [y0, y1], _ =>
    have g0 : DataW.trod enc Try.prog W 0 (fun _ => true) true k 22 [c0] = some y0 := by simpa [Value.cells, Try.cellsInosF] using hg 0 _ rfl
    have g1 : DataW.trod enc Try.prog W 0 (fun _ => true) true k 23 [c1] = some y1 := by simpa [Value.cells, Try.cellsBytsF] using hg 1 _ rfl
    obtain ⟨ds, hds⟩ := open_Inos g0
    obtain ⟨zss, hz⟩ := open_Byts Try.underlying23 Try.underlying43 Try.underlying5 Try.cellsBytF Try.cellsByteF g1
    exact ⟨c0, c1, (ds, zss), rfl, hds, hz⟩
end Go.Proofs.Ytdgnhcfnhbkmlal

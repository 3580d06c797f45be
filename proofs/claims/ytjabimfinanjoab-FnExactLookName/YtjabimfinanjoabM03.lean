/- The walks of the laws' functions over lists of inodes: how great they are, copied, held against each other. Lists of inodes are marked. File systems: a list of inodes and a list of lists of bytes; the walks of the laws' functions over them. A file system is copied. File systems are marked; answers that hold bytes. What an inode's fault is. No program is named here. Words that grow by append; what PackInode answers. Which blocks are used and which are free. No program is named here. -/
import Derived.Test.YtjabimfinanjoabM02
import Derived.Test.YtjabimfinanjoabM01
namespace Go.Proofs.Ytjabimfinanjoab
open Go.RowKit
set_option maxRecDepth 100000

set_option maxHeartbeats 400000 in
theorem szInos_many (w : World) (a : Option Addr) (n cap : Nat) (left : Int) (h0 : 0 ≤ left) (h1 : left ≤ 1048576) (hn : n ≤ maxLen) (h : left < (n : Int)) :
    Calls Try.prog 10 #[.slice a n cap, .int .i64 left] w fun e w' => e = .returned (.int .i64 (-1)) ∧ w' = w := by
  unfold maxLen at hn
  have h' : left - (n : Int) < 0 := by omega
  go_enter Try.func10, Try.ntmps10
  go_wp2
  go_ret
  exact ⟨rfl, rfl⟩

set_option maxHeartbeats 1600000 in
theorem szInos_walk (w : World) (a : Option Addr) (cap n : Nat) (left : Int) (ds : List ID) (hzn : ds.length = n) (h0 : 0 ≤ left) (h1 : left ≤ 1048576) (h2 : ¬ left < (n : Int)) (hc : AtI w a n ds) :
    Calls Try.prog 10 #[.slice a n cap, .int .i64 left] w fun e w' => e = .returned (.int .i64 (szf left (n + (isz ds).sum))) ∧ Below w.heap.size w w' := by
  have HN : Hid (ds.length = n) := hzn
  have h2' : ¬ left - (n : Int) < 0 := by omega
  have HC : Hid (AtI w a n ds) := hc
  clear hzn hc
  go_enter Try.func10, Try.ntmps10
  go_wp2
  go_loopw [1, 5] (fun q i wr => ∃ j : Nat, j ≤ n ∧ i = .int .i64 j ∧ q = .int .i64 (left - (n : Int) - (upto (isz ds) j : Nat)) ∧ 0 ≤ left - (n : Int) - (upto (isz ds) j : Nat) ∧ Below w.heap.size w wr) (fun _ i _ => n - (intOf i).toNat)
  case atStart => exact ⟨0, Nat.zero_le _, rfl, by simp [upto_zero], by simp [upto_zero]; omega, Below.refl _ _⟩
  case round =>
    obtain ⟨j, hj, rfl, rfl, hq, hbl⟩ := hrel
    by_cases hlt : j < n
    · obtain ⟨b, o, rfl, hI⟩ := HC.out j hlt
      obtain ⟨aB, cB, aE, cE, c0, c1, c2, c3, c4, hR⟩ := hI.later hbl
      have hs := upto_succ (isz ds) j (by rw [isz_length, HN.out]; exact hlt)
      rw [isz_get] at hs
      have hle := upto_le (isz ds) (j + 1)
      have HS : Hid (upto (isz ds) (j + 1) = upto (isz ds) j + sizeIno (ds[j]?.getD id0)) := hs
      clear hs hI HC
      generalize upto (isz ds) j = U at *
      generalize ds[j]?.getD id0 = d at *
      have HI : Hid (InoR wr _ _ _ _ _ d) := hR
      have HBL : Hid (Below w.heap.size w wr) := hbl
      clear hR hbl
      by_cases hm : left - (n : Int) - (U : Int) < ((sizeIno d : Nat) : Int)
      · have HM : Hid (szf left (n + (isz ds).sum) = -1) := szf_no (by have := HS.out; omega)
        have HR' : Hid (szf (left - (n : Int) - (U : Int)) (sizeIno d) = -1) := szf_no hm
        go_wp2_with fail
        refine (szInodeU _ _ _ _ _ _ _ _ _ _ d HI.out _ hq (by omega)).mono ?_
        rw [HR'.out]
        rintro e w' ⟨rfl, hb⟩
        have HB : Hid (Below w.heap.size w w') := HBL.out.trans (hb.mono HBL.out.size)
        clear hb
        go_wp2
        go_ret
        exact ⟨ret_int HM.out.symm, HB.out⟩
      · have HR' : Hid (szf (left - (n : Int) - (U : Int)) (sizeIno d) = left - (n : Int) - (U : Int) - ((sizeIno d : Nat) : Int)) := szf_yes hm
        have hpos : ¬ (left - (n : Int) - (U : Int) - ((sizeIno d : Nat) : Int) < 0) := by omega
        go_wp2_with fail
        refine (szInodeU _ _ _ _ _ _ _ _ _ _ d HI.out _ hq (by omega)).mono ?_
        rw [HR'.out]
        rintro e w' ⟨rfl, hb⟩
        have HB : Hid (Below w.heap.size w w') := HBL.out.trans (hb.mono HBL.out.size)
        clear hb
        go_wp2
        go_roundw
        case rel => exact ⟨j + 1, by omega, by go_num, by rw [HS.out]; go_num, by rw [HS.out]; omega, HB.out⟩
        case measure => simp [intOf]; omega
    · go_wp2
      go_ret
      have e : j = n := by omega
      subst e
      have ha := upto_all (isz ds)
      rw [isz_length, HN.out] at ha
      refine ⟨ret_int ?_, hbl⟩
      rw [ha] at hq ⊢
      rw [szf_yes (by omega)]
      omega

theorem szInosU (w : World) (a : Option Addr) (n c : Nat) (d : List ID) (h : Inos w (.slice a n c) d) (left : Int) (l0 : 0 ≤ left) (l1 : left ≤ 1048576) :
    Calls Try.prog 10 #[.slice a n c, .int .i64 left] w fun e w' => e = .returned (.int .i64 (szf left (sizeInos d))) ∧ Below w.heap.size w w' := by
  obtain ⟨a', cap, e, hm, hc⟩ := h.open'
  simp only [Value.slice.injEq] at e
  obtain ⟨rfl, rfl, rfl⟩ := e
  by_cases h : left < (d.length : Int)
  · refine (szInos_many w _ d.length _ left l0 l1 hm.1 h).mono fun e w' ⟨he, hw⟩ => ⟨he.trans (ret_int ?_), hw ▸ Below.refl _ _⟩
    rw [szf_no (by unfold sizeInos; omega)]
  · exact szInos_walk w _ _ d.length left d rfl l0 l1 h hc

theorem toInodeV (w : World) (aB : Option Addr) (nB cB : Nat) (aE : Option Addr) (nE cE : Nat) (d : ID) (h : InoR w (.int .i64 d.1) (.int .i64 d.2.1) (.int .i64 d.2.2.1) (.slice aB nB cB) (.slice aE nE cE) d) (hs : sizeIno d ≤ 1048576) :
    Calls Try.prog 24 #[.agg #[.int .i64 d.1, .int .i64 d.2.1, .int .i64 d.2.2.1, .slice aB nB cB, .slice aE nE cE]] w fun e w' => ∃ dB eB fB dE eE fE, e = .returned (.agg #[.int .i64 d.1, .int .i64 d.2.1, .int .i64 d.2.2.1, .slice dB eB fB, .slice dE eE fE]) ∧ Below w.heap.size w w' ∧ InoU w' (.int .i64 d.1) (.int .i64 d.2.1) (.int .i64 d.2.2.1) (.slice dB eB fB) (.slice dE eE fE) d (fresh w w') := by
  refine (toInodeU w _ _ _ aB nB cB aE nE cE d h hs).mono ?_
  rintro e w' ⟨y0, y1, y2, dB, eB, fB, dE, eE, fE, rfl, hb, ⟨⟨e0, e1, e2, hcap⟩, hu⟩⟩
  simp only [Value.int.injEq, true_and] at e0 e1 e2
  subst e0 e1 e2
  exact ⟨dB, eB, fB, dE, eE, fE, rfl, hb, ⟨rfl, rfl, rfl, hcap⟩, hu⟩

theorem Try.infoIno : (Try.prog.info? 45).map (fun i => (i.zero, i.size, i.bytes)) = some (some (.agg #[.int .i64 0, .int .i64 0, .int .i64 0, .slice none 0 0, .slice none 0 0]), 5, 72) := by kernel_rfl

set_option maxHeartbeats 3200000 in
theorem toInos_walk (w : World) (a : Option Addr) (cap n : Nat) (ds : List ID) (hn : n ≤ 1048576) (hz : ∀ k : Nat, sizeIno (ds[k]?.getD id0) ≤ 1048576) (hc : AtI w a n ds) :
    Calls Try.prog 14 #[.slice a n cap] w fun e w' => e = .returned (.slice (some ⟨w.heap.size, 0, none⟩) n n) ∧ Below w.heap.size w w' ∧
      ∃ u s, OwnRow w' w.heap.size (n * 5) (inCell ds u) ∧ BuiltI w' (w.heap.size + 1) n u (fun i => ds[i]?.getD id0) s := by
  have hmk := fun w => run_make_five (P := Try.prog) 30 45 (.int .i64 0) (.int .i64 0) (.int .i64 0) (.slice none 0 0) (.slice none 0 0) 72 Try.underlying30 Try.infoIno rfl .i64 .i64 n (by omega) (by omega) w
  have HZ : Hid (∀ k : Nat, sizeIno (ds[k]?.getD id0) ≤ 1048576) := hz
  have HC : Hid (AtI w a n ds) := hc
  clear hz hc
  go_enter Try.func14, Try.ntmps14
  go_wp2
  clear hmk
  go_loopw [4] (fun i wr => ∃ j : Nat, j ≤ n ∧ i = .int .i64 j ∧ Below w.heap.size w wr ∧ ∃ u s, OwnRow wr w.heap.size (n * 5) (partI ds u j) ∧ BuiltI wr (w.heap.size + 1) j u (fun i => ds[i]?.getD id0) s) (fun i _ => n - (intOf i).toNat)
  case atStart => exact ⟨0, Nat.zero_le _, rfl, later1 _ _, fun _ => (.slice none 0 0, .slice none 0 0), _, (OwnRow.madeFive w n 45).congr fun i _ => by simp [partI], BuiltI.nil _ _ (by simp)⟩
  case round =>
    obtain ⟨j, hj, rfl, hbl, u, s, hrow, hbt⟩ := hrel
    by_cases hlt : j < n
    · obtain ⟨b, o, rfl, hI⟩ := HC.out j hlt
      obtain ⟨aB, cB, aE, cE, c0, c1, c2, c3, c4, hR⟩ := hI.later hbl
      have HI : Hid (InoR wr _ _ _ _ _ (ds[j]?.getD id0)) := hR
      have HBL : Hid (Below w.heap.size w wr) := hbl
      have HROW : Hid (OwnRow wr w.heap.size (n * 5) (partI ds u j)) := hrow
      have HBT : Hid (BuiltI wr (w.heap.size + 1) j u (fun i => ds[i]?.getD id0) s) := hbt
      clear hI hR hbl hrow hbt HC
      go_wp2_with fail
      refine (toInodeV _ _ _ _ _ _ _ _ HI.out (HZ.out j)).mono ?_
      rintro e w1 ⟨dB, eB, fB, dE, eE, fE, rfl, hb1, ho1⟩
      have HB1 : Hid (Below wr.heap.size wr w1) := hb1
      have HO1 : Hid (InoU w1 _ _ _ (.slice dB eB fB) (.slice dE eE fE) (ds[j]?.getD id0) (fresh wr w1)) := ho1
      have HROW1 : Hid (OwnRow w1 w.heap.size (n * 5) (partI ds u j)) := HROW.out.block (hb1.block _ HROW.out.lt)
      have zz : ∀ q, q < 5 → partI ds u j (j * 5 + q) = zeroI q := fun q hq => by unfold partI zeroI; rw [if_neg (by omega), show (j * 5 + q) % 5 = q % 5 by omega]
      have d0 : w1.cell? ⟨w.heap.size, j * 5, none⟩ = some (.int .i64 0) := by rw [HROW1.out.cell (by omega)]; exact congrArg some (zz 0 (by omega))
      have d1 : w1.cell? ⟨w.heap.size, j * 5 + 1, none⟩ = some (.int .i64 0) := by rw [HROW1.out.cell (by omega), zz 1 (by omega)]; rfl
      have d2 : w1.cell? ⟨w.heap.size, j * 5 + 2, none⟩ = some (.int .i64 0) := by rw [HROW1.out.cell (by omega), zz 2 (by omega)]; rfl
      have d3 : w1.cell? ⟨w.heap.size, j * 5 + 3, none⟩ = some (.slice none 0 0) := by rw [HROW1.out.cell (by omega), zz 3 (by omega)]; rfl
      have d4 : w1.cell? ⟨w.heap.size, j * 5 + 4, none⟩ = some (.slice none 0 0) := by rw [HROW1.out.cell (by omega), zz 4 (by omega)]; rfl
      have f0 := HROW1.out.frozen (j * 5)
      have f1 := HROW1.out.frozen (j * 5 + 1)
      have f2 := HROW1.out.frozen (j * 5 + 2)
      have f3 := HROW1.out.frozen (j * 5 + 3)
      have f4 := HROW1.out.frozen (j * 5 + 4)
      clear hb1 ho1 zz c0 c1 c2 c3 c4
      go_wp2
      go_roundw
      case rel =>
        refine ⟨j + 1, by omega, by go_num, (((((HBL.out.trans (HB1.out.mono HBL.out.size)).setCell (Nat.le_refl _) _).setCell (Nat.le_refl _) _).setCell (Nat.le_refl _) _).setCell (Nat.le_refl _) _).setCell (Nat.le_refl _) _, _, _, (((((HROW1.out.set (j * 5) _).set (j * 5 + 1) _).set (j * 5 + 2) _).set (j * 5 + 3) _).set (j * 5 + 4) _).congr fun c _ => partI_next ds u j c _ _, (((((HBT.out.next HB1.out HO1.out).store (by simp) _).store (by simp) _).store (by simp) _).store (by simp) _).store (by simp) _⟩
      case measure => simp [intOf]; omega
    · go_wp2
      go_ret
      have e : j = n := by omega
      subst e
      exact ⟨rfl, hbl, u, s, hrow.congr fun i hi => by simp [partI, hi], hbt⟩

theorem toInosU {w : World} {v : Value} {ds : List ID} (h : Inos w v ds) (hn : sizeInos ds ≤ 1048576) :
    Calls Try.prog 14 #[v] w fun e w' => ∃ a n c, e = .returned (.slice a n c) ∧ Below w.heap.size w w' ∧ InosO w' (.slice a n c) ds (fresh w w') := by
  obtain ⟨a, cap, rfl, hm, hc⟩ := h.open'
  unfold sizeInos at hn
  refine (toInos_walk w a cap ds.length ds (by omega) (fun k => by have := isz_le ds k; omega) hc).mono fun e w' ⟨he, hb, u, s, hr, hbt⟩ => ⟨_, _, _, he, hb, ?_⟩
  exact BuiltI.inos ds hbt rfl ⟨hm.1, Nat.le_refl _⟩ (Nat.lt_succ_self _) hr _ ⟨Nat.le_refl _, hr.lt⟩ (fun c h1 h2 => ⟨by omega, h2⟩)

set_option maxHeartbeats 3200000 in
theorem eqInos_walk (w : World) (a a' : Option Addr) (cap cap' n : Nat) (ds : List ID) (hn : n ≤ maxLen) (hc : AtI w a n ds) (hc' : AtI w a' n ds) :
    Calls Try.prog 18 #[.slice a n cap, .slice a' n cap'] w fun e w' => e = .returned (.bool true) ∧ Below w.heap.size w w' := by
  unfold maxLen at hn
  have HC : Hid (AtI w a n ds) := hc
  have HC' : Hid (AtI w a' n ds) := hc'
  clear hc hc'
  go_enter Try.func18, Try.ntmps18
  go_wp2
  go_loopw [5] (fun i wr => ∃ k : Nat, k ≤ n ∧ i = .int .i64 k ∧ Below w.heap.size w wr) (fun i _ => n - (intOf i).toNat)
  case atStart => exact ⟨0, Nat.zero_le _, rfl, Below.refl _ _⟩
  case round =>
    obtain ⟨j, hj, rfl, hbl⟩ := hrel
    by_cases hlt : j < n
    · obtain ⟨b, o, rfl, hI⟩ := HC.out j hlt
      obtain ⟨b', o', rfl, hI'⟩ := HC'.out j hlt
      obtain ⟨aB, cB, aE, cE, c0, c1, c2, c3, c4, hR⟩ := hI.later hbl
      obtain ⟨aB', cB', aE', cE', d0, d1, d2, d3, d4, hR'⟩ := hI'.later hbl
      clear hI hI' HC HC'
      have HI : Hid (InoR wr _ _ _ _ _ (ds[j]?.getD id0)) := hR
      have HI' : Hid (InoR wr _ _ _ _ _ (ds[j]?.getD id0)) := hR'
      have HBL : Hid (Below w.heap.size w wr) := hbl
      clear hbl hR hR'
      generalize ds[j]?.getD id0 = d at *
      have HEQ : Hid (∀ W, Below wr.heap.size wr W → Calls Try.prog 28 #[.agg #[.int .i64 d.1, .int .i64 d.2.1, .int .i64 d.2.2.1, .slice aB d.2.2.2.1.length cB, .slice aE d.2.2.2.2.length cE], .agg #[.int .i64 d.1, .int .i64 d.2.1, .int .i64 d.2.2.1, .slice aB' d.2.2.2.1.length cB', .slice aE' d.2.2.2.2.length cE']] W fun e w' => e = .returned (.bool true) ∧ Below W.heap.size W w') := fun W hW => eqInodeU W _ _ _ _ _ _ _ _ _ _ d (HI.out.later hW) (HI'.out.later hW)
      clear HI HI'
      generalize d.2.2.2.1.length = m1 at *
      generalize d.2.2.2.2.length = m2 at *
      generalize d.1 = z0 at *
      generalize d.2.1 = z1 at *
      generalize d.2.2.1 = z2 at *
      go_wp2_with fail
      go_region_with ((go_at_call 28; refine (HEQ.out _ (Below.refl _ _).drew).mono ?_; rintro e w' ⟨rfl, hb2⟩))
      all_goals
        go_wp2
        go_roundw
        case rel => exact ⟨j + 1, by omega, by go_num, (HBL.out.drew).trans (hb2.mono HBL.out.size)⟩
        case measure => simp [intOf]; omega
    · go_wp2
      go_ret
      exact ⟨rfl, hbl⟩
theorem eqInosU {w : World} {v v' : Value} {ds : List ID} (h : Inos w v ds) (h' : Inos w v' ds) : Calls Try.prog 18 #[v, v'] w fun e w' => e = .returned (.bool true) ∧ Below w.heap.size w w' := by
  obtain ⟨a, cap, rfl, hm, hc⟩ := h.open'
  obtain ⟨a', cap', rfl, _, hc'⟩ := h'.open'
  exact eqInos_walk w a a' cap cap' ds.length ds hm.1 hc hc'
end Go.Proofs.Ytjabimfinanjoab

namespace Go.Proofs.Ytjabimfinanjoab
open Go.RowKit
set_option maxRecDepth 100000

/-- Where the marks of inode j begin. -/
def inum (k : Nat) (ds : List ID) (j : Nat) : Nat := k + upto (isp ds) j
/-- What stands of a list of inodes of which the first j are marked. -/
structure HalfI (w : World) (b n j : Nat) (ds : List ID) (u : Nat → Value × Value) (F1 G1 : Nat → Nat → Prop) : Prop where
  row : ∃ f, OwnRow w b (n * 5) f ∧ (∀ i, i < n → f (i * 5 + 3) = (u i).1 ∧ f (i * 5 + 4) = (u i).2) ∧ ∀ i, i < n → ∀ q, q < 3 → ∃ z, f (i * 5 + q) = .int .i64 z
  ints : ∀ i, j ≤ i → i < n → IntsO w (u i).1 (ds[i]?.getD id0).2.2.2.1 (F1 i)
  ents : ∀ i, j ≤ i → i < n → EntsO w (u i).2 (ds[i]?.getD id0).2.2.2.2 (G1 i)
theorem HalfI.row_set {w : World} {b n j q : Nat} {ds : List ID} {u : Nat → Value × Value} {F1 G1 : Nat → Nat → Prop} (h : HalfI w b n j ds u F1 G1) (i : Nat) (hq : q < 3) (z : Int) (hF : ∀ i, ¬ F1 i b) (hG : ∀ i, ¬ G1 i b) : HalfI (w.setCell ⟨b, i * 5 + q, none⟩ (.int .i64 z)) b n j ds u F1 G1 := by
  obtain ⟨f, hr, h1, h2⟩ := h.row
  refine ⟨⟨_, hr.set (i * 5 + q) (.int .i64 z), fun k hk => ?_, fun k hk p hp => ?_⟩, fun k hj hk => (h.ints k hj hk).keep fun c hc _ => Below.heap_setCell _ _ _ _ (fun e => hF k (by have e' : c = b := e; rwa [e'] at hc)), fun k hj hk => (h.ents k hj hk).keep fun c hc _ => Below.heap_setCell _ _ _ _ (fun e => hG k (by have e' : c = b := e; rwa [e'] at hc))⟩
  · rw [if_neg (by omega), if_neg (by omega)]
    exact h1 k hk
  · by_cases e : k * 5 + p = i * 5 + q
    · exact ⟨z, by rw [if_pos e]⟩
    · rw [if_neg e]; exact h2 k hk p hp

theorem choose_fg {n : Nat} {P : Nat → (Nat → Prop) → (Nat → Prop) → Prop} (h : ∀ i, i < n → ∃ F G, P i F G) : ∃ (F G : Nat → Nat → Prop), ∀ i, i < n → P i (F i) (G i) := by
  have h' : ∀ i, ∃ FG : (Nat → Prop) × (Nat → Prop), i < n → P i FG.1 FG.2 := fun i => by
    by_cases hi : i < n
    · obtain ⟨F, G, hp⟩ := h i hi
      exact ⟨(F, G), fun _ => hp⟩
    · exact ⟨(fun _ => False, fun _ => False), fun h => absurd h hi⟩
  exact ⟨fun i => (Classical.choose (h' i)).1, fun i => (Classical.choose (h' i)).2, fun i hi => Classical.choose_spec (h' i) hi⟩

end Go.Proofs.Ytjabimfinanjoab

namespace Go.Proofs.Ytjabimfinanjoab
open Go.RowKit
set_option maxRecDepth 100000

set_option maxHeartbeats 1600000 in
theorem eqByts_walk (w : World) (a a' : Option Addr) (cap cap' n : Nat) (zss : List (List UInt8)) (hn : n ≤ maxLen) (hc : AtYs w a n zss) (hc' : AtYs w a' n zss) :
    Calls Try.prog 19 #[.slice a n cap, .slice a' n cap'] w fun e w' => e = .returned (.bool true) ∧ Below w.heap.size w w' := by
  unfold maxLen at hn
  have HC : Hid (AtYs w a n zss) := hc
  have HC' : Hid (AtYs w a' n zss) := hc'
  clear hc hc'
  go_enter Try.func19, Try.ntmps19
  go_wp2
  go_loopw [5] (fun i wr => ∃ j m : Nat, j ≤ n ∧ i = .int .i64 j ∧ wr = w.drewN m) (fun i _ => n - (intOf i).toNat)
  case atStart => exact ⟨0, 0, Nat.zero_le _, rfl, rfl⟩
  case round =>
    obtain ⟨j, m, hj, rfl, rfl⟩ := hrel
    by_cases hlt : j < n
    · obtain ⟨b, o, ua, uc, rfl, d0, i0⟩ := HC.out j hlt
      obtain ⟨b', o', ua', uc', rfl, d1, i1⟩ := HC'.out j hlt
      have HEQ : Hid (∀ q, Calls Try.prog 29 #[.slice ua (zss[j]?.getD []).length uc, .slice ua' (zss[j]?.getD []).length uc'] (w.drewN q) fun e w' => e = .returned (.bool true) ∧ ∃ m', w' = (w.drewN q).drewN m') := fun q => eqBytU (w := w.drewN q) (i0.later (below_drewN (Below.refl _ _) q)) (i1.later (below_drewN (Below.refl _ _) q))
      clear i0 i1 HC HC'
      generalize (zss[j]?.getD []).length = ln at *
      go_wp2_with fail
      go_quiet ((go_at_call 29; exact quiet_of2 (HEQ.out _)))
      go_wp2
      go_roundw
      case rel => exact ⟨j + 1, _, by omega, by go_num, rfl⟩
      case measure => simp [intOf]; omega
    · go_wp2
      go_ret
      exact ⟨rfl, below_drewN (Below.refl _ _) m⟩
theorem eqBytsU {w : World} {v v' : Value} {zss : List (List UInt8)} (h : Byts w v zss) (h' : Byts w v' zss) : Calls Try.prog 19 #[v, v'] w fun e w' => e = .returned (.bool true) ∧ Below w.heap.size w w' := by
  obtain ⟨a, cap, rfl, hm, hc⟩ := h.open'
  obtain ⟨a', cap', rfl, _, hc'⟩ := h'.open'
  exact eqByts_walk w a a' cap cap' _ zss hm.1 hc hc'

/-- File systems. -/
abbrev FD := List ID × List (List UInt8)
def FsR (w : World) (v1 v2 : Value) (d : FD) : Prop := Inos w v1 d.1 ∧ Byts w v2 d.2
theorem FsR.later {w w' : World} {v1 v2 : Value} {d : FD} (h : FsR w v1 v2 d) (hb : Below w.heap.size w w') : FsR w' v1 v2 d := ⟨h.1.later hb, h.2.later hb⟩
def FsU (w : World) (v1 v2 : Value) (d : FD) (F : Nat → Prop) : Prop := ∃ F1 G1 : Nat → Prop, InosO w v1 d.1 F1 ∧ BytsO w v2 d.2 G1 ∧ (∀ b, F1 b → ¬ G1 b) ∧ ∀ b, F1 b ∨ G1 b → F b
theorem FsU.reads {w : World} {v1 v2 : Value} {d : FD} {F : Nat → Prop} (h : FsU w v1 v2 d F) : FsR w v1 v2 d := by
  obtain ⟨_, _, h1, h2, _⟩ := h
  exact ⟨h1.reads, h2.reads⟩
theorem FsU.keep {w w' : World} {v1 v2 : Value} {d : FD} {F : Nat → Prop} (h : FsU w v1 v2 d F) (e : ∀ b, F b → b < w.heap.size → w'.heap[b]? = w.heap[b]?) : FsU w' v1 v2 d F := by
  obtain ⟨F1, G1, h1, h2, hd, hf⟩ := h
  exact ⟨F1, G1, h1.keep fun b hb => e b (hf b (Or.inl hb)), h2.keep fun b hb => e b (hf b (Or.inr hb)), hd, hf⟩
theorem FsU.later {w w' : World} {v1 v2 : Value} {d : FD} {F : Nat → Prop} (h : FsU w v1 v2 d F) (hb : Below w.heap.size w w') : FsU w' v1 v2 d F := h.keep fun b _ hlt => hb.block b hlt
theorem FsU.mono {w : World} {v1 v2 : Value} {d : FD} {F G : Nat → Prop} (h : FsU w v1 v2 d F) (e : ∀ b, F b → G b) : FsU w v1 v2 d G := by
  obtain ⟨F1, G1, h1, h2, hd, hf⟩ := h
  exact ⟨F1, G1, h1, h2, hd, fun b hb => e b (hf b hb)⟩
theorem FsU.chg {w w' : World} {v1 v2 : Value} {d : FD} {F G : Nat → Prop} (h : FsU w v1 v2 d F) (hc : Chg G w w') (hd : ∀ b, F b → ¬ G b) : FsU w' v1 v2 d F := h.keep fun b hb hlt => hc.block b hlt (hd b hb)
def sizeFs (d : FD) : Nat := sizeInos d.1 + sizeByts d.2
def spanFs (d : FD) : Nat := spanInos d.1 + (ylens d.2).sum
theorem spanFs_le (d : FD) : spanFs d ≤ 3 * sizeFs d := by
  have := spanInos_le d.1
  unfold spanFs sizeFs sizeByts
  omega

set_option maxHeartbeats 800000 in
theorem szFsU (w : World) (a1 : Option Addr) (n1 c1 : Nat) (a2 : Option Addr) (n2 c2 : Nat) (d : FD) (h : FsR w (.slice a1 n1 c1) (.slice a2 n2 c2) d) (left : Int) (l0 : 0 ≤ left) (l1 : left ≤ 1048576) :
    Calls Try.prog 4 #[.agg #[.slice a1 n1 c1, .slice a2 n2 c2], .int .i64 left] w fun e w' => e = .returned (.int .i64 (szf left (sizeFs d))) ∧ Below w.heap.size w w' := by
  have H1 : Hid (Inos w (.slice a1 n1 c1) d.1) := h.1
  have H2 : Hid (Byts w (.slice a2 n2 c2) d.2) := h.2
  have HX : Hid (Bx (w.alloc (.cells #[.slice a1 n1 c1, .slice a2 n2 c2] 25)) w.heap.size [.slice a1 n1 c1, .slice a2 n2 c2]) := Bx.new w [.slice a1 n1 c1, .slice a2 n2 c2] _
  clear h
  by_cases hm : left < ((sizeInos d.1 : Nat) : Int)
  · have HR : Hid (szf left (sizeInos d.1) = -1) := szf_no hm
    have HM : Hid (szf left (sizeFs d) = -1) := szf_no (by unfold sizeFs; omega)
    rw [HM.out]
    go_enter Try.func4, Try.ntmps4
    go_wp2_with fail
    refine (szInosU _ _ _ _ d.1 (H1.out.later (later1 _ _)) _ l0 l1).mono ?_
    rw [HR.out]
    rintro e w1 ⟨rfl, hb1⟩
    have HB1 : Hid (Below w.heap.size w w1) := (later1 _ _).trans (hb1.mono (by simp))
    clear hb1
    go_wp2
    go_ret
    exact ⟨rfl, HB1.out⟩
  · have HR : Hid (szf left (sizeInos d.1) = left - ((sizeInos d.1 : Nat) : Int)) := szf_yes hm
    have hpos : ¬ left - ((sizeInos d.1 : Nat) : Int) < 0 := by omega
    have HD : Hid (szf (left - ((sizeInos d.1 : Nat) : Int)) (sizeByts d.2) = szf left (sizeFs d)) := by
      unfold Hid szf sizeFs
      split <;> split <;> omega
    have hx0 : (0 : Int) ≤ ((sizeInos d.1 : Nat) : Int) := by omega
    generalize ((sizeInos d.1 : Nat) : Int) = X at *
    have hrr : szf left (sizeFs d) = -1 ∨ 0 ≤ szf left (sizeFs d) := by unfold szf; split <;> omega
    generalize hr : szf left (sizeFs d) = r at *
    clear hr
    have step : ∀ (P : Prop), (r < 0 → r = -1 → P) → (¬ r < 0 → P) → P := fun P h1 h2 => hrr.elim (fun e => h1 (by omega) e) (fun e => h2 (by omega))
    apply step
    · intro hneg he
      subst he
      clear step hrr
      go_enter Try.func4, Try.ntmps4
      go_wp2_with fail
      refine (szInosU _ _ _ _ d.1 (H1.out.later (later1 _ _)) _ l0 l1).mono ?_
      rw [HR.out]
      rintro e w1 ⟨rfl, hb1⟩
      have HB1 : Hid (Below w.heap.size w w1) := (later1 _ _).trans (hb1.mono (by simp))
      have x1 := (HX.out.later hb1) 1 _ rfl
      clear hb1
      go_wp2_with fail
      refine (szBytsU _ _ _ _ d.2 (H2.out.later HB1.out) _ (by omega) (by omega)).mono ?_
      rw [HD.out]
      rintro e w2 ⟨rfl, hb2⟩
      have HB2 : Hid (Below w.heap.size w w2) := HB1.out.trans (hb2.mono HB1.out.size)
      clear hb2 x1
      go_wp2
      go_ret
      exact ⟨rfl, HB2.out⟩
    · intro hnn
      clear step hrr
      go_enter Try.func4, Try.ntmps4
      go_wp2_with fail
      refine (szInosU _ _ _ _ d.1 (H1.out.later (later1 _ _)) _ l0 l1).mono ?_
      rw [HR.out]
      rintro e w1 ⟨rfl, hb1⟩
      have HB1 : Hid (Below w.heap.size w w1) := (later1 _ _).trans (hb1.mono (by simp))
      have x1 := (HX.out.later hb1) 1 _ rfl
      clear hb1
      go_wp2_with fail
      refine (szBytsU _ _ _ _ d.2 (H2.out.later HB1.out) _ (by omega) (by omega)).mono ?_
      rw [HD.out]
      rintro e w2 ⟨rfl, hb2⟩
      have HB2 : Hid (Below w.heap.size w w2) := HB1.out.trans (hb2.mono HB1.out.size)
      clear hb2 x1
      go_wp2
      go_ret
      exact ⟨rfl, HB2.out⟩

set_option maxHeartbeats 1600000 in
theorem eqFsU (w : World) (v1 v2 v1' v2' : Value) (d : FD) (h : FsR w v1 v2 d) (h' : FsR w v1' v2' d) :
    Calls Try.prog 9 #[.agg #[v1, v2], .agg #[v1', v2']] w fun e w' => e = .returned (.bool true) ∧ Below w.heap.size w w' := by
  obtain ⟨a1, c1, rfl, _⟩ := h.1.open'
  obtain ⟨a2, c2, rfl, _⟩ := h.2.open'
  obtain ⟨b1, k1, rfl, _⟩ := h'.1.open'
  obtain ⟨b2, k2, rfl, _⟩ := h'.2.open'
  have H1 : Hid (Inos w _ d.1) := h.1
  have H2 : Hid (Byts w _ d.2) := h.2
  have H1' : Hid (Inos w _ d.1) := h'.1
  have H2' : Hid (Byts w _ d.2) := h'.2
  clear h h'
  generalize d.1.length = m1 at *
  generalize d.2.length = m2 at *
  have HX : Hid (Bx ((w.alloc (.cells #[.slice a1 m1 c1, .slice a2 m2 c2] 32)).alloc (.cells #[.slice b1 m1 k1, .slice b2 m2 k2] 32)) w.heap.size [.slice a1 m1 c1, .slice a2 m2 c2]) := (Bx.new w [.slice a1 m1 c1, .slice a2 m2 c2] _).later (later1 _ _)
  have HY : Hid (Bx ((w.alloc (.cells #[.slice a1 m1 c1, .slice a2 m2 c2] 32)).alloc (.cells #[.slice b1 m1 k1, .slice b2 m2 k2] 32)) (w.heap.size + 1) [.slice b1 m1 k1, .slice b2 m2 k2]) := by
    have := Bx.new (w.alloc (.cells #[.slice a1 m1 c1, .slice a2 m2 c2] 32)) [.slice b1 m1 k1, .slice b2 m2 k2] 32
    rw [World.size_alloc] at this
    exact this
  go_enter Try.func9, Try.ntmps9
  go_wp2_with fail
  refine (eqInosU (H1.out.later (later2 _ _ _)) (H1'.out.later (later2 _ _ _))).mono ?_
  rintro e w1 ⟨rfl, hb1⟩
  have HB1 : Hid (Below w.heap.size w w1) := (later2 _ _ _).trans (hb1.mono (by simp; omega))
  have x1 := (HX.out.later hb1) 1 _ rfl
  have y1 := (HY.out.later hb1) 1 _ rfl
  clear hb1
  go_wp2_with fail
  refine (eqBytsU (H2.out.later HB1.out) (H2'.out.later HB1.out)).mono ?_
  rintro e w2 ⟨rfl, hb2⟩
  have HB2 : Hid (Below w.heap.size w w2) := HB1.out.trans (hb2.mono HB1.out.size)
  clear hb2
  go_wp2
  go_ret
  exact ⟨rfl, HB2.out⟩
end Go.Proofs.Ytjabimfinanjoab

namespace Go.Proofs.Ytjabimfinanjoab
open Go.RowKit
set_option maxRecDepth 100000

set_option maxHeartbeats 3200000 in
theorem toFsU (w : World) (a1 : Option Addr) (n1 c1 : Nat) (a2 : Option Addr) (n2 c2 : Nat) (d : FD) (h : FsR w (.slice a1 n1 c1) (.slice a2 n2 c2) d) (hs : sizeFs d ≤ 1048576) :
    Calls Try.prog 6 #[.agg #[.slice a1 n1 c1, .slice a2 n2 c2]] w fun e w' => ∃ b1 m1 k1 b2 m2 k2, e = .returned (.agg #[.slice b1 m1 k1, .slice b2 m2 k2]) ∧ Below w.heap.size w w' ∧ FsU w' (.slice b1 m1 k1) (.slice b2 m2 k2) d (fresh w w') := by
  have H1 : Hid (Inos w (.slice a1 n1 c1) d.1) := h.1
  have H2 : Hid (Byts w (.slice a2 n2 c2) d.2) := h.2
  have L1 : Hid (sizeInos d.1 ≤ 1048576) := by unfold sizeFs at hs; unfold Hid; omega
  have L2 : Hid (sizeByts d.2 ≤ 1048576) := by unfold sizeFs at hs; unfold Hid; omega
  clear h hs
  go_enter Try.func6, Try.ntmps6
  go_wp2_with fail
  have O2 : OwnRow (((w.alloc (.cells #[.slice a1 n1 c1, .slice a2 n2 c2] 25)).alloc (.cells #[.slice none 0 0, .slice none 0 0] 32)).alloc (.cells #[.slice none 0 0, .slice none 0 0] 32)) (w.heap.size + 1 + 1) 2 (fun i => if i = 0 then .slice none 0 0 else .slice none 0 0) := by
    have := OwnRow.two ((w.alloc (.cells #[.slice a1 n1 c1, .slice a2 n2 c2] 25)).alloc (.cells #[.slice none 0 0, .slice none 0 0] 32)) (.slice none 0 0) (.slice none 0 0) 32
    simpa using this
  have O1 : OwnRow (((w.alloc (.cells #[.slice a1 n1 c1, .slice a2 n2 c2] 25)).alloc (.cells #[.slice none 0 0, .slice none 0 0] 32)).alloc (.cells #[.slice none 0 0, .slice none 0 0] 32)) (w.heap.size + 1) 2 (fun i => if i = 0 then .slice none 0 0 else .slice none 0 0) := by
    have := (OwnRow.two (w.alloc (.cells #[.slice a1 n1 c1, .slice a2 n2 c2] 25)) (.slice none 0 0) (.slice none 0 0) 32).later (later1 _ (.cells #[.slice none 0 0, .slice none 0 0] 32))
    simpa using this
  have O0 : OwnRow (((w.alloc (.cells #[.slice a1 n1 c1, .slice a2 n2 c2] 25)).alloc (.cells #[.slice none 0 0, .slice none 0 0] 32)).alloc (.cells #[.slice none 0 0, .slice none 0 0] 32)) w.heap.size 2 (fun i => if i = 0 then .slice a1 n1 c1 else .slice a2 n2 c2) := ((OwnRow.two w (.slice a1 n1 c1) (.slice a2 n2 c2) 25).later (later1 _ _)).later (later1 _ _)
  have HBA : Hid (Below w.heap.size w (((w.alloc (.cells #[.slice a1 n1 c1, .slice a2 n2 c2] 25)).alloc (.cells #[.slice none 0 0, .slice none 0 0] 32)).alloc (.cells #[.slice none 0 0, .slice none 0 0] 32))) := later3 _ _ _ _
  have hWs : (((w.alloc (.cells #[.slice a1 n1 c1, .slice a2 n2 c2] 25)).alloc (.cells #[.slice none 0 0, .slice none 0 0] 32)).alloc (.cells #[.slice none 0 0, .slice none 0 0] 32)).heap.size = w.heap.size + 3 := by simp
  generalize hW : (((w.alloc (.cells #[.slice a1 n1 c1, .slice a2 n2 c2] 25)).alloc (.cells #[.slice none 0 0, .slice none 0 0] 32)).alloc (.cells #[.slice none 0 0, .slice none 0 0] 32)) = W at *
  clear hW
  refine (toInosU (H1.out.later HBA.out) L1.out).mono ?_
  rintro e w1 ⟨b1, m1, k1, rfl, hb1, ho1⟩
  have HB1 : Hid (Below w.heap.size w w1) := HBA.out.trans (hb1.mono HBA.out.size)
  replace O2 := O2.later hb1
  replace O1 := O1.later hb1
  replace O0 := O0.later hb1
  have HO1 : Hid (InosO w1 (.slice b1 m1 k1) d.1 (fun b => w.heap.size + 3 ≤ b ∧ b < w1.heap.size)) := ho1.mono fun b hb => ⟨by have := hb.1; omega, hb.2⟩
  clear hb1 ho1
  have P0 := O0.cell (i := 1) (by omega)
  have d0 := O2.cell (i := 0) (by omega)
  have f0 := O2.frozen 0
  simp at P0 d0
  have HO2 : Hid (OwnRow w1 (w.heap.size + 1 + 1) 2 (fun i => if i = 0 then .slice none 0 0 else .slice none 0 0)) := O2
  have HR1 : Hid (OwnRow w1 (w.heap.size + 1) 2 (fun i => if i = 0 then .slice none 0 0 else .slice none 0 0)) := O1
  have hz1 : w.heap.size + 1 + 1 < w1.heap.size := O2.lt
  clear O0 O1 O2
  go_wp2_with fail
  clear d0 f0 P0
  have HBX : Hid (Below w.heap.size w (w1.setCell ⟨w.heap.size + 1 + 1, 0, none⟩ (.slice b1 m1 k1))) := HB1.out.setCell (by simp; omega) _
  refine (toBytsU (H2.out.later HBX.out) L2.out).mono ?_
  rintro e w2 ⟨b2, m2, k2, rfl, hb2, ho2⟩
  have HOX := (HO2.out.set 0 (.slice b1 m1 k1)).later hb2
  have HRX := (HR1.out.store (p := ⟨w.heap.size + 1 + 1, 0, none⟩) (by simp) (.slice b1 m1 k1)).later hb2
  have e1 : (w1.setCell ⟨w.heap.size + 1 + 1, 0, none⟩ (.slice b1 m1 k1)).heap.size = w1.heap.size := by simp [World.setCell]
  have HIX : Hid (InosO w2 (.slice b1 m1 k1) d.1 (fun b => w.heap.size + 3 ≤ b ∧ b < w1.heap.size)) := HO1.out.keep fun b hb hlt => by
    rw [hb2.block b (by rw [e1]; exact hlt), Below.heap_setCell _ _ _ _ (by simp; omega)]
  have HPX : Hid (BytsO w2 (.slice b2 m2 k2) d.2 (fun b => w1.heap.size ≤ b ∧ b < w2.heap.size)) := by
    unfold fresh at ho2
    rw [e1] at ho2
    exact ho2
  have HB2 : Hid (Below w.heap.size w w2) := HBX.out.trans (hb2.mono HBX.out.size)
  have e2 : w1.heap.size ≤ w2.heap.size := by have := hb2.size; rwa [e1] at this
  have q0 := HOX.cell (i := 0) (by omega)
  have q1 := HOX.cell (i := 1) (by omega)
  have qf := HOX.frozen 1
  have t0 := HRX.cell (i := 0) (by omega)
  have t1 := HRX.cell (i := 1) (by omega)
  have s0 := HRX.frozen 0
  have s1 := HRX.frozen 1
  simp at q0 q1 t0 t1
  clear HOX HRX hb2 ho2
  go_wp2
  refine bodyPost_ret (v := .agg #[.slice b1 m1 k1, .slice b2 m2 k2]) (by simp [results, Try.results6, go_sem, t0, t1]) rfl ⟨_, _, _, _, _, _, rfl, ?_, ?_⟩
  · exact ((HB2.out.setCell (by simp; omega) _).setCell (by simp) _).setCell (by simp) _
  · refine ⟨fun b => w.heap.size + 3 ≤ b ∧ b < w1.heap.size, fun b => w1.heap.size ≤ b ∧ b < w2.heap.size, HIX.out.keep fun b hb hlt => ?_, HPX.out.keep fun b hb hlt => ?_, fun b hb hb' => by omega, fun b hb => ?_⟩
    · rw [Below.heap_setCell _ _ _ _ (by simp; omega), Below.heap_setCell _ _ _ _ (by simp; omega), Below.heap_setCell _ _ _ _ (by simp; omega)]
    · rw [Below.heap_setCell _ _ _ _ (by simp; omega), Below.heap_setCell _ _ _ _ (by simp; omega), Below.heap_setCell _ _ _ _ (by simp; omega)]
    · unfold fresh
      simp only [World.setCell, Array.size_modify]
      rcases hb with hb | hb <;> omega
end Go.Proofs.Ytjabimfinanjoab

namespace Go.Proofs.Ytjabimfinanjoab
open Go.RowKit
set_option maxRecDepth 100000

theorem InoU.bound {w : World} {v0 v1 v2 vB vE : Value} {d : ID} {F : Nat → Prop} (h : InoU w v0 v1 v2 vB vE d F) : InoU w v0 v1 v2 vB vE d (fun b => F b ∧ b < w.heap.size) := by
  obtain ⟨h0, F1, G1, h1, h2, hd, hf⟩ := h
  exact ⟨h0, _, _, h1.bound, h2.bound, fun b hb hb' => hd b hb.1 hb'.1, fun b hb => by
    rcases hb with hb | hb
    · exact ⟨hf b (Or.inl hb.1), hb.2⟩
    · exact ⟨hf b (Or.inr hb.1), hb.2⟩⟩
theorem InosO.bound {w : World} {v : Value} {ds : List ID} {F : Nat → Prop} (h : InosO w v ds F) : InosO w v ds (fun b => F b ∧ b < w.heap.size) := by
  rcases h with h | ⟨b, cap, u, G, hF, hG, hGG, h1, h2, h3, h4⟩
  · exact Or.inl h
  · exact Or.inr ⟨b, cap, u, fun i c => G i c ∧ c < w.heap.size, ⟨hF, h3.lt⟩, fun i c hc => ⟨⟨(hG i c hc.1).1, hc.2⟩, (hG i c hc.1).2⟩, fun i j c e hc hc' => hGG i j c e hc.1 hc'.1, h1, h2, h3, fun i hi => (h4 i hi).bound⟩
/-- Answers that are a code and bytes. -/
def AnsYR (w : World) (r : Int × List UInt8) (e : Ending) (w' : World) : Prop := ∃ a n c, e = .returned (.agg #[.int .i64 r.1, .slice a n c]) ∧ Below w.heap.size w w' ∧ BytO w' (.slice a n c) r.2 (fresh w w')
/-- Bytes in memory that the call made since n₀. -/
def WdY (w : World) (n₀ : Nat) (v : Value) (zs : List UInt8) : Prop := w.ownsRow n₀ 5 1 v zs.length (zs.map byteV)
theorem WdY.later {w w' : World} {n₀ : Nat} {v : Value} {zs : List UInt8} (h : WdY w n₀ v zs) (hb : Below w.heap.size w w') : WdY w' n₀ v zs := ownsRow_later h hb
theorem WdY.shape {w : World} {n₀ : Nat} {v : Value} {zs : List UInt8} (h : WdY w n₀ v zs) : ∃ a c, v = .slice a zs.length c := ownsRow_shape h
theorem WdY.nil (w : World) (n₀ : Nat) : WdY w n₀ (.slice none 0 0) [] := ⟨by simp, Or.inl ⟨rfl, rfl⟩⟩
theorem WdY.lit0 (w : World) (n₀ : Nat) (h : n₀ ≤ w.heap.size) : WdY (w.alloc (.cells #[] 5)) n₀ (.slice (some ⟨w.heap.size, 0, none⟩) 0 0) [] := by
  have := World.ownsRow_lit (e := 5) (size := 1) w (#[] : Array Value) 0 h (by unfold maxLen; omega) (by simp)
  simpa [WdY] using this
theorem WdY.own {w w0 : World} {n₀ : Nat} {v : Value} {zs : List UInt8} (h : WdY w n₀ v zs) (hn : w0.heap.size ≤ n₀) : BytO w v zs (fresh w0 w) := by
  obtain ⟨hl, h | ⟨g, cap, cur, rfl, hb, hh, hnc, hcm, hcs, htake⟩⟩ := h
  · exact Or.inl ⟨List.eq_nil_of_length_eq_zero h.2, _, _, by rw [h.1]⟩
  · refine Or.inr ⟨g, cap, ⟨by omega, (Array.getElem?_eq_some_iff.1 hh).1⟩, rfl, ⟨by omega, hnc⟩, cur, 5, hh, by omega, fun i hi => ?_⟩
    rw [Nat.mul_one] at htake
    have h1 : (zs.map byteV)[i]? = cur[i]? := by rw [← htake, List.getElem?_take, if_pos hi, Array.getElem?_toList]
    rw [← h1, List.getElem?_map, List.getElem?_eq_getElem hi]
    simp [List.getElem?_eq_getElem hi, byteV]
theorem Try.infoByte' : ∃ i, Try.prog.info? 5 = some i ∧ i.zero = some (.int .u8 0) ∧ i.size = 1 ∧ i.bytes = 1 := by
  have h : (Try.prog.info? 5).map (fun i => (i.zero, i.size, i.bytes)) = some (some (.int .u8 0), 1, 1) := by kernel_rfl
  obtain ⟨i, hi, h⟩ := Option.map_eq_some_iff.1 h
  simp only [Prod.mk.injEq] at h
  exact ⟨i, hi, h.1, h.2.1, h.2.2⟩
theorem append_y (w : World) (n₀ : Nat) (v : Value) (zs ys : List UInt8) (a : Option Addr) (m c : Nat) (hrow : WdY w n₀ v zs) (hn₀ : n₀ ≤ w.heap.size) (hz : zs.length ≤ 16777216) (hy : ys.length ≤ 1048576) (hc : Byt w (.slice a m c) ys) :
    ∃ v' X, (Builtin.append_ #[60, 60] 60 #[v, .slice a m c]).run Try.prog w = .ok v' X ∧ WdY X n₀ v' (zs ++ ys) ∧ Below n₀ w X := by
  obtain ⟨i, hi, h1, h2, h3⟩ := Try.infoByte'
  obtain ⟨a', cap', e, hm, hat⟩ := hc
  simp only [Value.slice.injEq] at e
  obtain ⟨rfl, rfl, rfl⟩ := e
  by_cases ha : a = none
  · subst ha
    have h0 : ys = [] := by
      by_cases h : ys.length = 0
      · exact List.eq_nil_of_length_eq_zero h
      · obtain ⟨_, _, e, _⟩ := hat 0 (by omega); cases e
    subst h0
    refine ⟨v, w, ?_, by rw [List.append_nil]; exact hrow, Below.refl _ _⟩
    rcases hrow.2 with ⟨rfl, _⟩ | ⟨g, cap, cur, rfl, _, _, hnc, _⟩
    · simp [Builtin.append_, run_underlying Try.underlying60, sizeOf, typeInfo, hi, Builtin.lenOf, Builtin.firstCells]
    · simp [Builtin.append_, run_underlying Try.underlying60, sizeOf, typeInfo, hi, Builtin.lenOf, Builtin.firstCells, storeCells, hnc]
  · obtain ⟨ad, rfl⟩ := Option.ne_none_iff_exists'.1 ha
    obtain ⟨v', X, hr, ho, hg, _⟩ := run_append_own (P := Try.prog) w n₀ 60 60 5 i (.int .u8 0) 1 1 Try.underlying60 hi h1 h2 h3 rfl (by decide) _ zs.length _ hrow ad ys.length c (ys.map byteV)
      (by simp) (fun j u hu => by
        rw [List.getElem?_map, Option.map_eq_some_iff] at hu
        obtain ⟨z, hz1, rfl⟩ := hu
        have hj : j < ys.length := (List.getElem?_eq_some_iff.1 hz1).1
        obtain ⟨b, off, e, h⟩ := hat j hj
        simp only [Option.some.injEq] at e
        rw [e, add_plain', h, hz1]
        rfl) (fun u hu => by
        obtain ⟨z, _, rfl⟩ := List.mem_map.1 hu
        rfl) (by unfold maxLen; omega) (by omega) hn₀
    refine ⟨v', X, hr, ?_, below_grown hg hn₀ (fun k hk => (hrow.lt k hk).1)⟩
    unfold WdY
    rw [List.length_append, List.map_append]
    exact ho
end Go.Proofs.Ytjabimfinanjoab

namespace Go.Proofs.Ytjabimfinanjoab
open Go.RowKit
set_option maxRecDepth 100000

/-- The first of f 0 .. f (n - 1) that is not 0, or 0. -/
def fstNZ (f : Nat → Int) : Nat → Int
  | 0 => 0
  | n + 1 => if fstNZ f n = 0 then f n else fstNZ f n
theorem fstNZ_zero {f : Nat → Int} : ∀ {n : Nat}, (∀ i, i < n → f i = 0) → fstNZ f n = 0
  | 0, _ => rfl
  | n + 1, h => by
    show (if fstNZ f n = 0 then f n else fstNZ f n) = 0
    rw [if_pos (fstNZ_zero fun i hi => h i (by omega))]
    exact h n (by omega)
theorem fstNZ_at {f : Nat → Int} {j : Nat} (h : ∀ i, i < j → f i = 0) (hj : ¬ f j = 0) : ∀ {n : Nat}, j < n → fstNZ f n = f j
  | 0, hn => by omega
  | n + 1, hn => by
    show (if fstNZ f n = 0 then f n else fstNZ f n) = f j
    by_cases e : j = n
    · subst e
      rw [if_pos (fstNZ_zero h)]
    · have := fstNZ_at h hj (n := n) (by omega)
      rw [this, if_neg hj]
theorem fstNZ_inv {f : Nat → Int} : ∀ {n : Nat}, fstNZ f n = 0 → ∀ i, i < n → f i = 0
  | 0, _, i, hi => by omega
  | n + 1, h, i, hi => by
    have h' : (if fstNZ f n = 0 then f n else fstNZ f n) = 0 := h
    by_cases e : fstNZ f n = 0
    · rw [if_pos e] at h'
      by_cases e2 : i = n
      · rw [e2]; exact h'
      · exact fstNZ_inv e i (by omega)
    · rw [if_neg e] at h'; exact absurd h' e

def rngF (bs : List Int) (i : Nat) : Int := if 0 ≤ bs[i]?.getD 0 ∧ bs[i]?.getD 0 ≤ 19 then 0 else 3
/-- Whether one ahead of i is the same. -/
def dupB (bs : List Int) (i : Nat) : Bool := (List.range i).any fun k => bs[k]?.getD 0 == bs[i]?.getD 0
def dupF (bs : List Int) (i : Nat) : Int := if dupB bs i then 7 else 0
theorem dupB_yes {bs : List Int} {i k : Nat} (hk : k < i) (e : bs[k]?.getD 0 = bs[i]?.getD 0) : dupB bs i = true := by
  unfold dupB; rw [List.any_eq_true]; exact ⟨k, by simpa using hk, by simp [e]⟩
theorem dupB_no {bs : List Int} {i : Nat} (h : ∀ k, k < i → ¬ bs[k]?.getD 0 = bs[i]?.getD 0) : dupB bs i = false := by
  unfold dupB; rw [List.any_eq_false]; intro k hk; simp at hk; simp [h k hk]
def blkF (bs : List Int) : Int := if fstNZ (rngF bs) bs.length = 0 then fstNZ (dupF bs) bs.length else fstNZ (rngF bs) bs.length
def linkB (x : Int) : Bool := decide (1 ≤ x ∧ x ≤ 60)
def sizeB (x : Int) : Bool := decide (0 ≤ x ∧ x ≤ 32)
/-- BlocksFor. -/
def bforR (x : Int) : Int × Int := if sizeB x then (0, (x + 7) / 8) else (3, 0)
def fileF (l s : Int) (bs : List Int) : Int := if linkB l = true ∧ sizeB s = true then (if (bs.length : Int) = (s + 7) / 8 then blkF bs else 1) else 3
/-- One text is not above another. -/
def strLe (a b : ByteArray) : Bool := Op.bytesLess a.toList b.toList || a.toList == b.toList
def entF (es : List EN) (i : Nat) : Int := if nameF (es[i]?.getD en0).1 = 0 then (if 0 ≤ (es[i]?.getD en0).2 ∧ (es[i]?.getD en0).2 ≤ 9 then (if 0 < i ∧ strLe (es[i]?.getD en0).1 (es[i - 1]?.getD en0).1 = true then 1 else 0) else 3) else nameF (es[i]?.getD en0).1
def dirF (es : List EN) : Int := if 6 < es.length then 2 else fstNZ (entF es) es.length
/-- What a file alone has, and what a directory alone has. -/
def fpB (d : ID) : Bool := decide (d.2.1 ≠ 0) || decide (d.2.2.1 ≠ 0) || decide (0 < d.2.2.2.1.length)
def dpB (d : ID) : Bool := decide (0 < d.2.2.2.2.length)
def inoF (d : ID) : Int := if d.1 = 0 then (if fpB d || dpB d then 1 else 0) else if d.1 = 1 then (if dpB d then 1 else fileF d.2.1 d.2.2.1 d.2.2.2.1) else if d.1 = 2 then (if fpB d then 1 else dirF d.2.2.2.2) else 1
end Go.Proofs.Ytjabimfinanjoab

namespace Go.Proofs.Ytjabimfinanjoab
open Go.RowKit
set_option maxRecDepth 100000

def intV (z : Int) : Value := .int .i64 z
/-- Words in memory that the call made since n₀. -/
def Wds (w : World) (n₀ : Nat) (v : Value) (zs : List Int) : Prop := w.ownsRow n₀ 2 1 v zs.length (zs.map intV)
theorem Wds.later {w w' : World} {n₀ : Nat} {v : Value} {zs : List Int} (h : Wds w n₀ v zs) (hb : Below w.heap.size w w') : Wds w' n₀ v zs := ownsRow_later h hb
theorem Wds.shape {w : World} {n₀ : Nat} {v : Value} {zs : List Int} (h : Wds w n₀ v zs) : ∃ a c, v = .slice a zs.length c := ownsRow_shape h
theorem Wds.lit (w : World) (n₀ : Nat) (hn : n₀ ≤ w.heap.size) (zs : List Int) (arr : Array Value) (he : arr = (zs.map intV).toArray) (n : Nat) (hz : zs.length = n) (hm : n ≤ 1048576) : Wds (w.alloc (.cells arr 2)) n₀ (.slice (some ⟨w.heap.size, 0, none⟩) n n) zs := by
  subst he
  subst hz
  have := World.ownsRow_lit (e := 2) (size := 1) w (zs.map intV).toArray zs.length hn (by unfold maxLen; omega) (by simp)
  simpa [Wds] using this
/-- Blocks of other types than words' stand as they did. -/
def KeepT (w w' : World) : Prop := ∀ (b : Nat) (c : Array Value) (t : TypeId) (fr : Nat × Nat), t ≠ 2 → w.heap[b]? = some (Obj.cells c t fr) → w'.heap[b]? = some (Obj.cells c t fr)
theorem KeepT.refl (w : World) : KeepT w w := fun _ _ _ _ _ h => h
theorem KeepT.trans {a b c : World} (h : KeepT a b) (k : KeepT b c) : KeepT a c := fun i cs t fr ht hi => k i cs t fr ht (h i cs t fr ht hi)
theorem KeepT.later {w w' : World} (hb : Below w.heap.size w w') : KeepT w w' := fun b _ _ _ _ h => (hb.block b (Array.getElem?_eq_some_iff.1 h).1).trans h
theorem KeepT.grown {w w' : World} {n₀ : Nat} {v : Value} {zs : List Int} (h : Wds w n₀ v zs) (hg : w.grownBy w' v.ownBlock) : KeepT w w' := fun b c t fr ht hb => by
  refine (hg.block b (Array.getElem?_eq_some_iff.1 hb).1 fun e => ?_).trans hb
  rcases h.2 with ⟨rfl, _⟩ | ⟨g, cap, cur, rfl, _, hh, _⟩
  · simp [Value.ownBlock] at e
  · simp only [Value.ownBlock, Option.some.injEq] at e
    subst e
    rw [hh] at hb
    simp only [Option.some.injEq, Obj.cells.injEq] at hb
    exact ht hb.2.1.symm
theorem append_any (w : World) (n₀ : Nat) (v : Value) (zs ys : List Int) (a : Option Addr) (m c : Nat) (hrow : Wds w n₀ v zs) (hn₀ : n₀ ≤ w.heap.size) (hm : ys.length = m) (hz : zs.length ≤ 16777216) (hy : m ≤ 1048576) (hc : At1 w a m (fun k => .int .i64 (ys[k]?.getD 0))) (hnn : ∃ g cap, v = .slice (some ⟨g, 0, none⟩) zs.length cap ∧ n₀ ≤ g) :
    ∃ v' X, (Builtin.append_ #[42, 42] 42 #[v, .slice a m c]).run Try.prog w = .ok v' X ∧ Wds X n₀ v' (zs ++ ys) ∧ Below n₀ w X ∧ KeepT w X := by
  obtain ⟨i, hi, h1, h2, h3⟩ := Try.infoInt'
  obtain ⟨g, cap, rfl, hg0⟩ := hnn
  by_cases ha : a = none
  · subst ha
    have h0 : m = 0 := by
      by_cases h : m = 0
      · exact h
      · obtain ⟨_, _, e, _⟩ := hc 0 (by omega); cases e
    subst h0
    have hys : ys = [] := List.eq_nil_of_length_eq_zero hm
    subst hys
    have hlc : zs.length ≤ cap := by
      rcases hrow.2 with ⟨e, _⟩ | ⟨g', cap', cur, e, _, _, hnc, _⟩
      · cases e
      · simp only [Value.slice.injEq] at e
        rw [e.2.2]; exact hnc
    refine ⟨.slice (some ⟨g, 0, none⟩) zs.length cap, w, ?_, by rw [List.append_nil]; exact hrow, Below.refl _ _, KeepT.refl _⟩
    simp [Builtin.append_, run_underlying Try.underlying42, sizeOf, typeInfo, hi, Builtin.lenOf, Builtin.firstCells, storeCells, hlc]
  · obtain ⟨ad, rfl⟩ := Option.ne_none_iff_exists'.1 ha
    obtain ⟨v', X, hr, ho, hg, _⟩ := run_append_own (P := Try.prog) w n₀ 42 42 2 i (.int .i64 0) 1 8 Try.underlying42 hi h1 h2 h3 rfl (by decide) _ zs.length _ hrow ad m c (ys.map intV)
      (by simp [hm]) (fun j u hu => by
        rw [List.getElem?_map, Option.map_eq_some_iff] at hu
        obtain ⟨z, hz1, rfl⟩ := hu
        have hj : j < m := by rw [← hm]; exact (List.getElem?_eq_some_iff.1 hz1).1
        obtain ⟨b, off, e, h⟩ := hc j hj
        simp only [Option.some.injEq] at e
        rw [e, add_plain']
        replace h : w.cell? ⟨b, off + j, none⟩ = some (.int .i64 (ys[j]?.getD 0)) := h
        rw [hz1, Option.getD_some] at h
        exact h) (fun u hu => by
        obtain ⟨z, _, rfl⟩ := List.mem_map.1 hu
        rfl) (by unfold maxLen; omega) (by omega) hn₀
    refine ⟨v', X, hr, ?_, below_grown hg hn₀ (fun k hk => ?_), KeepT.grown hrow hg⟩
    · unfold Wds
      rw [List.length_append, List.map_append, hm]
      exact ho
    · simp [Value.ownBlock] at hk; omega
/-- Words that were appended are never nil. -/
theorem Wds.some {w : World} {n₀ : Nat} {v : Value} {zs : List Int} (h : Wds w n₀ v zs) (h0 : 0 < zs.length) : ∃ g cap, v = .slice (some ⟨g, 0, none⟩) zs.length cap ∧ n₀ ≤ g := by
  obtain ⟨g, cap, h1, h2, _⟩ := ownsRow_row h h0
  exact ⟨g, cap, h1, h2⟩
theorem Wds.own {w w0 : World} {n₀ : Nat} {v : Value} {zs : List Int} (h : Wds w n₀ v zs) (h0 : 0 < zs.length) (hn : w0.heap.size ≤ n₀) : IntsO w v zs (fresh w0 w) := by
  obtain ⟨g, cap, rfl, h2, h3, h4, h5⟩ := ownsRow_row h h0
  refine Or.inr ⟨g, cap, ⟨by omega, h3⟩, rfl, h4, h5.congr fun i hi => ?_⟩
  rw [List.getElem?_map, List.getElem?_eq_getElem hi]
  rfl
/-- An append of words that are written out. -/
theorem append_wds (w : World) (n₀ : Nat) (v : Value) (zs ys : List Int) (arr : Array Value) (m : Nat) (he : arr = (ys.map intV).toArray) (hm : ys.length = m) (hrow : Wds w n₀ v zs) (hn₀ : n₀ ≤ w.heap.size) (hz : zs.length ≤ 16777216) (hz0 : 0 < zs.length) (hy : m ≤ 1048576) :
    ∃ v' X, (Builtin.append_ #[42, 42] 42 #[v, .slice (some ⟨w.heap.size, 0, none⟩) m m]).run Try.prog (w.alloc (.cells arr 2)) = .ok v' X ∧ Wds X n₀ v' (zs ++ ys) ∧ Below n₀ w X ∧ KeepT w X := by
  subst he
  obtain ⟨v', X, h1, h2, h3, h4⟩ := append_any (w.alloc (.cells (ys.map intV).toArray 2)) n₀ v zs ys (some ⟨w.heap.size, 0, none⟩) m m (hrow.later (later1 _ _)) (by simp; omega) hm hz hy (fun k hk => ⟨w.heap.size, 0, rfl, by
    rw [Nat.zero_add, new_cell]
    have : k < ys.length := by omega
    simp [List.getElem?_eq_getElem this, intV]⟩) (hrow.some hz0)
  exact ⟨v', X, h1, h2, ((later1 w _).mono hn₀).trans h3, (KeepT.later (later1 _ _)).trans h4⟩

/-- Block b holds vs, as cells of type t. -/
def Obx (w : World) (b : Nat) (vs : List Value) (t : TypeId) : Prop := w.heap[b]? = some (.cells vs.toArray t)
theorem Obx.new (w : World) (vs : List Value) (t : TypeId) : Obx (w.alloc (.cells vs.toArray t)) w.heap.size vs t := Go.Deep.blk_alloc_new _ _
theorem Obx.keep {w w' : World} {b : Nat} {vs : List Value} {t : TypeId} (h : Obx w b vs t) (hk : KeepT w w') (ht : t ≠ 2) : Obx w' b vs t := hk _ _ _ _ ht h
theorem Obx.bx {w : World} {b : Nat} {vs : List Value} {t : TypeId} (h : Obx w b vs t) : Bx w b vs := fun i v hv => by
  unfold Obx at h
  simp [World.cell?, h, hv]
theorem Obx.lt {w : World} {b : Nat} {vs : List Value} {t : TypeId} (h : Obx w b vs t) : b < w.heap.size := (Array.getElem?_eq_some_iff.1 h).1

/-- The words of an entry. -/
def byteZ (b : UInt8) : Int := (b.toNat : Int)
def entW (e : EN) : List Int := e.2 :: (e.1.size : Int) :: e.1.data.toList.map byteZ
def entsW (es : List EN) : List Int := es.flatMap entW
def packL (d : ID) : List Int := [d.1, d.2.1, d.2.2.1] ++ d.2.2.2.1 ++ (if d.1 = 2 then ((d.2.2.2.2.length : Nat) : Int) :: entsW d.2.2.2.2 else [])
def packR (d : ID) : Int × List Int := if inoF d = 0 then (0, packL d) else (inoF d, [])
theorem entW_len (e : EN) : (entW e).length = 2 + e.1.size := by
  show (e.2 :: (e.1.size : Int) :: e.1.data.toList.map byteZ).length = _
  rw [List.length_cons, List.length_cons, List.length_map, Array.length_toList]; show e.1.size + 1 + 1 = 2 + e.1.size; omega
theorem entsW_len (es : List EN) : (entsW es).length ≤ 2 * sizeN es := by
  unfold sizeN
  induction es with
  | nil => simp [entsW, nlens]
  | cons e t ih =>
    have h1 : (entsW (e :: t)).length = (entW e).length + (entsW t).length := by simp [entsW]
    have h2 : (nlens (e :: t)).sum = e.1.size + (nlens t).sum := by simp [nlens]
    rw [h1, h2, entW_len]
    simp only [List.length_cons]
    omega
theorem packL_len (d : ID) : (packL d).length ≤ 4 + 2 * sizeIno d := by
  have := entsW_len d.2.2.2.2
  unfold packL sizeIno
  split <;> simp <;> omega
theorem packSpan (d : ID) (h : sizeIno d ≤ 1048576) : ((packR d).2.length : Int) ≤ 100000000 := by
  unfold packR
  split
  · have := packL_len d
    show ((packL d).length : Int) ≤ _
    omega
  · simp
/-- The words of a name's first k bytes. -/
def nameW (x : ByteArray) (k : Nat) : List Int := (x.data.toList.take k).map byteZ
theorem nameW_next (x : ByteArray) (k : Nat) (hk : k < x.size) : nameW x (k + 1) = nameW x k ++ [((x[k]'hk).toNat : Int)] := by
  unfold nameW
  have h : k < x.data.toList.length := by rw [Array.length_toList]; exact hk
  rw [List.take_succ_eq_append_getElem h, List.map_append]
  rfl
theorem nameW_len (x : ByteArray) (k : Nat) : (nameW x k).length ≤ x.size := by
  unfold nameW
  rw [List.length_map, List.length_take, Array.length_toList]
  exact Nat.min_le_right _ _
theorem nameW_all (x : ByteArray) (y : Int) : [y, (x.size : Int)] ++ nameW x x.size = entW (x, y) := by
  unfold nameW entW
  rw [List.take_of_length_le (by rw [Array.length_toList]; exact Nat.le_refl _)]
  rfl
theorem upto_size (es : List EN) (j : Nat) (hj : j < es.length) : (entsW (es.take j)).length + 2 + (es[j]?.getD en0).1.size ≤ (entsW es).length := by
  have h1 : es = es.take (j + 1) ++ es.drop (j + 1) := (List.take_append_drop _ _).symm
  have h2 : (entsW es).length = (entsW (es.take (j + 1))).length + (entsW (es.drop (j + 1))).length := by
    conv => lhs; rw [h1]
    unfold entsW
    rw [List.flatMap_append, List.length_append]
  have h3 : entsW (es.take (j + 1)) = entsW (es.take j) ++ entW (es[j]?.getD en0) := by
    unfold entsW
    rw [List.take_succ_eq_append_getElem hj, List.flatMap_append, List.getElem?_eq_getElem hj]
    simp
  rw [h2, h3, List.length_append, entW_len]
  omega
theorem entsW_take (es : List EN) (j : Nat) (hj : j < es.length) : entsW (es.take (j + 1)) = entsW (es.take j) ++ entW (es[j]?.getD en0) := by
  unfold entsW
  rw [List.take_succ_eq_append_getElem hj, List.flatMap_append, List.getElem?_eq_getElem hj]
  simp
end Go.Proofs.Ytjabimfinanjoab

namespace Go.Proofs.Ytjabimfinanjoab
open Go.RowKit
set_option maxRecDepth 100000

/-- The fault of a list of inodes, and of busy blocks. -/
def insF (ds : List ID) : Int := if 10 < ds.length then 2 else fstNZ (fun i => inoF (ds[i]?.getD id0)) ds.length
def busF (bs : List Int) : Int := if 20 < bs.length then 2 else fstNZ (rngF bs) bs.length
/-- All blocks of all inodes, and all entries' inodes. -/
def allB (ds : List ID) : List Int := ds.flatMap fun d => d.2.2.2.1
def cntB (ds : List ID) (v : Int) : Nat := (allB ds).count v
def entI (es : List EN) : List Int := es.map fun e => e.2
def allE (ds : List ID) : List Int := ds.flatMap fun d => entI d.2.2.2.2
theorem flat_next {α β : Type} (f : α → List β) (l : List α) (z : α) (j : Nat) (h : j < l.length) : (l.take (j + 1)).flatMap f = (l.take j).flatMap f ++ f (l[j]?.getD z) := by
  rw [List.take_succ_eq_append_getElem h, List.flatMap_append, List.getElem?_eq_getElem h]
  simp
theorem count_next (l : List Int) (v : Int) (k : Nat) (h : k < l.length) : (l.take (k + 1)).count v = (l.take k).count v + (if l[k]?.getD 0 = v then 1 else 0) := by
  rw [List.take_succ_eq_append_getElem h, List.count_append, List.getElem?_eq_getElem h, List.count_singleton]
  simp only [Option.getD_some]
  by_cases e : l[k] = v
  · rw [if_pos e, e, beq_self_eq_true]; rfl
  · rw [if_neg e, show (l[k] == v) = false by simpa using e]; rfl
theorem allB_len (ds : List ID) : (allB ds).length ≤ (isz ds).sum := by
  unfold allB isz
  induction ds with
  | nil => simp
  | cons d ds ih =>
    simp only [List.flatMap_cons, List.length_append, List.map_cons, List.sum_cons]
    have hd : sizeIno d = d.2.2.2.1.length + sizeN d.2.2.2.2 := rfl
    omega
theorem allE_len (ds : List ID) : (allE ds).length ≤ (isz ds).sum := by
  unfold allE isz
  induction ds with
  | nil => simp
  | cons d ds ih =>
    simp only [List.flatMap_cons, List.length_append, List.map_cons, List.sum_cons]
    have : (entI d.2.2.2.2).length = d.2.2.2.2.length := by simp [entI]
    have hd : sizeIno d = d.2.2.2.1.length + (d.2.2.2.2.length + (nlens d.2.2.2.2).sum) := rfl
    omega
theorem flat_take {α β : Type} (f : α → List β) (l : List α) (j : Nat) : ((l.take j).flatMap f).length ≤ (l.flatMap f).length := by
  conv => rhs; rw [← List.take_append_drop j l]
  rw [List.flatMap_append, List.length_append]
  omega

/-- The numbers below j that p picks. -/
def selL (p : Nat → Bool) (j : Nat) : List Int := ((List.range j).filter p).map fun k : Nat => (k : Int)
theorem selL_yes {p : Nat → Bool} {j : Nat} (h : p j = true) : selL p (j + 1) = selL p j ++ [(j : Int)] := by simp [selL, List.range_succ, h]
theorem selL_no {p : Nat → Bool} {j : Nat} (h : p j = false) : selL p (j + 1) = selL p j := by simp [selL, List.range_succ, h]
theorem selL_len (p : Nat → Bool) (j : Nat) : (selL p j).length ≤ j := by
  unfold selL
  rw [List.length_map]
  have := List.length_filter_le p (List.range j)
  simpa using this

def usedP (ds : List ID) (k : Nat) : Bool := decide (0 < cntB ds (k : Int))
def onceB (ds : List ID) (j : Nat) : Bool := (List.range j).all fun k => decide (cntB ds (k : Int) ≤ 1)
theorem onceB_next (ds : List ID) (j : Nat) : onceB ds (j + 1) = (onceB ds j && decide (cntB ds (j : Int) ≤ 1)) := by
  unfold onceB
  rw [List.range_succ, List.all_append]
  simp
/-- UsedBlocks. -/
def usedR (ds : List ID) : Int × List Int := if insF ds = 0 then (if onceB ds 20 = true then (0, selL (usedP ds) 20) else (7, [])) else (insF ds, [])
def freeP (ds : List ID) (bs : List Int) (k : Nat) : Bool := decide (cntB ds (k : Int) = 0) && !(bs.contains (k : Int))
def askF (ds : List ID) (bs : List Int) : Int := if insF ds = 0 then busF bs else insF ds
/-- FreeBlocks. -/
def freeR (ds : List ID) (bs : List Int) : Int × List Int := if askF ds bs = 0 then (0, selL (freeP ds bs) 20) else (askF ds bs, [])
/-- PickBlocks. -/
def pickR (ds : List ID) (bs : List Int) (n : Int) : Int × List Int :=
  if askF ds bs = 0 then (if 0 ≤ n ∧ n ≤ 4 then (if ((selL (freeP ds bs) 20).length : Int) < n then (8, []) else (0, (selL (freeP ds bs) 20).take n.toNat)) else (3, [])) else (askF ds bs, [])
/-- The first inode that is free, or the place behind the last, or none. -/
def kindAt (ds : List ID) (k : Nat) : Int := (ds[k]?.getD id0).1
def plcI (ds : List ID) : Nat → Int
  | 0 => if ds.length < 10 then (ds.length : Int) else -1
  | m + 1 => if kindAt ds (ds.length - (m + 1)) = 0 then ((ds.length - (m + 1) : Nat) : Int) else plcI ds m
theorem plcI_yes (ds : List ID) {j : Nat} (hj : j < ds.length) (h : kindAt ds j = 0) : plcI ds (ds.length - j) = (j : Int) := by
  obtain ⟨m, hm⟩ : ∃ m, ds.length - j = m + 1 := ⟨ds.length - j - 1, by omega⟩
  rw [hm]
  show (if kindAt ds (ds.length - (m + 1)) = 0 then ((ds.length - (m + 1) : Nat) : Int) else plcI ds m) = _
  rw [show ds.length - (m + 1) = j by omega, if_pos h]
theorem plcI_no (ds : List ID) {j : Nat} (hj : j < ds.length) (h : ¬ kindAt ds j = 0) : plcI ds (ds.length - (j + 1)) = plcI ds (ds.length - j) := by
  obtain ⟨m, hm⟩ : ∃ m, ds.length - j = m + 1 := ⟨ds.length - j - 1, by omega⟩
  rw [hm, show ds.length - (j + 1) = m by omega]
  show _ = (if kindAt ds (ds.length - (m + 1)) = 0 then ((ds.length - (m + 1) : Nat) : Int) else plcI ds m)
  rw [show ds.length - (m + 1) = j by omega, if_neg h]
/-- FreeInode. -/
def finR (ds : List ID) : Int × Int := if insF ds = 0 then (if plcI ds ds.length < 0 then (8, 0) else (0, plcI ds ds.length)) else (insF ds, 0)
/-- LinksOf. -/
def lnkR (ds : List ID) (at_ : Int) : Int × Int := if insF ds = 0 then (if 0 ≤ at_ ∧ at_ ≤ (ds.length : Int) - 1 then (0, ((allE ds).count at_ : Nat)) else (3, 0)) else (insF ds, 0)

/-- An append of one word. -/
theorem append_w1 (w : World) (n₀ : Nat) (v : Value) (zs : List Int) (y : Int) (hrow : Wds w n₀ v zs) (hn₀ : n₀ ≤ w.heap.size) (hz : zs.length ≤ 16777216) :
    ∃ a c X, (Builtin.append_ #[42, 42] 42 #[v, .slice (some ⟨w.heap.size, 0, none⟩) 1 1]).run Try.prog (w.alloc (.cells #[.int .i64 y] 2)) = .ok (.slice a (zs ++ [y]).length c) X ∧ Wds X n₀ (.slice a (zs ++ [y]).length c) (zs ++ [y]) ∧ Below n₀ w X ∧ KeepT w X := by
  obtain ⟨i, hi, h1, h2, h3⟩ := Try.infoInt'
  have hrow2 : Wds (w.alloc (.cells #[.int .i64 y] 2)) n₀ v zs := hrow.later (later1 _ _)
  obtain ⟨v', X, hr, ho, hg, _⟩ := run_append_own (P := Try.prog) (w.alloc (.cells #[.int .i64 y] 2)) n₀ 42 42 2 i (.int .i64 0) 1 8 Try.underlying42 hi h1 h2 h3 rfl (by decide) v zs.length _ hrow2 ⟨w.heap.size, 0, none⟩ 1 1 [intV y]
    (by simp) (fun j u hu => by
      have hj : j = 0 := by
        have := (List.getElem?_eq_some_iff.1 hu).1
        simp at this; omega
      subst hj
      simp only [List.getElem?_cons_zero, Option.some.injEq] at hu
      subst hu
      rw [add_plain', Nat.add_zero, new_cell]
      rfl) (fun u hu => by
      simp only [List.mem_singleton] at hu
      subst hu
      rfl) (by unfold maxLen; omega) (by omega) (by simp; omega)
  have how : Wds X n₀ v' (zs ++ [y]) := by
    unfold Wds
    rw [List.length_append, List.map_append]
    exact ho
  obtain ⟨a, c, rfl⟩ := how.shape
  refine ⟨a, c, X, hr, how, ((later1 w _).mono hn₀).trans (below_grown hg (by simp; omega) (fun k hk => ?_)), (KeepT.later (later1 _ _)).trans (KeepT.grown hrow2 hg)⟩
  rcases hrow.2 with ⟨e, _⟩ | ⟨g, cap, cur, e, hb, _⟩
  · rw [e] at hk; simp [Value.ownBlock] at hk
  · rw [e] at hk
    simp only [Value.ownBlock, Option.some.injEq] at hk
    omega
theorem Wds.nil (w : World) (n₀ : Nat) : Wds w n₀ (.slice none 0 0) [] := ⟨by simp, Or.inl ⟨rfl, rfl⟩⟩
theorem Wds.own' {w w0 : World} {n₀ : Nat} {v : Value} {zs : List Int} (h : Wds w n₀ v zs) (hn : w0.heap.size ≤ n₀) : IntsO w v zs (fresh w0 w) := by
  by_cases h0 : 0 < zs.length
  · exact h.own h0 hn
  · obtain ⟨a, c, rfl⟩ := h.shape
    have : zs = [] := List.eq_nil_of_length_eq_zero (by omega)
    subst this
    exact Or.inl ⟨rfl, a, c, rfl⟩
end Go.Proofs.Ytjabimfinanjoab

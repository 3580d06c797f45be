/- What is wrong of a list of steps; its first step of a kind: the program. The walks of the laws' functions over lists of steps: how great they are, copied, held against each other. CommitAt: the program. What is wrong of a list of steps, and where its commit is: the specification. CommitAt: the specification. CommitAt: the specification, whole. -/
import Derived.Test.YtagmmgcdebgfnaaM04
namespace Go.Proofs.Ytagmmgcdebgfnaa
open Go.RowKit
set_option maxRecDepth 100000

set_option maxHeartbeats 1600000 in
theorem isCommit_any (w : World) (f : Bool) (x : Int) (a : Option Addr) (n c : Nat) (ws : List Int) (h : Ints w (.slice a n c) ws) :
    Calls Try.prog 56 #[.agg #[.bool f, .int .i64 x, .slice a n c]] w fun e w' => e = .returned (.bool (comI (f, x, ws))) ∧ Below w.heap.size w w' := by
  obtain ⟨_, _, ev, hm, hA⟩ := h.open'
  simp only [Value.slice.injEq] at ev
  obtain ⟨rfl, rfl, rfl⟩ := ev
  unfold maxLen at hm
  have HE : Hid (comI (f, x, ws) = ((decide (1 ≤ x) && decide (x < 17)) && (decide (ws.length = 3) && decide (ws[0]?.getD 0 = 2)))) := rfl
  have HX : Hid (Bx (w.alloc (.cells #[.bool f, .int .i64 x, .slice a ws.length c] 27)) w.heap.size [.bool f, .int .i64 x, .slice a ws.length c]) := Bx.new w [.bool f, .int .i64 x, .slice a ws.length c] _
  have x1 := HX.out 1 _ rfl
  have x2 := HX.out 2 _ rfl
  have HAT : Hid (At1 (w.alloc (.cells #[.bool f, .int .i64 x, .slice a ws.length c] 27)) a ws.length (fun k => .int .i64 (ws[k]?.getD 0))) := fun k hk => by
    obtain ⟨b, o, e, h1⟩ := hA k hk
    exact ⟨b, o, e, cell_later (later1 _ _) h1⟩
  clear h hA HX
  generalize comI (f, x, ws) = RES at *
  generalize ws.length = n at *
  by_cases h1 : 1 ≤ x
  · by_cases h2 : x < 17
    · by_cases h3 : n = 3
      · subst h3
        obtain ⟨b, o, rfl, k0⟩ := HAT.out 0 (by omega)
        rw [Nat.add_zero] at k0
        dsimp only at k0
        have HE2 : Hid ((ws[0]?.getD 0 == 2) = RES) := by unfold Hid; rw [HE.out, decide_eq_true h1, decide_eq_true h2]; simp; rfl
        clear HAT HE
        generalize ws[0]?.getD 0 = z at *
        go_enter Try.func56, Try.ntmps56
        go_wp2
        go_ret
        exact ⟨ret_bool HE2.out, later1 _ _⟩
      · have h3' : ((n : Int) == 3) = false := by simp; omega
        have HE2 : Hid (RES = false) := by unfold Hid; rw [HE.out, decide_eq_false h3]; simp
        clear HAT HE
        go_enter Try.func56, Try.ntmps56
        go_wp2
        go_ret
        exact ⟨ret_bool HE2.out.symm, later1 _ _⟩
    · have h2' : decide (x < 17) = false := by simpa using h2
      have HE2 : Hid (RES = false) := by unfold Hid; rw [HE.out, h2']; simp
      clear HAT HE
      go_enter Try.func56, Try.ntmps56
      go_wp2
      go_ret
      exact ⟨ret_bool HE2.out.symm, later1 _ _⟩
  · have h1' : decide (1 ≤ x) = false := by simpa using h1
    have HE2 : Hid (RES = false) := by unfold Hid; rw [HE.out, h1']; simp
    clear HAT HE
    go_enter Try.func56, Try.ntmps56
    go_wp2
    go_ret
    exact ⟨ret_bool HE2.out.symm, later1 _ _⟩

set_option maxHeartbeats 1600000 in
theorem implStsF (w : World) (a : Option Addr) (n c : Nat) (l : List SD) (hl : l.length = n) (hm : n ≤ maxLen) (hA : AtStp w a n l) (hz : ∀ k : Nat, sizeSte (l[k]?.getD sd0) ≤ 1048576) :
    Calls Try.prog 54 #[.slice a n c] w fun e w' => e = .returned (.int .i64 (stsF l)) ∧ Below w.heap.size w w' := by
  unfold maxLen at hm
  by_cases hb : 120 < n
  · have HE : Hid (stsF l = 2) := stsF_many (by omega)
    clear hA hz hl
    go_enter Try.func54, Try.ntmps54
    go_wp2
    go_ret
    exact ⟨ret_int HE.out.symm, Below.refl _ _⟩
  · have HN : Hid (l.length = n) := hl
    have HC : Hid (AtStp w a n l) := hA
    have HZ : Hid (∀ k : Nat, sizeSte (l[k]?.getD sd0) ≤ 1048576) := hz
    clear hl hA hz
    go_enter Try.func54, Try.ntmps54
    go_wp2
    go_loopw [11] (fun i wr => ∃ k : Nat, k ≤ n ∧ i = .int .i64 k ∧ Below w.heap.size w wr ∧ ∀ i, i < k → stepF (l[i]?.getD sd0) = 0) (fun i _ => n - (intOf i).toNat)
    case atStart => exact ⟨0, Nat.zero_le _, rfl, Below.refl _ _, fun i hi => by omega⟩
    case round =>
      obtain ⟨k, hk, rfl, hbl, ht⟩ := hrel
      have HT : Hid (∀ i, i < k → stepF (l[i]?.getD sd0) = 0) := ht
      have HBL : Hid (Below w.heap.size w wr) := hbl
      clear ht hbl
      by_cases hlt : k < n
      · obtain ⟨b, o, rfl, hI⟩ := HC.out k hlt
        obtain ⟨aW, cW, c0, c1, c2, hR⟩ := hI.later HBL.out
        have HS : Hid (∀ W, Below wr.heap.size wr W → Calls Try.prog 12 #[.agg #[.bool (l[k]?.getD sd0).1, .int .i64 (l[k]?.getD sd0).2.1, .slice aW (l[k]?.getD sd0).2.2.length cW]] W fun e w' => e = .returned (.int .i64 (stepF (l[k]?.getD sd0))) ∧ Below W.heap.size W w') := fun W hW => implStepFU W _ _ _ _ _ _ (hR.later hW) (HZ.out k)
        have HAT : Hid (¬ stepF (l[k]?.getD sd0) = 0 → stsF l = stepF (l[k]?.getD sd0)) := fun h => stsF_at (by rw [HN.out]; exact hb) HT.out (by rw [HN.out]; exact hlt) h
        have HMO : Hid (stepF (l[k]?.getD sd0) = 0 → ∀ i, i < k + 1 → stepF (l[i]?.getD sd0) = 0) := fun h i hi => by
          by_cases e : i = k
          · rw [e]; exact h
          · exact HT.out i (by omega)
        clear hI hR HC HZ HN HT
        generalize stepF (l[k]?.getD sd0) = r at *
        generalize (l[k]?.getD sd0).2.2.length = m1 at *
        generalize (l[k]?.getD sd0).1 = z0 at *
        generalize (l[k]?.getD sd0).2.1 = z1 at *
        go_wp2_with fail
        refine (HS.out _ (later1 _ _)).mono ?_
        rintro e w1 ⟨rfl, hb1⟩
        have HB1 : Hid (Below w.heap.size w w1) := HBL.out.trans (((later1 _ _).trans (hb1.mono (by simp))).mono HBL.out.size)
        clear hb1
        by_cases hr : r = 0
        · have hr' : (r != 0) = false := by simpa using hr
          have HM : Hid (∀ i, i < k + 1 → stepF (l[i]?.getD sd0) = 0) := HMO.out hr
          clear hr HMO HAT
          go_wp2
          go_roundw
          case rel => exact ⟨k + 1, by omega, by go_num, HB1.out, HM.out⟩
          case measure => simp [intOf]; omega
        · have hr' : (r != 0) = true := by simpa using hr
          have HE : Hid (stsF l = r) := HAT.out hr
          clear hr HMO HAT
          go_wp2
          go_ret
          exact ⟨ret_int HE.out.symm, HB1.out⟩
      · go_wp2
        go_ret
        have e : k = n := by omega
        subst e
        exact ⟨ret_int (stsF_no (by rw [HN.out]; exact hb) fun i hi => HT.out i (by rw [HN.out] at hi; exact hi)).symm, HBL.out⟩

set_option maxHeartbeats 1600000 in
theorem indexF_any (w : World) (a : Option Addr) (n c : Nat) (l : List SD) (hl : l.length = n) (hm : n ≤ maxLen) (hA : AtStp w a n l) (g : Nat) (p : SD → Bool) (eg : ∀ args w, (callFunc g args).run Try.prog w = .ok (.enter g args) w)
    (hp : ∀ W (d : SD) aW cW, Ints W (.slice aW d.2.2.length cW) d.2.2 → Calls Try.prog g #[.agg #[.bool d.1, .int .i64 d.2.1, .slice aW d.2.2.length cW]] W fun e w' => e = .returned (.bool (p d)) ∧ Below W.heap.size W w') :
    Calls Try.prog 55 #[.slice a n c, .func (.func g) #[] #[]] w fun e w' => e = .returned (.int .i64 (if fnd p l < n then (fnd p l : Int) else -1)) ∧ Below w.heap.size w w' := by
  unfold maxLen at hm
  have HN : Hid (l.length = n) := hl
  have HC : Hid (AtStp w a n l) := hA
  have HP : Hid (∀ W (d : SD) aW cW, Ints W (.slice aW d.2.2.length cW) d.2.2 → Calls Try.prog g #[.agg #[.bool d.1, .int .i64 d.2.1, .slice aW d.2.2.length cW]] W fun e w' => e = .returned (.bool (p d)) ∧ Below W.heap.size W w') := hp
  have HI1 : Hid (∀ k : Nat, fnd p l = k → k < n → (if fnd p l < n then (fnd p l : Int) else -1) = (k : Int)) := fun k h1 h2 => by rw [h1, if_pos h2]
  have HI2 : Hid (fnd p l = n → (if fnd p l < n then (fnd p l : Int) else -1) = -1) := fun h1 => by rw [h1, if_neg (Nat.lt_irrefl _)]
  generalize (if fnd p l < n then (fnd p l : Int) else -1) = RES at *
  clear hl hA hp
  go_enter Try.func55, Try.ntmps55
  go_wp2
  go_loopw [8] (fun i wr => ∃ k : Nat, k ≤ n ∧ i = .int .i64 k ∧ Below w.heap.size w wr ∧ ∀ i, i < k → p (l[i]?.getD sd0) = false) (fun i _ => n - (intOf i).toNat)
  case atStart => exact ⟨0, Nat.zero_le _, rfl, Below.refl _ _, fun i hi => by omega⟩
  case round =>
    obtain ⟨k, hk, rfl, hbl, ht⟩ := hrel
    have HT : Hid (∀ i, i < k → p (l[i]?.getD sd0) = false) := ht
    have HBL : Hid (Below w.heap.size w wr) := hbl
    clear ht hbl
    by_cases hlt : k < n
    · obtain ⟨b, o, rfl, hI⟩ := HC.out k hlt
      obtain ⟨aW, cW, c0, c1, c2, hR⟩ := hI.later HBL.out
      have HS : Hid (∀ W, Below wr.heap.size wr W → Calls Try.prog g #[.agg #[.bool (l[k]?.getD sd0).1, .int .i64 (l[k]?.getD sd0).2.1, .slice aW (l[k]?.getD sd0).2.2.length cW]] W fun e w' => e = .returned (.bool (p (l[k]?.getD sd0))) ∧ Below W.heap.size W w') := fun W hW => HP.out W _ _ _ (hR.2.later hW)
      have HAT : Hid (p (l[k]?.getD sd0) = true → RES = (k : Int)) := fun h => HI1.out k (fnd_at (by rw [HN.out]; exact hlt) HT.out h) hlt
      have HMO : Hid (p (l[k]?.getD sd0) = false → ∀ i, i < k + 1 → p (l[i]?.getD sd0) = false) := fun h i hi => by
        by_cases e : i = k
        · rw [e]; exact h
        · exact HT.out i (by omega)
      clear hI hR HC HN HT HP HI1 HI2
      generalize hr : p (l[k]?.getD sd0) = r at *
      clear hr
      generalize (l[k]?.getD sd0).2.2.length = m1 at *
      generalize (l[k]?.getD sd0).1 = z0 at *
      generalize (l[k]?.getD sd0).2.1 = z1 at *
      cases r with
      | false =>
        have HM : Hid (∀ i, i < k + 1 → p (l[i]?.getD sd0) = false) := HMO.out rfl
        clear HMO HAT
        go_wp2_with fail
        refine (HS.out _ (Below.refl _ _)).mono ?_
        rintro e w1 ⟨rfl, hb1⟩
        have HB1 : Hid (Below w.heap.size w w1) := HBL.out.trans (hb1.mono HBL.out.size)
        clear hb1
        go_wp2
        go_roundw
        case rel => exact ⟨k + 1, by omega, by go_num, HB1.out, HM.out⟩
        case measure => simp [intOf]; omega
      | true =>
        have HE : Hid (RES = (k : Int)) := HAT.out rfl
        clear HMO HAT
        go_wp2_with fail
        refine (HS.out _ (Below.refl _ _)).mono ?_
        rintro e w1 ⟨rfl, hb1⟩
        have HB1 : Hid (Below w.heap.size w w1) := HBL.out.trans (hb1.mono HBL.out.size)
        clear hb1
        go_wp2
        go_ret
        exact ⟨ret_int HE.out.symm, HB1.out⟩
    · go_wp2
      go_ret
      have e : k = n := by omega
      subst e
      exact ⟨ret_int (HI2.out ((fnd_no fun i hi => HT.out i (by rw [HN.out] at hi; exact hi)).trans HN.out)).symm, HBL.out⟩
end Go.Proofs.Ytagmmgcdebgfnaa

namespace Go.Proofs.Ytagmmgcdebgfnaa
open Go.RowKit
set_option maxRecDepth 100000

set_option maxHeartbeats 400000 in
theorem szStps_many (w : World) (a : Option Addr) (n cap : Nat) (left : Int) (h0 : 0 ≤ left) (h1 : left ≤ 1048576) (hn : n ≤ maxLen) (h : left < (n : Int)) :
    Calls Try.prog 14 #[.slice a n cap, .int .i64 left] w fun e w' => e = .returned (.int .i64 (-1)) ∧ w' = w := by
  unfold maxLen at hn
  have h' : left - (n : Int) < 0 := by omega
  go_enter Try.func14, Try.ntmps14
  go_wp2
  go_ret
  exact ⟨rfl, rfl⟩

set_option maxHeartbeats 1600000 in
theorem szStps_walk (w : World) (a : Option Addr) (cap n : Nat) (left : Int) (ds : List SD) (hzn : ds.length = n) (h0 : 0 ≤ left) (h1 : left ≤ 1048576) (h2 : ¬ left < (n : Int)) (hc : AtStp w a n ds) :
    Calls Try.prog 14 #[.slice a n cap, .int .i64 left] w fun e w' => e = .returned (.int .i64 (szf left (n + (stz ds).sum))) ∧ Below w.heap.size w w' := by
  have HN : Hid (ds.length = n) := hzn
  have h2' : ¬ left - (n : Int) < 0 := by omega
  have HC : Hid (AtStp w a n ds) := hc
  clear hzn hc
  go_enter Try.func14, Try.ntmps14
  go_wp2
  go_loopw [1, 5] (fun q i wr => ∃ j : Nat, j ≤ n ∧ i = .int .i64 j ∧ q = .int .i64 (left - (n : Int) - (upto (stz ds) j : Nat)) ∧ 0 ≤ left - (n : Int) - (upto (stz ds) j : Nat) ∧ Below w.heap.size w wr) (fun _ i _ => n - (intOf i).toNat)
  case atStart => exact ⟨0, Nat.zero_le _, rfl, by simp [upto_zero], by simp [upto_zero]; omega, Below.refl _ _⟩
  case round =>
    obtain ⟨j, hj, rfl, rfl, hq, hbl⟩ := hrel
    by_cases hlt : j < n
    · obtain ⟨b, o, rfl, hI⟩ := HC.out j hlt
      obtain ⟨aB, cB, c0, c1, c2, hR⟩ := hI.later hbl
      have hs := upto_succ (stz ds) j (by rw [stz_length, HN.out]; exact hlt)
      rw [stz_get] at hs
      have hle := upto_le (stz ds) (j + 1)
      have HS : Hid (upto (stz ds) (j + 1) = upto (stz ds) j + sizeSte (ds[j]?.getD sd0)) := hs
      clear hs hI HC
      generalize upto (stz ds) j = U at *
      generalize ds[j]?.getD sd0 = d at *
      have HI : Hid (SteR wr _ _ _ d) := hR
      have HBL : Hid (Below w.heap.size w wr) := hbl
      clear hR hbl
      by_cases hm : left - (n : Int) - (U : Int) < ((sizeSte d : Nat) : Int)
      · have HM : Hid (szf left (n + (stz ds).sum) = -1) := szf_no (by have := HS.out; omega)
        have HR' : Hid (szf (left - (n : Int) - (U : Int)) (sizeSte d) = -1) := szf_no hm
        go_wp2_with fail
        refine (szStepU _ _ _ _ _ _ d HI.out _ hq (by omega)).mono ?_
        rw [HR'.out]
        rintro e w' ⟨rfl, hb⟩
        have HB : Hid (Below w.heap.size w w') := HBL.out.trans (hb.mono HBL.out.size)
        clear hb
        go_wp2
        go_ret
        exact ⟨ret_int HM.out.symm, HB.out⟩
      · have HR' : Hid (szf (left - (n : Int) - (U : Int)) (sizeSte d) = left - (n : Int) - (U : Int) - ((sizeSte d : Nat) : Int)) := szf_yes hm
        have hpos : ¬ (left - (n : Int) - (U : Int) - ((sizeSte d : Nat) : Int) < 0) := by omega
        go_wp2_with fail
        refine (szStepU _ _ _ _ _ _ d HI.out _ hq (by omega)).mono ?_
        rw [HR'.out]
        rintro e w' ⟨rfl, hb⟩
        have HB : Hid (Below w.heap.size w w') := HBL.out.trans (hb.mono HBL.out.size)
        clear hb
        go_wp2
        go_roundw
        case rel => exact ⟨j + 1, by omega, by go_num, by rw [HS.out]; go_num, by rw [HS.out]; omega, HB.out⟩
        case measure => simp [intOf]; omega
    · go_wp2
      go_ret
      have e : j = n := by omega
      subst e
      have ha := upto_all (stz ds)
      rw [stz_length, HN.out] at ha
      refine ⟨ret_int ?_, hbl⟩
      rw [ha] at hq ⊢
      rw [szf_yes (by omega)]
      omega

theorem szStpsU (w : World) (a : Option Addr) (n c : Nat) (d : List SD) (h : Stps w (.slice a n c) d) (left : Int) (l0 : 0 ≤ left) (l1 : left ≤ 1048576) :
    Calls Try.prog 14 #[.slice a n c, .int .i64 left] w fun e w' => e = .returned (.int .i64 (szf left (sizeStps d))) ∧ Below w.heap.size w w' := by
  obtain ⟨a', cap, e, hm, hc⟩ := h.open'
  simp only [Value.slice.injEq] at e
  obtain ⟨rfl, rfl, rfl⟩ := e
  by_cases h : left < (d.length : Int)
  · refine (szStps_many w _ d.length _ left l0 l1 hm.1 h).mono fun e w' ⟨he, hw⟩ => ⟨he.trans (ret_int ?_), hw ▸ Below.refl _ _⟩
    rw [szf_no (by unfold sizeStps; omega)]
  · exact szStps_walk w _ _ d.length left d rfl l0 l1 h hc

theorem toStepV (w : World) (aB : Option Addr) (nB cB : Nat) (d : SD) (h : SteR w (.bool d.1) (.int .i64 d.2.1) (.slice aB nB cB) d) (hs : sizeSte d ≤ 1048576) :
    Calls Try.prog 11 #[.agg #[.bool d.1, .int .i64 d.2.1, .slice aB nB cB]] w fun e w' => ∃ dB eB fB, e = .returned (.agg #[.bool d.1, .int .i64 d.2.1, .slice dB eB fB]) ∧ Below w.heap.size w w' ∧ SteU w' (.bool d.1) (.int .i64 d.2.1) (.slice dB eB fB) d (fresh w w') := by
  refine (toStepU w _ _ aB nB cB d h hs).mono ?_
  rintro e w' ⟨y0, y1, dB, eB, fB, rfl, hb, ⟨⟨e0, e1⟩, hu⟩⟩
  simp only [Value.int.injEq, Value.bool.injEq, true_and] at e0 e1
  subst e0 e1
  exact ⟨dB, eB, fB, rfl, hb, ⟨rfl, rfl⟩, hu⟩

theorem Try.infoSte : (Try.prog.info? 27).map (fun i => (i.zero, i.size, i.bytes)) = some (some (.agg #[.bool false, .int .i64 0, .slice none 0 0]), 3, 40) := by kernel_rfl

set_option maxHeartbeats 3200000 in
theorem toStps_walk (w : World) (a : Option Addr) (cap n : Nat) (ds : List SD) (hn : n ≤ 1048576) (hz : ∀ k : Nat, sizeSte (ds[k]?.getD sd0) ≤ 1048576) (hc : AtStp w a n ds) :
    Calls Try.prog 16 #[.slice a n cap] w fun e w' => e = .returned (.slice (some ⟨w.heap.size, 0, none⟩) n n) ∧ Below w.heap.size w w' ∧
      ∃ u s, OwnRow w' w.heap.size (n * 3) (stCell ds u) ∧ BuiltSt w' (w.heap.size + 1) n u (fun i => ds[i]?.getD sd0) s := by
  have hmk := fun w => run_make_three (P := Try.prog) 36 27 (.bool false) (.int .i64 0) (.slice none 0 0) 40 Try.underlying36 Try.infoSte rfl .i64 .i64 n (by omega) (by omega) w
  have HZ : Hid (∀ k : Nat, sizeSte (ds[k]?.getD sd0) ≤ 1048576) := hz
  have HC : Hid (AtStp w a n ds) := hc
  clear hz hc
  go_enter Try.func16, Try.ntmps16
  go_wp2
  clear hmk
  go_loopw [4] (fun i wr => ∃ j : Nat, j ≤ n ∧ i = .int .i64 j ∧ Below w.heap.size w wr ∧ ∃ u s, OwnRow wr w.heap.size (n * 3) (partSt ds u j) ∧ BuiltSt wr (w.heap.size + 1) j u (fun i => ds[i]?.getD sd0) s) (fun i _ => n - (intOf i).toNat)
  case atStart => exact ⟨0, Nat.zero_le _, rfl, later1 _ _, fun _ => .slice none 0 0, _, (OwnRow.madeThree w n 27).congr fun i _ => by simp [partSt], BuiltSt.nil _ _ (by simp)⟩
  case round =>
    obtain ⟨j, hj, rfl, hbl, u, s, hrow, hbt⟩ := hrel
    by_cases hlt : j < n
    · obtain ⟨b, o, rfl, hI⟩ := HC.out j hlt
      obtain ⟨aB, cB, c0, c1, c2, hR⟩ := hI.later hbl
      have HI : Hid (SteR wr _ _ _ (ds[j]?.getD sd0)) := hR
      have HBL : Hid (Below w.heap.size w wr) := hbl
      have HROW : Hid (OwnRow wr w.heap.size (n * 3) (partSt ds u j)) := hrow
      have HBT : Hid (BuiltSt wr (w.heap.size + 1) j u (fun i => ds[i]?.getD sd0) s) := hbt
      clear hI hR hbl hrow hbt HC
      go_wp2_with fail
      refine (toStepV _ _ _ _ _ HI.out (HZ.out j)).mono ?_
      rintro e w1 ⟨dB, eB, fB, rfl, hb1, ho1⟩
      have HB1 : Hid (Below wr.heap.size wr w1) := hb1
      have HO1 : Hid (SteU w1 _ _ (.slice dB eB fB) (ds[j]?.getD sd0) (fresh wr w1)) := ho1
      have HROW1 : Hid (OwnRow w1 w.heap.size (n * 3) (partSt ds u j)) := HROW.out.block (hb1.block _ HROW.out.lt)
      have zz : ∀ q, q < 3 → partSt ds u j (j * 3 + q) = zeroSt q := fun q hq => by unfold partSt zeroSt; rw [if_neg (by omega), show (j * 3 + q) % 3 = q % 3 by omega]
      have d0 : w1.cell? ⟨w.heap.size, j * 3, none⟩ = some (.bool false) := by rw [HROW1.out.cell (by omega)]; exact congrArg some (zz 0 (by omega))
      have d1 : w1.cell? ⟨w.heap.size, j * 3 + 1, none⟩ = some (.int .i64 0) := by rw [HROW1.out.cell (by omega), zz 1 (by omega)]; rfl
      have d2 : w1.cell? ⟨w.heap.size, j * 3 + 2, none⟩ = some (.slice none 0 0) := by rw [HROW1.out.cell (by omega), zz 2 (by omega)]; rfl
      have f0 := HROW1.out.frozen (j * 3)
      have f1 := HROW1.out.frozen (j * 3 + 1)
      have f2 := HROW1.out.frozen (j * 3 + 2)
      clear hb1 ho1 zz c0 c1 c2
      go_wp2
      go_roundw
      case rel =>
        refine ⟨j + 1, by omega, by go_num, (((HBL.out.trans (HB1.out.mono HBL.out.size)).setCell (Nat.le_refl _) _).setCell (Nat.le_refl _) _).setCell (Nat.le_refl _) _, _, _, (((HROW1.out.set (j * 3) _).set (j * 3 + 1) _).set (j * 3 + 2) _).congr fun c _ => partSt_next ds u j c _, (((HBT.out.next HB1.out HO1.out).store (by simp) _).store (by simp) _).store (by simp) _⟩
      case measure => simp [intOf]; omega
    · go_wp2
      go_ret
      have e : j = n := by omega
      subst e
      exact ⟨rfl, hbl, u, s, hrow.congr fun i hi => by simp [partSt, hi], hbt⟩

theorem toStpsU {w : World} {v : Value} {ds : List SD} (h : Stps w v ds) (hn : sizeStps ds ≤ 1048576) :
    Calls Try.prog 16 #[v] w fun e w' => ∃ a n c, e = .returned (.slice a n c) ∧ Below w.heap.size w w' ∧ StpsO w' (.slice a n c) ds (fresh w w') := by
  obtain ⟨a, cap, rfl, hm, hc⟩ := h.open'
  unfold sizeStps at hn
  refine (toStps_walk w a cap ds.length ds (by omega) (fun k => by have := stz_le ds k; omega) hc).mono fun e w' ⟨he, hb, u, s, hr, hbt⟩ => ⟨_, _, _, he, hb, ?_⟩
  exact BuiltSt.inos ds hbt rfl ⟨hm.1, Nat.le_refl _⟩ (Nat.lt_succ_self _) hr _ ⟨Nat.le_refl _, hr.lt⟩ (fun c h1 h2 => ⟨by omega, h2⟩)

set_option maxHeartbeats 3200000 in
theorem eqStps_walk (w : World) (a a' : Option Addr) (cap cap' n : Nat) (ds : List SD) (hn : n ≤ maxLen) (hc : AtStp w a n ds) (hc' : AtStp w a' n ds) :
    Calls Try.prog 19 #[.slice a n cap, .slice a' n cap'] w fun e w' => e = .returned (.bool true) ∧ Below w.heap.size w w' := by
  unfold maxLen at hn
  have HC : Hid (AtStp w a n ds) := hc
  have HC' : Hid (AtStp w a' n ds) := hc'
  clear hc hc'
  go_enter Try.func19, Try.ntmps19
  go_wp2
  go_loopw [5] (fun i wr => ∃ k : Nat, k ≤ n ∧ i = .int .i64 k ∧ Below w.heap.size w wr) (fun i _ => n - (intOf i).toNat)
  case atStart => exact ⟨0, Nat.zero_le _, rfl, Below.refl _ _⟩
  case round =>
    obtain ⟨j, hj, rfl, hbl⟩ := hrel
    by_cases hlt : j < n
    · obtain ⟨b, o, rfl, hI⟩ := HC.out j hlt
      obtain ⟨b', o', rfl, hI'⟩ := HC'.out j hlt
      obtain ⟨aB, cB, c0, c1, c2, hR⟩ := hI.later hbl
      obtain ⟨aB', cB', d0, d1, d2, hR'⟩ := hI'.later hbl
      clear hI hI' HC HC'
      have HI : Hid (SteR wr _ _ _ (ds[j]?.getD sd0)) := hR
      have HI' : Hid (SteR wr _ _ _ (ds[j]?.getD sd0)) := hR'
      have HBL : Hid (Below w.heap.size w wr) := hbl
      clear hbl hR hR'
      generalize ds[j]?.getD sd0 = d at *
      have HEQ : Hid (∀ W, Below wr.heap.size wr W → Calls Try.prog 13 #[.agg #[.bool d.1, .int .i64 d.2.1, .slice aB d.2.2.length cB], .agg #[.bool d.1, .int .i64 d.2.1, .slice aB' d.2.2.length cB']] W fun e w' => e = .returned (.bool true) ∧ Below W.heap.size W w') := fun W hW => eqStepU W _ _ _ _ _ _ d (HI.out.later hW) (HI'.out.later hW)
      clear HI HI'
      generalize d.2.2.length = m1 at *
      generalize d.1 = z0 at *
      generalize d.2.1 = z1 at *
      go_wp2_with fail
      go_region_with ((go_at_call 13; refine (HEQ.out _ (Below.refl _ _).drew).mono ?_; rintro e w' ⟨rfl, hb2⟩))
      all_goals
        go_wp2
        go_roundw
        case rel => exact ⟨j + 1, by omega, by go_num, (HBL.out.drew).trans (hb2.mono HBL.out.size)⟩
        case measure => simp [intOf]; omega
    · go_wp2
      go_ret
      exact ⟨rfl, hbl⟩
theorem eqStpsU {w : World} {v v' : Value} {ds : List SD} (h : Stps w v ds) (h' : Stps w v' ds) : Calls Try.prog 19 #[v, v'] w fun e w' => e = .returned (.bool true) ∧ Below w.heap.size w w' := by
  obtain ⟨a, cap, rfl, hm, hc⟩ := h.open'
  obtain ⟨a', cap', rfl, _, hc'⟩ := h'.open'
  exact eqStps_walk w a a' cap cap' ds.length ds hm.1 hc hc'
end Go.Proofs.Ytagmmgcdebgfnaa

namespace Go.Proofs.Ytagmmgcdebgfnaa
open Go.RowKit
set_option maxRecDepth 100000

theorem Try.infoStp : ∃ i, Try.prog.info? 27 = some i ∧ i.size = 3 := by
  have h := Try.infoSte
  obtain ⟨i, hi, hzz⟩ := Option.map_eq_some_iff.1 h
  simp only [Prod.mk.injEq] at hzz
  exact ⟨i, hi, hzz.2.1⟩
theorem slice_lowStp (b o n c A : Nat) (hA : A < n) (hc : n ≤ c) (W : World) :
    (Instr.slice 36 (.slice (some ⟨b, o, none⟩) n c) (some (.int .i64 (A : Int))) none none).run Try.prog W = .ok (.slice (some ⟨b, o + A * 3, none⟩) (n - A) (c - A)) W := by
  obtain ⟨i, hi, h2⟩ := Try.infoStp
  have h1 : ¬ c - A = 0 := by omega
  have h3 : ¬ n < A := by omega
  simp [Instr.slice, Instr.sliceBounds, Instr.sliceBound, asIntOf, run_underlying Try.underlying36, sizeOf, typeInfo, hi, h2]
  rw [if_pos (show A ≤ n by omega), if_neg (show ¬ c = A by omega)]
  simp [Addr.add]
set_option maxHeartbeats 3200000 in
theorem implComU (w : World) (a : Option Addr) (n c : Nat) (l : List SD) (h : Stps w (.slice a n c) l) (hs : sizeStps l ≤ 1048576) :
    Calls Try.prog 17 #[.slice a n c] w fun e w' => e = .returned (.agg #[.int .i64 (comR l).1, .int .i64 (comR l).2]) ∧ Below w.heap.size w w' := by
  obtain ⟨_, _, e, hm, hA⟩ := h.open'
  simp only [Value.slice.injEq] at e
  obtain ⟨rfl, rfl, rfl⟩ := e
  have hz : ∀ k : Nat, sizeSte (l[k]?.getD sd0) ≤ 1048576 := fun k => by have := stz_le l k; unfold sizeStps at hs; omega
  have HF : Hid (∀ W, Below w.heap.size w W → Calls Try.prog 54 #[.slice a l.length c] W fun e w' => e = .returned (.int .i64 (stsF l)) ∧ Below W.heap.size W w') := fun W hW => implStsF W a l.length c l rfl hm.1 (hA.later hW) hz
  have HI : Hid (stsF l = 0 → ∀ W, Below w.heap.size w W → Calls Try.prog 55 #[.slice a l.length c, .func (.func 56) #[] #[]] W fun e w' => e = .returned (.int .i64 (if fnd comB l < l.length then (fnd comB l : Int) else -1)) ∧ Below W.heap.size W w') := fun h0 W hW => by
    rw [← fnd_congr (p := comI) fun i hi => comI_eq ((stsF_in h0).2 i hi)]
    exact indexF_any W a l.length c l rfl hm.1 (hA.later hW) 56 comI (fun _ _ => rfl) fun W d aW cW hi => isCommit_any W _ _ _ _ _ _ hi
  have HJ : Hid (∀ A b o, A < l.length → a = some ⟨b, o, none⟩ → ∀ W, Below w.heap.size w W → Calls Try.prog 55 #[.slice (some ⟨b, o + A * 3, none⟩) (l.length - A) (c - A), .func (.func 49) #[] #[]] W fun e w' => e = .returned (.int .i64 (if fnd (·.1) (l.drop A) < l.length - A then (fnd (·.1) (l.drop A) : Int) else -1)) ∧ Below W.heap.size W w') := fun A b o h1 h2 W hW => by
    subst h2
    exact indexF_any W _ (l.length - A) _ (l.drop A) (by simp) (by omega) ((hA.drop A (by omega)).later hW) 49 (·.1) (fun _ _ => rfl) fun W d aW cW _ => isFlush_any W _ _ _
  have HAD : Hid (∀ A, A < l.length → ∃ b o, a = some ⟨b, o, none⟩) := fun A h1 => by
    obtain ⟨b, o, e, _⟩ := hA A h1
    exact ⟨b, o, e⟩
  have HBAD : Hid (¬ stsF l = 0 → comR l = (stsF l, 0)) := comR_bad
  have HNO : Hid (stsF l = 0 → ¬ fnd comB l < l.length → comR l = (4, 0)) := comR_none
  have HAT : Hid (stsF l = 0 → fnd comB l < l.length → comR l = (0, ((fnd comB l + fnd (·.1) (l.drop (fnd comB l)) : Nat) : Int))) := fun h1 h2 => comR_at h1 rfl h2
  have HLE : Hid (fnd (·.1) (l.drop (fnd comB l)) ≤ l.length - fnd comB l) := by have := fnd_le (·.1) (l.drop (fnd comB l)); unfold Hid; simpa using this
  obtain ⟨hm1, hm2⟩ := hm
  unfold maxLen at hm1
  clear h hA hz hs
  generalize comR l = RES at *
  generalize stsF l = r at *
  generalize fnd comB l = A at *
  replace HJ := HJ.out A
  generalize fnd (·.1) (l.drop A) = D at *
  generalize l.length = n at *
  have HB0 : Hid (Below w.heap.size w (w.alloc (.cells #[.int .i64 0, .int .i64 0] 34))) := later1 _ _
  have HR0 : Hid (OwnRow (w.alloc (.cells #[.int .i64 0, .int .i64 0] 34)) w.heap.size 2 (cel [.int .i64 0, .int .i64 0])) := newCel w [.int .i64 0, .int .i64 0] _
  go_enter Try.func17, Try.ntmps17
  go_wp2_with fail
  refine (HF.out _ HB0.out).mono ?_
  rintro e w1 ⟨rfl, hb⟩
  have HB1 : Hid (Below w.heap.size w w1) := HB0.out.trans (hb.mono HB0.out.size)
  have HR1 : Hid (OwnRow w1 w.heap.size 2 (cel [.int .i64 0, .int .i64 0])) := HR0.out.later hb
  clear hb
  by_cases hf : r = 0
  · skip
    have hfb : (r != 0) = false := by simpa using hf
    replace HNO := HNO.out hf
    replace HAT := HAT.out hf
    clear HBAD HF
    by_cases hn : A < n
    · skip
      have HC : Hid (∀ W, Below w.heap.size w W → Calls Try.prog 55 #[.slice a n c, .func (.func 56) #[] #[]] W fun e w' => e = .returned (.int .i64 (A : Int)) ∧ Below W.heap.size W w') := by
        have h1 := HI.out hf
        rw [if_pos hn] at h1
        exact h1
      have HE : Hid (RES = (0, ((A + D : Nat) : Int))) := HAT hn
      obtain ⟨b, o, rfl⟩ := HAD.out A hn
      replace HJ := HJ b o hn rfl
      have hsl := slice_lowStp b o n c A hn hm2
      clear HI HAT HNO HAD hf
      go_wp2_with fail
      refine (HC.out _ HB1.out).mono ?_
      rintro e w2 ⟨rfl, hb⟩
      have HB2 : Hid (Below w.heap.size w w2) := HB1.out.trans (hb.mono HB1.out.size)
      have HR2 : Hid (OwnRow w2 w.heap.size 2 (cel [.int .i64 0, .int .i64 0])) := HR1.out.later hb
      clear hb
      clear HC
      by_cases hd : D < n - A
      · skip
        rw [if_pos hd] at HJ
        have HC : Hid (∀ W, Below w.heap.size w W → _) := HJ
        clear HJ
        have hq : ¬ ((D : Int) < 0) := by omega
        go_wp2_with fail
        refine (HC.out _ HB2.out).mono ?_
        rintro e w3 ⟨rfl, hb⟩
        have HB3 : Hid (Below w.heap.size w w3) := HB2.out.trans (hb.mono HB2.out.size)
        have HR3 : Hid (OwnRow w3 w.heap.size 2 (cel [.int .i64 0, .int .i64 0])) := HR2.out.later hb
        clear hb
        clear HC
        have HE2 : Hid (RES = (0, (A : Int) + (D : Int))) := by unfold Hid; rw [HE.out]; push_cast; rfl
        have hrr := HR3.out
        have t0 : w3.cell? ⟨w.heap.size, 0, none⟩ = some (.int .i64 0) := hrr.cell (i := 0) (by omega)
        have t1 : w3.cell? ⟨w.heap.size, 1, none⟩ = some (.int .i64 0) := hrr.cell (i := 1) (by omega)
        have f0 := hrr.frozen 0
        have f1 := hrr.frozen 1
        have hlr := hrr.lt
        clear hrr
        go_wp2
        exact bodyPost_ret (v := .agg #[.int .i64 0, .int .i64 ((A : Int) + (D : Int))]) (by simp [results, Try.results17, go_sem, t0, t1]) rfl ⟨by rw [HE2.out], ((HB3.out).setCell (by first | omega | (simp <;> omega)) _).setCell (by first | omega | (simp <;> omega)) _⟩
      · skip
        rw [if_neg hd] at HJ
        have HC : Hid (∀ W, Below w.heap.size w W → _) := HJ
        clear HJ
        have HE2 : Hid (RES = (0, (n : Int))) := by unfold Hid; rw [HE.out, show A + D = n by have := HLE.out; omega]
        clear HE HLE
        go_wp2_with fail
        refine (HC.out _ HB2.out).mono ?_
        rintro e w3 ⟨rfl, hb⟩
        have HB3 : Hid (Below w.heap.size w w3) := HB2.out.trans (hb.mono HB2.out.size)
        have HR3 : Hid (OwnRow w3 w.heap.size 2 (cel [.int .i64 0, .int .i64 0])) := HR2.out.later hb
        clear hb
        clear HC
        have hrr := HR3.out
        have t0 : w3.cell? ⟨w.heap.size, 0, none⟩ = some (.int .i64 0) := hrr.cell (i := 0) (by omega)
        have t1 : w3.cell? ⟨w.heap.size, 1, none⟩ = some (.int .i64 0) := hrr.cell (i := 1) (by omega)
        have f0 := hrr.frozen 0
        have f1 := hrr.frozen 1
        have hlr := hrr.lt
        clear hrr
        go_wp2
        exact bodyPost_ret (v := .agg #[.int .i64 0, .int .i64 (n : Int)]) (by simp [results, Try.results17, go_sem, t0, t1]) rfl ⟨by rw [HE2.out], ((HB3.out).setCell (by first | omega | (simp <;> omega)) _).setCell (by first | omega | (simp <;> omega)) _⟩
    · skip
      have HC : Hid (∀ W, Below w.heap.size w W → Calls Try.prog 55 #[.slice a n c, .func (.func 56) #[] #[]] W fun e w' => e = .returned (.int .i64 (-1)) ∧ Below W.heap.size W w') := by
        have h1 := HI.out hf
        rw [if_neg hn] at h1
        exact h1
      have HE : Hid (RES = (4, 0)) := HNO hn
      clear HI HAT HNO HAD hf HJ HLE
      go_wp2_with fail
      refine (HC.out _ HB1.out).mono ?_
      rintro e w2 ⟨rfl, hb⟩
      have HB2 : Hid (Below w.heap.size w w2) := HB1.out.trans (hb.mono HB1.out.size)
      have HR2 : Hid (OwnRow w2 w.heap.size 2 (cel [.int .i64 0, .int .i64 0])) := HR1.out.later hb
      clear hb
      clear HC
      have hrr := HR2.out
      have t0 : w2.cell? ⟨w.heap.size, 0, none⟩ = some (.int .i64 0) := hrr.cell (i := 0) (by omega)
      have t1 : w2.cell? ⟨w.heap.size, 1, none⟩ = some (.int .i64 0) := hrr.cell (i := 1) (by omega)
      have f0 := hrr.frozen 0
      have f1 := hrr.frozen 1
      have hlr := hrr.lt
      clear hrr
      go_wp2
      exact bodyPost_ret (v := .agg #[.int .i64 4, .int .i64 0]) (by simp [results, Try.results17, go_sem, t0, t1]) rfl ⟨by rw [HE.out], ((HB2.out).setCell (by first | omega | (simp <;> omega)) _).setCell (by first | omega | (simp <;> omega)) _⟩
  · skip
    have hfb : (r != 0) = true := by simpa using hf
    have HE : Hid (RES = (r, 0)) := HBAD.out hf
    clear HBAD HNO HAT HJ HI HLE HAD HF hf
    have hrr := HR1.out
    have t0 : w1.cell? ⟨w.heap.size, 0, none⟩ = some (.int .i64 0) := hrr.cell (i := 0) (by omega)
    have t1 : w1.cell? ⟨w.heap.size, 1, none⟩ = some (.int .i64 0) := hrr.cell (i := 1) (by omega)
    have f0 := hrr.frozen 0
    have f1 := hrr.frozen 1
    have hlr := hrr.lt
    clear hrr
    go_wp2
    exact bodyPost_ret (v := .agg #[.int .i64 r, .int .i64 0]) (by simp [results, Try.results17, go_sem, t0, t1]) rfl ⟨by rw [HE.out], ((HB1.out).setCell (by first | omega | (simp <;> omega)) _).setCell (by first | omega | (simp <;> omega)) _⟩
end Go.Proofs.Ytagmmgcdebgfnaa

namespace Go.Proofs.Ytagmmgcdebgfnaa
open Go.RowKit
set_option maxRecDepth 100000

set_option maxHeartbeats 1600000 in
theorem l13Steps_any (w : World) (a : Option Addr) (n c : Nat) (l : List SD) (hl : l.length = n) (hm : n ≤ maxLen) (hA : AtStp w a n l) (hz : ∀ k : Nat, sizeSte (l[k]?.getD sd0) ≤ 1048576) :
    Calls Try.prog 52 #[.slice a n c] w fun e w' => e = .returned (.int .i64 (stsF l)) ∧ Below w.heap.size w w' := by
  unfold maxLen at hm
  by_cases hb : 120 < n
  · have HE : Hid (stsF l = 2) := stsF_many (by omega)
    clear hA hz hl
    go_enter Try.func52, Try.ntmps52
    go_wp2
    go_ret
    exact ⟨ret_int HE.out.symm, Below.refl _ _⟩
  · have HN : Hid (l.length = n) := hl
    have HC : Hid (AtStp w a n l) := hA
    have HZ : Hid (∀ k : Nat, sizeSte (l[k]?.getD sd0) ≤ 1048576) := hz
    clear hl hA hz
    go_enter Try.func52, Try.ntmps52
    go_wp2
    go_loopw [3] (fun i wr => ∃ k : Nat, k ≤ n ∧ i = .int .i64 k ∧ Below w.heap.size w wr ∧ ∀ i, i < k → stepF (l[i]?.getD sd0) = 0) (fun i _ => n - (intOf i).toNat)
    case atStart => exact ⟨0, Nat.zero_le _, rfl, Below.refl _ _, fun i hi => by omega⟩
    case round =>
      obtain ⟨k, hk, rfl, hbl, ht⟩ := hrel
      have HT : Hid (∀ i, i < k → stepF (l[i]?.getD sd0) = 0) := ht
      have HBL : Hid (Below w.heap.size w wr) := hbl
      clear ht hbl
      by_cases hlt : k < n
      · obtain ⟨b, o, rfl, hI⟩ := HC.out k hlt
        obtain ⟨aW, cW, c0, c1, c2, hR⟩ := hI.later HBL.out
        have HS : Hid (∀ W, Below wr.heap.size wr W → Calls Try.prog 10 #[.agg #[.bool (l[k]?.getD sd0).1, .int .i64 (l[k]?.getD sd0).2.1, .slice aW (l[k]?.getD sd0).2.2.length cW]] W fun e w' => e = .returned (.int .i64 (stepF (l[k]?.getD sd0))) ∧ Below W.heap.size W w') := fun W hW => specStepFU W _ _ _ _ _ _ (hR.later hW) (HZ.out k)
        have HAT : Hid (¬ stepF (l[k]?.getD sd0) = 0 → stsF l = stepF (l[k]?.getD sd0)) := fun h => stsF_at (by rw [HN.out]; exact hb) HT.out (by rw [HN.out]; exact hlt) h
        have HMO : Hid (stepF (l[k]?.getD sd0) = 0 → ∀ i, i < k + 1 → stepF (l[i]?.getD sd0) = 0) := fun h i hi => by
          by_cases e : i = k
          · rw [e]; exact h
          · exact HT.out i (by omega)
        clear hI hR HC HZ HN HT
        generalize stepF (l[k]?.getD sd0) = r at *
        generalize (l[k]?.getD sd0).2.2.length = m1 at *
        generalize (l[k]?.getD sd0).1 = z0 at *
        generalize (l[k]?.getD sd0).2.1 = z1 at *
        go_wp2_with fail
        refine (HS.out _ (Below.refl _ _)).mono ?_
        rintro e w1 ⟨rfl, hb1⟩
        have HB1 : Hid (Below w.heap.size w w1) := HBL.out.trans (hb1.mono HBL.out.size)
        clear hb1
        by_cases hr : r = 0
        · have hr' : (r != 0) = false := by simpa using hr
          have HM : Hid (∀ i, i < k + 1 → stepF (l[i]?.getD sd0) = 0) := HMO.out hr
          clear hr HMO HAT
          go_wp2
          go_roundw
          case rel => exact ⟨k + 1, by omega, by go_num, HB1.out, HM.out⟩
          case measure => simp [intOf]; omega
        · have hr' : (r != 0) = true := by simpa using hr
          have HE : Hid (stsF l = r) := HAT.out hr
          clear hr HMO HAT
          go_wp2
          go_ret
          exact ⟨ret_int HE.out.symm, HB1.out⟩
      · go_wp2
        go_ret
        have e : k = n := by omega
        subst e
        exact ⟨ret_int (stsF_no (by rw [HN.out]; exact hb) fun i hi => HT.out i (by rw [HN.out] at hi; exact hi)).symm, HBL.out⟩

/-- Where a list has its commit's end; -1: nowhere. -/
def cmtZ (l : List SD) : Int := if fnd comB l < l.length then ((fnd comB l + fnd (·.1) (l.drop (fnd comB l)) : Nat) : Int) else -1
theorem cmtZ_no {l : List SD} (h : fnd comB l = l.length) : cmtZ l = -1 := by unfold cmtZ; rw [h, if_neg (Nat.lt_irrefl _)]
theorem cmtZ_at {l : List SD} {A k : Nat} (h : fnd comB l = A) (hA : A < l.length) (hk : A ≤ k) (hlt : k < l.length) (hz : ∀ i, A ≤ i → i < k → (l[i]?.getD sd0).1 = false) (hp : (l[k]?.getD sd0).1 = true) : cmtZ l = (k : Int) := by
  unfold cmtZ
  rw [h, if_pos hA, fnd_at (p := (·.1)) (l := l.drop A) (k := k - A) (by simp; omega) (fun i hi => by rw [drop_getD]; exact hz _ (by omega) (by omega)) (by rw [drop_getD, show A + (k - A) = k by omega]; exact hp)]
  rw [show A + (k - A) = k by omega]
theorem cmtZ_end {l : List SD} {A : Nat} (h : fnd comB l = A) (hA : A < l.length) (hz : ∀ i, A ≤ i → i < l.length → (l[i]?.getD sd0).1 = false) : cmtZ l = (l.length : Int) := by
  unfold cmtZ
  rw [h, if_pos hA, fnd_no (p := (·.1)) (l := l.drop A) fun i hi => by rw [drop_getD]; exact hz _ (by omega) (by rw [List.length_drop] at hi; omega)]
  rw [List.length_drop, show A + (l.length - A) = l.length by omega]
end Go.Proofs.Ytagmmgcdebgfnaa

namespace Go.Proofs.Ytagmmgcdebgfnaa
open Go.RowKit
set_option maxRecDepth 100000

set_option maxHeartbeats 3200000 in
theorem l13Commit_any (w : World) (a : Option Addr) (n c : Nat) (l : List SD) (hl : l.length = n) (hm : n ≤ maxLen) (hA : AtStp w a n l) :
    Calls Try.prog 53 #[.slice a n c] w fun e w' => e = .returned (.int .i64 (cmtZ l)) ∧ Below w.heap.size w w' := by
  unfold maxLen at hm
  have HN : Hid (l.length = n) := hl
  have HC : Hid (AtStp w a n l) := hA
  clear hl hA
  go_enter Try.func53, Try.ntmps53
  go_wp2
  go_loopw [3] (fun i wr => ∃ k : Nat, k ≤ n ∧ i = .int .i64 k ∧ Below w.heap.size w wr ∧ ∀ i, i < k → comB (l[i]?.getD sd0) = false) (fun i _ => n - (intOf i).toNat)
  case atStart => exact ⟨0, Nat.zero_le _, rfl, Below.refl _ _, fun i hi => by omega⟩
  case round =>
    obtain ⟨k, hk, rfl, hbl, ht⟩ := hrel
    have HT : Hid (∀ i, i < k → comB (l[i]?.getD sd0) = false) := ht
    have HBL : Hid (Below w.heap.size w wr) := hbl
    clear ht hbl
    by_cases hlt : k < n
    · obtain ⟨b, o, rfl, hI⟩ := HC.out k hlt
      obtain ⟨aW, cW, c0, c1, c2, hR⟩ := hI.later HBL.out
      have HMO : Hid (comB (l[k]?.getD sd0) = false → ∀ i, i < k + 1 → comB (l[i]?.getD sd0) = false) := fun h i hi => by
        by_cases e : i = k
        · rw [e]; exact h
        · exact HT.out i (by omega)
      have HAT : Hid (comB (l[k]?.getD sd0) = true → fnd comB l = k) := fun h => fnd_at (by rw [HN.out]; exact hlt) HT.out h
      have HE : Hid (comB (l[k]?.getD sd0) = (!(l[k]?.getD sd0).1 && (decide (1 ≤ (l[k]?.getD sd0).2.1 ∧ (l[k]?.getD sd0).2.1 ≤ 16) && (decide ((l[k]?.getD sd0).2.2.length = 3) && decide ((l[k]?.getD sd0).2.2[0]?.getD 0 = 2))))) := rfl
      have HWD : Hid (Ints wr (.slice aW (l[k]?.getD sd0).2.2.length cW) (l[k]?.getD sd0).2.2) := hR.2
      clear hI hR HT
      generalize hd : l[k]?.getD sd0 = d at *
      clear hd
      obtain ⟨z0, z1, ws⟩ := d
      dsimp only at c0 c1 c2 HE HWD
      generalize hcd : comB (z0, z1, ws) = cd at *
      clear hcd
      obtain ⟨_, _, ev, hmw, hW⟩ := HWD.out.open'
      simp only [Value.slice.injEq] at ev
      obtain ⟨rfl, _, rfl⟩ := ev
      have HAW : Hid (At1 wr aW ws.length (fun k => .int .i64 (ws[k]?.getD 0))) := hW
      unfold maxLen at hmw
      clear hW HWD
      cases z0 with
      | true =>
        have HM : Hid (∀ i, i < k + 1 → comB (l[i]?.getD sd0) = false) := HMO.out (by rw [HE.out]; rfl)
        clear HMO HAT HE HAW HN HC
        generalize ws.length = m1 at *
        have HX : Hid (Bx (wr.alloc (.cells #[.bool true, .int .i64 z1, .slice aW m1 cW] 27)) wr.heap.size [.bool true, .int .i64 z1, .slice aW m1 cW]) := Bx.new wr [.bool true, .int .i64 z1, .slice aW m1 cW] _
        have x0 := HX.out 0 _ rfl
        have x1 := HX.out 1 _ rfl
        have x2 := HX.out 2 _ rfl
        clear HX
        go_wp2
        go_roundw
        case rel => exact ⟨k + 1, by omega, by go_num, HBL.out.trans ((later1 _ _).mono HBL.out.size), HM.out⟩
        case measure => simp [intOf]; omega
      | false =>
        cases hq : decide (1 ≤ z1 ∧ z1 ≤ 16) with
        | false =>
          have HM : Hid (∀ i, i < k + 1 → comB (l[i]?.getD sd0) = false) := HMO.out (by rw [HE.out, hq]; rfl)
          have HQ : Hid (∀ W, Calls Try.prog 46 #[.int .i64 z1, .int .i64 1, .int .i64 16] W fun e w' => e = .returned (.bool false) ∧ w' = W) := fun W => by rw [← hq]; exact l1In_any W z1 1 16
          clear hq
          clear HMO HAT HE HAW HN HC
          generalize ws.length = m1 at *
          have HX : Hid (Bx (wr.alloc (.cells #[.bool false, .int .i64 z1, .slice aW m1 cW] 27)) wr.heap.size [.bool false, .int .i64 z1, .slice aW m1 cW]) := Bx.new wr [.bool false, .int .i64 z1, .slice aW m1 cW] _
          have x0 := HX.out 0 _ rfl
          have x1 := HX.out 1 _ rfl
          have x2 := HX.out 2 _ rfl
          clear HX
          go_wp2_with fail
          refine (HQ.out _).mono ?_
          rintro e wq ⟨rfl, hwq⟩
          subst wq
          clear HQ
          go_wp2
          go_roundw
          case rel => exact ⟨k + 1, by omega, by go_num, HBL.out.trans ((later1 _ _).mono HBL.out.size), HM.out⟩
          case measure => simp [intOf]; omega
        | true =>
          by_cases h3 : ws.length = 3
          · skip
            obtain ⟨bw, ow, rfl, k0⟩ := HAW.out 0 (by omega)
            rw [Nat.add_zero] at k0
            dsimp only at k0
            have HE2 : Hid (cd = decide (ws[0]?.getD 0 = 2)) := by unfold Hid; rw [HE.out, hq, decide_eq_true h3]; rfl
            clear HE HAW
            generalize ws[0]?.getD 0 = z at *
            generalize ws.length = m1 at *
            subst h3
            have k0' := cell_later (later1 wr (.cells #[.bool false, .int .i64 z1, .slice (some ⟨bw, ow, none⟩) 3 cW] 27)) k0
            have HQ : Hid (∀ W, Calls Try.prog 46 #[.int .i64 z1, .int .i64 1, .int .i64 16] W fun e w' => e = .returned (.bool true) ∧ w' = W) := fun W => by rw [← hq]; exact l1In_any W z1 1 16
            clear hq
            by_cases hz : z = 2
            · skip
              have HF : Hid (fnd comB l = k) := HAT.out (by rw [HE2.out, decide_eq_true hz])
              clear HMO HAT HE2
              subst hz
              obtain ⟨wo, hwo⟩ : ∃ wo, wo = wr := ⟨_, rfl⟩
              subst hwo
              have HX : Hid (Bx (wo.alloc (.cells #[.bool false, .int .i64 z1, .slice (some ⟨bw, ow, none⟩) 3 cW] 27)) wo.heap.size [.bool false, .int .i64 z1, .slice (some ⟨bw, ow, none⟩) 3 cW]) := Bx.new wo [.bool false, .int .i64 z1, .slice (some ⟨bw, ow, none⟩) 3 cW] _
              have x0 := HX.out 0 _ rfl
              have x1 := HX.out 1 _ rfl
              have x2 := HX.out 2 _ rfl
              clear HX
              go_wp2_with fail
              refine (HQ.out _).mono ?_
              rintro e wq ⟨rfl, hwq⟩
              subst wq
              clear HQ
              have HBO : Hid (Below w.heap.size w (wo.alloc (.cells #[.bool false, .int .i64 z1, .slice (some ⟨bw, ow, none⟩) 3 cW] 27))) := HBL.out.trans ((later1 _ _).mono HBL.out.size)
              go_wp2
              clear x0 x1 x2 c0 c1 c2 k0 k0' HBL
              go_loopw [5] (fun i wr => ∃ j : Nat, k ≤ j ∧ j ≤ n ∧ i = .int .i64 j ∧ Below w.heap.size w wr ∧ ∀ i, k ≤ i → i < j → (l[i]?.getD sd0).1 = false) (fun i _ => n - (intOf i).toNat)
              case atStart => exact ⟨k, Nat.le_refl _, by omega, rfl, HBO.out, fun i h1 h2 => by omega⟩
              case round =>
                obtain ⟨j, hkj, hj, rfl, hbl, ht⟩ := hrel
                have HT : Hid (∀ i, k ≤ i → i < j → (l[i]?.getD sd0).1 = false) := ht
                have HBL : Hid (Below w.heap.size w wr) := hbl
                clear ht hbl
                by_cases hlj : j < n
                · obtain ⟨b', o', eb, hI⟩ := HC.out j hlj
                  simp only [Option.some.injEq, Addr.mk.injEq, and_true] at eb
                  obtain ⟨rfl, rfl⟩ := eb
                  obtain ⟨aV, cV, d0, d1, d2, hR⟩ := hI.later HBL.out
                  have HYE : Hid ((l[j]?.getD sd0).1 = true → cmtZ l = (j : Int)) := fun h => cmtZ_at HF.out (by rw [HN.out]; exact hlt) hkj (by rw [HN.out]; exact hlj) HT.out h
                  have HGO : Hid ((l[j]?.getD sd0).1 = false → ∀ i, k ≤ i → i < j + 1 → (l[i]?.getD sd0).1 = false) := fun h i h1 h2 => by
                    by_cases e : i = j
                    · rw [e]; exact h
                    · exact HT.out i h1 (by omega)
                  clear d1 d2 hR hI HT
                  generalize hf : (l[j]?.getD sd0).1 = f at *
                  clear hf
                  cases f with
                  | true =>
                    have HE : Hid (cmtZ l = (j : Int)) := HYE.out rfl
                    clear HYE HGO
                    go_wp2
                    go_ret
                    exact ⟨ret_int HE.out.symm, HBL.out⟩
                  | false =>
                    have HM : Hid (∀ i, k ≤ i → i < j + 1 → (l[i]?.getD sd0).1 = false) := HGO.out rfl
                    clear HYE HGO
                    go_wp2
                    go_roundw
                    case rel => exact ⟨j + 1, by omega, by omega, by go_num, HBL.out, HM.out⟩
                    case measure => simp [intOf]; omega
                · have e : j = n := by omega
                  subst e
                  have HE : Hid (cmtZ l = (j : Int)) := by
                    unfold Hid
                    rw [cmtZ_end HF.out (by rw [HN.out]; exact hlt) fun i h1 h2 => HT.out i h1 (by rw [HN.out] at h2; exact h2), HN.out]
                  clear HT
                  go_wp2
                  go_ret
                  exact ⟨ret_int HE.out.symm, HBL.out⟩
            · skip
              have HM : Hid (∀ i, i < k + 1 → comB (l[i]?.getD sd0) = false) := HMO.out (by rw [HE2.out, decide_eq_false hz])
              have hz' : (z == 2) = false := by simpa using hz
              clear HMO HAT HE2 HN HC hz
              have HX : Hid (Bx (wr.alloc (.cells #[.bool false, .int .i64 z1, .slice (some ⟨bw, ow, none⟩) 3 cW] 27)) wr.heap.size [.bool false, .int .i64 z1, .slice (some ⟨bw, ow, none⟩) 3 cW]) := Bx.new wr [.bool false, .int .i64 z1, .slice (some ⟨bw, ow, none⟩) 3 cW] _
              have x0 := HX.out 0 _ rfl
              have x1 := HX.out 1 _ rfl
              have x2 := HX.out 2 _ rfl
              clear HX
              go_wp2_with fail
              refine (HQ.out _).mono ?_
              rintro e wq ⟨rfl, hwq⟩
              subst wq
              clear HQ
              go_wp2
              go_roundw
              case rel => exact ⟨k + 1, by omega, by go_num, HBL.out.trans ((later1 _ _).mono HBL.out.size), HM.out⟩
              case measure => simp [intOf]; omega
          · skip
            have HM : Hid (∀ i, i < k + 1 → comB (l[i]?.getD sd0) = false) := HMO.out (by rw [HE.out, hq, decide_eq_false h3]; rfl)
            have h3' : (((ws.length : Nat) : Int) == 3) = false := by simp; omega
            have HQ : Hid (∀ W, Calls Try.prog 46 #[.int .i64 z1, .int .i64 1, .int .i64 16] W fun e w' => e = .returned (.bool true) ∧ w' = W) := fun W => by rw [← hq]; exact l1In_any W z1 1 16
            clear hq
            clear HMO HAT HE HAW HN HC h3
            generalize ws.length = m1 at *
            have HX : Hid (Bx (wr.alloc (.cells #[.bool false, .int .i64 z1, .slice aW m1 cW] 27)) wr.heap.size [.bool false, .int .i64 z1, .slice aW m1 cW]) := Bx.new wr [.bool false, .int .i64 z1, .slice aW m1 cW] _
            have x0 := HX.out 0 _ rfl
            have x1 := HX.out 1 _ rfl
            have x2 := HX.out 2 _ rfl
            clear HX
            go_wp2_with fail
            refine (HQ.out _).mono ?_
            rintro e wq ⟨rfl, hwq⟩
            subst wq
            clear HQ
            go_wp2
            go_roundw
            case rel => exact ⟨k + 1, by omega, by go_num, HBL.out.trans ((later1 _ _).mono HBL.out.size), HM.out⟩
            case measure => simp [intOf]; omega
    · have e : k = n := by omega
      subst e
      have HE : Hid (cmtZ l = -1) := cmtZ_no ((fnd_no fun i hi => HT.out i (by rw [HN.out] at hi; exact hi)))
      clear HT
      go_wp2
      go_ret
      exact ⟨ret_int HE.out.symm, HBL.out⟩
end Go.Proofs.Ytagmmgcdebgfnaa

namespace Go.Proofs.Ytagmmgcdebgfnaa
open Go.RowKit
set_option maxRecDepth 100000

theorem comR_cmt {l : List SD} (h : stsF l = 0) : (0 ≤ cmtZ l ∧ comR l = (0, cmtZ l)) ∨ (cmtZ l < 0 ∧ comR l = (4, 0)) := by
  by_cases hn : fnd comB l < l.length
  · left
    have e : cmtZ l = ((fnd comB l + fnd (·.1) (l.drop (fnd comB l)) : Nat) : Int) := by unfold cmtZ; rw [if_pos hn]
    exact ⟨by omega, by rw [comR_at h rfl hn, e]⟩
  · right
    have e : cmtZ l = -1 := by unfold cmtZ; rw [if_neg hn]
    exact ⟨by omega, comR_none h hn⟩
set_option maxHeartbeats 3200000 in
theorem specComU (w : World) (a : Option Addr) (n c : Nat) (l : List SD) (h : Stps w (.slice a n c) l) (hs : sizeStps l ≤ 1048576) :
    Calls Try.prog 15 #[.slice a n c] w fun e w' => e = .returned (.agg #[.int .i64 (comR l).1, .int .i64 (comR l).2]) ∧ Below w.heap.size w w' := by
  obtain ⟨_, _, e, hm, hA⟩ := h.open'
  simp only [Value.slice.injEq] at e
  obtain ⟨rfl, rfl, rfl⟩ := e
  have hz : ∀ k : Nat, sizeSte (l[k]?.getD sd0) ≤ 1048576 := fun k => by have := stz_le l k; unfold sizeStps at hs; omega
  have HF : Hid (∀ W, Below w.heap.size w W → Calls Try.prog 52 #[.slice a l.length c] W fun e w' => e = .returned (.int .i64 (stsF l)) ∧ Below W.heap.size W w') := fun W hW => l13Steps_any W a l.length c l rfl hm.1 (hA.later hW) hz
  have HC : Hid (∀ W, Below w.heap.size w W → Calls Try.prog 53 #[.slice a l.length c] W fun e w' => e = .returned (.int .i64 (cmtZ l)) ∧ Below W.heap.size W w') := fun W hW => l13Commit_any W a l.length c l rfl hm.1 (hA.later hW)
  have HBAD : Hid (¬ stsF l = 0 → comR l = (stsF l, 0)) := comR_bad
  have HCM : Hid (stsF l = 0 → (0 ≤ cmtZ l ∧ comR l = (0, cmtZ l)) ∨ (cmtZ l < 0 ∧ comR l = (4, 0))) := comR_cmt
  obtain ⟨hm1, hm2⟩ := hm
  unfold maxLen at hm1
  clear h hA hz hs
  generalize comR l = RES at *
  generalize stsF l = r at *
  generalize cmtZ l = z at *
  generalize l.length = n at *
  have HB0 : Hid (Below w.heap.size w (w.alloc (.cells #[.int .i64 0, .int .i64 0] 34))) := later1 _ _
  have HR0 : Hid (OwnRow (w.alloc (.cells #[.int .i64 0, .int .i64 0] 34)) w.heap.size 2 (cel [.int .i64 0, .int .i64 0])) := newCel w [.int .i64 0, .int .i64 0] _
  go_enter Try.func15, Try.ntmps15
  go_wp2_with fail
  refine (HF.out _ HB0.out).mono ?_
  rintro e w1 ⟨rfl, hb⟩
  have HB1 : Hid (Below w.heap.size w w1) := HB0.out.trans (hb.mono HB0.out.size)
  have HR1 : Hid (OwnRow w1 w.heap.size 2 (cel [.int .i64 0, .int .i64 0])) := HR0.out.later hb
  clear hb
  by_cases hf : r = 0
  · skip
    have hfb : (r != 0) = false := by simpa using hf
    have HD := HCM.out hf
    clear HCM HBAD HF hf
    go_wp2_with fail
    refine (HC.out _ HB1.out).mono ?_
    rintro e w2 ⟨rfl, hb⟩
    have HB2 : Hid (Below w.heap.size w w2) := HB1.out.trans (hb.mono HB1.out.size)
    have HR2 : Hid (OwnRow w2 w.heap.size 2 (cel [.int .i64 0, .int .i64 0])) := HR1.out.later hb
    clear hb
    clear HC
    rcases HD with ⟨hz, he⟩ | ⟨hz, he⟩
    · skip
      have HE : Hid (RES = (0, z)) := he
      have hq : ¬ z < 0 := by omega
      clear he hz
      have hrr := HR2.out
      have t0 : w2.cell? ⟨w.heap.size, 0, none⟩ = some (.int .i64 0) := hrr.cell (i := 0) (by omega)
      have t1 : w2.cell? ⟨w.heap.size, 1, none⟩ = some (.int .i64 0) := hrr.cell (i := 1) (by omega)
      have f0 := hrr.frozen 0
      have f1 := hrr.frozen 1
      have hlr := hrr.lt
      clear hrr
      go_wp2
      exact bodyPost_ret (v := .agg #[.int .i64 0, .int .i64 z]) (by simp [results, Try.results15, go_sem, t0, t1]) rfl ⟨by rw [HE.out], ((HB2.out).setCell (by first | omega | (simp <;> omega)) _).setCell (by first | omega | (simp <;> omega)) _⟩
    · skip
      have HE : Hid (RES = (4, 0)) := he
      clear he
      have hrr := HR2.out
      have t0 : w2.cell? ⟨w.heap.size, 0, none⟩ = some (.int .i64 0) := hrr.cell (i := 0) (by omega)
      have t1 : w2.cell? ⟨w.heap.size, 1, none⟩ = some (.int .i64 0) := hrr.cell (i := 1) (by omega)
      have f0 := hrr.frozen 0
      have f1 := hrr.frozen 1
      have hlr := hrr.lt
      clear hrr
      go_wp2
      exact bodyPost_ret (v := .agg #[.int .i64 4, .int .i64 0]) (by simp [results, Try.results15, go_sem, t0, t1]) rfl ⟨by rw [HE.out], ((HB2.out).setCell (by first | omega | (simp <;> omega)) _).setCell (by first | omega | (simp <;> omega)) _⟩
  · skip
    have hfb : (r != 0) = true := by simpa using hf
    have HE : Hid (RES = (r, 0)) := HBAD.out hf
    clear HBAD HCM HF HC hf
    have hrr := HR1.out
    have t0 : w1.cell? ⟨w.heap.size, 0, none⟩ = some (.int .i64 0) := hrr.cell (i := 0) (by omega)
    have t1 : w1.cell? ⟨w.heap.size, 1, none⟩ = some (.int .i64 0) := hrr.cell (i := 1) (by omega)
    have f0 := hrr.frozen 0
    have f1 := hrr.frozen 1
    have hlr := hrr.lt
    clear hrr
    go_wp2
    exact bodyPost_ret (v := .agg #[.int .i64 r, .int .i64 0]) (by simp [results, Try.results15, go_sem, t0, t1]) rfl ⟨by rw [HE.out], ((HB1.out).setCell (by first | omega | (simp <;> omega)) _).setCell (by first | omega | (simp <;> omega)) _⟩
end Go.Proofs.Ytagmmgcdebgfnaa


/- The law of SplitPath. -/
import Derived.Test.YtojegkekafampaiSplB
namespace Go.Proofs.Ytojegkekafampai
open Go.RowKit
set_option maxRecDepth 100000

set_option maxHeartbeats 6400000 in
theorem lawSplitPath_any (w : World) (s : ByteArray) (hs : s.size ≤ maxLen) : Calls Try.prog 6 #[.string s] w fun e w' => e = .returned (.bool true) ∧ Below w.heap.size w w' := by
  unfold maxLen at hs
  by_cases hb : 1048576 < s.size
  · go_enter Try.func6, Try.ntmps6
    go_wp2
    go_ret
    exact ⟨rfl, Below.refl _ _⟩
  · have hb' : decide ((1048576 : Int) < (s.size : Int)) = false := by simp; omega
    have hb'' : decide (1048576 < s.size) = false := by simp; omega
    have e1 : s.data.toList.length = s.size := Array.length_toList
    have hln := splitL_len s.data.toList (by omega)
    have HA : Hid (∀ W, Calls Try.prog 22 #[.string s] W fun e w' => ∃ a c, e = .returned (.agg #[.int .i64 (pathF s.data.toList), .slice a (splitL s.data.toList).length c]) ∧ Below W.heap.size W w' ∧ AtT w' a (splitL s.data.toList).length (splitL s.data.toList)) := fun W => by
      have := specSplitP_any W s.data.toList
      rwa [mkB_data] at this
    have HI : Hid (∀ W, Calls Try.prog 23 #[.string s] W fun e w' => ∃ a c, e = .returned (.agg #[.int .i64 (pathF s.data.toList), .slice a (splitL s.data.toList).length c]) ∧ Below W.heap.size W w' ∧ AtT w' a (splitL s.data.toList).length (splitL s.data.toList) ∧ OwnT w' a (splitL s.data.toList).length (fun i => strV ((splitL s.data.toList)[i]?.getD [])) W.heap.size w'.heap.size) := fun W => by
      have := implSplit_own W s.data.toList (by omega)
      rwa [mkB_data] at this
    generalize pathF s.data.toList = z at *
    generalize splitL s.data.toList = xs at *
    generalize hn : xs.length = n at *
    clear hb e1 hn
    have hsum : 1 + n ≤ 4294967296 := by omega
    go_enter Try.func6, Try.ntmps6
    go_wp2_with fail
    refine (HA.out _).mono ?_
    rintro e w1 ⟨a0, c0, rfl, hb1, hat0⟩
    have HW1 : Hid (Below w.heap.size w w1) := hb1
    have HAT0 : Hid (AtT w1 a0 n xs) := hat0
    clear hb1 hat0 HA
    go_wp2_with fail
    refine (HI.out _).mono ?_
    rintro e w2 ⟨a1, c1, rfl, hb2, hat1, hot1⟩
    have HL2 : Hid (Below w1.heap.size w1 w2) := (later1 _ _).trans (hb2.mono (by simp))
    have HB0 : Hid (OwnRow w2 w1.heap.size 2 (fun i => if i = 0 then .int .i64 z else .slice a0 n c0)) := (OwnRow.newS w1 (.int .i64 z) (.slice a0 n c0) 52).block (hb2.block w1.heap.size (by simp))
    have HAT1 : Hid (AtT w2 a1 n xs) := hat1
    have HOT1 : Hid (OwnT w2 a1 n (fun i => strV (xs[i]?.getD [])) (w1.heap.size + 1) w2.heap.size) := by unfold Hid; simpa using hot1
    have HSZ2 : Hid (w1.heap.size + 1 ≤ w2.heap.size) := by unfold Hid; have := hb2.size; simpa using this
    clear hb2 hat1 hot1
    have p0 := HB0.out.cell (i := 0) (by omega)
    have p1 := HB0.out.cell (i := 1) (by omega)
    have pl := HB0.out.lt
    simp at p0 p1
    go_wp2_with fail
    refine (eqNamesU _ z a1 a0 n c1 c0 xs hln (HAT1.out.later (later1 _ _)) (HAT0.out.later (HL2.out.trans ((later1 _ _).mono HL2.out.size)))).mono ?_
    rintro e w3 ⟨rfl, hb3⟩
    have HBG3 : Hid (OwnRow w3 w2.heap.size 2 (fun i => if i = 0 then .int .i64 z else .slice a1 n c1)) := (OwnRow.newS w2 (.int .i64 z) (.slice a1 n c1) 52).block (hb3.block w2.heap.size (by simp))
    have HL3 : Hid (Below w2.heap.size w2 w3) := (later1 _ _).trans (hb3.mono (by simp))
    have HB3 : Hid (OwnRow w3 w1.heap.size 2 (fun i => if i = 0 then .int .i64 z else .slice a0 n c0)) := HB0.out.block (HL3.out.block _ HB0.out.lt)
    have HOT3 : Hid (OwnT w3 a1 n (fun i => strV (xs[i]?.getD [])) (w1.heap.size + 1) w2.heap.size) := HOT1.out.later HL3.out
    have HM3 : Hid (Below w1.heap.size w1 w3) := HL2.out.trans (HL3.out.mono HL2.out.size)
    clear hb3 p0 p1 pl HB0 HOT1 HAT1
    have q0 := HBG3.out.cell (i := 0) (by omega)
    have q1 := HBG3.out.cell (i := 1) (by omega)
    simp at q0 q1
    have HMK : Hid (Calls Try.prog 25 #[.agg #[.int .i64 z, .slice a1 n c1], .int .i64 1] w3 fun e w' => e = .returned (.int .i64 ((1 + n : Nat) : Int)) ∧ OwnT w' a1 n (fun i => mkT (1 + i)) (w1.heap.size + 1) w2.heap.size ∧ Chg (blkOf a1 (w1.heap.size + 1) w2.heap.size) w3 w') := markNamesU w3 z a1 n c1 1 _ _ _ (by omega) hsum HOT3.out
    go_wp2_with fail
    refine HMK.out.mono ?_
    rintro e w4 ⟨rfl, ho4, hc4⟩
    have HOT4 : Hid (OwnT w4 a1 n (fun i => mkT (1 + i)) (w1.heap.size + 1) w2.heap.size) := ho4
    have HM4 : Hid (Below w1.heap.size w1 w4) := HM3.out.trans (hc4.below HM3.out.size fun b hb => by have := hb.2.1; omega)
    have HB4 : Hid (OwnRow w4 w1.heap.size 2 (fun i => if i = 0 then .int .i64 z else .slice a0 n c0)) := HB3.out.block (hc4.block _ HB3.out.lt fun hb => by have := hb.2.1; omega)
    have HBG4 : Hid (OwnRow w4 w2.heap.size 2 (fun i => if i = 0 then .int .i64 z else .slice a1 n c1)) := HBG3.out.block (hc4.block _ HBG3.out.lt fun hb => by have := hb.2.2; omega)
    clear ho4 hc4 HMK HOT3 HM3 HB3 HBG3 q0 q1
    have HHD : Hid (∀ W, OwnT W a1 n (fun i => mkT (1 + i)) (w1.heap.size + 1) w2.heap.size → Calls Try.prog 26 #[.agg #[.int .i64 z, .slice a1 n c1], .int .i64 1] W fun e w' => e = .returned (.int .i64 ((1 + n : Nat) : Int)) ∧ Below W.heap.size W w') := fun W h => heldNamesU W z a1 n c1 1 _ _ (by omega) hsum h
    generalize 1 + n = m at HHD ⊢
    have hm1 : decide ((m : Int) < 0) = false := by simp
    have hm2 : ((m : Int) != (m : Int)) = false := by simp
    have q0 := HBG4.out.cell (i := 0) (by omega)
    have q1 := HBG4.out.cell (i := 1) (by omega)
    simp at q0 q1
    go_wp2_with fail
    refine (HHD.out _ HOT4.out).mono ?_
    rintro e w5 ⟨rfl, hb5⟩
    have HOT5 : Hid (OwnT w5 a1 n (fun i => mkT (1 + i)) (w1.heap.size + 1) w2.heap.size) := HOT4.out.later hb5
    have HM5 : Hid (Below w1.heap.size w1 w5) := HM4.out.trans (hb5.mono HM4.out.size)
    have HB5 : Hid (OwnRow w5 w1.heap.size 2 (fun i => if i = 0 then .int .i64 z else .slice a0 n c0)) := HB4.out.block (hb5.block _ HB4.out.lt)
    have HBG5 : Hid (OwnRow w5 w2.heap.size 2 (fun i => if i = 0 then .int .i64 z else .slice a1 n c1)) := HBG4.out.block (hb5.block _ HBG4.out.lt)
    clear hb5 HOT4 HM4 HB4 HBG4 q0 q1
    go_wp2_with fail
    refine (HI.out _).mono ?_
    rintro e w6 ⟨a6, c6, rfl, hb6, hat6, _⟩
    have HAT6 : Hid (AtT w6 a6 n xs) := hat6
    have HOT6 : Hid (OwnT w6 a1 n (fun i => mkT (1 + i)) (w1.heap.size + 1) w2.heap.size) := HOT5.out.later hb6
    have HM6 : Hid (Below w1.heap.size w1 w6) := HM5.out.trans (hb6.mono HM5.out.size)
    have HB6 : Hid (OwnRow w6 w1.heap.size 2 (fun i => if i = 0 then .int .i64 z else .slice a0 n c0)) := HB5.out.block (hb6.block _ HB5.out.lt)
    have HBG6 : Hid (OwnRow w6 w2.heap.size 2 (fun i => if i = 0 then .int .i64 z else .slice a1 n c1)) := HBG5.out.block (hb6.block _ HBG5.out.lt)
    clear hb6 hat6 HOT5 HM5 HB5 HBG5 HI
    have p0 := HB6.out.cell (i := 0) (by omega)
    have p1 := HB6.out.cell (i := 1) (by omega)
    have pl := HB6.out.lt
    simp at p0 p1
    go_wp2_with fail
    refine (eqNamesU _ z a6 a0 n c6 c0 xs hln (HAT6.out.later (later1 _ _)) (HAT0.out.later (HM6.out.trans ((later1 _ _).mono HM6.out.size)))).mono ?_
    rintro e w7 ⟨rfl, hb7⟩
    have HL7 : Hid (Below w6.heap.size w6 w7) := (later1 _ _).trans (hb7.mono (by simp))
    have HOT7 : Hid (OwnT w7 a1 n (fun i => mkT (1 + i)) (w1.heap.size + 1) w2.heap.size) := HOT6.out.later HL7.out
    have HM7 : Hid (Below w1.heap.size w1 w7) := HM6.out.trans (HL7.out.mono HM6.out.size)
    have HBG7 : Hid (OwnRow w7 w2.heap.size 2 (fun i => if i = 0 then .int .i64 z else .slice a1 n c1)) := HBG6.out.block (HL7.out.block _ HBG6.out.lt)
    clear hb7 HOT6 HM6 HB6 HBG6 HL7 p0 p1 pl
    have q0 := HBG7.out.cell (i := 0) (by omega)
    have q1 := HBG7.out.cell (i := 1) (by omega)
    simp at q0 q1
    go_wp2_with fail
    refine (HHD.out _ HOT7.out).mono ?_
    rintro e w8 ⟨rfl, hb8⟩
    have HM8 : Hid (Below w.heap.size w w8) := HW1.out.trans ((HM7.out.trans (hb8.mono HM7.out.size)).mono HW1.out.size)
    clear hb8
    go_wp2
    go_ret
    exact ⟨rfl, HM8.out⟩
end Go.Proofs.Ytojegkekafampai

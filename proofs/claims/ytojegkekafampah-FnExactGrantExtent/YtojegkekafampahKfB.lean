
/- The walks of the program's KernFault. -/
import Derived.Test.YtojegkekafampahKfP
import Derived.Test.YtojegkekafampahKrnA
import Derived.Test.YtojegkekafampahFaultB
import Derived.Test.YtojegkekafampahAtA
namespace Go.Proofs.Ytojegkekafampah
open Go.RowKit
set_option maxRecDepth 100000

/-- A key as a lock. -/
def lockF (z : Int) : Int := if 1 ≤ z ∧ z ≤ 9999 then z else 0
theorem lockOf_any (w : World) (z : Int) : Calls Try.prog 75 #[.int .i64 z] w fun e w' => e = .returned (.int .u16 (lockF z)) ∧ w' = w := by
  by_cases h1 : z < 1
  · have hl : lockF z = 0 := by unfold lockF; rw [if_neg (by omega)]
    rw [hl]
    go_enter Try.func75, Try.ntmps75
    go_wp2
    go_ret
    exact ⟨rfl, rfl⟩
  · have hd : decide (z < 1) = false := by simpa using h1
    by_cases h2 : 9999 < z
    · have hl : lockF z = 0 := by unfold lockF; rw [if_neg (by omega)]
      rw [hl]
      clear h1
      go_enter Try.func75, Try.ntmps75
      go_wp2
      go_ret
      exact ⟨rfl, rfl⟩
    · have hl : lockF z = z := by unfold lockF; rw [if_pos (by omega)]
      have hd2 : decide (9999 < z) = false := by simpa using h2
      have z0 : 0 ≤ z := by omega
      have z1 : z ≤ 65535 := by omega
      have hm : z % 65536 = z := by omega
      rw [hl]
      clear h1 h2
      go_enter Try.func75, Try.ntmps75
      go_wp2
      go_ret
      exact ⟨rfl, rfl⟩

theorem end_any (w : World) (x y z : Int) (hx0 : 0 ≤ x) (hx1 : x ≤ 60) (hy0 : 0 ≤ y) (hy1 : y ≤ 60) :
    Calls Try.prog 39 #[.agg #[.int .i64 x, .int .i64 y, .int .i64 z]] w fun e w' => e = .returned (.int .i64 (x + y)) ∧ Below w.heap.size w w' := by
  go_enter Try.func39, Try.ntmps39
  go_wp2
  go_ret
  exact ⟨rfl, later1 _ _⟩

set_option maxHeartbeats 800000 in
theorem extFault_any (w : World) (aB aC : Option Addr) (nB cB nC cC : Nat) (x y z : Int) (h60 : nB ≤ 60) :
    Calls Try.prog 38 #[.agg #[.slice aB nB cB, .slice aC nC cC], .agg #[.int .i64 x, .int .i64 y, .int .i64 z]] w fun e w' => e = .returned (.int .i64 (if rightB (x, y, z) nB = true then 0 else 3)) ∧ Below w.heap.size w w' := by
  by_cases hz : 1 ≤ z ∧ z ≤ 9999
  · have HL : Hid (lockF z = z) := by unfold Hid lockF; rw [if_pos hz]
    have hz0 : (z == 0) = false := by simp; omega
    by_cases hx0 : x < 0
    · have HR : Hid ((if rightB (x, y, z) nB = true then (0 : Int) else 3) = 3) := by unfold Hid; rw [if_neg (fun h => by have := (rightB_iff.1 h).2.1.1; simp at this; omega)]
      rw [HR.out]
      clear hz
      go_enter Try.func38, Try.ntmps38
      go_wp2_with fail
      refine (lockOf_any _ _).mono ?_
      rw [HL.out]
      rintro e w1 ⟨rfl, rfl⟩
      go_wp2
      go_ret
      exact ⟨rfl, later2 _ _ _⟩
    · have d1 : decide (x < 0) = false := by simpa using hx0
      by_cases hx1 : (nB : Int) < x
      · have HR : Hid ((if rightB (x, y, z) nB = true then (0 : Int) else 3) = 3) := by unfold Hid; rw [if_neg (fun h => by have := (rightB_iff.1 h).2.1.2; simp at this; omega)]
        rw [HR.out]
        clear hz hx0
        go_enter Try.func38, Try.ntmps38
        go_wp2_with fail
        refine (lockOf_any _ _).mono ?_
        rw [HL.out]
        rintro e w1 ⟨rfl, rfl⟩
        go_wp2
        go_ret
        exact ⟨rfl, later2 _ _ _⟩
      · have d2 : decide ((nB : Int) < x) = false := by simpa using hx1
        by_cases hy0 : y < 1
        · have HR : Hid ((if rightB (x, y, z) nB = true then (0 : Int) else 3) = 3) := by unfold Hid; rw [if_neg (fun h => by have := (rightB_iff.1 h).2.2.1.1; simp at this; omega)]
          rw [HR.out]
          clear hz hx0 hx1
          go_enter Try.func38, Try.ntmps38
          go_wp2_with fail
          refine (lockOf_any _ _).mono ?_
          rw [HL.out]
          rintro e w1 ⟨rfl, rfl⟩
          go_wp2
          go_ret
          exact ⟨rfl, later2 _ _ _⟩
        · have d3 : decide (y < 1) = false := by simpa using hy0
          by_cases hy1 : (nB : Int) < y
          · have HR : Hid ((if rightB (x, y, z) nB = true then (0 : Int) else 3) = 3) := by unfold Hid; rw [if_neg (fun h => by have := (rightB_iff.1 h).2.2.1.2; simp at this; omega)]
            rw [HR.out]
            clear hz hx0 hx1 hy0
            go_enter Try.func38, Try.ntmps38
            go_wp2_with fail
            refine (lockOf_any _ _).mono ?_
            rw [HL.out]
            rintro e w1 ⟨rfl, rfl⟩
            go_wp2
            go_ret
            exact ⟨rfl, later2 _ _ _⟩
          · have d4 : decide ((nB : Int) < y) = false := by simpa using hy1
            have hx0' : 0 ≤ x := by omega
            have hx1' : x ≤ 60 := by omega
            have hy0' : 0 ≤ y := by omega
            have hy1' : y ≤ 60 := by omega
            by_cases hs : (nB : Int) < x + y
            · have HR : Hid ((if rightB (x, y, z) nB = true then (0 : Int) else 3) = 3) := by unfold Hid; rw [if_neg (fun h => by have := (rightB_iff.1 h).2.2.2; simp at this; omega)]
              rw [HR.out]
              clear hz hx0 hx1 hy0 hy1
              go_enter Try.func38, Try.ntmps38
              go_wp2_with fail
              refine (lockOf_any _ _).mono ?_
              rw [HL.out]
              rintro e w1 ⟨rfl, rfl⟩
              go_wp2_with fail
              refine (end_any _ x y z hx0' hx1' hy0' hy1').mono ?_
              rintro e w2 ⟨rfl, hb2⟩
              have HB2 : Hid (Below w.heap.size w w2) := (later2 _ _ _).trans (hb2.mono (by simp; omega))
              clear hb2
              go_wp2
              go_ret
              exact ⟨rfl, HB2.out⟩
            · have d5 : decide ((nB : Int) < x + y) = false := by simpa using hs
              have HR : Hid ((if rightB (x, y, z) nB = true then (0 : Int) else 3) = 0) := by unfold Hid; rw [if_pos (rightB_iff.2 ⟨hz, ⟨by simp; omega, by simp; omega⟩, ⟨by simp; omega, by simp; omega⟩, by simp; omega⟩)]
              rw [HR.out]
              clear hz hx0 hx1 hy0 hy1 hs
              go_enter Try.func38, Try.ntmps38
              go_wp2_with fail
              refine (lockOf_any _ _).mono ?_
              rw [HL.out]
              rintro e w1 ⟨rfl, rfl⟩
              go_wp2_with fail
              refine (end_any _ x y z hx0' hx1' hy0' hy1').mono ?_
              rintro e w2 ⟨rfl, hb2⟩
              have HB2 : Hid (Below w.heap.size w w2) := (later2 _ _ _).trans (hb2.mono (by simp; omega))
              clear hb2
              go_wp2
              go_ret
              exact ⟨rfl, HB2.out⟩
  · have HL : Hid (lockF z = 0) := by unfold Hid lockF; rw [if_neg hz]
    have HR : Hid ((if rightB (x, y, z) nB = true then (0 : Int) else 3) = 3) := by unfold Hid; rw [if_neg (fun h => hz (rightB_iff.1 h).1)]
    rw [HR.out]
    clear hz
    go_enter Try.func38, Try.ntmps38
    go_wp2_with fail
    refine (lockOf_any _ _).mono ?_
    rw [HL.out]
    rintro e w1 ⟨rfl, rfl⟩
    go_wp2
    go_ret
    exact ⟨rfl, later2 _ _ _⟩

set_option maxHeartbeats 800000 in
theorem implKF_disk (w : World) (aB aC aE : Option Addr) (nB cB nC cC nE cE : Nat) (d : KD) (hD : DiskR w (.slice aB nB cB) (.slice aC nC cC) d.1) (hf : ¬ faultF d.1.1 d.1.2 = 0) :
    Calls Try.prog 12 #[.agg #[.slice aB nB cB, .slice aC nC cC, .slice aE nE cE]] w fun e w' => e = .returned (.int .i64 (faultF d.1.1 d.1.2)) ∧ Below w.heap.size w w' := by
  have HD : Hid (DiskR w (.slice aB nB cB) (.slice aC nC cC) d.1) := hD
  generalize hc : faultF d.1.1 d.1.2 = c at *
  have HC : Hid (faultF d.1.1 d.1.2 = c) := hc
  have hne : (c != 0) = true := by simpa using hf
  clear hD hf hc
  go_enter Try.func12, Try.ntmps12
  go_wp2_with fail
  refine (fault_any _ _ _ d.1.1 d.1.2 (HD.out.1.later (later1 _ _)) (HD.out.2.later (later1 _ _))).mono ?_
  rw [HC.out]
  rintro e w1 ⟨rfl, hb1⟩
  have HB1 : Hid (Below w.heap.size w w1) := (later1 _ _).trans (hb1.mono (by simp))
  clear hb1
  go_wp2
  go_ret
  exact ⟨rfl, HB1.out⟩

set_option maxHeartbeats 800000 in
theorem implKF_many (w : World) (aB aC aE : Option Addr) (nB cB nC cC nE cE : Nat) (d : KD) (hD : DiskR w (.slice aB nB cB) (.slice aC nC cC) d.1) (hf : faultF d.1.1 d.1.2 = 0) (h8 : 8 < nE) :
    Calls Try.prog 12 #[.agg #[.slice aB nB cB, .slice aC nC cC, .slice aE nE cE]] w fun e w' => e = .returned (.int .i64 2) ∧ Below w.heap.size w w' := by
  have HD : Hid (DiskR w (.slice aB nB cB) (.slice aC nC cC) d.1) := hD
  have HC : Hid (faultF d.1.1 d.1.2 = 0) := hf
  have h8' : (8 : Int) < (nE : Int) := by omega
  clear hD hf
  go_enter Try.func12, Try.ntmps12
  go_wp2_with fail
  refine (fault_any _ _ _ d.1.1 d.1.2 (HD.out.1.later (later1 _ _)) (HD.out.2.later (later1 _ _))).mono ?_
  rw [HC.out]
  rintro e w1 ⟨rfl, hb1⟩
  have HB1 : Hid (Below w.heap.size w w1) := (later1 _ _).trans (hb1.mono (by simp))
  have x2 : w1.cell? ⟨w.heap.size, 2, none⟩ = some (.slice aE nE cE) := by rw [hb1.cell (by simp), new_cell]; rfl
  clear hb1
  go_wp2
  go_ret
  exact ⟨rfl, HB1.out⟩

set_option maxHeartbeats 3200000 in
theorem implKF_walk (w : World) (aB aC aE : Option Addr) (nB cB nC cC nE cE : Nat) (d : KD) (hD : DiskR w (.slice aB nB cB) (.slice aC nC cC) d.1) (hE : AtE w aE nE d.2) (hf : faultF d.1.1 d.1.2 = 0) (h8 : nE ≤ 8) (h60 : nB ≤ 60) :
    Calls Try.prog 12 #[.agg #[.slice aB nB cB, .slice aC nC cC, .slice aE nE cE]] w fun e w' => e = .returned (.int .i64 (firstNZ (extOne d.2 nB) nE)) ∧ Below w.heap.size w w' := by
  have HD : Hid (DiskR w (.slice aB nB cB) (.slice aC nC cC) d.1) := hD
  have HC : Hid (faultF d.1.1 d.1.2 = 0) := hf
  have HE : Hid (AtE w aE nE d.2) := hE
  have h8' : decide ((8 : Int) < (nE : Int)) = false := by simp; omega
  clear hD hf hE
  go_enter Try.func12, Try.ntmps12
  go_wp2_with fail
  refine (fault_any _ _ _ d.1.1 d.1.2 (HD.out.1.later (later1 _ _)) (HD.out.2.later (later1 _ _))).mono ?_
  rw [HC.out]
  rintro e w1 ⟨rfl, hb1⟩
  have HB1 : Hid (Below w.heap.size w w1) := (later1 _ _).trans (hb1.mono (by simp))
  have HX1 : Hid (Bx w1 w.heap.size [.slice aB nB cB, .slice aC nC cC, .slice aE nE cE]) := (Bx.new w [.slice aB nB cB, .slice aC nC cC, .slice aE nE cE] _).later hb1
  have x2 := HX1.out 2 _ rfl
  clear hb1
  go_wp2
  clear x2
  go_loopw [20] (fun i wr => ∃ j : Nat, j ≤ nE ∧ i = .int .i64 j ∧ Below w.heap.size w wr ∧ Bx wr w.heap.size [.slice aB nB cB, .slice aC nC cC, .slice aE nE cE] ∧ ∀ i : Nat, i < j → extOne d.2 nB i = 0) (fun i _ => nE - (intOf i).toNat)
  case atStart => exact ⟨0, Nat.zero_le _, rfl, HB1.out, HX1.out, fun i hi => by omega⟩
  case round =>
    obtain ⟨j, hj, rfl, hbl, hbx, hall⟩ := hrel
    have HA : Hid (∀ i : Nat, i < j → extOne d.2 nB i = 0) := hall
    have HBL : Hid (Below w.heap.size w wr) := hbl
    have HBX : Hid (Bx wr w.heap.size [.slice aB nB cB, .slice aC nC cC, .slice aE nE cE]) := hbx
    have x0 := hbx 0 _ rfl
    have x1 := hbx 1 _ rfl
    have x2 := hbx 2 _ rfl
    have hzw : w.heap.size < wr.heap.size := hbx.lt
    clear hall hbl hbx
    by_cases hlt : j < nE
    · obtain ⟨b, off, rfl, c0, c1, c2⟩ := HE.out j hlt
      replace c0 := cell_later HBL.out c0
      replace c1 := cell_later HBL.out c1
      replace c2 := cell_later HBL.out c2
      have HX : Hid (extAt d.2 j = ((d.2[j]?.getD (0, 0, 0)).1, (d.2[j]?.getD (0, 0, 0)).2.1, (d.2[j]?.getD (0, 0, 0)).2.2)) := rfl
      generalize (d.2[j]?.getD (0, 0, 0)).1 = x at *
      generalize (d.2[j]?.getD (0, 0, 0)).2.1 = y at *
      generalize (d.2[j]?.getD (0, 0, 0)).2.2 = z at *
      cases hr : rightB (x, y, z) nB
      · have HR : Hid (rightB (x, y, z) nB = false) := hr
        have HO : Hid (extOne d.2 nB j = 3) := by unfold Hid extOne; rw [HX.out, hr]; rfl
        clear hr
        go_wp2_with fail
        refine (extFault_any _ aB aC nB cB nC cC x y z h60).mono ?_
        rw [HR.out]
        rintro e w2 ⟨rfl, hb2⟩
        have HB2 : Hid (Below wr.heap.size wr w2) := (later1 _ _).trans (hb2.mono (by simp))
        clear hb2
        go_wp2
        go_ret
        exact ⟨ret_int (by rw [firstNZ_at HA.out hlt (by rw [HO.out]; decide), HO.out]), HBL.out.trans (HB2.out.mono HBL.out.size)⟩
      · have HR : Hid (rightB (x, y, z) nB = true) := hr
        clear hr
        by_cases hj0 : j = 0
        · have HO : Hid (extOne d.2 nB j = 0) := by unfold Hid extOne; rw [HX.out, HR.out]; simp [hj0]
          have HJ0 : Hid (j = 0) := hj0
          have hpj : decide ((0 : Int) < (j : Int)) = false := by simp; omega
          have hpj2 : decide (0 < j) = false := by simp; omega
          have hpj3 : ¬ 0 < j := by omega
          clear hj0
          go_wp2_with fail
          refine (extFault_any _ aB aC nB cB nC cC x y z h60).mono ?_
          rw [HR.out]
          rintro e w2 ⟨rfl, hb2⟩
          have HB2 : Hid (Below wr.heap.size wr w2) := (later1 _ _).trans (hb2.mono (by simp))
          have k2 := cell_later HB2.out x2
          clear hb2
          go_wp2_with fail
          go_quiet (fail)
          go_wp2
          go_roundw
          case rel =>
            refine ⟨j + 1, by omega, by go_num, below_drewN (HBL.out.trans (HB2.out.mono HBL.out.size)) _, HBX.out.later (below_drewN HB2.out _), fun i hi => ?_⟩
            have : i = j := by have := HJ0.out; omega
            subst this; exact HO.out
          case measure => simp [intOf]; omega
        · obtain ⟨p, hjp⟩ : ∃ p, j = p + 1 := ⟨j - 1, by omega⟩
          have HJP : Hid (j = p + 1) := hjp
          have hjm : (j : Int) - 1 = (p : Int) := by omega
          have hj1 : 0 < j := by omega
          have hp8 : p ≤ 8 := by omega
          have hwr : IntKind.i64.wrap (p : Int) = (p : Int) := by rw [IntKind.wrap_i64]; omega
          clear hj0
          obtain ⟨b', off', e', p0, p1, p2⟩ := HE.out p (by omega)
          simp only [Option.some.injEq, Addr.mk.injEq, and_true] at e'
          obtain ⟨rfl, rfl⟩ := e'
          have hp := HA.out p (by omega)
          have hpr : rightB (extAt d.2 p) nB = true := by
            unfold extOne at hp
            by_cases h : rightB (extAt d.2 p) nB = true
            · exact h
            · rw [if_neg h] at hp; omega
          have hq := rightB_iff.1 hpr
          have HY : Hid (extAt d.2 p = ((d.2[p]?.getD (0, 0, 0)).1, (d.2[p]?.getD (0, 0, 0)).2.1, (d.2[p]?.getD (0, 0, 0)).2.2)) := rfl
          rw [HY.out] at hq
          dsimp only at hq
          generalize (d.2[p]?.getD (0, 0, 0)).1 = x' at *
          generalize (d.2[p]?.getD (0, 0, 0)).2.1 = y' at *
          generalize (d.2[p]?.getD (0, 0, 0)).2.2 = z' at *
          have hx'0 : 0 ≤ x' := by omega
          have hx'1 : x' ≤ 60 := by omega
          have hy'0 : 0 ≤ y' := by omega
          have hy'1 : y' ≤ 60 := by omega
          have hpn : p < nE := by omega
          clear hp hpr hq hjp
          have HO : Hid (extOne d.2 nB j = if x < x' + y' then 1 else 0) := by
            unfold Hid extOne
            rw [HX.out, HR.out, if_pos rfl, show j - 1 = p by have := HJP.out; omega, HY.out]
            by_cases h : x < x' + y' <;> simp [h, hj1]
          have HP0 : Hid (w.cell? _ = some (.int .i64 x')) := p0
          have HP1 : Hid (w.cell? _ = some (.int .i64 y')) := p1
          have HP2 : Hid (w.cell? _ = some (.int .i64 z')) := p2
          clear p0 p1 p2
          by_cases hlq : x < x' + y'
          · have hld : decide (x < x' + y') = true := by simpa using hlq
            have HO1 : Hid (extOne d.2 nB j = 1) := by unfold Hid; rw [HO.out, if_pos hlq]
            go_wp2_with fail
            refine (extFault_any _ aB aC nB cB nC cC x y z h60).mono ?_
            rw [HR.out]
            rintro e w2 ⟨rfl, hb2⟩
            have HB2 : Hid (Below wr.heap.size wr w2) := (later1 _ _).trans (hb2.mono (by simp))
            have HW2 : Hid (Below w.heap.size w w2) := HBL.out.trans (HB2.out.mono HBL.out.size)
            have e0 := ((Bx.new wr [.int .i64 x, .int .i64 y, .int .i64 z] 70).later hb2) 0 _ rfl
            have k2 := cell_later HB2.out x2
            have p0 := cell_later HW2.out HP0.out
            have p1 := cell_later HW2.out HP1.out
            have p2 := cell_later HW2.out HP2.out
            clear hb2
            go_wp2_with fail
            go_region_with ((go_at_call 39; refine (end_any _ x' y' z' hx'0 hx'1 hy'0 hy'1).mono ?_; rintro e w3 ⟨rfl, hb3⟩; have HB3 : Hid (Below w2.heap.size w2 w3) := (Below.refl _ _).drew.trans hb3; have e3 := cell_later hb3 e0; clear hb3))
            all_goals
              go_wp2
              go_ret
              exact ⟨ret_int (by rw [firstNZ_at HA.out hlt (by rw [HO1.out]; decide), HO1.out]), HW2.out.trans (HB3.out.mono HW2.out.size)⟩
          · have hld : decide (x < x' + y') = false := by simpa using hlq
            have HO1 : Hid (extOne d.2 nB j = 0) := by unfold Hid; rw [HO.out, if_neg hlq]
            go_wp2_with fail
            refine (extFault_any _ aB aC nB cB nC cC x y z h60).mono ?_
            rw [HR.out]
            rintro e w2 ⟨rfl, hb2⟩
            have HB2 : Hid (Below wr.heap.size wr w2) := (later1 _ _).trans (hb2.mono (by simp))
            have HW2 : Hid (Below w.heap.size w w2) := HBL.out.trans (HB2.out.mono HBL.out.size)
            have e0 := ((Bx.new wr [.int .i64 x, .int .i64 y, .int .i64 z] 70).later hb2) 0 _ rfl
            have k2 := cell_later HB2.out x2
            have p0 := cell_later HW2.out HP0.out
            have p1 := cell_later HW2.out HP1.out
            have p2 := cell_later HW2.out HP2.out
            clear hb2
            go_wp2_with fail
            go_region_with ((go_at_call 39; refine (end_any _ x' y' z' hx'0 hx'1 hy'0 hy'1).mono ?_; rintro e w3 ⟨rfl, hb3⟩; have HB3 : Hid (Below w2.heap.size w2 w3) := (Below.refl _ _).drew.trans hb3; have e3 := cell_later hb3 e0; clear hb3))
            all_goals
              go_wp2
              go_roundw
              case rel =>
                refine ⟨j + 1, by omega, by go_num, HW2.out.trans (HB3.out.mono HW2.out.size), (HBX.out.later HB2.out).later HB3.out, fun i hi => ?_⟩
                by_cases e : i = j
                · subst e; exact HO1.out
                · exact HA.out i (by omega)
              case measure => simp [intOf]; omega
    · have e : j = nE := by omega
      subst e
      go_wp2
      go_ret
      exact ⟨ret_int (firstNZ_zero HA.out).symm, HBL.out⟩

theorem implKernFault_any (w : World) (vB vC vE : Value) (d : KD) (h : KernR w vB vC vE d) :
    Calls Try.prog 12 #[.agg #[vB, vC, vE]] w fun e w' => e = .returned (.int .i64 (kernF d)) ∧ Below w.heap.size w w' := by
  obtain ⟨a1, c1, rfl, _⟩ := h.1.1.open'
  obtain ⟨a2, c2, rfl, _⟩ := h.1.2.open'
  obtain ⟨a3, c3, rfl, _, hE⟩ := h.2.open'
  by_cases hf : faultF d.1.1 d.1.2 = 0
  · by_cases h8 : 8 < d.2.length
    · rw [kernF_many hf h8]
      exact implKF_many w _ _ _ _ _ _ _ _ _ d h.1 hf h8
    · rw [kernF_few hf h8]
      exact implKF_walk w _ _ _ _ _ _ _ _ _ d h.1 hE hf (by omega) (faultF_lens hf).1
  · rw [kernF_disk hf]
    exact implKF_disk w _ _ _ _ _ _ _ _ _ d h.1 hf
end Go.Proofs.Ytojegkekafampah


/- The walks of the specification's KernFault. -/
import Derived.Test.YtojegkekafampahKfP
import Derived.Test.YtojegkekafampahKrnA
import Derived.Test.YtojegkekafampahFaultB
import Derived.Test.YtojegkekafampahAtA
import Derived.Deep.RegionHeld3
namespace Go.Proofs.Ytojegkekafampah
open Go.RowKit
set_option maxRecDepth 100000

theorem l2Right_any (w : World) (x y z : Int) (n : Nat) (hn : n ≤ 60) :
    Calls Try.prog 47 #[.agg #[.int .i64 x, .int .i64 y, .int .i64 z], .int .i64 (n : Int)] w fun e w' => e = .returned (.bool (rightB (x, y, z) n)) ∧ Below w.heap.size w w' := by
  cases h1 : decide (1 ≤ z ∧ z ≤ 9999)
  · have HR : Hid (rightB (x, y, z) n = false) := by unfold Hid rightB; rw [h1]; rfl
    have H1 : Hid (decide (1 ≤ z ∧ z ≤ 9999) = false) := h1
    clear h1
    rw [HR.out]
    go_enter Try.func47, Try.ntmps47
    go_wp2_with fail
    refine (l1In_any _ _ _ _).mono ?_
    rw [H1.out]
    rintro e w' ⟨rfl, rfl⟩
    go_wp2
    go_ret
    exact ⟨rfl, later1 _ _⟩
  · have H1 : Hid (decide (1 ≤ z ∧ z ≤ 9999) = true) := h1
    cases h2 : decide (0 ≤ x ∧ x ≤ (n : Int))
    · have HR : Hid (rightB (x, y, z) n = false) := by unfold Hid rightB; rw [h1, h2]; rfl
      have H2 : Hid (decide (0 ≤ x ∧ x ≤ (n : Int)) = false) := h2
      clear h1 h2
      rw [HR.out]
      go_enter Try.func47, Try.ntmps47
      go_wp2_with fail
      refine (l1In_any _ _ _ _).mono ?_
      rw [H1.out]
      rintro e w' ⟨rfl, rfl⟩
      go_wp2_with fail
      refine (l1In_any _ _ _ _).mono ?_
      rw [H2.out]
      rintro e w' ⟨rfl, rfl⟩
      go_wp2
      go_ret
      exact ⟨rfl, later1 _ _⟩
    · have H2 : Hid (decide (0 ≤ x ∧ x ≤ (n : Int)) = true) := h2
      cases h3 : decide (1 ≤ y ∧ y ≤ (n : Int))
      · have HR : Hid (rightB (x, y, z) n = false) := by unfold Hid rightB; rw [h1, h2, h3]; rfl
        have H3 : Hid (decide (1 ≤ y ∧ y ≤ (n : Int)) = false) := h3
        clear h1 h2 h3
        rw [HR.out]
        go_enter Try.func47, Try.ntmps47
        go_wp2_with fail
        refine (l1In_any _ _ _ _).mono ?_
        rw [H1.out]
        rintro e w' ⟨rfl, rfl⟩
        go_wp2_with fail
        refine (l1In_any _ _ _ _).mono ?_
        rw [H2.out]
        rintro e w' ⟨rfl, rfl⟩
        go_wp2_with fail
        refine (l1In_any _ _ _ _).mono ?_
        rw [H3.out]
        rintro e w' ⟨rfl, rfl⟩
        go_wp2
        go_ret
        exact ⟨rfl, later1 _ _⟩
      · have H3 : Hid (decide (1 ≤ y ∧ y ≤ (n : Int)) = true) := h3
        have HR : Hid (rightB (x, y, z) n = decide (x + y ≤ (n : Int))) := by unfold Hid rightB; rw [h1, h2, h3]; rfl
        have hx : 0 ≤ x ∧ x ≤ 60 := by simp at h2; omega
        have hy : 1 ≤ y ∧ y ≤ 60 := by simp at h3; omega
        have hx0 := hx.1
        have hx1 := hx.2
        have hy0 := hy.1
        have hy1 := hy.2
        clear h1 h2 h3 hx hy
        rw [HR.out]
        go_enter Try.func47, Try.ntmps47
        go_wp2_with fail
        refine (l1In_any _ _ _ _).mono ?_
        rw [H1.out]
        rintro e w' ⟨rfl, rfl⟩
        go_wp2_with fail
        refine (l1In_any _ _ _ _).mono ?_
        rw [H2.out]
        rintro e w' ⟨rfl, rfl⟩
        go_wp2_with fail
        refine (l1In_any _ _ _ _).mono ?_
        rw [H3.out]
        rintro e w' ⟨rfl, rfl⟩
        go_wp2
        go_ret
        exact ⟨rfl, later1 _ _⟩

set_option maxHeartbeats 800000 in
theorem l2Fault_disk (w : World) (bk : Nat) (aB aC aE : Option Addr) (nB cB nC cC nE cE : Nat) (d : KD) (h0 : w.cell? ⟨bk, 0, none⟩ = some (.slice aB nB cB)) (h1 : w.cell? ⟨bk, 1, none⟩ = some (.slice aC nC cC)) (_h2 : w.cell? ⟨bk, 2, none⟩ = some (.slice aE nE cE)) (hD : DiskR w (.slice aB nB cB) (.slice aC nC cC) d.1) (hf : ¬ faultF d.1.1 d.1.2 = 0) :
    Calls Try.prog 34 #[.pointer (some ⟨bk, 0, none⟩)] w fun e w' => e = .returned (.int .i64 (faultF d.1.1 d.1.2)) ∧ Below w.heap.size w w' := by
  have HD : Hid (DiskR w (.slice aB nB cB) (.slice aC nC cC) d.1) := hD
  have X0 : Hid (w.cell? ⟨bk, 0, none⟩ = some (.slice aB nB cB)) := h0
  have X1 : Hid (w.cell? ⟨bk, 1, none⟩ = some (.slice aC nC cC)) := h1
  generalize hc : faultF d.1.1 d.1.2 = c at *
  have HC : Hid (faultF d.1.1 d.1.2 = c) := hc
  have hne : (c != 0) = true := by simpa using hf
  clear hD hf hc
  go_enter Try.func34, Try.ntmps34
  go_wp2_with fail
  refine (l1Fault_any X0.out X1.out HD.out.1 HD.out.2).mono ?_
  rw [HC.out]
  rintro e w1 ⟨rfl, m, rfl⟩
  go_wp2
  go_ret
  exact ⟨rfl, below_drewN (Below.refl _ _) m⟩

set_option maxHeartbeats 800000 in
theorem l2Fault_many (w : World) (bk : Nat) (aB aC aE : Option Addr) (nB cB nC cC nE cE : Nat) (d : KD) (h0 : w.cell? ⟨bk, 0, none⟩ = some (.slice aB nB cB)) (h1 : w.cell? ⟨bk, 1, none⟩ = some (.slice aC nC cC)) (h2 : w.cell? ⟨bk, 2, none⟩ = some (.slice aE nE cE)) (hD : DiskR w (.slice aB nB cB) (.slice aC nC cC) d.1) (hf : faultF d.1.1 d.1.2 = 0) (h8 : 8 < nE) :
    Calls Try.prog 34 #[.pointer (some ⟨bk, 0, none⟩)] w fun e w' => e = .returned (.int .i64 2) ∧ Below w.heap.size w w' := by
  have HD : Hid (DiskR w (.slice aB nB cB) (.slice aC nC cC) d.1) := hD
  have X0 : Hid (w.cell? ⟨bk, 0, none⟩ = some (.slice aB nB cB)) := h0
  have X1 : Hid (w.cell? ⟨bk, 1, none⟩ = some (.slice aC nC cC)) := h1
  have HC : Hid (faultF d.1.1 d.1.2 = 0) := hf
  have h8' : (8 : Int) < (nE : Int) := by omega
  clear hD hf
  go_enter Try.func34, Try.ntmps34
  go_wp2_with fail
  refine (l1Fault_any X0.out X1.out HD.out.1 HD.out.2).mono ?_
  rw [HC.out]
  rintro e w1 ⟨rfl, m, rfl⟩
  go_wp2
  go_ret
  exact ⟨rfl, below_drewN (Below.refl _ _) m⟩

set_option maxHeartbeats 3200000 in
theorem l2Fault_walk (w : World) (bk : Nat) (aB aC aE : Option Addr) (nB cB nC cC nE cE : Nat) (d : KD) (h0 : w.cell? ⟨bk, 0, none⟩ = some (.slice aB nB cB)) (h1 : w.cell? ⟨bk, 1, none⟩ = some (.slice aC nC cC)) (h2 : w.cell? ⟨bk, 2, none⟩ = some (.slice aE nE cE)) (hD : DiskR w (.slice aB nB cB) (.slice aC nC cC) d.1) (hE : AtE w aE nE d.2) (hf : faultF d.1.1 d.1.2 = 0) (h8 : nE ≤ 8) (h60 : nB ≤ 60) :
    Calls Try.prog 34 #[.pointer (some ⟨bk, 0, none⟩)] w fun e w' => e = .returned (.int .i64 (firstNZ (extOne d.2 nB) nE)) ∧ Below w.heap.size w w' := by
  have HD : Hid (DiskR w (.slice aB nB cB) (.slice aC nC cC) d.1) := hD
  have X0 : Hid (w.cell? ⟨bk, 0, none⟩ = some (.slice aB nB cB)) := h0
  have X1 : Hid (w.cell? ⟨bk, 1, none⟩ = some (.slice aC nC cC)) := h1
  have X2 : Hid (w.cell? ⟨bk, 2, none⟩ = some (.slice aE nE cE)) := h2
  have HC : Hid (faultF d.1.1 d.1.2 = 0) := hf
  have HE : Hid (AtE w aE nE d.2) := hE
  have h8' : decide ((8 : Int) < (nE : Int)) = false := by simp; omega
  clear hD hf hE
  go_enter Try.func34, Try.ntmps34
  go_wp2_with fail
  refine (l1Fault_any X0.out X1.out HD.out.1 HD.out.2).mono ?_
  rw [HC.out]
  rintro e w1 ⟨rfl, m, rfl⟩
  go_wp2
  go_loopw [4] (fun i wr => ∃ j : Nat, j ≤ nE ∧ i = .int .i64 j ∧ Below w.heap.size w wr ∧ ∀ i : Nat, i < j → extOne d.2 nB i = 0) (fun i _ => nE - (intOf i).toNat)
  case atStart => exact ⟨0, Nat.zero_le _, rfl, below_drewN (Below.refl _ _) m, fun i hi => by omega⟩
  case round =>
    obtain ⟨j, hj, rfl, hbl, hall⟩ := hrel
    clear h0 h1 h2
    have HA : Hid (∀ i : Nat, i < j → extOne d.2 nB i = 0) := hall
    have HBL : Hid (Below w.heap.size w wr) := hbl
    have x0 := cell_later hbl X0.out
    have x1 := cell_later hbl X1.out
    have x2 := cell_later hbl X2.out
    clear hall hbl
    by_cases hlt : j < nE
    · obtain ⟨b, off, rfl, c0, c1, c2⟩ := HE.out j hlt
      replace c0 := cell_later HBL.out c0
      replace c1 := cell_later HBL.out c1
      replace c2 := cell_later HBL.out c2
      have HX : Hid (extAt d.2 j = ((d.2[j]?.getD (0, 0, 0)).1, (d.2[j]?.getD (0, 0, 0)).2.1, (d.2[j]?.getD (0, 0, 0)).2.2)) := rfl
      generalize (d.2[j]?.getD (0, 0, 0)).1 = x at *
      generalize (d.2[j]?.getD (0, 0, 0)).2.1 = y at *
      generalize (d.2[j]?.getD (0, 0, 0)).2.2 = z at *
      cases hr : rightB (x, y, z) nB
      · have HR : Hid (rightB (x, y, z) nB = false) := hr
        have HO : Hid (extOne d.2 nB j = 3) := by unfold Hid extOne; rw [HX.out, hr]; rfl
        clear hr
        go_wp2_with fail
        go_region_held3 (fun W => W.cell? ⟨bk, 0, none⟩ = some (.slice aB nB cB) ∧ W.cell? ⟨bk, 2, none⟩ = some (.slice (some ⟨b, off, none⟩) nE cE) ∧ W.cell? ⟨b, off + j * 3, none⟩ = some (.int .i64 x) ∧ W.cell? ⟨b, off + j * 3 + 1, none⟩ = some (.int .i64 y) ∧ W.cell? ⟨b, off + j * 3 + 2, none⟩ = some (.int .i64 z)) (go_keep) (first | (go_at_call 47; refine (l2Right_any _ x y z nB h60).mono ?_; rw [HR.out]; rintro e w2 ⟨rfl, hb2⟩; have HB2 : Hid (Below wr.heap.size wr w2) := (Below.refl _ _).drew.trans hb2; have k0 := cell_later hb2 x0; have k2 := cell_later hb2 x2; have l0 := cell_later hb2 c0; have l1 := cell_later hb2 c1; have l2 := cell_later hb2 c2; clear hb2))
        all_goals
          go_wp2
          go_ret
          exact ⟨ret_int (by rw [firstNZ_at HA.out hlt (by rw [HO.out]; decide), HO.out]), HBL.out.trans (HB2.out.mono HBL.out.size)⟩
      · have HR : Hid (rightB (x, y, z) nB = true) := hr
        have hrr := rightB_iff.1 hr
        clear hr
        by_cases hj0 : j = 0
        · have HO : Hid (extOne d.2 nB j = 0) := by unfold Hid extOne; rw [HX.out, HR.out]; simp [hj0]
          have HJ0 : Hid (j = 0) := hj0
          have hpj : decide ((0 : Int) < (j : Int)) = false := by simp; omega
          have hpj2 : decide (0 < j) = false := by simp; omega
          have hpj3 : ¬ 0 < j := by omega
          clear hrr hj0
          go_wp2_with fail
          go_region_held3 (fun W => W.cell? ⟨bk, 0, none⟩ = some (.slice aB nB cB) ∧ W.cell? ⟨bk, 2, none⟩ = some (.slice (some ⟨b, off, none⟩) nE cE) ∧ W.cell? ⟨b, off + j * 3, none⟩ = some (.int .i64 x) ∧ W.cell? ⟨b, off + j * 3 + 1, none⟩ = some (.int .i64 y) ∧ W.cell? ⟨b, off + j * 3 + 2, none⟩ = some (.int .i64 z)) (go_keep) (first | (go_at_call 47; refine (l2Right_any _ x y z nB h60).mono ?_; rw [HR.out]; rintro e w2 ⟨rfl, hb2⟩; have HB2 : Hid (Below wr.heap.size wr w2) := (Below.refl _ _).drew.trans hb2; have k0 := cell_later hb2 x0; have k2 := cell_later hb2 x2; have l0 := cell_later hb2 c0; have l1 := cell_later hb2 c1; have l2 := cell_later hb2 c2; clear hb2))
          all_goals
            go_wp2_with fail
            go_quiet (fail)
            go_wp2
            go_roundw
            case rel =>
              refine ⟨j + 1, by omega, by go_num, below_drewN (HBL.out.trans (HB2.out.mono HBL.out.size)) _, fun i hi => ?_⟩
              have : i = j := by have := HJ0.out; omega
              subst this; exact HO.out
            case measure => simp [intOf]; omega
        · obtain ⟨p, hjp⟩ : ∃ p, j = p + 1 := ⟨j - 1, by omega⟩
          have HJP : Hid (j = p + 1) := hjp
          have hjm : (j : Int) - 1 = (p : Int) := by omega
          have hj1 : 0 < j := by omega
          have hp8 : p ≤ 8 := by omega
          have hwr : IntKind.i64.wrap (p : Int) = (p : Int) := by rw [IntKind.wrap_i64]; omega
          clear hj0
          obtain ⟨b', off', e', p0, p1, p2⟩ := HE.out p (by omega)
          simp only [Option.some.injEq, Addr.mk.injEq, and_true] at e'
          obtain ⟨rfl, rfl⟩ := e'
          have hp := HA.out p (by omega)
          have hpr : rightB (extAt d.2 p) nB = true := by
            unfold extOne at hp
            by_cases h : rightB (extAt d.2 p) nB = true
            · exact h
            · rw [if_neg h] at hp; omega
          have hq := rightB_iff.1 hpr
          have HY : Hid (extAt d.2 p = ((d.2[p]?.getD (0, 0, 0)).1, (d.2[p]?.getD (0, 0, 0)).2.1, (d.2[p]?.getD (0, 0, 0)).2.2)) := rfl
          rw [HY.out] at hq
          dsimp only at hq
          generalize (d.2[p]?.getD (0, 0, 0)).1 = x' at *
          generalize (d.2[p]?.getD (0, 0, 0)).2.1 = y' at *
          generalize (d.2[p]?.getD (0, 0, 0)).2.2 = z' at *
          have hx'0 : 0 ≤ x' := by omega
          have hx'1 : x' ≤ 60 := by omega
          have hy'0 : 0 ≤ y' := by omega
          have hy'1 : y' ≤ 60 := by omega
          have hpn : p < nE := by omega
          clear hp hpr hq hrr hjp
          have HO : Hid (extOne d.2 nB j = if x < x' + y' then 1 else 0) := by
            unfold Hid extOne
            rw [HX.out, HR.out, if_pos rfl, show j - 1 = p by have := HJP.out; omega, HY.out]
            by_cases h : x < x' + y' <;> simp [h, hj1]
          by_cases hlq : x < x' + y'
          · have hld : decide (x < x' + y') = true := by simpa using hlq
            have HO1 : Hid (extOne d.2 nB j = 1) := by unfold Hid; rw [HO.out, if_pos hlq]
            go_wp2_with fail
            go_region_held3 (fun W => W.cell? ⟨bk, 0, none⟩ = some (.slice aB nB cB) ∧ W.cell? ⟨bk, 2, none⟩ = some (.slice (some ⟨b, off, none⟩) nE cE) ∧ W.cell? ⟨b, off + j * 3, none⟩ = some (.int .i64 x) ∧ W.cell? ⟨b, off + j * 3 + 1, none⟩ = some (.int .i64 y) ∧ W.cell? ⟨b, off + j * 3 + 2, none⟩ = some (.int .i64 z)) (go_keep) (first | (go_at_call 47; refine (l2Right_any _ x y z nB h60).mono ?_; rw [HR.out]; rintro e w2 ⟨rfl, hb2⟩; have HB2 : Hid (Below wr.heap.size wr w2) := (Below.refl _ _).drew.trans hb2; have k0 := cell_later hb2 x0; have k2 := cell_later hb2 x2; have l0 := cell_later hb2 c0; have l1 := cell_later hb2 c1; have l2 := cell_later hb2 c2; have m0 := cell_later (HBL.out.trans (HB2.out.mono HBL.out.size)) p0; have m1 := cell_later (HBL.out.trans (HB2.out.mono HBL.out.size)) p1; clear hb2))
            all_goals
              go_wp2_with fail
              go_quiet (fail)
              go_wp2
              go_ret
              exact ⟨ret_int (by rw [firstNZ_at HA.out hlt (by rw [HO1.out]; decide), HO1.out]), below_drewN (HBL.out.trans (HB2.out.mono HBL.out.size)) _⟩
          · have hld : decide (x < x' + y') = false := by simpa using hlq
            have HO1 : Hid (extOne d.2 nB j = 0) := by unfold Hid; rw [HO.out, if_neg hlq]
            go_wp2_with fail
            go_region_held3 (fun W => W.cell? ⟨bk, 0, none⟩ = some (.slice aB nB cB) ∧ W.cell? ⟨bk, 2, none⟩ = some (.slice (some ⟨b, off, none⟩) nE cE) ∧ W.cell? ⟨b, off + j * 3, none⟩ = some (.int .i64 x) ∧ W.cell? ⟨b, off + j * 3 + 1, none⟩ = some (.int .i64 y) ∧ W.cell? ⟨b, off + j * 3 + 2, none⟩ = some (.int .i64 z)) (go_keep) (first | (go_at_call 47; refine (l2Right_any _ x y z nB h60).mono ?_; rw [HR.out]; rintro e w2 ⟨rfl, hb2⟩; have HB2 : Hid (Below wr.heap.size wr w2) := (Below.refl _ _).drew.trans hb2; have k0 := cell_later hb2 x0; have k2 := cell_later hb2 x2; have l0 := cell_later hb2 c0; have l1 := cell_later hb2 c1; have l2 := cell_later hb2 c2; have m0 := cell_later (HBL.out.trans (HB2.out.mono HBL.out.size)) p0; have m1 := cell_later (HBL.out.trans (HB2.out.mono HBL.out.size)) p1; clear hb2))
            all_goals
              go_wp2_with fail
              go_quiet (fail)
              go_wp2
              go_roundw
              case rel =>
                refine ⟨j + 1, by omega, by go_num, below_drewN (HBL.out.trans (HB2.out.mono HBL.out.size)) _, fun i hi => ?_⟩
                by_cases e : i = j
                · subst e; exact HO1.out
                · exact HA.out i (by omega)
              case measure => simp [intOf]; omega
    · have e : j = nE := by omega
      subst e
      go_wp2
      go_ret
      exact ⟨ret_int (firstNZ_zero HA.out).symm, HBL.out⟩

theorem l2Fault_any {w : World} {bk : Nat} {vB vC vE : Value} {d : KD} (h0 : w.cell? ⟨bk, 0, none⟩ = some vB) (h1 : w.cell? ⟨bk, 1, none⟩ = some vC) (h2 : w.cell? ⟨bk, 2, none⟩ = some vE) (h : KernR w vB vC vE d) :
    Calls Try.prog 34 #[.pointer (some ⟨bk, 0, none⟩)] w fun e w' => e = .returned (.int .i64 (kernF d)) ∧ Below w.heap.size w w' := by
  obtain ⟨a1, c1, rfl, _⟩ := h.1.1.open'
  obtain ⟨a2, c2, rfl, _⟩ := h.1.2.open'
  obtain ⟨a3, c3, rfl, _, hE⟩ := h.2.open'
  by_cases hf : faultF d.1.1 d.1.2 = 0
  · by_cases h8 : 8 < d.2.length
    · rw [kernF_many hf h8]
      exact l2Fault_many w bk _ _ _ _ _ _ _ _ _ d h0 h1 h2 h.1 hf h8
    · rw [kernF_few hf h8]
      exact l2Fault_walk w bk _ _ _ _ _ _ _ _ _ d h0 h1 h2 h.1 hE hf (by omega) (faultF_lens hf).1
  · rw [kernF_disk hf]
    exact l2Fault_disk w bk _ _ _ _ _ _ _ _ _ d h0 h1 h2 h.1 hf

theorem specKernFault_any (w : World) (vB vC vE : Value) (d : KD) (h : KernR w vB vC vE d) :
    Calls Try.prog 10 #[.agg #[vB, vC, vE]] w fun e w' => e = .returned (.int .i64 (kernF d)) ∧ Below w.heap.size w w' := by
  obtain ⟨a1, c1, rfl, _⟩ := h.1.1.open'
  obtain ⟨a2, c2, rfl, _⟩ := h.1.2.open'
  obtain ⟨a3, c3, rfl, _, hE⟩ := h.2.open'
  have H : Hid (KernR w _ _ _ d) := h
  clear h hE
  have X : Hid (Bx (w.alloc (.cells #[.slice a1 d.1.1.length c1, .slice a2 d.1.2.length c2, .slice a3 d.2.length c3] 36)) w.heap.size [.slice a1 d.1.1.length c1, .slice a2 d.1.2.length c2, .slice a3 d.2.length c3]) := Bx.new _ _ _
  go_enter Try.func10, Try.ntmps10
  go_wp2_with fail
  refine (l2Fault_any (X.out 0 _ rfl) (X.out 1 _ rfl) (X.out 2 _ rfl) (H.out.later (later1 _ _))).mono ?_
  rintro e w1 ⟨rfl, hb1⟩
  have HB1 : Hid (Below w.heap.size w w1) := (later1 _ _).trans (hb1.mono (by simp))
  clear hb1
  go_wp2
  go_ret
  exact ⟨rfl, HB1.out⟩
end Go.Proofs.Ytojegkekafampah

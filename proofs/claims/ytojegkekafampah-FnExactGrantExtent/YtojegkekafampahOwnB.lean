
/- Whose a block is: the walks of the program's OwnerOf. -/
import Derived.Test.YtojegkekafampahOwnA
import Derived.Test.YtojegkekafampahKfB
import Derived.Deep.RegionHeld3
namespace Go.Proofs.Ytojegkekafampah
open Go.RowKit
set_option maxRecDepth 100000

set_option maxHeartbeats 800000 in
theorem has_any (w : World) (p y z x : Int) (hp0 : 0 ≤ p) (hp1 : p ≤ 60) (hy0 : 0 ≤ y) (hy1 : y ≤ 60) :
    Calls Try.prog 90 #[.agg #[.int .i64 p, .int .i64 y, .int .i64 z], .int .i64 x] w fun e w' => e = .returned (.bool (hasB (p, y, z) x)) ∧ Below w.heap.size w w' := by
  by_cases h1 : p ≤ x
  · have hd : decide (p ≤ x) = true := by simpa using h1
    by_cases h2 : x < p + y
    · have hd2 : decide (x < p + y) = true := by simpa using h2
      have HR : Hid (hasB (p, y, z) x = true) := by unfold Hid hasB; simp [h1, h2]
      rw [HR.out]
      clear h1 h2
      go_enter Try.func90, Try.ntmps90
      go_wp2_with fail
      refine (end_any _ p y z hp0 hp1 hy0 hy1).mono ?_
      rintro e w2 ⟨rfl, hb2⟩
      have HB2 : Hid (Below w.heap.size w w2) := (later1 _ _).trans (hb2.mono (by simp))
      clear hb2
      go_wp2
      go_ret
      exact ⟨rfl, HB2.out⟩
    · have hd2 : decide (x < p + y) = false := by simpa using h2
      have HR : Hid (hasB (p, y, z) x = false) := by unfold Hid hasB; simp [h2]
      rw [HR.out]
      clear h1 h2
      go_enter Try.func90, Try.ntmps90
      go_wp2_with fail
      refine (end_any _ p y z hp0 hp1 hy0 hy1).mono ?_
      rintro e w2 ⟨rfl, hb2⟩
      have HB2 : Hid (Below w.heap.size w w2) := (later1 _ _).trans (hb2.mono (by simp))
      clear hb2
      go_wp2
      go_ret
      exact ⟨rfl, HB2.out⟩
  · have hd : decide (p ≤ x) = false := by simpa using h1
    have HR : Hid (hasB (p, y, z) x = false) := by unfold Hid hasB; simp [h1]
    rw [HR.out]
    clear h1
    go_enter Try.func90, Try.ntmps90
    go_wp2
    go_ret
    exact ⟨rfl, later1 _ _⟩
theorem nobody_any (w : World) : Calls Try.prog 55 #[] w fun e w' => e = .returned (.agg #[.int .i64 0, .int .i64 0, .int .i64 0]) ∧ Below w.heap.size w w' := by
  go_enter Try.func55, Try.ntmps55
  go_wp2
  exact bodyPost_ret (v := .agg #[.int .i64 0, .int .i64 0, .int .i64 0]) (by simp [results, Try.results55, go_sem]) rfl ⟨rfl, later1 _ _⟩

set_option maxHeartbeats 1600000 in
theorem extWith_walk (w : World) (aE : Option Addr) (nE cE nB : Nat) (es : List E3) (x : Int) (hnE : es.length = nE) (hE : AtE w aE nE es) (h8 : nE ≤ 8) (h60 : nB ≤ 60) (hr : ∀ i, i < nE → rightB (extAt es i) nB = true) :
    Calls Try.prog 61 #[.slice aE nE cE, .int .i64 x] w fun e w' => e = .returned (.agg #[.int .i64 (ownE es x).1, .int .i64 (ownE es x).2.1, .int .i64 (ownE es x).2.2]) ∧ Below w.heap.size w w' := by
  have HN : Hid (es.length = nE) := hnE
  have HE : Hid (AtE w aE nE es) := hE
  have HR : Hid (∀ i, i < nE → rightB (extAt es i) nB = true) := hr
  clear hnE hE hr
  go_enter Try.func61, Try.ntmps61
  go_wp2
  go_loopw [9] (fun i wr => ∃ j : Nat, j ≤ nE ∧ i = .int .i64 j ∧ Below w.heap.size w wr ∧ OwnRow wr w.heap.size 3 (fun i => [Value.int .i64 0, .int .i64 0, .int .i64 0][i]?.getD (.bool false)) ∧ ∀ i : Nat, i < j → hasB (extAt es i) x = false) (fun i _ => nE - (intOf i).toNat)
  case atStart => exact ⟨0, Nat.zero_le _, rfl, later1 _ _, OwnRow.newL w [.int .i64 0, .int .i64 0, .int .i64 0] _, fun i hi => by omega⟩
  case round =>
    obtain ⟨j, hj, rfl, hbl, hrow, hall⟩ := hrel
    have HA : Hid (∀ i : Nat, i < j → hasB (extAt es i) x = false) := hall
    have HBL : Hid (Below w.heap.size w wr) := hbl
    have HROW : Hid (OwnRow wr w.heap.size 3 (fun i => [Value.int .i64 0, .int .i64 0, .int .i64 0][i]?.getD (.bool false))) := hrow
    have hzw : w.heap.size < wr.heap.size := hrow.lt
    clear hall hbl hrow
    by_cases hlt : j < nE
    · obtain ⟨b, off, rfl, c0, c1, c2⟩ := HE.out j hlt
      replace c0 := cell_later HBL.out c0
      replace c1 := cell_later HBL.out c1
      replace c2 := cell_later HBL.out c2
      have hq := rightB_iff.1 (HR.out j hlt)
      have HX : Hid (extAt es j = ((es[j]?.getD (0, 0, 0)).1, (es[j]?.getD (0, 0, 0)).2.1, (es[j]?.getD (0, 0, 0)).2.2)) := rfl
      rw [HX.out] at hq
      dsimp only at hq
      generalize (es[j]?.getD (0, 0, 0)).1 = p at *
      generalize (es[j]?.getD (0, 0, 0)).2.1 = y at *
      generalize (es[j]?.getD (0, 0, 0)).2.2 = z at *
      have hp0 : 0 ≤ p := by omega
      have hp1 : p ≤ 60 := by omega
      have hy0 : 0 ≤ y := by omega
      have hy1 : y ≤ 60 := by omega
      clear hq
      cases hh : hasB (p, y, z) x
      · have HQ : Hid (hasB (p, y, z) x = false) := hh
        have HH : Hid (hasB (extAt es j) x = false) := by unfold Hid; rw [HX.out]; exact hh
        clear hh
        go_wp2_with fail
        refine (has_any _ p y z x hp0 hp1 hy0 hy1).mono ?_
        rw [HQ.out]
        rintro e w2 ⟨rfl, hb2⟩
        have HB2 : Hid (Below wr.heap.size wr w2) := (later1 _ _).trans (hb2.mono (by simp))
        clear hb2
        go_wp2
        go_roundw
        case rel =>
          refine ⟨j + 1, by omega, by go_num, HBL.out.trans (HB2.out.mono HBL.out.size), HROW.out.later HB2.out, fun i hi => ?_⟩
          by_cases e : i = j
          · subst e; exact HH.out
          · exact HA.out i (by omega)
        case measure => simp [intOf]; omega
      · have HQ : Hid (hasB (p, y, z) x = true) := hh
        have HH : Hid (hasB (extAt es j) x = true) := by unfold Hid; rw [HX.out]; exact hh
        have HZ : Hid (ownE es x = (p, y, z)) := by unfold Hid; rw [ownE_at HA.out (by rw [HN.out]; exact hlt) HH.out, HX.out]
        clear hh
        go_wp2_with fail
        refine (has_any _ p y z x hp0 hp1 hy0 hy1).mono ?_
        rw [HQ.out]
        rintro e w2 ⟨rfl, hb2⟩
        have HB2 : Hid (Below wr.heap.size wr w2) := (later1 _ _).trans (hb2.mono (by simp))
        have HE2 := (Bx.new wr [.int .i64 p, .int .i64 y, .int .i64 z] 70).later hb2
        have e0 := HE2 0 _ rfl
        have e1 := HE2 1 _ rfl
        have e2 := HE2 2 _ rfl
        have HR2 := HROW.out.later HB2.out
        have t0 := HR2.cell (i := 0) (by omega)
        have t1 := HR2.cell (i := 1) (by omega)
        have t2 := HR2.cell (i := 2) (by omega)
        have s0 := HR2.frozen 0
        have s1 := HR2.frozen 1
        have s2 := HR2.frozen 2
        simp at t0 t1 t2
        clear hb2 HE2 HR2
        go_wp2
        exact bodyPost_ret (v := .agg #[.int .i64 p, .int .i64 y, .int .i64 z]) (by simp [results, Try.results61, go_sem, t0, t1, t2]) rfl ⟨by rw [HZ.out], (((HBL.out.trans (HB2.out.mono HBL.out.size)).setCell (by simp) _).setCell (by simp) _).setCell (by simp) _⟩
    · have e : j = nE := by omega
      subst e
      have HZ : Hid (ownE es x = (0, 0, 0)) := by unfold Hid; rw [ownE_none (fun i hi => HA.out i (by rw [HN.out] at hi; exact hi))]
      go_wp2_with fail
      refine (nobody_any _).mono ?_
      rintro e w2 ⟨rfl, hb2⟩
      have HB2 : Hid (Below wr.heap.size wr w2) := hb2
      have HR2 := HROW.out.later hb2
      have t0 := HR2.cell (i := 0) (by omega)
      have t1 := HR2.cell (i := 1) (by omega)
      have t2 := HR2.cell (i := 2) (by omega)
      have s0 := HR2.frozen 0
      have s1 := HR2.frozen 1
      have s2 := HR2.frozen 2
      simp at t0 t1 t2
      clear hb2 HR2
      go_wp2
      exact bodyPost_ret (v := .agg #[.int .i64 0, .int .i64 0, .int .i64 0]) (by simp [results, Try.results61, go_sem, t0, t1, t2]) rfl ⟨by rw [HZ.out], (((HBL.out.trans (HB2.out.mono HBL.out.size)).setCell (by simp) _).setCell (by simp) _).setCell (by simp) _⟩

theorem ownE_zero {d : KD} {x : Int} (h : kernF d = 0) : (ownE d.2 x).2.2 = 0 ↔ ownE d.2 x = (0, 0, 0) := by
  constructor
  · intro hz
    rcases ownE_cases d.2 x with ⟨j, hj, e⟩ | e
    · have := (rightB_iff.1 ((kernF_ok h).2.2 j hj).1).1.1
      rw [e] at hz; omega
    · exact e
  · intro e; rw [e]

set_option maxHeartbeats 3200000 in
theorem implOwner_any (w : World) (vB vC vE : Value) (d : KD) (x : Int) (h : KernR w vB vC vE d) :
    Calls Try.prog 25 #[.agg #[vB, vC, vE], .int .i64 x] w fun e w' => e = .returned (.agg #[.int .i64 (ownR d x).1, .int .i64 (ownR d x).2]) ∧ Below w.heap.size w w' := by
  obtain ⟨a1, c1, rfl, hm1, _⟩ := h.1.1.open'
  obtain ⟨a2, c2, rfl, _⟩ := h.1.2.open'
  obtain ⟨a3, c3, rfl, _, hE⟩ := h.2.open'
  have H : Hid (KernR w (.slice a1 d.1.1.length c1) (.slice a2 d.1.2.length c2) (.slice a3 d.2.length c3) d) := h
  have HE : Hid (AtE w a3 d.2.length d.2) := hE
  clear h hE
  have HR : Hid (ownR d x = if kernF d = 0 then (if placeB d.1.1.length x = true then (if (ownE d.2 x).2.2 = 0 then (4, 0) else (0, (ownE d.2 x).2.2)) else (3, 0)) else (kernF d, 0)) := rfl
  have FACTS : Hid (kernF d = 0 → d.1.1.length ≤ 60 ∧ d.2.length ≤ 8 ∧ ∀ i, i < d.2.length → rightB (extAt d.2 i) d.1.1.length = true) := fun h => by
    obtain ⟨k1, k2, k3⟩ := kernF_ok h
    exact ⟨(faultF_lens k1).1, k2, fun i hi => (k3 i hi).1⟩
  generalize hlB : d.1.1.length = nB at *
  generalize hlC : d.1.2.length = nC at *
  generalize hlE : d.2.length = nE at *
  have HLE : Hid (d.2.length = nE) := hlE
  clear hlB hlC hlE hm1
  by_cases hf : kernF d = 0
  · have HF : Hid (kernF d = 0) := hf
    rw [if_pos hf] at HR
    obtain ⟨h60, h8, hr⟩ := FACTS.out hf
    have HRT : Hid (∀ i, i < nE → rightB (extAt d.2 i) nB = true) := hr
    clear hr hf FACTS
    cases hp : placeB nB x
    · have HP : Hid (placeB nB x = false) := hp
      have HR1 : Hid (ownR d x = (3, 0)) := by unfold Hid; rw [HR.out, hp]; rfl
      rw [HR1.out]
      clear hp HR
      go_enter Try.func25, Try.ntmps25
      go_wp2_with fail
      refine (implKernFault_any _ _ _ _ d (H.out.later (later2 _ _ _))).mono ?_
      rw [HF.out]
      rintro e w1 ⟨rfl, hb1⟩
      have HW1 : Hid (Below w.heap.size w w1) := (later2 _ _ _).trans (hb1.mono (by simp; omega))
      have HX1 : Hid (Bx w1 w.heap.size [.slice a1 nB c1, .slice a2 nC c2, .slice a3 nE c3]) := ((Bx.new w [.slice a1 nB c1, .slice a2 nC c2, .slice a3 nE c3] _).later (later1 _ _)).later hb1
      have HR1 : Hid (OwnRow w1 (w.heap.size + 1) 2 _) := resRowL _ [.int .i64 0, .int .i64 0] _ hb1
      have x0 := HX1.out 0 _ rfl
      have x1 := HX1.out 1 _ rfl
      clear hb1
      go_wp2_with fail
      refine (isPlace_any _ a1 nB c1 _ x).mono ?_
      rw [HP.out]
      rintro e w2 ⟨rfl, hb2⟩
      have HW2 : Hid (Below w.heap.size w w2) := HW1.out.trans (hb2.mono HW1.out.size)
      have HR2 := HR1.out.later hb2
      have t0 := HR2.cell (i := 0) (by simp)
      have t1 := HR2.cell (i := 1) (by simp)
      have s0 := HR2.frozen 0
      have s1 := HR2.frozen 1
      simp at t0 t1
      clear hb2 HR2
      go_wp2
      exact bodyPost_ret (v := .agg #[.int .i64 3, .int .i64 0]) (by simp [results, Try.results25, go_sem, t0, t1]) rfl ⟨rfl, (HW2.out.setCell (by simp) _).setCell (by simp) _⟩
    · have HP : Hid (placeB nB x = true) := hp
      have HR2 : Hid (ownR d x = if (ownE d.2 x).2.2 = 0 then (4, 0) else (0, (ownE d.2 x).2.2)) := by unfold Hid; rw [HR.out, hp]; rfl
      have HEQ : Hid ((ownE d.2 x).2.2 = 0 ↔ ownE d.2 x = (0, 0, 0)) := ownE_zero HF.out
      rw [HR2.out]
      obtain ⟨p, y, z, hk⟩ : ∃ p y z, ownE d.2 x = (p, y, z) := ⟨_, _, _, rfl⟩
      have HK : Hid (ownE d.2 x = (p, y, z)) := hk
      have HEQ' : Hid (z = 0 ↔ p = 0 ∧ y = 0 ∧ z = 0) := by
        have := HEQ.out
        rw [hk] at this
        unfold Hid
        simpa using this
      rw [hk]
      clear hp HR HR2 hk HEQ
      by_cases hz : z = 0
      · obtain ⟨rfl, rfl, rfl⟩ := HEQ'.out.1 hz
        rw [if_pos rfl]
        clear hz HEQ'
        go_enter Try.func25, Try.ntmps25
        go_wp2_with fail
        refine (implKernFault_any _ _ _ _ d (H.out.later (later2 _ _ _))).mono ?_
        rw [HF.out]
        rintro e w1 ⟨rfl, hb1⟩
        have HW1 : Hid (Below w.heap.size w w1) := (later2 _ _ _).trans (hb1.mono (by simp; omega))
        have HX1 : Hid (Bx w1 w.heap.size [.slice a1 nB c1, .slice a2 nC c2, .slice a3 nE c3]) := ((Bx.new w [.slice a1 nB c1, .slice a2 nC c2, .slice a3 nE c3] _).later (later1 _ _)).later hb1
        have HR1 : Hid (OwnRow w1 (w.heap.size + 1) 2 _) := resRowL _ [.int .i64 0, .int .i64 0] _ hb1
        have x0 := HX1.out 0 _ rfl
        have x1 := HX1.out 1 _ rfl
        clear hb1
        go_wp2_with fail
        refine (isPlace_any _ a1 nB c1 _ x).mono ?_
        rw [HP.out]
        rintro e w2 ⟨rfl, hb2⟩
        have HW2 : Hid (Below w.heap.size w w2) := HW1.out.trans (hb2.mono HW1.out.size)
        have HR2 : Hid (OwnRow w2 (w.heap.size + 1) 2 _) := HR1.out.later hb2
        have x2 := cell_later hb2 (HX1.out 2 _ rfl)
        clear hb2 x0 x1
        go_wp2_with fail
        refine (extWith_walk _ a3 nE c3 nB d.2 x HLE.out (HE.out.later HW2.out) h8 h60 HRT.out).mono ?_
        rw [HK.out]
        rintro e w3 ⟨rfl, hb3⟩
        have HW3 : Hid (Below w.heap.size w w3) := HW2.out.trans (hb3.mono HW2.out.size)
        have HR3 : Hid (OwnRow w3 (w.heap.size + 1) 2 _) := HR2.out.later hb3
        clear hb3 x2
        have e0 := Bx.new w3 [.int .i64 0, .int .i64 0, .int .i64 0] 70 0 _ rfl
        have e1 := Bx.new w3 [.int .i64 0, .int .i64 0, .int .i64 0] 70 1 _ rfl
        have e2 := Bx.new w3 [.int .i64 0, .int .i64 0, .int .i64 0] 70 2 _ rfl
        go_wp2_with fail
        go_region_held3 (fun W => W.cell? ⟨w3.heap.size, 0, none⟩ = some (.int .i64 0) ∧ W.cell? ⟨w3.heap.size, 1, none⟩ = some (.int .i64 0) ∧ W.cell? ⟨w3.heap.size, 2, none⟩ = some (.int .i64 0)) (go_keep) (first | (go_at_call 55; refine (nobody_any _).mono ?_; rintro e w4 ⟨rfl, hb4⟩; have HB4 : Hid (Below w3.heap.size w3 w4) := (later1 _ _).drew.trans (hb4.mono (by simp)); have k0 := cell_later hb4 e0; have k1 := cell_later hb4 e1; have k2 := cell_later hb4 e2; clear hb4))
        all_goals
          have HR4 := HR3.out.later HB4.out
          have t0 := HR4.cell (i := 0) (by simp)
          have t1 := HR4.cell (i := 1) (by simp)
          have s0 := HR4.frozen 0
          have s1 := HR4.frozen 1
          simp at t0 t1
          clear HR4 e0 e1 e2
          go_wp2
          exact bodyPost_ret (v := .agg #[.int .i64 4, .int .i64 0]) (by simp [results, Try.results25, go_sem, t0, t1]) rfl ⟨rfl, ((HW3.out.trans (HB4.out.mono HW3.out.size)).setCell (by simp) _).setCell (by simp) _⟩
      · rw [if_neg hz]
        have hzz : (z == 0) = false := by simpa using hz
        clear HEQ'
        go_enter Try.func25, Try.ntmps25
        go_wp2_with fail
        refine (implKernFault_any _ _ _ _ d (H.out.later (later2 _ _ _))).mono ?_
        rw [HF.out]
        rintro e w1 ⟨rfl, hb1⟩
        have HW1 : Hid (Below w.heap.size w w1) := (later2 _ _ _).trans (hb1.mono (by simp; omega))
        have HX1 : Hid (Bx w1 w.heap.size [.slice a1 nB c1, .slice a2 nC c2, .slice a3 nE c3]) := ((Bx.new w [.slice a1 nB c1, .slice a2 nC c2, .slice a3 nE c3] _).later (later1 _ _)).later hb1
        have HR1 : Hid (OwnRow w1 (w.heap.size + 1) 2 _) := resRowL _ [.int .i64 0, .int .i64 0] _ hb1
        have x0 := HX1.out 0 _ rfl
        have x1 := HX1.out 1 _ rfl
        clear hb1
        go_wp2_with fail
        refine (isPlace_any _ a1 nB c1 _ x).mono ?_
        rw [HP.out]
        rintro e w2 ⟨rfl, hb2⟩
        have HW2 : Hid (Below w.heap.size w w2) := HW1.out.trans (hb2.mono HW1.out.size)
        have HR2 : Hid (OwnRow w2 (w.heap.size + 1) 2 _) := HR1.out.later hb2
        have x2 := cell_later hb2 (HX1.out 2 _ rfl)
        clear hb2 x0 x1
        go_wp2_with fail
        refine (extWith_walk _ a3 nE c3 nB d.2 x HLE.out (HE.out.later HW2.out) h8 h60 HRT.out).mono ?_
        rw [HK.out]
        rintro e w3 ⟨rfl, hb3⟩
        have HW3 : Hid (Below w.heap.size w w3) := HW2.out.trans (hb3.mono HW2.out.size)
        have HR3 : Hid (OwnRow w3 (w.heap.size + 1) 2 _) := HR2.out.later hb3
        clear hb3 x2
        have e0 := Bx.new w3 [.int .i64 p, .int .i64 y, .int .i64 z] 70 0 _ rfl
        have e1 := Bx.new w3 [.int .i64 p, .int .i64 y, .int .i64 z] 70 1 _ rfl
        have e2 := Bx.new w3 [.int .i64 p, .int .i64 y, .int .i64 z] 70 2 _ rfl
        go_wp2_with fail
        go_region_held3 (fun W => W.cell? ⟨w3.heap.size, 0, none⟩ = some (.int .i64 p) ∧ W.cell? ⟨w3.heap.size, 1, none⟩ = some (.int .i64 y) ∧ W.cell? ⟨w3.heap.size, 2, none⟩ = some (.int .i64 z)) (go_keep) (first | (go_at_call 55; refine (nobody_any _).mono ?_; rintro e w4 ⟨rfl, hb4⟩; have HB4 : Hid (Below w3.heap.size w3 w4) := (later1 _ _).drew.trans (hb4.mono (by simp)); have k0 := cell_later hb4 e0; have k1 := cell_later hb4 e1; have k2 := cell_later hb4 e2; clear hb4))
        all_goals
          have HR4 := HR3.out.later HB4.out
          have t0 := HR4.cell (i := 0) (by simp)
          have t1 := HR4.cell (i := 1) (by simp)
          have s0 := HR4.frozen 0
          have s1 := HR4.frozen 1
          simp at t0 t1
          clear HR4 e0 e1 e2
          go_wp2
          exact bodyPost_ret (v := .agg #[.int .i64 0, .int .i64 z]) (by simp [results, Try.results25, go_sem, t0, t1]) rfl ⟨rfl, ((HW3.out.trans (HB4.out.mono HW3.out.size)).setCell (by simp) _).setCell (by simp) _⟩
  · have HR1 : Hid (ownR d x = (kernF d, 0)) := by unfold Hid; rw [HR.out, if_neg hf]
    rw [HR1.out]
    clear HR HR1 FACTS
    generalize hc : kernF d = c at *
    have HC : Hid (kernF d = c) := hc
    have hne : (c != 0) = true := by simpa using hf
    clear hc hf
    go_enter Try.func25, Try.ntmps25
    go_wp2_with fail
    refine (implKernFault_any _ _ _ _ d (H.out.later (later2 _ _ _))).mono ?_
    rw [HC.out]
    rintro e w1 ⟨rfl, hb1⟩
    have HW1 : Hid (Below w.heap.size w w1) := (later2 _ _ _).trans (hb1.mono (by simp; omega))
    have HR1 := resRowL _ [.int .i64 0, .int .i64 0] _ hb1
    have t0 := HR1.cell (i := 0) (by simp)
    have t1 := HR1.cell (i := 1) (by simp)
    have s0 := HR1.frozen 0
    have s1 := HR1.frozen 1
    simp at t0 t1
    clear hb1 HR1
    go_wp2
    exact bodyPost_ret (v := .agg #[.int .i64 c, .int .i64 0]) (by simp [results, Try.results25, go_sem, t0, t1]) rfl ⟨rfl, (HW1.out.setCell (by simp) _).setCell (by simp) _⟩
end Go.Proofs.Ytojegkekafampah

/- Whose a block is: the walks of the program's OwnerOf. What 'append' and 'copy' of extents come to. The program's copying of a list of extents. The program's copying of a disk. Who may write or read: the walks of the specification's l2May and of the program's keyFault. Who may write or read: the walk of the program's keyFault. What appending extents to an empty list that was just built comes to. How an answer with a kern is put together; the walks of NewKern, both. The specification's copying of a kern. -/
import Derived.Test.YtmjdechoookpmaaM13
import Derived.Deep.RegionHeld3
import Derived.Test.YtmjdechoookpmaaM12
import Derived.Test.YtmjdechoookpmaaM01
import Derived.Deep.AppendLies
import Derived.Laws.CopyOwn
import Derived.Test.YtmjdechoookpmaaM06
import Derived.Test.YtmjdechoookpmaaM09
import Derived.Test.YtmjdechoookpmaaM03
import Derived.Deep.RegionLaw
import Derived.Test.YtmjdechoookpmaaM05
import Derived.Test.YtmjdechoookpmaaM08
namespace Go.Proofs.Ytmjdechoookpmaa
open Go.RowKit
set_option maxRecDepth 100000

set_option maxHeartbeats 800000 in
theorem has_any (w : World) (p y z x : Int) (hp0 : 0 ≤ p) (hp1 : p ≤ 60) (hy0 : 0 ≤ y) (hy1 : y ≤ 60) :
    Calls Try.prog 105 #[.agg #[.int .i64 p, .int .i64 y, .int .i64 z], .int .i64 x] w fun e w' => e = .returned (.bool (hasB (p, y, z) x)) ∧ Below w.heap.size w w' := by
  by_cases h1 : p ≤ x
  · have hd : decide (p ≤ x) = true := by simpa using h1
    by_cases h2 : x < p + y
    · have hd2 : decide (x < p + y) = true := by simpa using h2
      have HR : Hid (hasB (p, y, z) x = true) := by unfold Hid hasB; simp [h1, h2]
      rw [HR.out]
      clear h1 h2
      go_enter Try.func105, Try.ntmps105
      go_wp2_with fail
      refine (end_any _ p y z hp0 hp1 hy0 hy1).mono ?_
      rintro e w2 ⟨rfl, hb2⟩
      have HB2 : Hid (Below w.heap.size w w2) := (later1 _ _).trans (hb2.mono (by simp))
      clear hb2
      go_wp2
      go_ret
      exact ⟨rfl, HB2.out⟩
    · have hd2 : decide (x < p + y) = false := by simpa using h2
      have HR : Hid (hasB (p, y, z) x = false) := by unfold Hid hasB; simp [h2]
      rw [HR.out]
      clear h1 h2
      go_enter Try.func105, Try.ntmps105
      go_wp2_with fail
      refine (end_any _ p y z hp0 hp1 hy0 hy1).mono ?_
      rintro e w2 ⟨rfl, hb2⟩
      have HB2 : Hid (Below w.heap.size w w2) := (later1 _ _).trans (hb2.mono (by simp))
      clear hb2
      go_wp2
      go_ret
      exact ⟨rfl, HB2.out⟩
  · have hd : decide (p ≤ x) = false := by simpa using h1
    have HR : Hid (hasB (p, y, z) x = false) := by unfold Hid hasB; simp [h1]
    rw [HR.out]
    clear h1
    go_enter Try.func105, Try.ntmps105
    go_wp2
    go_ret
    exact ⟨rfl, later1 _ _⟩
theorem nobody_any (w : World) : Calls Try.prog 104 #[] w fun e w' => e = .returned (.agg #[.int .i64 0, .int .i64 0, .int .i64 0]) ∧ Below w.heap.size w w' := by
  go_enter Try.func104, Try.ntmps104
  go_wp2
  exact bodyPost_ret (v := .agg #[.int .i64 0, .int .i64 0, .int .i64 0]) (by simp [results, Try.results104, go_sem]) rfl ⟨rfl, later1 _ _⟩

set_option maxHeartbeats 1600000 in
theorem extWith_walk (w : World) (aE : Option Addr) (nE cE nB : Nat) (es : List E3) (x : Int) (hnE : es.length = nE) (hE : AtE w aE nE es) (h8 : nE ≤ 8) (h60 : nB ≤ 60) (hr : ∀ i, i < nE → rightB (extAt es i) nB = true) :
    Calls Try.prog 88 #[.slice aE nE cE, .int .i64 x] w fun e w' => e = .returned (.agg #[.int .i64 (ownE es x).1, .int .i64 (ownE es x).2.1, .int .i64 (ownE es x).2.2]) ∧ Below w.heap.size w w' := by
  have HN : Hid (es.length = nE) := hnE
  have HE : Hid (AtE w aE nE es) := hE
  have HR : Hid (∀ i, i < nE → rightB (extAt es i) nB = true) := hr
  clear hnE hE hr
  go_enter Try.func88, Try.ntmps88
  go_wp2
  go_loopw [9] (fun i wr => ∃ j : Nat, j ≤ nE ∧ i = .int .i64 j ∧ Below w.heap.size w wr ∧ OwnRow wr w.heap.size 3 (fun i => [Value.int .i64 0, .int .i64 0, .int .i64 0][i]?.getD (.bool false)) ∧ ∀ i : Nat, i < j → hasB (extAt es i) x = false) (fun i _ => nE - (intOf i).toNat)
  case atStart => exact ⟨0, Nat.zero_le _, rfl, later1 _ _, OwnRow.newL w [.int .i64 0, .int .i64 0, .int .i64 0] _, fun i hi => by omega⟩
  case round =>
    obtain ⟨j, hj, rfl, hbl, hrow, hall⟩ := hrel
    have HA : Hid (∀ i : Nat, i < j → hasB (extAt es i) x = false) := hall
    have HBL : Hid (Below w.heap.size w wr) := hbl
    have HROW : Hid (OwnRow wr w.heap.size 3 (fun i => [Value.int .i64 0, .int .i64 0, .int .i64 0][i]?.getD (.bool false))) := hrow
    have hzw : w.heap.size < wr.heap.size := hrow.lt
    clear hall hbl hrow
    by_cases hlt : j < nE
    · obtain ⟨b, off, rfl, c0, c1, c2⟩ := HE.out j hlt
      replace c0 := cell_later HBL.out c0
      replace c1 := cell_later HBL.out c1
      replace c2 := cell_later HBL.out c2
      have hq := rightB_iff.1 (HR.out j hlt)
      have HX : Hid (extAt es j = ((es[j]?.getD (0, 0, 0)).1, (es[j]?.getD (0, 0, 0)).2.1, (es[j]?.getD (0, 0, 0)).2.2)) := rfl
      rw [HX.out] at hq
      dsimp only at hq
      generalize (es[j]?.getD (0, 0, 0)).1 = p at *
      generalize (es[j]?.getD (0, 0, 0)).2.1 = y at *
      generalize (es[j]?.getD (0, 0, 0)).2.2 = z at *
      have hp0 : 0 ≤ p := by omega
      have hp1 : p ≤ 60 := by omega
      have hy0 : 0 ≤ y := by omega
      have hy1 : y ≤ 60 := by omega
      clear hq
      cases hh : hasB (p, y, z) x
      · have HQ : Hid (hasB (p, y, z) x = false) := hh
        have HH : Hid (hasB (extAt es j) x = false) := by unfold Hid; rw [HX.out]; exact hh
        clear hh
        go_wp2_with fail
        refine (has_any _ p y z x hp0 hp1 hy0 hy1).mono ?_
        rw [HQ.out]
        rintro e w2 ⟨rfl, hb2⟩
        have HB2 : Hid (Below wr.heap.size wr w2) := (later1 _ _).trans (hb2.mono (by simp))
        clear hb2
        go_wp2
        go_roundw
        case rel =>
          refine ⟨j + 1, by omega, by go_num, HBL.out.trans (HB2.out.mono HBL.out.size), HROW.out.later HB2.out, fun i hi => ?_⟩
          by_cases e : i = j
          · subst e; exact HH.out
          · exact HA.out i (by omega)
        case measure => simp [intOf]; omega
      · have HQ : Hid (hasB (p, y, z) x = true) := hh
        have HH : Hid (hasB (extAt es j) x = true) := by unfold Hid; rw [HX.out]; exact hh
        have HZ : Hid (ownE es x = (p, y, z)) := by unfold Hid; rw [ownE_at HA.out (by rw [HN.out]; exact hlt) HH.out, HX.out]
        clear hh
        go_wp2_with fail
        refine (has_any _ p y z x hp0 hp1 hy0 hy1).mono ?_
        rw [HQ.out]
        rintro e w2 ⟨rfl, hb2⟩
        have HB2 : Hid (Below wr.heap.size wr w2) := (later1 _ _).trans (hb2.mono (by simp))
        have HE2 := (Bx.new wr [.int .i64 p, .int .i64 y, .int .i64 z] 102).later hb2
        have e0 := HE2 0 _ rfl
        have e1 := HE2 1 _ rfl
        have e2 := HE2 2 _ rfl
        have HR2 := HROW.out.later HB2.out
        have t0 := HR2.cell (i := 0) (by omega)
        have t1 := HR2.cell (i := 1) (by omega)
        have t2 := HR2.cell (i := 2) (by omega)
        have s0 := HR2.frozen 0
        have s1 := HR2.frozen 1
        have s2 := HR2.frozen 2
        simp at t0 t1 t2
        clear hb2 HE2 HR2
        go_wp2
        exact bodyPost_ret (v := .agg #[.int .i64 p, .int .i64 y, .int .i64 z]) (by simp [results, Try.results88, go_sem, t0, t1, t2]) rfl ⟨by rw [HZ.out], (((HBL.out.trans (HB2.out.mono HBL.out.size)).setCell (by simp) _).setCell (by simp) _).setCell (by simp) _⟩
    · have e : j = nE := by omega
      subst e
      have HZ : Hid (ownE es x = (0, 0, 0)) := by unfold Hid; rw [ownE_none (fun i hi => HA.out i (by rw [HN.out] at hi; exact hi))]
      go_wp2_with fail
      refine (nobody_any _).mono ?_
      rintro e w2 ⟨rfl, hb2⟩
      have HB2 : Hid (Below wr.heap.size wr w2) := hb2
      have HR2 := HROW.out.later hb2
      have t0 := HR2.cell (i := 0) (by omega)
      have t1 := HR2.cell (i := 1) (by omega)
      have t2 := HR2.cell (i := 2) (by omega)
      have s0 := HR2.frozen 0
      have s1 := HR2.frozen 1
      have s2 := HR2.frozen 2
      simp at t0 t1 t2
      clear hb2 HR2
      go_wp2
      exact bodyPost_ret (v := .agg #[.int .i64 0, .int .i64 0, .int .i64 0]) (by simp [results, Try.results88, go_sem, t0, t1, t2]) rfl ⟨by rw [HZ.out], (((HBL.out.trans (HB2.out.mono HBL.out.size)).setCell (by simp) _).setCell (by simp) _).setCell (by simp) _⟩

theorem ownE_zero {d : KD} {x : Int} (h : kernF d = 0) : (ownE d.2 x).2.2 = 0 ↔ ownE d.2 x = (0, 0, 0) := by
  constructor
  · intro hz
    rcases ownE_cases d.2 x with ⟨j, hj, e⟩ | e
    · have := (rightB_iff.1 ((kernF_ok h).2.2 j hj).1).1.1
      rw [e] at hz; omega
    · exact e
  · intro e; rw [e]

set_option maxHeartbeats 3200000 in
theorem implOwner_any (w : World) (vB vC vE : Value) (d : KD) (x : Int) (h : KernR w vB vC vE d) :
    Calls Try.prog 87 #[.agg #[vB, vC, vE], .int .i64 x] w fun e w' => e = .returned (.agg #[.int .i64 (ownR d x).1, .int .i64 (ownR d x).2]) ∧ Below w.heap.size w w' := by
  obtain ⟨a1, c1, rfl, hm1, _⟩ := h.1.1.open'
  obtain ⟨a2, c2, rfl, _⟩ := h.1.2.open'
  obtain ⟨a3, c3, rfl, _, hE⟩ := h.2.open'
  have H : Hid (KernR w (.slice a1 d.1.1.length c1) (.slice a2 d.1.2.length c2) (.slice a3 d.2.length c3) d) := h
  have HE : Hid (AtE w a3 d.2.length d.2) := hE
  clear h hE
  have HR : Hid (ownR d x = if kernF d = 0 then (if placeB d.1.1.length x = true then (if (ownE d.2 x).2.2 = 0 then (4, 0) else (0, (ownE d.2 x).2.2)) else (3, 0)) else (kernF d, 0)) := rfl
  have FACTS : Hid (kernF d = 0 → d.1.1.length ≤ 60 ∧ d.2.length ≤ 8 ∧ ∀ i, i < d.2.length → rightB (extAt d.2 i) d.1.1.length = true) := fun h => by
    obtain ⟨k1, k2, k3⟩ := kernF_ok h
    exact ⟨(faultF_lens k1).1, k2, fun i hi => (k3 i hi).1⟩
  generalize hlB : d.1.1.length = nB at *
  generalize hlC : d.1.2.length = nC at *
  generalize hlE : d.2.length = nE at *
  have HLE : Hid (d.2.length = nE) := hlE
  clear hlB hlC hlE hm1
  by_cases hf : kernF d = 0
  · have HF : Hid (kernF d = 0) := hf
    rw [if_pos hf] at HR
    obtain ⟨h60, h8, hr⟩ := FACTS.out hf
    have HRT : Hid (∀ i, i < nE → rightB (extAt d.2 i) nB = true) := hr
    clear hr hf FACTS
    cases hp : placeB nB x
    · have HP : Hid (placeB nB x = false) := hp
      have HR1 : Hid (ownR d x = (3, 0)) := by unfold Hid; rw [HR.out, hp]; rfl
      rw [HR1.out]
      clear hp HR
      go_enter Try.func87, Try.ntmps87
      go_wp2_with fail
      refine (implKernFault_any _ _ _ _ d (H.out.later (later2 _ _ _))).mono ?_
      rw [HF.out]
      rintro e w1 ⟨rfl, hb1⟩
      have HW1 : Hid (Below w.heap.size w w1) := (later2 _ _ _).trans (hb1.mono (by simp; omega))
      have HX1 : Hid (Bx w1 w.heap.size [.slice a1 nB c1, .slice a2 nC c2, .slice a3 nE c3]) := ((Bx.new w [.slice a1 nB c1, .slice a2 nC c2, .slice a3 nE c3] _).later (later1 _ _)).later hb1
      have HR1 : Hid (OwnRow w1 (w.heap.size + 1) 2 _) := resRowL _ [.int .i64 0, .int .i64 0] _ hb1
      have x0 := HX1.out 0 _ rfl
      have x1 := HX1.out 1 _ rfl
      clear hb1
      go_wp2_with fail
      refine (isPlace_any _ a1 nB c1 _ x).mono ?_
      rw [HP.out]
      rintro e w2 ⟨rfl, hb2⟩
      have HW2 : Hid (Below w.heap.size w w2) := HW1.out.trans (hb2.mono HW1.out.size)
      have HR2 := HR1.out.later hb2
      have t0 := HR2.cell (i := 0) (by simp)
      have t1 := HR2.cell (i := 1) (by simp)
      have s0 := HR2.frozen 0
      have s1 := HR2.frozen 1
      simp at t0 t1
      clear hb2 HR2
      go_wp2
      exact bodyPost_ret (v := .agg #[.int .i64 3, .int .i64 0]) (by simp [results, Try.results87, go_sem, t0, t1]) rfl ⟨rfl, (HW2.out.setCell (by simp) _).setCell (by simp) _⟩
    · have HP : Hid (placeB nB x = true) := hp
      have HR2 : Hid (ownR d x = if (ownE d.2 x).2.2 = 0 then (4, 0) else (0, (ownE d.2 x).2.2)) := by unfold Hid; rw [HR.out, hp]; rfl
      have HEQ : Hid ((ownE d.2 x).2.2 = 0 ↔ ownE d.2 x = (0, 0, 0)) := ownE_zero HF.out
      rw [HR2.out]
      obtain ⟨p, y, z, hk⟩ : ∃ p y z, ownE d.2 x = (p, y, z) := ⟨_, _, _, rfl⟩
      have HK : Hid (ownE d.2 x = (p, y, z)) := hk
      have HEQ' : Hid (z = 0 ↔ p = 0 ∧ y = 0 ∧ z = 0) := by
        have := HEQ.out
        rw [hk] at this
        unfold Hid
        simpa using this
      rw [hk]
      clear hp HR HR2 hk HEQ
      by_cases hz : z = 0
      · obtain ⟨rfl, rfl, rfl⟩ := HEQ'.out.1 hz
        rw [if_pos rfl]
        clear hz HEQ'
        go_enter Try.func87, Try.ntmps87
        go_wp2_with fail
        refine (implKernFault_any _ _ _ _ d (H.out.later (later2 _ _ _))).mono ?_
        rw [HF.out]
        rintro e w1 ⟨rfl, hb1⟩
        have HW1 : Hid (Below w.heap.size w w1) := (later2 _ _ _).trans (hb1.mono (by simp; omega))
        have HX1 : Hid (Bx w1 w.heap.size [.slice a1 nB c1, .slice a2 nC c2, .slice a3 nE c3]) := ((Bx.new w [.slice a1 nB c1, .slice a2 nC c2, .slice a3 nE c3] _).later (later1 _ _)).later hb1
        have HR1 : Hid (OwnRow w1 (w.heap.size + 1) 2 _) := resRowL _ [.int .i64 0, .int .i64 0] _ hb1
        have x0 := HX1.out 0 _ rfl
        have x1 := HX1.out 1 _ rfl
        clear hb1
        go_wp2_with fail
        refine (isPlace_any _ a1 nB c1 _ x).mono ?_
        rw [HP.out]
        rintro e w2 ⟨rfl, hb2⟩
        have HW2 : Hid (Below w.heap.size w w2) := HW1.out.trans (hb2.mono HW1.out.size)
        have HR2 : Hid (OwnRow w2 (w.heap.size + 1) 2 _) := HR1.out.later hb2
        have x2 := cell_later hb2 (HX1.out 2 _ rfl)
        clear hb2 x0 x1
        go_wp2_with fail
        refine (extWith_walk _ a3 nE c3 nB d.2 x HLE.out (HE.out.later HW2.out) h8 h60 HRT.out).mono ?_
        rw [HK.out]
        rintro e w3 ⟨rfl, hb3⟩
        have HW3 : Hid (Below w.heap.size w w3) := HW2.out.trans (hb3.mono HW2.out.size)
        have HR3 : Hid (OwnRow w3 (w.heap.size + 1) 2 _) := HR2.out.later hb3
        clear hb3 x2
        have e0 := Bx.new w3 [.int .i64 0, .int .i64 0, .int .i64 0] 102 0 _ rfl
        have e1 := Bx.new w3 [.int .i64 0, .int .i64 0, .int .i64 0] 102 1 _ rfl
        have e2 := Bx.new w3 [.int .i64 0, .int .i64 0, .int .i64 0] 102 2 _ rfl
        go_wp2_with fail
        go_region_held3 (fun W => W.cell? ⟨w3.heap.size, 0, none⟩ = some (.int .i64 0) ∧ W.cell? ⟨w3.heap.size, 1, none⟩ = some (.int .i64 0) ∧ W.cell? ⟨w3.heap.size, 2, none⟩ = some (.int .i64 0)) (go_keep) (first | (go_at_call 104; refine (nobody_any _).mono ?_; rintro e w4 ⟨rfl, hb4⟩; have HB4 : Hid (Below w3.heap.size w3 w4) := (later1 _ _).drew.trans (hb4.mono (by simp)); have k0 := cell_later hb4 e0; have k1 := cell_later hb4 e1; have k2 := cell_later hb4 e2; clear hb4))
        all_goals
          have HR4 := HR3.out.later HB4.out
          have t0 := HR4.cell (i := 0) (by simp)
          have t1 := HR4.cell (i := 1) (by simp)
          have s0 := HR4.frozen 0
          have s1 := HR4.frozen 1
          simp at t0 t1
          clear HR4 e0 e1 e2
          go_wp2
          exact bodyPost_ret (v := .agg #[.int .i64 4, .int .i64 0]) (by simp [results, Try.results87, go_sem, t0, t1]) rfl ⟨rfl, ((HW3.out.trans (HB4.out.mono HW3.out.size)).setCell (by simp) _).setCell (by simp) _⟩
      · rw [if_neg hz]
        have hzz : (z == 0) = false := by simpa using hz
        clear HEQ'
        go_enter Try.func87, Try.ntmps87
        go_wp2_with fail
        refine (implKernFault_any _ _ _ _ d (H.out.later (later2 _ _ _))).mono ?_
        rw [HF.out]
        rintro e w1 ⟨rfl, hb1⟩
        have HW1 : Hid (Below w.heap.size w w1) := (later2 _ _ _).trans (hb1.mono (by simp; omega))
        have HX1 : Hid (Bx w1 w.heap.size [.slice a1 nB c1, .slice a2 nC c2, .slice a3 nE c3]) := ((Bx.new w [.slice a1 nB c1, .slice a2 nC c2, .slice a3 nE c3] _).later (later1 _ _)).later hb1
        have HR1 : Hid (OwnRow w1 (w.heap.size + 1) 2 _) := resRowL _ [.int .i64 0, .int .i64 0] _ hb1
        have x0 := HX1.out 0 _ rfl
        have x1 := HX1.out 1 _ rfl
        clear hb1
        go_wp2_with fail
        refine (isPlace_any _ a1 nB c1 _ x).mono ?_
        rw [HP.out]
        rintro e w2 ⟨rfl, hb2⟩
        have HW2 : Hid (Below w.heap.size w w2) := HW1.out.trans (hb2.mono HW1.out.size)
        have HR2 : Hid (OwnRow w2 (w.heap.size + 1) 2 _) := HR1.out.later hb2
        have x2 := cell_later hb2 (HX1.out 2 _ rfl)
        clear hb2 x0 x1
        go_wp2_with fail
        refine (extWith_walk _ a3 nE c3 nB d.2 x HLE.out (HE.out.later HW2.out) h8 h60 HRT.out).mono ?_
        rw [HK.out]
        rintro e w3 ⟨rfl, hb3⟩
        have HW3 : Hid (Below w.heap.size w w3) := HW2.out.trans (hb3.mono HW2.out.size)
        have HR3 : Hid (OwnRow w3 (w.heap.size + 1) 2 _) := HR2.out.later hb3
        clear hb3 x2
        have e0 := Bx.new w3 [.int .i64 p, .int .i64 y, .int .i64 z] 102 0 _ rfl
        have e1 := Bx.new w3 [.int .i64 p, .int .i64 y, .int .i64 z] 102 1 _ rfl
        have e2 := Bx.new w3 [.int .i64 p, .int .i64 y, .int .i64 z] 102 2 _ rfl
        go_wp2_with fail
        go_region_held3 (fun W => W.cell? ⟨w3.heap.size, 0, none⟩ = some (.int .i64 p) ∧ W.cell? ⟨w3.heap.size, 1, none⟩ = some (.int .i64 y) ∧ W.cell? ⟨w3.heap.size, 2, none⟩ = some (.int .i64 z)) (go_keep) (first | (go_at_call 104; refine (nobody_any _).mono ?_; rintro e w4 ⟨rfl, hb4⟩; have HB4 : Hid (Below w3.heap.size w3 w4) := (later1 _ _).drew.trans (hb4.mono (by simp)); have k0 := cell_later hb4 e0; have k1 := cell_later hb4 e1; have k2 := cell_later hb4 e2; clear hb4))
        all_goals
          have HR4 := HR3.out.later HB4.out
          have t0 := HR4.cell (i := 0) (by simp)
          have t1 := HR4.cell (i := 1) (by simp)
          have s0 := HR4.frozen 0
          have s1 := HR4.frozen 1
          simp at t0 t1
          clear HR4 e0 e1 e2
          go_wp2
          exact bodyPost_ret (v := .agg #[.int .i64 0, .int .i64 z]) (by simp [results, Try.results87, go_sem, t0, t1]) rfl ⟨rfl, ((HW3.out.trans (HB4.out.mono HW3.out.size)).setCell (by simp) _).setCell (by simp) _⟩
  · have HR1 : Hid (ownR d x = (kernF d, 0)) := by unfold Hid; rw [HR.out, if_neg hf]
    rw [HR1.out]
    clear HR HR1 FACTS
    generalize hc : kernF d = c at *
    have HC : Hid (kernF d = c) := hc
    have hne : (c != 0) = true := by simpa using hf
    clear hc hf
    go_enter Try.func87, Try.ntmps87
    go_wp2_with fail
    refine (implKernFault_any _ _ _ _ d (H.out.later (later2 _ _ _))).mono ?_
    rw [HC.out]
    rintro e w1 ⟨rfl, hb1⟩
    have HW1 : Hid (Below w.heap.size w w1) := (later2 _ _ _).trans (hb1.mono (by simp; omega))
    have HR1 := resRowL _ [.int .i64 0, .int .i64 0] _ hb1
    have t0 := HR1.cell (i := 0) (by simp)
    have t1 := HR1.cell (i := 1) (by simp)
    have s0 := HR1.frozen 0
    have s1 := HR1.frozen 1
    simp at t0 t1
    clear hb1 HR1
    go_wp2
    exact bodyPost_ret (v := .agg #[.int .i64 c, .int .i64 0]) (by simp [results, Try.results87, go_sem, t0, t1]) rfl ⟨rfl, (HW1.out.setCell (by simp) _).setCell (by simp) _⟩
end Go.Proofs.Ytmjdechoookpmaa

namespace Go.Proofs.Ytmjdechoookpmaa
open Go.RowKit
set_option maxRecDepth 100000

/-- The cells of extents, one behind the other. -/
def exCells (es : List E3) : List Value := es.flatMap fun e => [.int .i64 e.1, .int .i64 e.2.1, .int .i64 e.2.2]
theorem exCells_length (es : List E3) : (exCells es).length = es.length * 3 := by
  induction es with
  | nil => rfl
  | cons a t ih =>
    have : exCells (a :: t) = [.int .i64 a.1, .int .i64 a.2.1, .int .i64 a.2.2] ++ exCells t := by simp [exCells]
    rw [this, List.length_append, ih]
    simp [Nat.add_mul]
    omega
theorem exCells_append (es fs : List E3) : exCells (es ++ fs) = exCells es ++ exCells fs := by simp [exCells]
theorem exCells_get (es : List E3) (j : Nat) (h : j < es.length * 3) : (exCells es)[j]? = some (exCell es j) := by
  induction es generalizing j with
  | nil => simp at h
  | cons a t ih =>
    have e : exCells (a :: t) = .int .i64 a.1 :: .int .i64 a.2.1 :: .int .i64 a.2.2 :: exCells t := by simp [exCells]
    rw [e]
    match j with
    | 0 => simp [exCell]
    | 1 => simp [exCell]
    | 2 => simp [exCell]
    | j + 3 =>
      simp only [List.getElem?_cons_succ]
      rw [ih j (by simp at h; omega)]
      unfold exCell
      have h1 : (j + 3) % 3 = j % 3 := by omega
      have h2 : (j + 3) / 3 = j / 3 + 1 := by omega
      rw [h1, h2]
      simp
theorem exCells_one (es : List E3) : ∀ u ∈ exCells es, u.oneCell' = true := by
  intro u hu
  simp only [exCells, List.mem_flatMap] at hu
  obtain ⟨e, _, hu⟩ := hu
  simp at hu
  rcases hu with rfl | rfl | rfl <;> rfl
theorem AtE.cells {w : World} {b off n : Nat} {es : List E3} (h : AtE w (some ⟨b, off, none⟩) n es) (hn : es.length = n) (j : Nat) (u : Value) (hu : (exCells es)[j]? = some u) : w.cell? ((⟨b, off, none⟩ : Addr).add j) = some u := by
  have hj : j < es.length * 3 := by rw [← exCells_length]; exact (List.getElem?_eq_some_iff.1 hu).1
  rw [exCells_get es j hj] at hu
  simp only [Option.some.injEq] at hu
  subst hu
  obtain ⟨b', off', e, c0, c1, c2⟩ := h (j / 3) (by omega)
  simp only [Option.some.injEq, Addr.mk.injEq, and_true] at e
  obtain ⟨rfl, rfl⟩ := e
  rw [add_plain']
  have : j % 3 = 0 ∨ j % 3 = 1 ∨ j % 3 = 2 := by omega
  unfold exCell
  rcases this with e | e | e
  · rw [if_pos e, ← c0, show off + j = off + j / 3 * 3 by omega]
  · rw [if_neg (by omega), if_pos e, ← c1, show off + j = off + j / 3 * 3 + 1 by omega]
  · rw [if_neg (by omega), if_neg (by omega), ← c2, show off + j = off + j / 3 * 3 + 2 by omega]

theorem Try.infoExt' : ∃ i, Try.prog.info? 102 = some i ∧ i.zero = some (.agg #[.int .i64 0, .int .i64 0, .int .i64 0]) ∧ i.size = 3 ∧ i.bytes = 24 := by
  obtain ⟨i, hi, h⟩ := Option.map_eq_some_iff.1 Try.infoExt
  simp only [Prod.mk.injEq] at h
  exact ⟨i, hi, h.1, h.2.1, h.2.2⟩

/-- Extents in a row that the call owns, in a block from base on. -/
def ERow (w : World) (base : Nat) (v : Value) (es : List E3) : Prop := w.ownsRow base 102 3 v es.length (exCells es)
theorem ERow.exts {w : World} {base : Nat} {v : Value} {es : List E3} (h : ERow w base v es) : ExtsO w v es (fun b => v.ownBlock = some b ∧ base ≤ b ∧ b < w.heap.size) := by
  obtain ⟨hl, h | ⟨g, cap, cur, rfl, hb, hh, hnc, hcm, hcs, htake⟩⟩ := h
  · obtain ⟨rfl, h0⟩ := h
    exact Or.inl ⟨List.eq_nil_of_length_eq_zero h0, none, 0, rfl⟩
  · refine Or.inr ⟨g, cap, ⟨rfl, hb, (Array.getElem?_eq_some_iff.1 hh).1⟩, rfl, ⟨by omega, hnc⟩, cur, _, hh, by rw [hcs]; exact Nat.mul_le_mul_right 3 hnc, fun i hi => ?_⟩
    have h1 := exCells_get es i hi
    rw [← htake, List.getElem?_take, if_pos hi, Array.getElem?_toList] at h1
    exact h1
theorem ERow.keep {w w' : World} {base : Nat} {v : Value} {es : List E3} (h : ERow w base v es) (e : ∀ b, v.ownBlock = some b → w'.heap[b]? = w.heap[b]?) : ERow w' base v es := by
  obtain ⟨hl, h | ⟨g, cap, cur, rfl, hb, hh, r⟩⟩ := h
  · exact ⟨hl, Or.inl h⟩
  · exact ⟨hl, Or.inr ⟨g, cap, cur, rfl, hb, by rw [e g rfl]; exact hh, r⟩⟩
theorem ERow.lt {w : World} {base : Nat} {v : Value} {es : List E3} (h : ERow w base v es) : ∀ b, v.ownBlock = some b → base ≤ b ∧ b < w.heap.size := fun b hb => World.ownsRow.lt h b hb
theorem ERow.lit (w : World) (base : Nat) (hb : base ≤ w.heap.size) : ERow (w.alloc (.cells #[] 102)) base (.slice (some ⟨w.heap.size, 0, none⟩) 0 0) [] := World.ownsRow_lit w #[] 0 hb (by simp) rfl
theorem ERow.shape {w : World} {base : Nat} {v : Value} {es : List E3} (h : ERow w base v es) : ∃ a c, v = .slice a es.length c := by
  obtain ⟨hl, h | ⟨g, cap, cur, rfl, _⟩⟩ := h
  · exact ⟨none, 0, by rw [h.1, h.2]⟩
  · exact ⟨_, _, rfl⟩

/-- More extents behind a row. -/
theorem append_exts (w : World) (ty : TypeId) (base : Nat) (v : Value) (es fs : List E3) (h : ERow w base v es) (hbase : base ≤ w.heap.size) (a : Option Addr) (cap : Nat) (hn : es.length + fs.length ≤ 1048576) (hc : AtE w a fs.length fs) :
    ∃ v' X, (Builtin.append_ #[52, 52] ty #[v, .slice a fs.length cap]).run Try.prog w = .ok v' X ∧ ERow X base v' (es ++ fs) ∧ Below base w X ∧
      (∀ b, b < w.heap.size → v.ownBlock ≠ some b → X.heap[b]? = w.heap[b]?) ∧ (∀ b, v'.ownBlock = some b → v.ownBlock = some b ∨ w.heap.size ≤ b) ∧ ∃ a' c', v' = .slice a' (es.length + fs.length) c' := by
  obtain ⟨i, hi, h1, h2, h3⟩ := Try.infoExt'
  by_cases h0 : fs.length = 0
  · have hfs : fs = [] := List.eq_nil_of_length_eq_zero h0
    subst hfs
    have hv : ∃ a0 c0, v = .slice a0 es.length c0 ∧ es.length ≤ c0 := by
      obtain ⟨hl, h' | ⟨g, c0, cur, rfl, _, _, hnc, _⟩⟩ := h
      · exact ⟨none, 0, by rw [h'.1, h'.2], by omega⟩
      · exact ⟨_, _, rfl, hnc⟩
    obtain ⟨a0, c0, rfl, hle⟩ := hv
    refine ⟨_, w, ?_, by simpa using h, Below.refl _ _, fun _ _ _ => rfl, fun b hb => Or.inl hb, a0, c0, by simp⟩
    cases a <;> cases a0 <;> simp [Builtin.append_, run_underlying Try.underlying52, sizeOf, typeInfo, hi, Builtin.lenOf, Builtin.firstCells, storeCells, loadCells, loadCellsFrom, hle]
  · obtain ⟨b, off, rfl, _⟩ := hc 0 (by omega)
    obtain ⟨g, c', X, hr, ho, hg, hat, hgX⟩ := run_append_lies (P := Try.prog) w 52 ty base 102 i _ 3 24 Try.underlying52 hi h1 h2 h3 rfl (by decide) v es.length _ h ⟨b, off, none⟩ fs.length cap (exCells fs) (exCells_length fs) (fun j u hu => hc.cells rfl j u hu) (exCells_one fs) (by omega) (by unfold maxLen; omega) (by omega) hbase w.heap.size rfl
    refine ⟨_, X, hr, ?_, below_grown hg hbase (fun k hk => (h.lt k hk).1), fun b hb hne => hg.block b hb (fun e => hne e.symm), fun b hb => ?_, _, _, rfl⟩
    · unfold ERow; rw [List.length_append, exCells_append]; exact ho
    · simp only [Value.ownBlock, Option.some.injEq] at hb
      subst hb
      rcases hat with h | h
      · exact Or.inl h
      · exact Or.inr (by omega)
end Go.Proofs.Ytmjdechoookpmaa

namespace Go.Proofs.Ytmjdechoookpmaa
open Go.RowKit
set_option maxRecDepth 100000

theorem Try.sizeExt : (Try.prog.info? 102).map (·.size) = some 3 := by kernel_rfl

/-- 'copy' between two rows of n elements of 'size' cells each. -/
theorem run_copy_wide {P : Program} (w : World) (dT sT ty elem : TypeId) (g n dCap : Nat) (a : Addr) (sCap size : Nat) (cur : Array Value) (t : TypeId) (cs : List Value)
    (hu : P.underlying dT = some (.slice elem)) (hs : (P.info? elem).map (·.size) = some size)
    (hg : w.heap[g]? = some (.cells cur t (0, 0))) (hn : cs.length = n * size)
    (hsrc : ∀ j v, cs[j]? = some v → w.cell? (a.add j) = some v) (hfit : cs.length ≤ cur.size) (h1 : ∀ v ∈ cs, v.oneCell' = true) :
    (Builtin.copy_ #[dT, sT] ty #[.slice (some ⟨g, 0, none⟩) n dCap, .slice (some a) n sCap]).run P w = .ok (goInt n) (w.setRow g (cs ++ cur.toList.drop cs.length).toArray) := by
  have hl := run_loadCells_list (P := P) w a cs hsrc
  have hst := run_storeCells_at P g 0 t cs 0 cur w hg (by simpa using hfit) h1
  simp only [Nat.zero_add, List.take_zero, List.nil_append] at hst
  cases hq : P.info? elem with
  | none => simp [hq] at hs
  | some i =>
    have hi : i.size = size := by simpa [hq] using hs
    have hm : Nat.min n n = n := Nat.min_self n
    simp [Builtin.copy_, run_underlying hu, Builtin.lenOf, Builtin.firstCells, sizeOf, typeInfo, hq, hi, hm, ← hn, hl, hst]
theorem run_copy_zero {P : Program} (w : World) (dT sT ty elem : TypeId) (d a : Option Addr) (dCap sCap size : Nat) (hu : P.underlying dT = some (.slice elem)) (hs : (P.info? elem).map (·.size) = some size) :
    (Builtin.copy_ #[dT, sT] ty #[.slice d 0 dCap, .slice a 0 sCap]).run P w = .ok (goInt 0) w := by
  cases hq : P.info? elem with
  | none => simp [hq] at hs
  | some i => cases a <;> cases d <;> simp [Builtin.copy_, run_underlying hu, Builtin.lenOf, Builtin.firstCells, sizeOf, typeInfo, hq, storeCells, loadCells, loadCellsFrom]

/-- What 'copy' of extents into a list that was just made comes to. -/
theorem copy_exts (w : World) (a : Option Addr) (n cap : Nat) (es : List E3) (hz : es.length = n) (hc : AtE w a n es) :
    ∃ X, (Builtin.copy_ #[52, 52] 3 #[.slice (some ⟨w.heap.size, 0, none⟩) n n, .slice a n cap]).run Try.prog (w.alloc (.cells (madeCells #[.int .i64 0, .int .i64 0, .int .i64 0] (n * 3)) 102)) = .ok (goInt n) X ∧
      Below w.heap.size w X ∧ OwnRow X w.heap.size (n * 3) (exCell es) := by
  by_cases h0 : n = 0
  · subst h0
    have hr := run_copy_zero (P := Try.prog) (w.alloc (.cells (madeCells #[.int .i64 0, .int .i64 0, .int .i64 0] (0 * 3)) 102)) 52 52 3 102 (some ⟨w.heap.size, 0, none⟩) a 0 cap 3 Try.underlying52 Try.sizeExt
    exact ⟨_, hr, later1 _ _, (OwnRow.madeTrip w 0 102).congr fun i hi => by omega⟩
  · obtain ⟨b, off, rfl, _⟩ := hc 0 (by omega)
    have hcp := run_copy_wide (P := Try.prog) (w.alloc (.cells (madeCells #[.int .i64 0, .int .i64 0, .int .i64 0] (n * 3)) 102)) 52 52 3 102 w.heap.size n n ⟨b, off, none⟩ cap 3 (madeCells #[.int .i64 0, .int .i64 0, .int .i64 0] (n * 3)) 102 (exCells es) Try.underlying52 Try.sizeExt
      (Go.Deep.blk_alloc_new _ _) (by rw [exCells_length, hz]) (fun j v hv => cell_later (later1 _ _) (hc.cells hz j v hv)) (by simp [size_madeCells, exCells_length, hz]) (exCells_one es)
    refine ⟨_, hcp, below_setRow (later1 _ _) (Nat.le_refl _) _, ?_⟩
    refine ⟨_, 102, setRow_heap _ _ _ _ _ _ (Go.Deep.blk_alloc_new _ _), ?_, fun i hi => ?_⟩
    · simp [exCells_length, hz, size_madeCells]
    · have hlen : i < (exCells es).length := by rw [exCells_length, hz]; exact hi
      rw [List.getElem?_toArray, List.getElem?_append_left hlen, exCells_get es i (by rw [hz]; exact hi)]

set_option maxHeartbeats 400000 in
theorem copyOfE_any {w : World} {v : Value} {es : List E3} (h : Exts w v es) (hn : es.length ≤ 1048576) :
    Calls Try.prog 55 #[v] w fun e w' => ∃ a n c, e = .returned (.slice a n c) ∧ Below w.heap.size w w' ∧ ExtsO w' (.slice a n c) es (fresh w w') := by
  obtain ⟨a, cap, rfl, hm, hc⟩ := h.open'
  obtain ⟨X, hcp, hbX, hrX⟩ := copy_exts w a es.length cap es rfl hc
  have hmk := fun w => run_make_trip (P := Try.prog) 52 102 (.int .i64 0) (.int .i64 0) (.int .i64 0) 24 Try.underlying52 Try.infoExt rfl .i64 .i64 es.length (by omega) (by omega) w
  have HB : Hid (Below w.heap.size w X) := hbX
  have HR : Hid (OwnRow X w.heap.size (es.length * 3) (exCell es)) := hrX
  clear hbX hrX hc
  go_enter Try.func55, Try.ntmps55
  go_wp2
  go_ret
  exact ⟨_, _, _, rfl, HB.out, Or.inr ⟨w.heap.size, _, ⟨Nat.le_refl _, HR.out.lt⟩, rfl, ⟨hm, Nat.le_refl _⟩, HR.out⟩⟩
end Go.Proofs.Ytmjdechoookpmaa

namespace Go.Proofs.Ytmjdechoookpmaa
open Go.RowKit
set_option maxRecDepth 100000

def mayF (d : KD) (key x : Int) : Int := if (ownR d x).1 = 0 then (if (ownR d x).2 = key then 0 else 6) else (ownR d x).1

set_option maxHeartbeats 1600000 in
theorem l2May_any {w : World} {bk : Nat} {vB vC vE : Value} {d : KD} (key x : Int) (h0 : w.cell? ⟨bk, 0, none⟩ = some vB) (h1 : w.cell? ⟨bk, 1, none⟩ = some vC) (h2 : w.cell? ⟨bk, 2, none⟩ = some vE) (h : KernR w vB vC vE d) :
    Calls Try.prog 48 #[.pointer (some ⟨bk, 0, none⟩), .int .i64 key, .int .i64 x] w fun e w' => e = .returned (.int .i64 (mayF d key x)) ∧ Below w.heap.size w w' := by
  obtain ⟨a1, c1, rfl, _⟩ := h.1.1.open'
  obtain ⟨a2, c2, rfl, _⟩ := h.1.2.open'
  obtain ⟨a3, c3, rfl, _⟩ := h.2.open'
  have H : Hid (KernR w (.slice a1 d.1.1.length c1) (.slice a2 d.1.2.length c2) (.slice a3 d.2.length c3) d) := h
  have HM : Hid (mayF d key x = if (ownR d x).1 = 0 then (if (ownR d x).2 = key then 0 else 6) else (ownR d x).1) := rfl
  rw [HM.out]
  obtain ⟨c, v, hr⟩ : ∃ c v, ownR d x = (c, v) := ⟨_, _, rfl⟩
  have HR : Hid (ownR d x = (c, v)) := hr
  rw [hr]
  clear h hr HM
  generalize d.1.1.length = n1 at *
  generalize d.1.2.length = n2 at *
  generalize d.2.length = n3 at *
  by_cases hc : c = 0
  · subst hc
    by_cases hv : v = key
    · subst hv
      have hne : (v != v) = false := by simp
      rw [if_pos rfl, if_pos rfl]
      go_enter Try.func48, Try.ntmps48
      go_wp2_with fail
      refine (specOwner_any _ _ _ _ d x H.out).mono ?_
      rw [HR.out]
      rintro e w1 ⟨rfl, hb1⟩
      have HB1 : Hid (Below w.heap.size w w1) := hb1
      clear hb1
      go_wp2
      go_ret
      exact ⟨rfl, HB1.out.trans ((later1 _ _).mono HB1.out.size)⟩
    · have hne : (v != key) = true := by simpa using hv
      rw [if_pos rfl, if_neg hv]
      clear hv
      go_enter Try.func48, Try.ntmps48
      go_wp2_with fail
      refine (specOwner_any _ _ _ _ d x H.out).mono ?_
      rw [HR.out]
      rintro e w1 ⟨rfl, hb1⟩
      have HB1 : Hid (Below w.heap.size w w1) := hb1
      clear hb1
      go_wp2
      go_ret
      exact ⟨rfl, HB1.out.trans ((later1 _ _).mono HB1.out.size)⟩
  · have hne : (c != 0) = true := by simpa using hc
    rw [if_neg hc]
    clear hc
    go_enter Try.func48, Try.ntmps48
    go_wp2_with fail
    refine (specOwner_any _ _ _ _ d x H.out).mono ?_
    rw [HR.out]
    rintro e w1 ⟨rfl, hb1⟩
    have HB1 : Hid (Below w.heap.size w w1) := hb1
    clear hb1
    go_wp2
    go_ret
    exact ⟨rfl, HB1.out.trans ((later1 _ _).mono HB1.out.size)⟩
end Go.Proofs.Ytmjdechoookpmaa

namespace Go.Proofs.Ytmjdechoookpmaa
open Go.RowKit
set_option maxRecDepth 100000

theorem lockF_eq {z key : Int} (h1 : 1 ≤ z) (h2 : z ≤ 9999) : (lockF z == lockF key) = (z == key) := by
  unfold lockF
  rw [if_pos ⟨h1, h2⟩]
  split
  · rfl
  · rename_i h
    rw [beq_eq_false_iff_ne.2 (by omega), beq_eq_false_iff_ne.2 (by omega)]

set_option maxHeartbeats 800000 in
theorem opensTo_any (w : World) (p y z key : Int) :
    Calls Try.prog 89 #[.agg #[.int .i64 p, .int .i64 y, .int .i64 z], .int .i64 key] w fun e w' => e = .returned (.bool (lockF z == lockF key)) ∧ Below w.heap.size w w' := by
  go_enter Try.func89, Try.ntmps89
  go_wp2_with fail
  refine (lockOf_any _ _).mono ?_
  rintro e w1 ⟨rfl, rfl⟩
  go_wp2_with fail
  refine (lockOf_any _ _).mono ?_
  rintro e w1 ⟨rfl, rfl⟩
  go_wp2
  go_ret
  exact ⟨rfl, later1 _ _⟩

theorem ownR_ok {d : KD} {x v : Int} (h : ownR d x = (0, v)) : kernF d = 0 ∧ (ownE d.2 x).2.2 = v ∧ 1 ≤ v ∧ v ≤ 9999 := by
  unfold ownR at h
  split at h
  · rename_i hk
    split at h
    · split at h
      · simp at h
      · rename_i hne
        simp only [Prod.mk.injEq, true_and] at h
        refine ⟨hk, h, ?_⟩
        rcases ownE_cases d.2 x with ⟨j, hj, e⟩ | e
        · have := (rightB_iff.1 ((kernF_ok hk).2.2 j hj).1).1
          rw [← e, h] at this
          exact this
        · exact absurd (by rw [e]) hne
    · simp at h
  · rename_i hk
    simp only [Prod.mk.injEq] at h
    exact absurd h.1 hk

set_option maxHeartbeats 3200000 in
theorem keyFault_any (w : World) (vB vC vE : Value) (d : KD) (key x : Int) (h : KernR w vB vC vE d) :
    Calls Try.prog 54 #[.agg #[vB, vC, vE], .int .i64 key, .int .i64 x] w fun e w' => e = .returned (.int .i64 (mayF d key x)) ∧ Below w.heap.size w w' := by
  obtain ⟨a1, c1, rfl, hm1, _⟩ := h.1.1.open'
  obtain ⟨a2, c2, rfl, _⟩ := h.1.2.open'
  obtain ⟨a3, c3, rfl, _, hE⟩ := h.2.open'
  have H : Hid (KernR w (.slice a1 d.1.1.length c1) (.slice a2 d.1.2.length c2) (.slice a3 d.2.length c3) d) := h
  have HE : Hid (AtE w a3 d.2.length d.2) := hE
  clear h hE
  have HM : Hid (mayF d key x = if (ownR d x).1 = 0 then (if (ownR d x).2 = key then 0 else 6) else (ownR d x).1) := rfl
  rw [HM.out]
  obtain ⟨c, v, hr⟩ : ∃ c v, ownR d x = (c, v) := ⟨_, _, rfl⟩
  have HR : Hid (ownR d x = (c, v)) := hr
  have FACTS : Hid (kernF d = 0 → d.1.1.length ≤ 60 ∧ d.2.length ≤ 8 ∧ ∀ i, i < d.2.length → rightB (extAt d.2 i) d.1.1.length = true) := fun h => by
    obtain ⟨k1, k2, k3⟩ := kernF_ok h
    exact ⟨(faultF_lens k1).1, k2, fun i hi => (k3 i hi).1⟩
  rw [hr]
  clear hr HM hm1
  generalize hlB : d.1.1.length = nB at *
  generalize hlC : d.1.2.length = nC at *
  generalize hlE : d.2.length = nE at *
  have HLE : Hid (d.2.length = nE) := hlE
  clear hlB hlC hlE
  by_cases hc : c = 0
  · subst hc
    obtain ⟨hk, hv, hl1, hl2⟩ := ownR_ok HR.out
    obtain ⟨h60, h8, hrt⟩ := FACTS.out hk
    have HRT : Hid (∀ i, i < nE → rightB (extAt d.2 i) nB = true) := hrt
    have HLK := lockF_eq (key := key) hl1 hl2
    obtain ⟨p, y, z, hez⟩ : ∃ p y z, ownE d.2 x = (p, y, z) := ⟨_, _, _, rfl⟩
    have HEZ : Hid (ownE d.2 x = (p, y, z)) := hez
    rw [hez] at hv
    dsimp only at hv
    subst hv
    clear hk hrt FACTS hl1 hl2 hez
    rw [if_pos rfl]
    by_cases hv : z = key
    · have HLK2 : Hid ((lockF z == lockF key) = true) := by unfold Hid; rw [HLK]; simpa using hv
      rw [if_pos hv]
      clear HLK hv
      go_enter Try.func54, Try.ntmps54
      go_wp2_with fail
      refine (implOwner_any _ _ _ _ d x (H.out.later (later1 _ _))).mono ?_
      rw [HR.out]
      rintro e w1 ⟨rfl, hb1⟩
      have HW1 : Hid (Below w.heap.size w w1) := (later1 _ _).trans (hb1.mono (by simp))
      have HX1 : Hid (Bx w1 w.heap.size [.slice a1 nB c1, .slice a2 nC c2, .slice a3 nE c3]) := (Bx.new w [.slice a1 nB c1, .slice a2 nC c2, .slice a3 nE c3] _).later hb1
      have x2 := HX1.out 2 _ rfl
      have hz1 : w.heap.size < w1.heap.size := HX1.out.lt
      clear hb1
      go_wp2_with fail
      refine (extWith_walk _ a3 nE c3 nB d.2 x HLE.out (HE.out.later (HW1.out.trans ((later1 _ _).mono HW1.out.size))) h8 h60 HRT.out).mono ?_
      rw [HEZ.out]
      rintro e w2 ⟨rfl, hb2⟩
      have HW2 : Hid (Below w.heap.size w w2) := (HW1.out.trans ((later1 _ _).mono HW1.out.size)).trans (hb2.mono (by have := HW1.out.size; simp; omega))
      clear hb2 x2
      go_wp2_with fail
      refine (opensTo_any _ p y z key).mono ?_
      rw [HLK2.out]
      rintro e w3 ⟨rfl, hb3⟩
      have HW3 : Hid (Below w.heap.size w w3) := HW2.out.trans (hb3.mono HW2.out.size)
      clear hb3
      go_wp2
      go_ret
      exact ⟨rfl, HW3.out⟩
    · have HLK2 : Hid ((lockF z == lockF key) = false) := by unfold Hid; rw [HLK]; simpa using hv
      rw [if_neg hv]
      clear HLK hv
      go_enter Try.func54, Try.ntmps54
      go_wp2_with fail
      refine (implOwner_any _ _ _ _ d x (H.out.later (later1 _ _))).mono ?_
      rw [HR.out]
      rintro e w1 ⟨rfl, hb1⟩
      have HW1 : Hid (Below w.heap.size w w1) := (later1 _ _).trans (hb1.mono (by simp))
      have HX1 : Hid (Bx w1 w.heap.size [.slice a1 nB c1, .slice a2 nC c2, .slice a3 nE c3]) := (Bx.new w [.slice a1 nB c1, .slice a2 nC c2, .slice a3 nE c3] _).later hb1
      have x2 := HX1.out 2 _ rfl
      have hz1 : w.heap.size < w1.heap.size := HX1.out.lt
      clear hb1
      go_wp2_with fail
      refine (extWith_walk _ a3 nE c3 nB d.2 x HLE.out (HE.out.later (HW1.out.trans ((later1 _ _).mono HW1.out.size))) h8 h60 HRT.out).mono ?_
      rw [HEZ.out]
      rintro e w2 ⟨rfl, hb2⟩
      have HW2 : Hid (Below w.heap.size w w2) := (HW1.out.trans ((later1 _ _).mono HW1.out.size)).trans (hb2.mono (by have := HW1.out.size; simp; omega))
      clear hb2 x2
      go_wp2_with fail
      refine (opensTo_any _ p y z key).mono ?_
      rw [HLK2.out]
      rintro e w3 ⟨rfl, hb3⟩
      have HW3 : Hid (Below w.heap.size w w3) := HW2.out.trans (hb3.mono HW2.out.size)
      clear hb3
      go_wp2
      go_ret
      exact ⟨rfl, HW3.out⟩
  · have hne : (c != 0) = true := by simpa using hc
    rw [if_neg hc]
    clear hc FACTS
    go_enter Try.func54, Try.ntmps54
    go_wp2_with fail
    refine (implOwner_any _ _ _ _ d x (H.out.later (later1 _ _))).mono ?_
    rw [HR.out]
    rintro e w1 ⟨rfl, hb1⟩
    have HW1 : Hid (Below w.heap.size w w1) := (later1 _ _).trans (hb1.mono (by simp))
    clear hb1
    go_wp2
    go_ret
    exact ⟨rfl, HW1.out.trans ((later1 _ _).mono HW1.out.size)⟩
end Go.Proofs.Ytmjdechoookpmaa

namespace Go.Proofs.Ytmjdechoookpmaa
open Go.RowKit
set_option maxRecDepth 100000

theorem append_lit (W : World) (ty : TypeId) (base g : Nat) (fs : List E3) (hrow : W.heap[g]? = some (.cells #[] 102 (0, 0))) (hbg : base ≤ g) (a : Option Addr) (cap : Nat) (hn : fs.length ≤ 1048576) (hc : AtE W a fs.length fs) :
    ∃ a' c' X, (Builtin.append_ #[52, 52] ty #[.slice (some ⟨g, 0, none⟩) 0 0, .slice a fs.length cap]).run Try.prog W = .ok (.slice a' fs.length c') X ∧ Below base W X ∧ ExtsO X (.slice a' fs.length c') fs (fun b => (b = g ∨ W.heap.size ≤ b) ∧ b < X.heap.size) ∧
      (∀ b, b < W.heap.size → b ≠ g → X.heap[b]? = W.heap[b]?) := by
  have hgl : g < W.heap.size := (Array.getElem?_eq_some_iff.1 hrow).1
  have h : ERow W base (.slice (some ⟨g, 0, none⟩) 0 0) [] := ⟨by simp [exCells], Or.inr ⟨g, 0, #[], rfl, hbg, hrow, Nat.le_refl _, by unfold maxLen; omega, by simp, by simp [exCells]⟩⟩
  obtain ⟨v', X, hr, ho, hB, hk, hg, a', c', rfl⟩ := append_exts W ty base _ [] fs h (by omega) a cap (by simpa using hn) hc
  simp only [List.length_nil, Nat.zero_add, List.nil_append] at hr ho hg
  refine ⟨a', c', X, hr, hB, ho.exts.mono fun b hb => ⟨?_, hb.2.2⟩, fun b hb hne => hk b hb (by simp only [Value.ownBlock]; simpa using fun e => hne e.symm)⟩
  rcases hg b hb.1 with e | e
  · simp only [Value.ownBlock, Option.some.injEq] at e
    exact Or.inl e.symm
  · exact Or.inr e
end Go.Proofs.Ytmjdechoookpmaa

namespace Go.Proofs.Ytmjdechoookpmaa
open Go.RowKit
set_option maxRecDepth 100000

theorem KResU.of {w : World} {vW vB vC vE : Value} {ws : List Int} {d : DK} {es : List E3} {F1 F2 F3 F : Nat → Prop} (h1 : IntsO w vW ws F1) (h2 : DiskU w vB vC d F2) (h3 : ExtsO w vE es F3) (d12 : ∀ b, F1 b → ¬ F2 b) (d13 : ∀ b, F1 b → ¬ F3 b) (d23 : ∀ b, F2 b → ¬ F3 b) (hf : ∀ b, F1 b ∨ F2 b ∨ F3 b → F b) : KResU w vW vB vC vE (ws, d, es) F :=
  ⟨F1, fun b => F2 b ∨ F3 b, h1, ⟨F2, F3, h2, h3, d23, fun _ h => h⟩, fun b h h' => h'.elim (d12 b h) (d13 b h), hf⟩
theorem set5 {w : World} {β b : Nat} (v0 v1 v2 v3 v4 : Value) (hb : b ≠ β) : (((((w.setCell ⟨β, 0, none⟩ v0).setCell ⟨β, 1, none⟩ v1).setCell ⟨β, 2, none⟩ v2).setCell ⟨β, 3, none⟩ v3).setCell ⟨β, 4, none⟩ v4).heap[b]? = w.heap[b]? := by
  rw [Below.heap_setCell _ _ _ _ hb, Below.heap_setCell _ _ _ _ hb, Below.heap_setCell _ _ _ _ hb, Below.heap_setCell _ _ _ _ hb, Below.heap_setCell _ _ _ _ hb]
theorem ansK_ret {w W : World} {β : Nat} {code : Int} {aW : Option Addr} {nW cW : Nat} {aB : Option Addr} {nB cB : Nat} {aC : Option Addr} {nC cC : Nat} {aE : Option Addr} {nE cE : Nat} {d : KResD} {F : Nat → Prop} (hb : Below w.heap.size w W) (hβ : w.heap.size ≤ β) (h : KResU W (.slice aW nW cW) (.slice aB nB cB) (.slice aC nC cC) (.slice aE nE cE) d F) (hF : ∀ b, F b → w.heap.size ≤ b ∧ b < W.heap.size ∧ b ≠ β) :
    AnsKR w (code, d) (.returned (.agg #[.int .i64 code, .slice aW nW cW, .slice aB nB cB, .slice aC nC cC, .slice aE nE cE])) (((((W.setCell ⟨β, 0, none⟩ (.int .i64 code)).setCell ⟨β, 1, none⟩ (.slice aW nW cW)).setCell ⟨β, 2, none⟩ (.slice aB nB cB)).setCell ⟨β, 3, none⟩ (.slice aC nC cC)).setCell ⟨β, 4, none⟩ (.slice aE nE cE)) :=
  ⟨_, _, _, _, _, _, _, _, _, _, _, _, rfl, ((((hb.setCell hβ _).setCell hβ _).setCell hβ _).setCell hβ _).setCell hβ _, (h.keep fun b hf _ => set5 _ _ _ _ _ (hF b hf).2.2).mono fun b hf => ⟨(hF b hf).1, by simpa [World.setCell] using (hF b hf).2.1⟩⟩
theorem ansK_no {w W : World} {β : Nat} (hb : Below w.heap.size w W) (hβ : w.heap.size ≤ β) (code : Int) :
    AnsKR w (code, [], ([], []), []) (.returned (.agg #[.int .i64 code, .slice none 0 0, .slice none 0 0, .slice none 0 0, .slice none 0 0])) (((((W.setCell ⟨β, 0, none⟩ (.int .i64 code)).setCell ⟨β, 1, none⟩ (.slice none 0 0)).setCell ⟨β, 2, none⟩ (.slice none 0 0)).setCell ⟨β, 3, none⟩ (.slice none 0 0)).setCell ⟨β, 4, none⟩ (.slice none 0 0)) :=
  ansK_bad (((((hb.setCell hβ _).setCell hβ _).setCell hβ _).setCell hβ _).setCell hβ _) code

theorem AnsKR.later {w W W' : World} {r : Int × KResD} {e : Ending} (h : AnsKR w r e W) (hb : Below W.heap.size W W') : AnsKR w r e W' := by
  obtain ⟨aW, nW, cW, aB, nB, cB, aC, nC, cC, aE, nE, cE, h1, h2, h3⟩ := h
  exact ⟨aW, nW, cW, aB, nB, cB, aC, nC, cC, aE, nE, cE, h1, h2.trans (hb.mono h2.size), (h3.later hb).mono fun b hf => ⟨hf.1, Nat.lt_of_lt_of_le hf.2 hb.size⟩⟩

theorem l2Bad_any (w : World) (c : Int) : Calls Try.prog 49 #[.int .i64 c] w fun e w' => e = .returned (.agg #[.int .i64 c, .slice none 0 0, .slice none 0 0, .slice none 0 0, .slice none 0 0]) ∧ Below w.heap.size w w' := by
  go_enter Try.func49, Try.ntmps49
  go_wp2
  exact bodyPost_ret (v := .agg #[.int .i64 c, .slice none 0 0, .slice none 0 0, .slice none 0 0, .slice none 0 0]) (by simp [results, Try.results49, go_sem]) rfl ⟨rfl, later1 _ _⟩

def newK (size : Int) : Int × KResD := (newCode size, [], (newBlocks size, []), [])
/-- The cells of an empty answer. -/
def zero5 : List Value := [.int .i64 0, .slice none 0 0, .slice none 0 0, .slice none 0 0, .slice none 0 0]

theorem newSpan (size : Int) : spanKRes (newK size).2 = 0 := by
  simp only [newK, spanKRes, spanKern, spanDisk, dspan, newBlocks]
  split <;> simp [wlens]
end Go.Proofs.Ytmjdechoookpmaa

namespace Go.Proofs.Ytmjdechoookpmaa
open Go.RowKit
set_option maxRecDepth 100000

/-- An answer that is a kern of its own memory. -/
def AnsKern (w : World) (d : KD) (e : Ending) (w' : World) : Prop := ∃ a1 n1 c1 a2 n2 c2 a3 n3 c3, e = .returned (.agg #[.slice a1 n1 c1, .slice a2 n2 c2, .slice a3 n3 c3]) ∧ Below w.heap.size w w' ∧ KernU w' (.slice a1 n1 c1) (.slice a2 n2 c2) (.slice a3 n3 c3) d (fresh w w')

theorem l1CopyU (hcp : L1CopySaid) (w : World) (aB aC : Option Addr) (cB cC : Nat) (bs : List (List Int)) (ps : List (Int × List Int)) (g1 : bs.length ≤ 60) (g2 : ps.length ≤ 200) (hz : ∀ k : Nat, (bs[k]?.getD []).length ≤ 1048576) (hzp : ∀ k : Nat, (ps[k]?.getD (0, [])).2.length ≤ 1048576) (hB : AtS w aB bs.length bs) (hP : AtP w aC ps.length ps) :
    Calls Try.prog 82 #[.agg #[.slice aB bs.length cB, .slice aC ps.length cC]] w fun e w' => ∃ aX nX cX aY nY cY, e = .returned (.agg #[.slice aX nX cX, .slice aY nY cY]) ∧ Below w.heap.size w w' ∧ DiskU w' (.slice aX nX cX) (.slice aY nY cY) (bs, ps) (fresh w w') := by
  refine (hcp w aB aC bs.length cB ps.length cC bs ps rfl rfl g1 g2 hz hzp hB hP).mono ?_
  rintro e w1 ⟨S, aX, cX, aY, cY, k, u, rfl, hb1, hS1, hS2, hio, hlr⟩
  refine ⟨_, _, _, _, _, _, rfl, hb1, fun c => w.heap.size ≤ c ∧ c < S, fun c => S ≤ c ∧ c < w1.heap.size, hio, ?_, fun b h1 h2 => by omega, fun b hb => ?_⟩
  · exact LRow.puts2 (ps := ps) hlr rfl _ (fun g hg => hlr.own.lt g hg) (fun i hi => hlr.lo i hi)
  · unfold fresh
    rcases hb with hb | hb <;> omega

/-- Behind the copying of the disk: what appending the extents comes to (the empty list lies at g). -/
theorem lit_after {w w1 : World} {g lo : Nat} {es : List E3} {aE : Option Addr} {cE : Nat} {f : Nat → Value} (hg : w1.heap[g]? = some (.cells #[] 102 (0, 0))) (hlg : lo ≤ g) (hwl : w.heap.size + 1 < lo) (hE : AtE w1 aE es.length es) (hn : es.length ≤ 1048576) (hR : OwnRow w1 (w.heap.size + 1) 3 f) :
    ∃ a' c' X, (Builtin.append_ #[52, 52] 52 #[.slice (some ⟨g, 0, none⟩) 0 0, .slice aE es.length cE]).run Try.prog w1 = .ok (.slice a' es.length c') X ∧ Below lo w1 X ∧ ExtsO X (.slice a' es.length c') es (fun b => (b = g ∨ w1.heap.size ≤ b) ∧ b < X.heap.size) ∧ (∀ b, b < w1.heap.size → b ≠ g → X.heap[b]? = w1.heap[b]?) ∧ OwnRow X (w.heap.size + 1) 3 f := by
  obtain ⟨a', c', X, hr, hBX, hEX, hKX⟩ := append_lit w1 52 lo g es hg hlg aE cE hn hE
  exact ⟨a', c', X, hr, hBX, hEX, hKX, hR.block (hKX _ hR.lt (by omega))⟩

set_option maxHeartbeats 3200000 in
theorem l2Copy_any (hcp : L1CopySaid) (w : World) (vB vC vE : Value) (bs : List (List Int)) (ps : List (Int × List Int)) (es : List E3) (h : KernR w vB vC vE ((bs, ps), es)) (hf : faultF bs ps = 0) (he : es.length ≤ 8)
    (hz : ∀ k : Nat, (bs[k]?.getD []).length ≤ 1048576) (hzp : ∀ k : Nat, (ps[k]?.getD (0, [])).2.length ≤ 1048576) :
    Calls Try.prog 51 #[.agg #[vB, vC, vE]] w (AnsKern w ((bs, ps), es)) := by
  obtain ⟨aB, cB, rfl, _, sB⟩ := h.1.1.open'
  obtain ⟨aC, cC, rfl, _, sP⟩ := h.1.2.open'
  obtain ⟨aE, cE, rfl, _, sE⟩ := h.2.open'
  dsimp only at sB sP sE ⊢
  have HCP : Hid L1CopySaid := hcp
  have SB : Hid (AtS w aB bs.length bs) := sB
  have SP : Hid (AtP w aC ps.length ps) := sP
  have SE : Hid (AtE w aE es.length es) := sE
  obtain ⟨g1, g2⟩ := faultF_lens hf
  have G1 : Hid (bs.length ≤ 60) := g1
  have G2 : Hid (ps.length ≤ 200) := g2
  have G3 : Hid (es.length ≤ 1048576) := by unfold Hid; omega
  have HZ : Hid (∀ k : Nat, (bs[k]?.getD []).length ≤ 1048576) := hz
  have HZP : Hid (∀ k : Nat, (ps[k]?.getD (0, [])).2.length ≤ 1048576) := hzp
  clear h hcp sB sP sE hf hz hzp g1 g2 he
  generalize hlB : bs.length = nB at *
  generalize hlC : ps.length = nC at *
  generalize hlE : es.length = nE at *
  have HLB : Hid (bs.length = nB) := hlB
  have HLC : Hid (ps.length = nC) := hlC
  have HLE : Hid (es.length = nE) := hlE
  clear hlB hlC hlE
  -- the two ways: the empty list behind the call, or ahead of it
  have HKA : Hid (∀ W0 : World, W0 = (((w.alloc (.cells #[.slice aB nB cB, .slice aC nC cC, .slice aE nE cE] 54)).alloc (.cells #[.slice none 0 0, .slice none 0 0, .slice none 0 0] 54))) →
      Calls Try.prog 82 #[.agg #[.slice aB nB cB, .slice aC nC cC]] W0.drew fun e w1 => ∃ aX nX cX aY nY cY a' c' X, e = .returned (.agg #[.slice aX nX cX, .slice aY nY cY]) ∧ Hid ((Builtin.append_ #[52, 52] 52 #[.slice (some ⟨w1.heap.size, 0, none⟩) 0 0, .slice aE nE cE]).run Try.prog (w1.alloc (.cells #[] 102)) = .ok (.slice a' nE c') X) ∧
        w.heap.size + 1 < w1.heap.size ∧ w1.cell? ⟨w.heap.size, 2, none⟩ = some (.slice aE nE cE) ∧ Hid (Below w.heap.size w X) ∧ Hid (KernU X (.slice aX nX cX) (.slice aY nY cY) (.slice a' nE c') ((bs, ps), es) (fun b => w.heap.size + 1 < b ∧ b < X.heap.size)) ∧ Hid (OwnRow X (w.heap.size + 1) 3 (fun i => [Value.slice none 0 0, .slice none 0 0, .slice none 0 0][i]?.getD (.bool false)))) := by
    intro W0 e0
    have hW0 : Below w.heap.size w W0 := by rw [e0]; exact later2 _ _ _
    have hz0 : W0.heap.size = w.heap.size + 2 := by rw [e0]; simp
    have hbx : Bx W0 w.heap.size [.slice aB nB cB, .slice aC nC cC, .slice aE nE cE] := by rw [e0]; exact (Bx.new w _ _).later (later1 _ _)
    have hrw : OwnRow W0 (w.heap.size + 1) 3 (fun i => [Value.slice none 0 0, .slice none 0 0, .slice none 0 0][i]?.getD (.bool false)) := by rw [e0]; exact resRowL _ [.slice none 0 0, .slice none 0 0, .slice none 0 0] 54 (Below.refl _ _)
    have h1 := l1CopyU HCP.out W0.drew aB aC cB cC bs ps (by rw [HLB.out]; exact G1.out) (by rw [HLC.out]; exact G2.out) HZ.out HZP.out (by rw [HLB.out]; exact SB.out.later hW0.drew) (by rw [HLC.out]; exact SP.out.later hW0.drew)
    rw [HLB.out, HLC.out] at h1
    refine h1.mono ?_
    rintro e w1 ⟨aX, nX, cX, aY, nY, cY, rfl, hb1', hd1⟩
    have hb1 : Below W0.heap.size W0 w1 := (Below.refl _ _).drew.trans hb1'
    have hfr : DiskU w1 (.slice aX nX cX) (.slice aY nY cY) (bs, ps) (fun b => W0.heap.size ≤ b ∧ b < w1.heap.size) := hd1
    have hW1 : Below w.heap.size w w1 := hW0.trans (hb1.mono hW0.size)
    have hz1 := hb1.size
    obtain ⟨a', c', X, hr, hBX, hEX, hKX, hRX⟩ := lit_after (w := w) (cE := cE) (Go.Deep.blk_alloc_new w1 (.cells #[] 102)) (Nat.le_refl w1.heap.size) (by omega) (by rw [HLE.out]; exact (SE.out.later hW1).later (later1 _ _)) (by rw [HLE.out]; exact G3.out) ((hrw.later hb1).later (later1 _ _))
    rw [HLE.out] at hr hEX
    have hBX' : Below w1.heap.size w1 X := (later1 _ _).trans hBX
    refine ⟨aX, nX, cX, aY, nY, cY, a', c', X, rfl, hr, by omega, cell_later hb1 (hbx 2 _ rfl), hW1.trans (hBX'.mono hW1.size), ?_, hRX⟩
    refine ⟨fun b => W0.heap.size ≤ b ∧ b < w1.heap.size, fun b => w1.heap.size ≤ b ∧ b < X.heap.size, hfr.later hBX', hEX.mono fun b hb => ⟨by have := hb.1; simp at this; omega, hb.2⟩, fun b h1 h2 => by omega, fun b hb => ?_⟩
    have := hBX'.size
    rcases hb with hb | hb <;> omega
  have HKB : Hid (∀ W0 : World, W0 = ((((w.alloc (.cells #[.slice aB nB cB, .slice aC nC cC, .slice aE nE cE] 54)).alloc (.cells #[.slice none 0 0, .slice none 0 0, .slice none 0 0] 54)).drew.alloc (.cells #[] 102))) →
      Calls Try.prog 82 #[.agg #[.slice aB nB cB, .slice aC nC cC]] W0 fun e w1 => ∃ aX nX cX aY nY cY a' c' X, e = .returned (.agg #[.slice aX nX cX, .slice aY nY cY]) ∧ Hid ((Builtin.append_ #[52, 52] 52 #[.slice (some ⟨w.heap.size + 1 + 1, 0, none⟩) 0 0, .slice aE nE cE]).run Try.prog w1 = .ok (.slice a' nE c') X) ∧
        w.heap.size + 1 < w1.heap.size ∧ w1.cell? ⟨w.heap.size, 2, none⟩ = some (.slice aE nE cE) ∧ Hid (Below w.heap.size w X) ∧ Hid (KernU X (.slice aX nX cX) (.slice aY nY cY) (.slice a' nE c') ((bs, ps), es) (fun b => w.heap.size + 1 < b ∧ b < X.heap.size)) ∧ Hid (OwnRow X (w.heap.size + 1) 3 (fun i => [Value.slice none 0 0, .slice none 0 0, .slice none 0 0][i]?.getD (.bool false)))) := by
    intro W0 e0
    have hW0 : Below w.heap.size w W0 := by rw [e0]; exact ((later2 _ _ _).drew).trans ((later1 _ _).mono (by simp [World.drew]; omega))
    have hz0 : W0.heap.size = w.heap.size + 3 := by rw [e0]; simp [World.drew]
    have hbx : Bx W0 w.heap.size [.slice aB nB cB, .slice aC nC cC, .slice aE nE cE] := by rw [e0]; exact (((Bx.new w _ _).later (later1 _ _)).later (Below.refl _ _).drew).later (later1 _ _)
    have hrw : OwnRow W0 (w.heap.size + 1) 3 (fun i => [Value.slice none 0 0, .slice none 0 0, .slice none 0 0][i]?.getD (.bool false)) := by rw [e0]; exact (resRowL _ [.slice none 0 0, .slice none 0 0, .slice none 0 0] 54 (Below.refl _ _).drew).later (later1 _ _)
    have hgw : W0.heap[w.heap.size + 1 + 1]? = some (.cells #[] 102 (0, 0)) := by
      rw [e0]
      have := Go.Deep.blk_alloc_new ((w.alloc (.cells #[.slice aB nB cB, .slice aC nC cC, .slice aE nE cE] 54)).alloc (.cells #[.slice none 0 0, .slice none 0 0, .slice none 0 0] 54)).drew (.cells #[] 102)
      simpa [World.drew] using this
    have h1 := l1CopyU HCP.out W0 aB aC cB cC bs ps (by rw [HLB.out]; exact G1.out) (by rw [HLC.out]; exact G2.out) HZ.out HZP.out (by rw [HLB.out]; exact SB.out.later hW0) (by rw [HLC.out]; exact SP.out.later hW0)
    rw [HLB.out, HLC.out] at h1
    refine h1.mono ?_
    rintro e w1 ⟨aX, nX, cX, aY, nY, cY, rfl, hb1, hd1⟩
    have hfr : DiskU w1 (.slice aX nX cX) (.slice aY nY cY) (bs, ps) (fun b => W0.heap.size ≤ b ∧ b < w1.heap.size) := hd1
    have hW1 : Below w.heap.size w w1 := hW0.trans (hb1.mono hW0.size)
    have hz1 := hb1.size
    obtain ⟨a', c', X, hr, hBX, hEX, hKX, hRX⟩ := lit_after (w := w) (w1 := w1) (g := w.heap.size + 1 + 1) (cE := cE) (lo := w.heap.size + 1 + 1) (by rw [hb1.block _ (by omega)]; exact hgw) (Nat.le_refl _) (by omega) (by rw [HLE.out]; exact SE.out.later hW1) (by rw [HLE.out]; exact G3.out) (hrw.later hb1)
    rw [HLE.out] at hr hEX
    refine ⟨aX, nX, cX, aY, nY, cY, a', c', X, rfl, hr, by omega, cell_later hb1 (hbx 2 _ rfl), hW1.trans (hBX.mono (by omega)), ?_, hRX⟩
    refine ⟨fun b => W0.heap.size ≤ b ∧ b < w1.heap.size, fun b => (b = w.heap.size + 1 + 1 ∨ w1.heap.size ≤ b) ∧ b < X.heap.size, hfr.keep fun b hb hlt => hKX b hlt (by omega), hEX, fun b h1 h2 => by omega, fun b hb => ?_⟩
    have := hBX.size
    rcases hb with hb | hb <;> omega
  clear HCP SB SP SE G1 G2 G3 HZ HZP HLB HLC HLE
  go_enter Try.func51, Try.ntmps51
  go_wp2_with fail
  go_region_law (first
    | (refine step_append_run rfl _ _ 52 rfl _ _ rfl rfl _ _ HR.out ?_)
    | (try go_simp; go_at_call 82; refine (HKA.out _ rfl).mono ?_; rintro e w1 ⟨aX, nX, cX, aY, nY, cY, a', c', X, rfl, HR, hz1, x2, HBX, HKX, HRX⟩
       have hz0 : w.heap.size < w1.heap.size := by omega
       have t0 := HRX.out.cell (i := 0) (by simp)
       have t1 := HRX.out.cell (i := 1) (by simp)
       have t2 := HRX.out.cell (i := 2) (by simp)
       have s0 := HRX.out.frozen 0
       have s1 := HRX.out.frozen 1
       have s2 := HRX.out.frozen 2
       simp at t0 t1 t2)
    | (try go_simp; go_at_call 82; refine (HKB.out _ rfl).mono ?_; rintro e w1 ⟨aX, nX, cX, aY, nY, cY, a', c', X, rfl, HR, hz1, x2, HBX, HKX, HRX⟩
       have hz0 : w.heap.size < w1.heap.size := by omega
       have t0 := HRX.out.cell (i := 0) (by simp)
       have t1 := HRX.out.cell (i := 1) (by simp)
       have t2 := HRX.out.cell (i := 2) (by simp)
       have s0 := HRX.out.frozen 0
       have s1 := HRX.out.frozen 1
       have s2 := HRX.out.frozen 2
       simp at t0 t1 t2))
  all_goals
    clear HKA HKB HR
    go_wp2
    refine bodyPost_ret (v := .agg #[.slice aX nX cX, .slice aY nY cY, .slice a' nE c']) (by simp [results, Try.results51, go_sem, t0, t1, t2]) rfl ⟨_, _, _, _, _, _, _, _, _, rfl, ((HBX.out.setCell (by simp) _).setCell (by simp) _).setCell (by simp) _, ?_⟩
    refine (HKX.out.keep fun b hb _ => ?_).mono fun b hb => ?_
    · rw [Below.heap_setCell _ _ _ _ (by simp; omega), Below.heap_setCell _ _ _ _ (by simp; omega), Below.heap_setCell _ _ _ _ (by simp; omega)]
    · unfold fresh
      simp only [World.setCell, Array.size_modify]
      omega
end Go.Proofs.Ytmjdechoookpmaa


/- FlushKern, the specification's. -/
import Derived.Test.YtojegkekafampaiFlkA
import Derived.Test.YtojegkekafampaiWrkU
namespace Go.Proofs.Ytojegkekafampai
open Go.RowKit
set_option maxRecDepth 100000

set_option maxHeartbeats 3200000 in
theorem specFlushK_any (hcp : L1CopySaid) (w : World) (vB vC vE : Value) (d : KD) (key : Int) (h : KernR w vB vC vE d) (hz : ∀ k : Nat, (d.1.1[k]?.getD []).length ≤ 1048576) (hzp : ∀ k : Nat, (d.1.2[k]?.getD (0, [])).2.length ≤ 1048576) :
    Calls Try.prog 18 #[.agg #[vB, vC, vE], .int .i64 key] w (AnsKR w (flushK d key)) := by
  obtain ⟨a1, c1, rfl, _, sB⟩ := h.1.1.open'
  obtain ⟨a2, c2, rfl, _, sP⟩ := h.1.2.open'
  obtain ⟨a3, c3, rfl, _, sE⟩ := h.2.open'
  have H : Hid (KernR w (.slice a1 d.1.1.length c1) (.slice a2 d.1.2.length c2) (.slice a3 d.2.length c3) d) := h
  have HE : Hid (AtE w a3 d.2.length d.2) := sE
  have HRR : Hid (flushK d key = if kernF d = 0 then (if anyKey d.2 key = true then (0, [], (keepBlocks (fun _ => true) d.1.1 d.1.2, []), d.2) else (6, [], ([], []), [])) else (kernF d, [], ([], []), [])) := rfl
  have HCP : Hid (kernF d = 0 → ∀ W : World, Below w.heap.size w W → Calls Try.prog 41 #[.agg #[.slice a1 d.1.1.length c1, .slice a2 d.1.2.length c2, .slice a3 d.2.length c3]] W (AnsKern W d)) := fun h0 W hW => l2Copy_any hcp W _ _ _ d.1.1 d.1.2 d.2 (h.later hW) (kernF_ok h0).1 (kernF_ok h0).2.1 hz hzp
  have HKP : Hid (kernF d = 0 → ∀ W : World, Below w.heap.size w W → Calls Try.prog 57 #[.agg #[.slice a1 d.1.1.length c1, .slice a2 d.1.2.length c2], .slice none 0 0, .bool true] W fun e W' => ∃ aX nX cX, e = .returned (.agg #[.slice aX nX cX, .slice none 0 0]) ∧ Below W.heap.size W W' ∧ IntsSO W' (.slice aX nX cX) (keepBlocks (fun _ => true) d.1.1 d.1.2) (fresh W W')) := fun h0 W hW => by
    have hk := (kernF_ok h0).1
    have := l1Keep_any hcp W a1 a2 none c1 c2 0 0 true d.1.1 d.1.2 [] (faultF_lens hk).1 (faultF_lens hk).2 hz hzp (sB.later hW) (sP.later hW) (faultF_places hk) rfl (fun k hk => absurd hk (Nat.not_lt_zero k))
    refine this.mono ?_
    rintro e W' ⟨aX, cX, rfl, hb, hio⟩
    refine ⟨_, _, _, rfl, hb, ?_⟩
    unfold keepBlocks
    rw [if_pos hk]
    simpa using hio
  have HL8 : Hid (kernF d = 0 → d.2.length ≤ 8) := fun h0 => (kernF_ok h0).2.1
  have HRT : Hid (kernF d = 0 ∧ anyKey d.2 key = true → flushK d key = (0, [], (keepBlocks (fun _ => true) d.1.1 d.1.2, []), d.2)) := fun hh => by rw [HRR.out, if_pos hh.1, if_pos hh.2]
  have HRF : Hid (kernF d = 0 ∧ anyKey d.2 key = false → flushK d key = (6, [], ([], []), [])) := fun hh => by rw [HRR.out, if_pos hh.1, if_neg (by rw [hh.2]; simp)]
  have HRN : Hid (¬ kernF d = 0 → flushK d key = (kernF d, [], ([], []), [])) := fun hh => by rw [HRR.out, if_neg hh]
  clear h hz hzp HRR sE sB sP hcp
  generalize d.1.1.length = nB at *
  generalize d.1.2.length = nC at *
  generalize hlE : d.2.length = nE at *
  have HLE : Hid (d.2.length = nE) := hlE
  clear hlE
  generalize hm : kernF d = m at *
  have HM : Hid (kernF d = m) := hm
  clear hm
  by_cases h0 : m = 0
  · subst h0
    have KRT : Hid (anyKey d.2 key = true → flushK d key = (0, [], (keepBlocks (fun _ => true) d.1.1 d.1.2, []), d.2)) := fun hh => HRT.out ⟨rfl, hh⟩
    have KRF : Hid (anyKey d.2 key = false → flushK d key = (6, [], ([], []), [])) := fun hh => HRF.out ⟨rfl, hh⟩
    clear HRT HRF HRN
    have KCP : Hid _ := HCP.out rfl
    have KKP : Hid _ := HKP.out rfl
    have h8 := HL8.out rfl
    clear HCP HKP HL8
    go_enter Try.func18, Try.ntmps18
    go_wp2_with fail
    refine (l2Fault_any (d := d) (((Bx.new w [.slice a1 nB c1, .slice a2 nC c2, .slice a3 nE c3] _).later (later1 _ _)) 0 _ rfl) (((Bx.new w [.slice a1 nB c1, .slice a2 nC c2, .slice a3 nE c3] _).later (later1 _ _)) 1 _ rfl) (((Bx.new w [.slice a1 nB c1, .slice a2 nC c2, .slice a3 nE c3] _).later (later1 _ _)) 2 _ rfl) (H.out.later (later2 _ _ _))).mono ?_
    rw [HM.out]
    rintro e w1 ⟨rfl, hb1⟩
    have HW1 : Hid (Below w.heap.size w w1) := (later2 _ _ _).trans (hb1.mono (by simp; omega))
    have HX1 : Hid (Bx w1 w.heap.size [.slice a1 nB c1, .slice a2 nC c2, .slice a3 nE c3]) := ((Bx.new w [.slice a1 nB c1, .slice a2 nC c2, .slice a3 nE c3] _).later (later1 _ _)).later hb1
    have HR1 : Hid (OwnRow w1 (w.heap.size + 1) zero5.length (fun i => zero5[i]?.getD (.bool false))) := resRowL _ zero5 _ hb1
    have hzr : w.heap.size + 1 < w1.heap.size := HR1.out.lt
    clear hb1
    go_wp2
    go_loopw [6] (fun i wr => ∃ j : Nat, j ≤ nE ∧ i = .int .i64 j ∧ Below w1.heap.size w1 wr ∧ ∀ i : Nat, i < j → ((extAt d.2 i).2.2 == key) = false) (fun i _ => nE - (intOf i).toNat)
    case atStart => exact ⟨0, Nat.zero_le _, rfl, Below.refl _ _, fun i hi => by omega⟩
    case round =>
      obtain ⟨j, hj, rfl, hbl, hall⟩ := hrel
      have HA : Hid (∀ i : Nat, i < j → ((extAt d.2 i).2.2 == key) = false) := hall
      have HWR : Hid (Below w.heap.size w wr) := HW1.out.trans (hbl.mono HW1.out.size)
      have HBL : Hid (Below w1.heap.size w1 wr) := hbl
      have HXR : Hid (Bx wr w.heap.size [.slice a1 nB c1, .slice a2 nC c2, .slice a3 nE c3]) := HX1.out.later hbl
      have x0 := HXR.out 0 _ rfl
      have x1 := HXR.out 1 _ rfl
      have x2 := HXR.out 2 _ rfl
      have hzr' : w.heap.size + 1 < wr.heap.size := by have := hbl.size; omega
      clear hall hbl
      by_cases hlt : j < nE
      · obtain ⟨b, off, rfl, c0, c1', c2'⟩ := HE.out j hlt
        replace c2' := cell_later HWR.out c2'
        have HX : Hid ((extAt d.2 j).2.2 = (d.2[j]?.getD (0, 0, 0)).2.2) := rfl
        generalize (d.2[j]?.getD (0, 0, 0)).2.2 = z at *
        clear c0 c1'
        cases hh : (z == key)
        · have HH : Hid (((extAt d.2 j).2.2 == key) = false) := by unfold Hid; rw [HX.out]; exact hh
          go_wp2
          go_roundw
          case rel =>
            refine ⟨j + 1, by omega, by go_num, HBL.out, fun i hi => ?_⟩
            by_cases e : i = j
            · subst e; exact HH.out
            · exact HA.out i (by omega)
          case measure => simp [intOf]; omega
        · have HZ : Hid (anyKey d.2 key = true) := anyKey_at (j := j) (by rw [HLE.out]; exact hlt) (by rw [HX.out]; exact hh)
          go_wp2_with fail
          refine (KCP.out _ HWR.out).mono ?_
          rintro e w2 ⟨b1, m1, k1, b2, m2, k2, b3, m3, k3, rfl, hb2, hk2⟩
          have HW2 : Hid (Below w.heap.size w w2) := HWR.out.trans (hb2.mono HWR.out.size)
          have HX2 : Hid (Bx w2 w.heap.size [.slice a1 nB c1, .slice a2 nC c2, .slice (some ⟨b, off, none⟩) nE c3]) := HXR.out.later hb2
          have HR2 : Hid (OwnRow w2 (w.heap.size + 1) zero5.length (fun i => zero5[i]?.getD (.bool false))) := (HR1.out.later HBL.out).later hb2
          obtain ⟨F1, G1, _, hex, hdis, hsub⟩ := hk2
          have HE2 : Hid (ExtsO w2 (.slice b3 m3 k3) d.2 (fun b => wr.heap.size ≤ b ∧ b < w2.heap.size)) := hex.mono fun b hb => hsub b (Or.inr hb)
          have y0 := HX2.out 0 _ rfl
          have y1 := HX2.out 1 _ rfl
          have hz2 : wr.heap.size ≤ w2.heap.size := hb2.size
          have hzz : w.heap.size < w2.heap.size := by omega
          clear hb2 hex hdis hsub x0 x1 x2 c2'
          go_wp2_with fail
          refine (KKP.out _ (HW2.out.trans ((later1 _ _).mono HW2.out.size))).mono ?_
          rintro e w3 ⟨aX, nX, cX, rfl, hb3, hio⟩
          have hb23 : Below w2.heap.size w2 w3 := (later1 _ _).trans (hb3.mono (by simp))
          have HW3 : Hid (Below w.heap.size w w3) := HW2.out.trans (hb23.mono HW2.out.size)
          have HO3 : OwnRow w3 w2.heap.size 3 _ := (OwnRow.newL w2 [.slice b1 m1 k1, .slice b2 m2 k2, .slice b3 m3 k3] 36).later hb3
          have hio' : IntsSO w3 (.slice aX nX cX) (keepBlocks (fun _ => true) d.1.1 d.1.2) (fun b => w2.heap.size < b ∧ b < w3.heap.size) := hio.mono fun b hb => ⟨by have h := hb.1; rw [World.size_alloc] at h; exact h, hb.2⟩
          have HK3 : Hid (KResU w3 (.slice none 0 0) (.slice aX nX cX) (.slice none 0 0) (.slice b3 m3 k3) ([], (keepBlocks (fun _ => true) d.1.1 d.1.2, []), d.2) (fun b => wr.heap.size ≤ b ∧ b < w3.heap.size ∧ b ≠ w2.heap.size)) :=
            KResU.of (F1 := fun _ => False) (F2 := fun b => w2.heap.size < b ∧ b < w3.heap.size) (F3 := fun b => wr.heap.size ≤ b ∧ b < w2.heap.size) (Or.inl ⟨rfl, none, 0, rfl⟩) ⟨fun b => w2.heap.size < b ∧ b < w3.heap.size, fun _ => False, hio', Or.inl ⟨rfl, none, 0, rfl⟩, fun _ _ h => h, fun b h => h.elim id False.elim⟩ (HE2.out.later hb23) (fun _ h => h.elim) (fun _ h => h.elim) (fun b h h' => by omega) (fun b h => by have := hb23.size; rcases h with h | h | h; exact h.elim; all_goals omega)
          have q0 := HO3.cell (i := 0) (by simp)
          have q1 := HO3.cell (i := 1) (by simp)
          have q2 := HO3.cell (i := 2) (by simp)
          have r0 := HO3.frozen 0
          have r1 := HO3.frozen 1
          simp at q0 q1 q2
          have hz3 : w2.heap.size < w3.heap.size := HO3.lt
          have HR3 := HR2.out.later hb23
          have t0 := HR3.cell (i := 0) (by simp [zero5])
          have t1 := HR3.cell (i := 1) (by simp [zero5])
          have t2 := HR3.cell (i := 2) (by simp [zero5])
          have t3 := HR3.cell (i := 3) (by simp [zero5])
          have t4 := HR3.cell (i := 4) (by simp [zero5])
          have s0 := HR3.frozen 0
          have s1 := HR3.frozen 1
          have s2 := HR3.frozen 2
          have s3 := HR3.frozen 3
          have s4 := HR3.frozen 4
          simp [zero5] at t0 t1 t2 t3 t4
          have hn1 : w.heap.size + 1 ≠ w2.heap.size := by omega
          have hn2 : w2.heap.size ≠ w.heap.size + 1 := by omega
          clear hb3 hb23 HO3 hio hio' HR3 y0 y1
          go_wp2
          refine bodyPost_ret (v := .agg #[.int .i64 0, .slice none 0 0, .slice aX nX cX, .slice none 0 0, .slice b3 m3 k3]) (by simp [results, Try.results18, go_sem, t0, t1, t2, t3, t4]) rfl ?_
          rw [KRT.out HZ.out]
          have HK4 := HK3.out.keep (w' := (w3.setCell ⟨w2.heap.size, 0, none⟩ (.slice aX nX cX)).setCell ⟨w2.heap.size, 1, none⟩ (.slice none 0 0)) fun b hb _ => by rw [Below.heap_setCell _ _ _ _ (by simp; omega), Below.heap_setCell _ _ _ _ (by simp; omega)]
          exact ansK_ret ((HW3.out.setCell (by simp; omega) _).setCell (by simp; omega) _) (by omega) HK4 (fun b hb => ⟨by omega, by simp [World.setCell]; omega, by omega⟩)
      · have e : j = nE := by omega
        subst e
        have HZ : Hid (anyKey d.2 key = false) := anyKey_none (fun i hi => HA.out i (by rw [HLE.out] at hi; exact hi))
        go_wp2_with fail
        refine (l2Bad_any _ 6).mono ?_
        rintro e w3 ⟨rfl, hb3⟩
        have HW3 : Hid (Below w.heap.size w w3) := HWR.out.trans (hb3.mono HWR.out.size)
        have HR3 := (HR1.out.later HBL.out).later hb3
        have t0 := HR3.cell (i := 0) (by simp [zero5])
        have t1 := HR3.cell (i := 1) (by simp [zero5])
        have t2 := HR3.cell (i := 2) (by simp [zero5])
        have t3 := HR3.cell (i := 3) (by simp [zero5])
        have t4 := HR3.cell (i := 4) (by simp [zero5])
        have s0 := HR3.frozen 0
        have s1 := HR3.frozen 1
        have s2 := HR3.frozen 2
        have s3 := HR3.frozen 3
        have s4 := HR3.frozen 4
        simp [zero5] at t0 t1 t2 t3 t4
        clear hb3 HR3 x0 x1 x2
        go_wp2
        refine bodyPost_ret (v := .agg #[.int .i64 6, .slice none 0 0, .slice none 0 0, .slice none 0 0, .slice none 0 0]) (by simp [results, Try.results18, go_sem, t0, t1, t2, t3, t4]) rfl ?_
        rw [KRF.out HZ.out]
        exact ansK_no HW3.out (by omega) 6
  · have hne : (m != 0) = true := by simpa using h0
    rw [HRN.out h0]
    clear h0 HCP HKP HL8 HRT HRF HRN
    go_enter Try.func18, Try.ntmps18
    go_wp2_with fail
    refine (l2Fault_any (d := d) (((Bx.new w [.slice a1 nB c1, .slice a2 nC c2, .slice a3 nE c3] _).later (later1 _ _)) 0 _ rfl) (((Bx.new w [.slice a1 nB c1, .slice a2 nC c2, .slice a3 nE c3] _).later (later1 _ _)) 1 _ rfl) (((Bx.new w [.slice a1 nB c1, .slice a2 nC c2, .slice a3 nE c3] _).later (later1 _ _)) 2 _ rfl) (H.out.later (later2 _ _ _))).mono ?_
    rw [HM.out]
    rintro e w1 ⟨rfl, hb1⟩
    have HW1 : Hid (Below w.heap.size w w1) := (later2 _ _ _).trans (hb1.mono (by simp; omega))
    have HX1 : Hid (Bx w1 w.heap.size [.slice a1 nB c1, .slice a2 nC c2, .slice a3 nE c3]) := ((Bx.new w [.slice a1 nB c1, .slice a2 nC c2, .slice a3 nE c3] _).later (later1 _ _)).later hb1
    have HR1 : Hid (OwnRow w1 (w.heap.size + 1) zero5.length (fun i => zero5[i]?.getD (.bool false))) := resRowL _ zero5 _ hb1
    have hzr : w.heap.size + 1 < w1.heap.size := HR1.out.lt
    clear hb1
    go_wp2_with fail
    refine (l2Bad_any _ m).mono ?_
    rintro e w3 ⟨rfl, hb3⟩
    have HW3 : Hid (Below w.heap.size w w3) := HW1.out.trans (hb3.mono HW1.out.size)
    have HR3 := HR1.out.later hb3
    have t0 := HR3.cell (i := 0) (by simp [zero5])
    have t1 := HR3.cell (i := 1) (by simp [zero5])
    have t2 := HR3.cell (i := 2) (by simp [zero5])
    have t3 := HR3.cell (i := 3) (by simp [zero5])
    have t4 := HR3.cell (i := 4) (by simp [zero5])
    have s0 := HR3.frozen 0
    have s1 := HR3.frozen 1
    have s2 := HR3.frozen 2
    have s3 := HR3.frozen 3
    have s4 := HR3.frozen 4
    simp [zero5] at t0 t1 t2 t3 t4
    clear hb3 HR3
    go_wp2
    exact bodyPost_ret (v := .agg #[.int .i64 m, .slice none 0 0, .slice none 0 0, .slice none 0 0, .slice none 0 0]) (by simp [results, Try.results18, go_sem, t0, t1, t2, t3, t4]) rfl (ansK_no HW3.out (by omega) m)
end Go.Proofs.Ytojegkekafampai

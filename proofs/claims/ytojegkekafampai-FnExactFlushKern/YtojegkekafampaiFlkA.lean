
/- FlushKern, the program's. -/
import Derived.Test.YtojegkekafampaiWrkC
import Derived.Test.YtojegkekafampaiFluU
namespace Go.Proofs.Ytojegkekafampai
open Go.RowKit
set_option maxRecDepth 100000

def anyKey (es : List E3) (key : Int) : Bool := es.any fun e => e.2.2 == key
theorem anyKey_at {es : List E3} {key : Int} {j : Nat} (hj : j < es.length) (h : ((extAt es j).2.2 == key) = true) : anyKey es key = true := by
  unfold anyKey
  rw [List.any_eq_true]
  refine ⟨es[j], List.getElem_mem hj, ?_⟩
  simpa [extAt, hj] using h
theorem anyKey_none {es : List E3} {key : Int} (h : ∀ j, j < es.length → ((extAt es j).2.2 == key) = false) : anyKey es key = false := by
  unfold anyKey
  rw [List.any_eq_false]
  intro e he
  obtain ⟨j, hj, rfl⟩ := List.mem_iff_getElem.1 he
  have := h j hj
  simp only [extAt, List.getElem?_eq_getElem hj, Option.getD_some] at this
  simp [this]

def flushK (d : KD) (key : Int) : Int × KResD := if kernF d = 0 then (if anyKey d.2 key = true then (0, [], (keepBlocks (fun _ => true) d.1.1 d.1.2, []), d.2) else (6, [], ([], []), [])) else (kernF d, [], ([], []), [])

set_option maxHeartbeats 1600000 in
theorem anyOpens_walk (w : World) (aE : Option Addr) (nE cE nB : Nat) (es : List E3) (key : Int) (hnE : es.length = nE) (hE : AtE w aE nE es) (h8 : nE ≤ 8) (hr : ∀ i, i < nE → rightB (extAt es i) nB = true) :
    Calls Try.prog 59 #[.slice aE nE cE, .int .i64 key] w fun e w' => e = .returned (.bool (anyKey es key)) ∧ Below w.heap.size w w' := by
  have HN : Hid (es.length = nE) := hnE
  have HE : Hid (AtE w aE nE es) := hE
  have HR : Hid (∀ i, i < nE → rightB (extAt es i) nB = true) := hr
  clear hnE hE hr
  go_enter Try.func59, Try.ntmps59
  go_wp2
  go_loopw [9] (fun i wr => ∃ j : Nat, j ≤ nE ∧ i = .int .i64 j ∧ Below w.heap.size w wr ∧ ∀ i : Nat, i < j → ((extAt es i).2.2 == key) = false) (fun i _ => nE - (intOf i).toNat)
  case atStart => exact ⟨0, Nat.zero_le _, rfl, Below.refl _ _, fun i hi => by omega⟩
  case round =>
    obtain ⟨j, hj, rfl, hbl, hall⟩ := hrel
    have HA : Hid (∀ i : Nat, i < j → ((extAt es i).2.2 == key) = false) := hall
    have HBL : Hid (Below w.heap.size w wr) := hbl
    clear hall hbl
    by_cases hlt : j < nE
    · obtain ⟨b, off, rfl, c0, c1, c2⟩ := HE.out j hlt
      replace c0 := cell_later HBL.out c0
      replace c1 := cell_later HBL.out c1
      replace c2 := cell_later HBL.out c2
      have hq := rightB_iff.1 (HR.out j hlt)
      have HX : Hid (extAt es j = ((es[j]?.getD (0, 0, 0)).1, (es[j]?.getD (0, 0, 0)).2.1, (es[j]?.getD (0, 0, 0)).2.2)) := rfl
      rw [HX.out] at hq
      dsimp only at hq
      generalize (es[j]?.getD (0, 0, 0)).1 = p at *
      generalize (es[j]?.getD (0, 0, 0)).2.1 = y at *
      generalize (es[j]?.getD (0, 0, 0)).2.2 = z at *
      have HLK := lockF_eq (key := key) hq.1.1 hq.1.2
      clear hq
      cases hh : (z == key)
      · have HQ : Hid ((lockF z == lockF key) = false) := by unfold Hid; rw [HLK]; exact hh
        have HH : Hid (((extAt es j).2.2 == key) = false) := by unfold Hid; rw [HX.out]; exact hh
        clear hh HLK
        go_wp2_with fail
        refine (opensTo_any _ p y z key).mono ?_
        rw [HQ.out]
        rintro e w2 ⟨rfl, hb2⟩
        have HB2 : Hid (Below w.heap.size w w2) := HBL.out.trans (((later1 _ _).trans (hb2.mono (by simp))).mono HBL.out.size)
        clear hb2
        go_wp2
        go_roundw
        case rel =>
          refine ⟨j + 1, by omega, by go_num, HB2.out, fun i hi => ?_⟩
          by_cases e : i = j
          · subst e; exact HH.out
          · exact HA.out i (by omega)
        case measure => simp [intOf]; omega
      · have HQ : Hid ((lockF z == lockF key) = true) := by unfold Hid; rw [HLK]; exact hh
        have HZ : Hid (anyKey es key = true) := anyKey_at (j := j) (by rw [HN.out]; exact hlt) (by rw [HX.out]; exact hh)
        clear hh HLK
        go_wp2_with fail
        refine (opensTo_any _ p y z key).mono ?_
        rw [HQ.out]
        rintro e w2 ⟨rfl, hb2⟩
        have HB2 : Hid (Below w.heap.size w w2) := HBL.out.trans (((later1 _ _).trans (hb2.mono (by simp))).mono HBL.out.size)
        clear hb2
        go_wp2
        go_ret
        exact ⟨by rw [HZ.out]; rfl, HB2.out⟩
    · have e : j = nE := by omega
      subst e
      have HZ : Hid (anyKey es key = false) := anyKey_none (fun i hi => HA.out i (by rw [HN.out] at hi; exact hi))
      go_wp2
      go_ret
      exact ⟨by rw [HZ.out]; rfl, HBL.out⟩

theorem field_disk (a b : Option Addr) (n c m k : Nat) (w : World) : (Instr.field 95 (.agg #[.int .i64 0, .slice a n c, .slice b m k]) 1).run Try.prog w = .ok (.agg #[.slice a n c, .slice b m k]) w := by kernel_rfl

set_option maxHeartbeats 3200000 in
theorem implFlushK_any (w : World) (vB vC vE : Value) (d : KD) (key : Int) (h : KernR w vB vC vE d) (hz : ∀ k : Nat, (d.1.1[k]?.getD []).length ≤ 1048576) (hzp : ∀ k : Nat, (d.1.2[k]?.getD (0, [])).2.length ≤ 1048576) :
    Calls Try.prog 19 #[.agg #[vB, vC, vE], .int .i64 key] w (AnsKR w (flushK d key)) := by
  obtain ⟨a1, c1, rfl, _⟩ := h.1.1.open'
  obtain ⟨a2, c2, rfl, _⟩ := h.1.2.open'
  obtain ⟨a3, c3, rfl, _, sE⟩ := h.2.open'
  have H : Hid (KernR w (.slice a1 d.1.1.length c1) (.slice a2 d.1.2.length c2) (.slice a3 d.2.length c3) d) := h
  have HRR : Hid (flushK d key = if kernF d = 0 then (if anyKey d.2 key = true then (0, [], (keepBlocks (fun _ => true) d.1.1 d.1.2, []), d.2) else (6, [], ([], []), [])) else (kernF d, [], ([], []), [])) := rfl
  have HAO : Hid (kernF d = 0 → ∀ W, Below w.heap.size w W → Calls Try.prog 59 #[.slice a3 d.2.length c3, .int .i64 key] W fun e W' => e = .returned (.bool (anyKey d.2 key)) ∧ Below W.heap.size W W') := fun h0 W hW => anyOpens_walk W a3 d.2.length c3 d.1.1.length d.2 key rfl (sE.later hW) (kernF_ok h0).2.1 (fun i hi => ((kernF_ok h0).2.2 i hi).1)
  have HFD : Hid (kernF d = 0 → ∀ W, Below w.heap.size w W → Calls Try.prog 60 #[.agg #[.slice a1 d.1.1.length c1, .slice a2 d.1.2.length c2]] W fun e W' => ∃ aX nX cX aY nY cY, e = .returned (.agg #[.int .i64 0, .slice aX nX cX, .slice aY nY cY]) ∧ Below W.heap.size W W' ∧ DiskU W' (.slice aX nX cX) (.slice aY nY cY) (keepBlocks (fun _ => true) d.1.1 d.1.2, []) (fresh W W')) := fun h0 W hW => by
    have := implFlush_any W _ _ d.1.1 d.1.2 (h.1.1.later hW) (h.1.2.later hW) hz hzp
    rw [(kernF_ok h0).1] at this
    exact this.mono fun e W' hh => hh.uni
  have HCE : Hid (kernF d = 0 → ∀ W, Below w.heap.size w W → Calls Try.prog 46 #[.slice a3 d.2.length c3] W fun e W' => ∃ a n c, e = .returned (.slice a n c) ∧ Below W.heap.size W W' ∧ ExtsO W' (.slice a n c) d.2 (fresh W W')) := fun h0 W hW => copyOfE_any (h.2.later hW) (by have := (kernF_ok h0).2.1; omega)
  rw [HRR.out]
  clear h hz hzp HRR sE
  generalize d.1.1.length = nB at *
  generalize d.1.2.length = nC at *
  generalize d.2.length = nE at *
  generalize hm : kernF d = m at *
  have HM : Hid (kernF d = m) := hm
  clear hm
  by_cases h0 : m = 0
  · subst h0
    rw [if_pos rfl]
    have KAO : Hid _ := HAO.out rfl
    have KFD : Hid _ := HFD.out rfl
    have KCE : Hid _ := HCE.out rfl
    clear HAO HFD HCE
    cases hk : anyKey d.2 key
    · rw [hk] at KAO
      rw [if_neg (by simp)]
      clear hk KFD KCE
      go_enter Try.func19, Try.ntmps19
      go_wp2_with fail
      refine (implKernFault_any _ _ _ _ d (H.out.later (later2 _ _ _))).mono ?_
      rw [HM.out]
      rintro e w1 ⟨rfl, hb1⟩
      have HW1 : Hid (Below w.heap.size w w1) := (later2 _ _ _).trans (hb1.mono (by simp; omega))
      have HX1 : Hid (Bx w1 w.heap.size [.slice a1 nB c1, .slice a2 nC c2, .slice a3 nE c3]) := ((Bx.new w [.slice a1 nB c1, .slice a2 nC c2, .slice a3 nE c3] _).later (later1 _ _)).later hb1
      have HR1 : Hid (OwnRow w1 (w.heap.size + 1) zero5.length (fun i => zero5[i]?.getD (.bool false))) := resRowL _ zero5 _ hb1
      have x2 := HX1.out 2 _ rfl
      clear hb1
      go_wp2_with fail
      refine (KAO.out _ HW1.out).mono ?_
      rintro e w2 ⟨rfl, hb2⟩
      have HW2 : Hid (Below w.heap.size w w2) := HW1.out.trans (hb2.mono HW1.out.size)
      have HR2 := HR1.out.later hb2
      have t0 := HR2.cell (i := 0) (by simp [zero5])
      have t1 := HR2.cell (i := 1) (by simp [zero5])
      have t2 := HR2.cell (i := 2) (by simp [zero5])
      have t3 := HR2.cell (i := 3) (by simp [zero5])
      have t4 := HR2.cell (i := 4) (by simp [zero5])
      have s0 := HR2.frozen 0
      have s1 := HR2.frozen 1
      have s2 := HR2.frozen 2
      have s3 := HR2.frozen 3
      have s4 := HR2.frozen 4
      simp [zero5] at t0 t1 t2 t3 t4
      clear hb2 HR2 x2
      go_wp2
      exact bodyPost_ret (v := .agg #[.int .i64 6, .slice none 0 0, .slice none 0 0, .slice none 0 0, .slice none 0 0]) (by simp [results, Try.results19, go_sem, t0, t1, t2, t3, t4]) rfl (ansK_no HW2.out (by omega) 6)
    · rw [hk] at KAO
      rw [if_pos rfl]
      clear hk
      go_enter Try.func19, Try.ntmps19
      go_wp2_with fail
      refine (implKernFault_any _ _ _ _ d (H.out.later (later2 _ _ _))).mono ?_
      rw [HM.out]
      rintro e w1 ⟨rfl, hb1⟩
      have HW1 : Hid (Below w.heap.size w w1) := (later2 _ _ _).trans (hb1.mono (by simp; omega))
      have HX1 : Hid (Bx w1 w.heap.size [.slice a1 nB c1, .slice a2 nC c2, .slice a3 nE c3]) := ((Bx.new w [.slice a1 nB c1, .slice a2 nC c2, .slice a3 nE c3] _).later (later1 _ _)).later hb1
      have HR1 : Hid (OwnRow w1 (w.heap.size + 1) zero5.length (fun i => zero5[i]?.getD (.bool false))) := resRowL _ zero5 _ hb1
      have x2 := HX1.out 2 _ rfl
      clear hb1
      go_wp2_with fail
      refine (KAO.out _ HW1.out).mono ?_
      rintro e w2 ⟨rfl, hb2⟩
      have HW2 : Hid (Below w.heap.size w w2) := HW1.out.trans (hb2.mono HW1.out.size)
      have HX2 : Hid (Bx w2 w.heap.size [.slice a1 nB c1, .slice a2 nC c2, .slice a3 nE c3]) := HX1.out.later hb2
      have HR2 : Hid (OwnRow w2 (w.heap.size + 1) zero5.length (fun i => zero5[i]?.getD (.bool false))) := HR1.out.later hb2
      have hzr : w.heap.size + 1 < w2.heap.size := HR2.out.lt
      clear hb2 x2
      have x0 := HX2.out 0 _ rfl
      have x1 := HX2.out 1 _ rfl
      have x2 := HX2.out 2 _ rfl
      go_wp2_with fail
      go_region_held3 (fun W => W.cell? ⟨w.heap.size, 0, none⟩ = some (.slice a1 nB c1) ∧ W.cell? ⟨w.heap.size, 1, none⟩ = some (.slice a2 nC c2) ∧ W.cell? ⟨w.heap.size, 2, none⟩ = some (.slice a3 nE c3)) (go_keep) (first
        | (go_at_call 60; refine (KFD.out _ HW2.out.drew).mono ?_; rintro e w3 ⟨aX, nX, cX, aY, nY, cY, rfl, hb3, hd3⟩
           have hfd := field_disk aX aY nX cX nY cY
           have y0 := cell_later hb3 x0
           have y1 := cell_later hb3 x1
           have y2 := cell_later hb3 x2
           have HB3 : Hid (Below w2.heap.size w2 w3) := (Below.refl _ _).drew.trans hb3
           have HD3 : Hid (DiskU w3 (.slice aX nX cX) (.slice aY nY cY) (keepBlocks (fun _ => true) d.1.1 d.1.2, []) (fun b => w2.heap.size ≤ b ∧ b < w3.heap.size)) := hd3
           clear hb3 hd3)
        | (go_at_call 46; refine (KCE.out _ (HW2.out.trans (HB3.out.mono HW2.out.size))).mono ?_; rintro e w4 ⟨aZ, nZ, cZ, rfl, hb4, he4⟩
           have z0 := cell_later hb4 y0
           have z1 := cell_later hb4 y1
           have z2 := cell_later hb4 y2
           have hb24 : Below w2.heap.size w2 w4 := HB3.out.trans (hb4.mono HB3.out.size)
           have HW4 : Hid (Below w.heap.size w w4) := HW2.out.trans (hb24.mono HW2.out.size)
           have he4' : ExtsO w4 (.slice aZ nZ cZ) d.2 (fun b => w3.heap.size ≤ b ∧ b < w4.heap.size) := he4
           have HK4 : Hid (KResU w4 (.slice none 0 0) (.slice aX nX cX) (.slice aY nY cY) (.slice aZ nZ cZ) ([], (keepBlocks (fun _ => true) d.1.1 d.1.2, []), d.2) (fun b => w2.heap.size ≤ b ∧ b < w4.heap.size)) := KResU.of (F1 := fun _ => False) (Or.inl ⟨rfl, none, 0, rfl⟩) (HD3.out.later hb4) he4' (fun _ h => h.elim) (fun _ h => h.elim) (fun b h h' => by omega) (fun b h => by have := hb4.size; have := HB3.out.size; rcases h with h | h | h; exact h.elim; all_goals omega)
           have HR4 := HR2.out.later hb24
           have t0 := HR4.cell (i := 0) (by simp [zero5])
           have t1 := HR4.cell (i := 1) (by simp [zero5])
           have t2 := HR4.cell (i := 2) (by simp [zero5])
           have t3 := HR4.cell (i := 3) (by simp [zero5])
           have t4 := HR4.cell (i := 4) (by simp [zero5])
           have s0 := HR4.frozen 0
           have s1 := HR4.frozen 1
           have s2 := HR4.frozen 2
           have s3 := HR4.frozen 3
           have s4 := HR4.frozen 4
           simp [zero5] at t0 t1 t2 t3 t4
           clear hb4 hb24 he4 he4' HR4))
      all_goals
        go_wp2
        refine bodyPost_ret (v := .agg #[.int .i64 0, .slice none 0 0, .slice aX nX cX, .slice aY nY cY, .slice aZ nZ cZ]) (by simp [results, Try.results19, go_sem, t0, t1, t2, t3, t4]) rfl ?_
        exact ansK_ret HW4.out (by omega) HK4.out (fun b hb => ⟨by omega, by omega, by omega⟩)
  · have hne : (m != 0) = true := by simpa using h0
    rw [if_neg h0]
    clear h0 HAO HFD HCE
    go_enter Try.func19, Try.ntmps19
    go_wp2_with fail
    refine (implKernFault_any _ _ _ _ d (H.out.later (later2 _ _ _))).mono ?_
    rw [HM.out]
    rintro e w1 ⟨rfl, hb1⟩
    have HW1 : Hid (Below w.heap.size w w1) := (later2 _ _ _).trans (hb1.mono (by simp; omega))
    have HR1 := resRowL _ zero5 _ hb1
    have t0 := HR1.cell (i := 0) (by simp [zero5])
    have t1 := HR1.cell (i := 1) (by simp [zero5])
    have t2 := HR1.cell (i := 2) (by simp [zero5])
    have t3 := HR1.cell (i := 3) (by simp [zero5])
    have t4 := HR1.cell (i := 4) (by simp [zero5])
    have s0 := HR1.frozen 0
    have s1 := HR1.frozen 1
    have s2 := HR1.frozen 2
    have s3 := HR1.frozen 3
    have s4 := HR1.frozen 4
    simp [zero5] at t0 t1 t2 t3 t4
    clear hb1 HR1
    go_wp2
    exact bodyPost_ret (v := .agg #[.int .i64 m, .slice none 0 0, .slice none 0 0, .slice none 0 0, .slice none 0 0]) (by simp [results, Try.results19, go_sem, t0, t1, t2, t3, t4]) rfl (ansK_no HW1.out (by omega) m)
end Go.Proofs.Ytojegkekafampai


/- RevokeExtent, the program's. -/
import Derived.Test.YtojegkekafampahRevA
namespace Go.Proofs.Ytojegkekafampah
open Go.RowKit
set_option maxRecDepth 100000

def revR (d : KD) (x key : Int) : Int × KResD :=
  if kernF d = 0 then (if (fromE d.2 x).2.2 = 0 then (4, [], ([], []), []) else if (fromE d.2 x).2.2 = key then (0, [], d.1, d.2.filter fun e => e != fromE d.2 x) else (6, [], ([], []), [])) else (kernF d, [], ([], []), [])
theorem fromE_cases (es : List E3) (x : Int) : (∃ j, j < es.length ∧ fromE es x = extAt es j) ∨ fromE es x = (0, 0, 0) := by
  unfold fromE
  cases h : es.find? fun e => e.1 == x with
  | none => exact Or.inr rfl
  | some e =>
    obtain ⟨j, hj, he⟩ := List.mem_iff_getElem.1 (List.mem_of_find?_eq_some h)
    exact Or.inl ⟨j, hj, by simp [extAt, hj, he]⟩

set_option maxHeartbeats 3200000 in
theorem implRevoke_any (w : World) (vB vC vE : Value) (d : KD) (x key : Int) (h : KernR w vB vC vE d) (hz : ∀ k : Nat, (d.1.1[k]?.getD []).length ≤ 1048576) (hzp : ∀ k : Nat, (d.1.2[k]?.getD (0, [])).2.length ≤ 1048576) :
    Calls Try.prog 23 #[.agg #[vB, vC, vE], .int .i64 x, .int .i64 key] w (AnsKR w (revR d x key)) := by
  obtain ⟨a1, c1, rfl, _, sB⟩ := h.1.1.open'
  obtain ⟨a2, c2, rfl, _, sP⟩ := h.1.2.open'
  obtain ⟨a3, c3, rfl, _, sE⟩ := h.2.open'
  have H : Hid (KernR w (.slice a1 d.1.1.length c1) (.slice a2 d.1.2.length c2) (.slice a3 d.2.length c3) d) := h
  have HRR : Hid (revR d x key = if kernF d = 0 then (if (fromE d.2 x).2.2 = 0 then (4, [], ([], []), []) else if (fromE d.2 x).2.2 = key then (0, [], d.1, d.2.filter fun e => e != fromE d.2 x) else (6, [], ([], []), [])) else (kernF d, [], ([], []), [])) := rfl
  obtain ⟨p, y, z, hk⟩ : ∃ p y z, fromE d.2 x = (p, y, z) := ⟨_, _, _, rfl⟩
  have HXF : Hid (kernF d = 0 → ∀ W, Below w.heap.size w W → Calls Try.prog 54 #[.slice a3 d.2.length c3, .int .i64 x] W fun e W' => e = .returned (.agg #[.int .i64 p, .int .i64 y, .int .i64 z]) ∧ Below W.heap.size W W') := fun h0 W hW => by
    have := extFrom_walk W a3 d.2.length c3 d.1.1.length d.2 x rfl (sE.later hW) (kernF_ok h0).2.1 (faultF_lens (kernF_ok h0).1).1 (fun i hi => ((kernF_ok h0).2.2 i hi).1)
    rw [hk] at this
    exact this
  have HCD : Hid (kernF d = 0 → ∀ W, Below w.heap.size w W → Calls Try.prog 50 #[.agg #[.slice a1 d.1.1.length c1, .slice a2 d.1.2.length c2]] W fun e W' => ∃ aX nX cX aY nY cY, e = .returned (.agg #[.slice aX nX cX, .slice aY nY cY]) ∧ Below W.heap.size W W' ∧ DiskU W' (.slice aX nX cX) (.slice aY nY cY) d.1 (fresh W W')) := fun h0 W hW => copyOfDisk_ok W a1 a2 c1 c2 d.1.1 d.1.2 (sB.later hW) (sP.later hW) (kernF_ok h0).1 hz hzp
  have HWO : Hid (kernF d = 0 → ∀ W, Below w.heap.size w W → Calls Try.prog 57 #[.slice a3 d.2.length c3, .agg #[.int .i64 p, .int .i64 y, .int .i64 z]] W fun e W' => ∃ a n c, e = .returned (.slice a n c) ∧ Below W.heap.size W W' ∧ ExtsO W' (.slice a n c) (d.2.filter fun e => e != (p, y, z)) (fresh W W')) := fun h0 W hW => without_walk W a3 d.2.length c3 d.2 p y z rfl (sE.later hW) (kernF_ok h0).2.1
  have HZ : Hid (kernF d = 0 → (z = 0 → p = 0 ∧ y = 0) ∧ (¬ z = 0 → 1 ≤ z ∧ z ≤ 9999)) := fun h0 => by
    rcases fromE_cases d.2 x with ⟨j, hj, e⟩ | e
    · have := (rightB_iff.1 ((kernF_ok h0).2.2 j hj).1).1
      rw [← e, hk] at this
      dsimp only at this
      exact ⟨fun h => by omega, fun _ => this⟩
    · rw [hk, Prod.mk.injEq, Prod.mk.injEq] at e
      exact ⟨fun _ => ⟨e.1, e.2.1⟩, fun h => absurd e.2.2 h⟩
  rw [hk] at HRR
  have HRZ : Hid (kernF d = 0 ∧ z = 0 → revR d x key = (4, [], ([], []), [])) := fun hh => by rw [HRR.out, if_pos hh.1, if_pos hh.2]
  have HRK : Hid (kernF d = 0 ∧ ¬ z = 0 ∧ z = key → revR d x key = (0, [], d.1, d.2.filter fun e => e != (p, y, z))) := fun hh => by rw [HRR.out, if_pos hh.1, if_neg hh.2.1, if_pos hh.2.2]
  have HRN : Hid (kernF d = 0 ∧ ¬ z = 0 ∧ ¬ z = key → revR d x key = (6, [], ([], []), [])) := fun hh => by rw [HRR.out, if_pos hh.1, if_neg hh.2.1, if_neg hh.2.2]
  have HRF : Hid (¬ kernF d = 0 → revR d x key = (kernF d, [], ([], []), [])) := fun hh => by rw [HRR.out, if_neg hh]
  clear h hz hzp HRR sE sB sP hk
  generalize d.1.1.length = nB at *
  generalize d.1.2.length = nC at *
  generalize d.2.length = nE at *
  generalize hm : kernF d = m at *
  have HM : Hid (kernF d = m) := hm
  clear hm
  by_cases h0 : m = 0
  · subst h0
    have KXF : Hid _ := HXF.out rfl
    have KCD : Hid _ := HCD.out rfl
    have KWO : Hid _ := HWO.out rfl
    obtain ⟨hz0, hz1⟩ := HZ.out rfl
    by_cases hzz : z = 0
    · rw [HRZ.out ⟨rfl, hzz⟩]
      obtain ⟨rfl, rfl⟩ := hz0 hzz
      subst hzz
      clear HXF HCD HWO HZ HRZ HRK HRN HRF hz0 hz1 KCD KWO
      go_enter Try.func23, Try.ntmps23
      go_wp2_with fail
      refine (implKernFault_any _ _ _ _ d (H.out.later (later2 _ _ _))).mono ?_
      rw [HM.out]
      rintro e w1 ⟨rfl, hb1⟩
      have HW1 : Hid (Below w.heap.size w w1) := (later2 _ _ _).trans (hb1.mono (by simp; omega))
      have HX1 : Hid (Bx w1 w.heap.size [.slice a1 nB c1, .slice a2 nC c2, .slice a3 nE c3]) := ((Bx.new w [.slice a1 nB c1, .slice a2 nC c2, .slice a3 nE c3] _).later (later1 _ _)).later hb1
      have HR1 : Hid (OwnRow w1 (w.heap.size + 1) zero5.length (fun i => zero5[i]?.getD (.bool false))) := resRowL _ zero5 _ hb1
      have x2 := HX1.out 2 _ rfl
      clear hb1
      go_wp2_with fail
      refine (KXF.out _ HW1.out).mono ?_
      rintro e w3 ⟨rfl, hb3⟩
      have HW3 : Hid (Below w.heap.size w w3) := HW1.out.trans (hb3.mono HW1.out.size)
      have HX3 : Hid (Bx w3 w.heap.size [.slice a1 nB c1, .slice a2 nC c2, .slice a3 nE c3]) := HX1.out.later hb3
      have HR3 : Hid (OwnRow w3 (w.heap.size + 1) zero5.length (fun i => zero5[i]?.getD (.bool false))) := HR1.out.later hb3
      have hzr : w.heap.size + 1 < w3.heap.size := HR3.out.lt
      clear hb3 x2
      have e0 := Bx.new w3 [.int .i64 0, .int .i64 0, .int .i64 0] 70 0 _ rfl
      have e1 := Bx.new w3 [.int .i64 0, .int .i64 0, .int .i64 0] 70 1 _ rfl
      have e2 := Bx.new w3 [.int .i64 0, .int .i64 0, .int .i64 0] 70 2 _ rfl
      go_wp2_with fail
      go_region_held3 (fun W => W.cell? ⟨w3.heap.size, 0, none⟩ = some (.int .i64 0) ∧ W.cell? ⟨w3.heap.size, 1, none⟩ = some (.int .i64 0) ∧ W.cell? ⟨w3.heap.size, 2, none⟩ = some (.int .i64 0)) (go_keep) (first | (go_at_call 55; refine (nobody_any _).mono ?_; rintro e w4 ⟨rfl, hb4⟩; have HB4 : Hid (Below w3.heap.size w3 w4) := (later1 _ _).drew.trans (hb4.mono (by simp)); have k0 := cell_later hb4 e0; have k1 := cell_later hb4 e1; have k2 := cell_later hb4 e2; clear hb4))
      all_goals
        have HW4 : Hid (Below w.heap.size w w4) := HW3.out.trans (HB4.out.mono HW3.out.size)
        have HX4 : Hid (Bx w4 w.heap.size [.slice a1 nB c1, .slice a2 nC c2, .slice a3 nE c3]) := HX3.out.later HB4.out
        have HR4 : Hid (OwnRow w4 (w.heap.size + 1) zero5.length (fun i => zero5[i]?.getD (.bool false))) := HR3.out.later HB4.out
        have hz4 : w3.heap.size < w4.heap.size := World.block_lt_of_cell? _ _ k0
        clear e0 e1 e2
        have HR5 := HR4.out
        have t0 := HR5.cell (i := 0) (by simp [zero5])
        have t1 := HR5.cell (i := 1) (by simp [zero5])
        have t2 := HR5.cell (i := 2) (by simp [zero5])
        have t3 := HR5.cell (i := 3) (by simp [zero5])
        have t4 := HR5.cell (i := 4) (by simp [zero5])
        have s0 := HR5.frozen 0
        have s1 := HR5.frozen 1
        have s2 := HR5.frozen 2
        have s3 := HR5.frozen 3
        have s4 := HR5.frozen 4
        simp [zero5] at t0 t1 t2 t3 t4
        clear HR5
        go_wp2
        exact bodyPost_ret (v := .agg #[.int .i64 4, .slice none 0 0, .slice none 0 0, .slice none 0 0, .slice none 0 0]) (by simp [results, Try.results23, go_sem, t0, t1, t2, t3, t4]) rfl (ansK_no HW4.out (by omega) 4)
    · have hzb : (z == 0) = false := by simpa using hzz
      obtain ⟨hl1, hl2⟩ := hz1 hzz
      have HLK := lockF_eq (key := key) hl1 hl2
      by_cases hkey : z = key
      · rw [HRK.out ⟨rfl, hzz, hkey⟩]
        have HOP : Hid ((lockF z == lockF key) = true) := by unfold Hid; rw [HLK]; simpa using hkey
        clear HXF HCD HWO HZ HRZ HRK HRN HRF hz0 hz1 hl1 hl2 HLK hkey
        go_enter Try.func23, Try.ntmps23
        go_wp2_with fail
        refine (implKernFault_any _ _ _ _ d (H.out.later (later2 _ _ _))).mono ?_
        rw [HM.out]
        rintro e w1 ⟨rfl, hb1⟩
        have HW1 : Hid (Below w.heap.size w w1) := (later2 _ _ _).trans (hb1.mono (by simp; omega))
        have HX1 : Hid (Bx w1 w.heap.size [.slice a1 nB c1, .slice a2 nC c2, .slice a3 nE c3]) := ((Bx.new w [.slice a1 nB c1, .slice a2 nC c2, .slice a3 nE c3] _).later (later1 _ _)).later hb1
        have HR1 : Hid (OwnRow w1 (w.heap.size + 1) zero5.length (fun i => zero5[i]?.getD (.bool false))) := resRowL _ zero5 _ hb1
        have x2 := HX1.out 2 _ rfl
        clear hb1
        go_wp2_with fail
        refine (KXF.out _ HW1.out).mono ?_
        rintro e w3 ⟨rfl, hb3⟩
        have HW3 : Hid (Below w.heap.size w w3) := HW1.out.trans (hb3.mono HW1.out.size)
        have HX3 : Hid (Bx w3 w.heap.size [.slice a1 nB c1, .slice a2 nC c2, .slice a3 nE c3]) := HX1.out.later hb3
        have HR3 : Hid (OwnRow w3 (w.heap.size + 1) zero5.length (fun i => zero5[i]?.getD (.bool false))) := HR1.out.later hb3
        have hzr : w.heap.size + 1 < w3.heap.size := HR3.out.lt
        clear hb3 x2
        have e0 := Bx.new w3 [.int .i64 p, .int .i64 y, .int .i64 z] 70 0 _ rfl
        have e1 := Bx.new w3 [.int .i64 p, .int .i64 y, .int .i64 z] 70 1 _ rfl
        have e2 := Bx.new w3 [.int .i64 p, .int .i64 y, .int .i64 z] 70 2 _ rfl
        go_wp2_with fail
        go_region_held3 (fun W => W.cell? ⟨w3.heap.size, 0, none⟩ = some (.int .i64 p) ∧ W.cell? ⟨w3.heap.size, 1, none⟩ = some (.int .i64 y) ∧ W.cell? ⟨w3.heap.size, 2, none⟩ = some (.int .i64 z)) (go_keep) (first | (go_at_call 55; refine (nobody_any _).mono ?_; rintro e w4 ⟨rfl, hb4⟩; have HB4 : Hid (Below w3.heap.size w3 w4) := (later1 _ _).drew.trans (hb4.mono (by simp)); have k0 := cell_later hb4 e0; have k1 := cell_later hb4 e1; have k2 := cell_later hb4 e2; clear hb4))
        all_goals
          have HW4 : Hid (Below w.heap.size w w4) := HW3.out.trans (HB4.out.mono HW3.out.size)
          have HX4 : Hid (Bx w4 w.heap.size [.slice a1 nB c1, .slice a2 nC c2, .slice a3 nE c3]) := HX3.out.later HB4.out
          have HR4 : Hid (OwnRow w4 (w.heap.size + 1) zero5.length (fun i => zero5[i]?.getD (.bool false))) := HR3.out.later HB4.out
          have hz4 : w3.heap.size < w4.heap.size := World.block_lt_of_cell? _ _ k0
          clear e0 e1 e2
          have y0 := HX4.out 0 _ rfl
          have y1 := HX4.out 1 _ rfl
          have y2 := HX4.out 2 _ rfl
          go_wp2_with fail
          refine (opensTo_any _ p y z key).mono ?_
          rw [HOP.out]
          rintro e w5 ⟨rfl, hb5⟩
          have HW5 : Hid (Below w.heap.size w w5) := HW4.out.trans (hb5.mono HW4.out.size)
          have HR5 : Hid (OwnRow w5 (w.heap.size + 1) zero5.length (fun i => zero5[i]?.getD (.bool false))) := HR4.out.later hb5
          have hz5 : w3.heap.size < w5.heap.size := by have := hb5.size; omega
          have l0 := cell_later hb5 k0
          have l1 := cell_later hb5 k1
          have l2 := cell_later hb5 k2
          replace y0 := cell_later hb5 y0
          replace y1 := cell_later hb5 y1
          replace y2 := cell_later hb5 y2
          have hn1 : w.heap.size + 1 ≠ w3.heap.size := by omega
          have hn2 : w3.heap.size ≠ w.heap.size + 1 := by omega
          clear hb5 k0 k1 k2
          go_wp2_with fail
          go_region_held3 (fun W => W.cell? ⟨w.heap.size, 0, none⟩ = some (.slice a1 nB c1) ∧ W.cell? ⟨w.heap.size, 1, none⟩ = some (.slice a2 nC c2) ∧ W.cell? ⟨w.heap.size, 2, none⟩ = some (.slice a3 nE c3) ∧ W.cell? ⟨w3.heap.size, 0, none⟩ = some (.int .i64 p) ∧ W.cell? ⟨w3.heap.size, 1, none⟩ = some (.int .i64 y) ∧ W.cell? ⟨w3.heap.size, 2, none⟩ = some (.int .i64 z)) (go_keep) (first
            | (go_at_call 50; refine (KCD.out _ HW5.out.drew).mono ?_; rintro e w6 ⟨aX, nX, cX, aY, nY, cY, rfl, hb6, hd6⟩
               have u0 := cell_later hb6 y0
               have u1 := cell_later hb6 y1
               have u2 := cell_later hb6 y2
               have u3 := cell_later hb6 l0
               have u4 := cell_later hb6 l1
               have u5 := cell_later hb6 l2
               have HB6 : Hid (Below w5.heap.size w5 w6) := (Below.refl _ _).drew.trans hb6
               have HD6 : Hid (DiskU w6 (.slice aX nX cX) (.slice aY nY cY) d.1 (fun b => w5.heap.size ≤ b ∧ b < w6.heap.size)) := hd6
               clear hb6 hd6)
            | (go_at_call 57; refine (KWO.out _ (HW5.out.trans (HB6.out.mono HW5.out.size))).mono ?_; rintro e w7 ⟨aZ, nZ, cZ, rfl, hb7, he7⟩
               have q0 := cell_later hb7 u0
               have q1 := cell_later hb7 u1
               have q2 := cell_later hb7 u2
               have q3 := cell_later hb7 u3
               have q4 := cell_later hb7 u4
               have q5 := cell_later hb7 u5
               have hb57 : Below w5.heap.size w5 w7 := HB6.out.trans (hb7.mono HB6.out.size)
               have HW7 : Hid (Below w.heap.size w w7) := HW5.out.trans (hb57.mono HW5.out.size)
               have he7' : ExtsO w7 (.slice aZ nZ cZ) (d.2.filter fun e => e != (p, y, z)) (fun b => w6.heap.size ≤ b ∧ b < w7.heap.size) := he7
               have HK7 : Hid (KResU w7 (.slice none 0 0) (.slice aX nX cX) (.slice aY nY cY) (.slice aZ nZ cZ) ([], d.1, d.2.filter fun e => e != (p, y, z)) (fun b => w5.heap.size ≤ b ∧ b < w7.heap.size)) := KResU.of (F1 := fun _ => False) (Or.inl ⟨rfl, none, 0, rfl⟩) (HD6.out.later hb7) he7' (fun _ h => h.elim) (fun _ h => h.elim) (fun b h h' => by omega) (fun b h => by have := hb7.size; have := HB6.out.size; rcases h with h | h | h; exact h.elim; all_goals omega)
               have HR7 := HR5.out.later hb57
               have t0 := HR7.cell (i := 0) (by simp [zero5])
               have t1 := HR7.cell (i := 1) (by simp [zero5])
               have t2 := HR7.cell (i := 2) (by simp [zero5])
               have t3 := HR7.cell (i := 3) (by simp [zero5])
               have t4 := HR7.cell (i := 4) (by simp [zero5])
               have s0 := HR7.frozen 0
               have s1 := HR7.frozen 1
               have s2 := HR7.frozen 2
               have s3 := HR7.frozen 3
               have s4 := HR7.frozen 4
               simp [zero5] at t0 t1 t2 t3 t4
               clear hb7 hb57 he7 he7' HR7))
          all_goals
            go_wp2
            refine bodyPost_ret (v := .agg #[.int .i64 0, .slice none 0 0, .slice aX nX cX, .slice aY nY cY, .slice aZ nZ cZ]) (by simp [results, Try.results23, go_sem, t0, t1, t2, t3, t4]) rfl ?_
            exact ansK_ret HW7.out (by omega) HK7.out (fun b hb => ⟨by omega, by omega, by omega⟩)
      · rw [HRN.out ⟨rfl, hzz, hkey⟩]
        have HOP : Hid ((lockF z == lockF key) = false) := by unfold Hid; rw [HLK]; simpa using hkey
        clear HXF HCD HWO HZ HRZ HRK HRN HRF hz0 hz1 hl1 hl2 HLK hkey KCD KWO
        go_enter Try.func23, Try.ntmps23
        go_wp2_with fail
        refine (implKernFault_any _ _ _ _ d (H.out.later (later2 _ _ _))).mono ?_
        rw [HM.out]
        rintro e w1 ⟨rfl, hb1⟩
        have HW1 : Hid (Below w.heap.size w w1) := (later2 _ _ _).trans (hb1.mono (by simp; omega))
        have HX1 : Hid (Bx w1 w.heap.size [.slice a1 nB c1, .slice a2 nC c2, .slice a3 nE c3]) := ((Bx.new w [.slice a1 nB c1, .slice a2 nC c2, .slice a3 nE c3] _).later (later1 _ _)).later hb1
        have HR1 : Hid (OwnRow w1 (w.heap.size + 1) zero5.length (fun i => zero5[i]?.getD (.bool false))) := resRowL _ zero5 _ hb1
        have x2 := HX1.out 2 _ rfl
        clear hb1
        go_wp2_with fail
        refine (KXF.out _ HW1.out).mono ?_
        rintro e w3 ⟨rfl, hb3⟩
        have HW3 : Hid (Below w.heap.size w w3) := HW1.out.trans (hb3.mono HW1.out.size)
        have HX3 : Hid (Bx w3 w.heap.size [.slice a1 nB c1, .slice a2 nC c2, .slice a3 nE c3]) := HX1.out.later hb3
        have HR3 : Hid (OwnRow w3 (w.heap.size + 1) zero5.length (fun i => zero5[i]?.getD (.bool false))) := HR1.out.later hb3
        have hzr : w.heap.size + 1 < w3.heap.size := HR3.out.lt
        clear hb3 x2
        have e0 := Bx.new w3 [.int .i64 p, .int .i64 y, .int .i64 z] 70 0 _ rfl
        have e1 := Bx.new w3 [.int .i64 p, .int .i64 y, .int .i64 z] 70 1 _ rfl
        have e2 := Bx.new w3 [.int .i64 p, .int .i64 y, .int .i64 z] 70 2 _ rfl
        go_wp2_with fail
        go_region_held3 (fun W => W.cell? ⟨w3.heap.size, 0, none⟩ = some (.int .i64 p) ∧ W.cell? ⟨w3.heap.size, 1, none⟩ = some (.int .i64 y) ∧ W.cell? ⟨w3.heap.size, 2, none⟩ = some (.int .i64 z)) (go_keep) (first | (go_at_call 55; refine (nobody_any _).mono ?_; rintro e w4 ⟨rfl, hb4⟩; have HB4 : Hid (Below w3.heap.size w3 w4) := (later1 _ _).drew.trans (hb4.mono (by simp)); have k0 := cell_later hb4 e0; have k1 := cell_later hb4 e1; have k2 := cell_later hb4 e2; clear hb4))
        all_goals
          have HW4 : Hid (Below w.heap.size w w4) := HW3.out.trans (HB4.out.mono HW3.out.size)
          have HX4 : Hid (Bx w4 w.heap.size [.slice a1 nB c1, .slice a2 nC c2, .slice a3 nE c3]) := HX3.out.later HB4.out
          have HR4 : Hid (OwnRow w4 (w.heap.size + 1) zero5.length (fun i => zero5[i]?.getD (.bool false))) := HR3.out.later HB4.out
          have hz4 : w3.heap.size < w4.heap.size := World.block_lt_of_cell? _ _ k0
          clear e0 e1 e2
          go_wp2_with fail
          refine (opensTo_any _ p y z key).mono ?_
          rw [HOP.out]
          rintro e w5 ⟨rfl, hb5⟩
          have HW5 : Hid (Below w.heap.size w w5) := HW4.out.trans (hb5.mono HW4.out.size)
          have HR5 := HR4.out.later hb5
          have t0 := HR5.cell (i := 0) (by simp [zero5])
          have t1 := HR5.cell (i := 1) (by simp [zero5])
          have t2 := HR5.cell (i := 2) (by simp [zero5])
          have t3 := HR5.cell (i := 3) (by simp [zero5])
          have t4 := HR5.cell (i := 4) (by simp [zero5])
          have s0 := HR5.frozen 0
          have s1 := HR5.frozen 1
          have s2 := HR5.frozen 2
          have s3 := HR5.frozen 3
          have s4 := HR5.frozen 4
          simp [zero5] at t0 t1 t2 t3 t4
          clear hb5 HR5
          go_wp2
          exact bodyPost_ret (v := .agg #[.int .i64 6, .slice none 0 0, .slice none 0 0, .slice none 0 0, .slice none 0 0]) (by simp [results, Try.results23, go_sem, t0, t1, t2, t3, t4]) rfl (ansK_no HW5.out (by omega) 6)
  · have hne : (m != 0) = true := by simpa using h0
    rw [HRF.out h0]
    clear h0 HXF HCD HWO HZ HRZ HRK HRN HRF
    go_enter Try.func23, Try.ntmps23
    go_wp2_with fail
    refine (implKernFault_any _ _ _ _ d (H.out.later (later2 _ _ _))).mono ?_
    rw [HM.out]
    rintro e w1 ⟨rfl, hb1⟩
    have HW1 : Hid (Below w.heap.size w w1) := (later2 _ _ _).trans (hb1.mono (by simp; omega))
    have HR1 := resRowL _ zero5 _ hb1
    have t0 := HR1.cell (i := 0) (by simp [zero5])
    have t1 := HR1.cell (i := 1) (by simp [zero5])
    have t2 := HR1.cell (i := 2) (by simp [zero5])
    have t3 := HR1.cell (i := 3) (by simp [zero5])
    have t4 := HR1.cell (i := 4) (by simp [zero5])
    have s0 := HR1.frozen 0
    have s1 := HR1.frozen 1
    have s2 := HR1.frozen 2
    have s3 := HR1.frozen 3
    have s4 := HR1.frozen 4
    simp [zero5] at t0 t1 t2 t3 t4
    clear hb1 HR1
    go_wp2
    exact bodyPost_ret (v := .agg #[.int .i64 m, .slice none 0 0, .slice none 0 0, .slice none 0 0, .slice none 0 0]) (by simp [results, Try.results23, go_sem, t0, t1, t2, t3, t4]) rfl (ansK_no HW1.out (by omega) m)
end Go.Proofs.Ytojegkekafampah

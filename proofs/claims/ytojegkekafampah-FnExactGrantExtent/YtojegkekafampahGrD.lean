
/- GrantExtent, the program's. -/
import Derived.Test.YtojegkekafampahGrC
namespace Go.Proofs.Ytojegkekafampah
open Go.RowKit
set_option maxRecDepth 100000

def grantR (d : KD) (x y z : Int) : Int × KResD :=
  if kernF d = 0 then (if rightB (x, y, z) d.1.1.length = true then (if anyMeet d.2 (x, y, z) = true then (7, [], ([], []), []) else if 8 ≤ d.2.length then (2, [], ([], []), []) else (0, [], d.1, d.2.take (insAt d.2 x) ++ (x, y, z) :: d.2.drop (insAt d.2 x))) else (3, [], ([], []), [])) else (kernF d, [], ([], []), [])

set_option maxHeartbeats 3200000 in
theorem implGrant_any (w : World) (vB vC vE : Value) (d : KD) (x y z : Int) (h : KernR w vB vC vE d) (hz : ∀ k : Nat, (d.1.1[k]?.getD []).length ≤ 1048576) (hzp : ∀ k : Nat, (d.1.2[k]?.getD (0, [])).2.length ≤ 1048576) :
    Calls Try.prog 20 #[.agg #[vB, vC, vE], .int .i64 x, .int .i64 y, .int .i64 z] w (AnsKR w (grantR d x y z)) := by
  obtain ⟨a1, c1, rfl, _, sB⟩ := h.1.1.open'
  obtain ⟨a2, c2, rfl, _, sP⟩ := h.1.2.open'
  obtain ⟨a3, c3, rfl, _, sE⟩ := h.2.open'
  have hcap : d.2.length ≤ c3 := h.2.cap
  have H : Hid (KernR w (.slice a1 d.1.1.length c1) (.slice a2 d.1.2.length c2) (.slice a3 d.2.length c3) d) := h
  have HRR : Hid (grantR d x y z = if kernF d = 0 then (if rightB (x, y, z) d.1.1.length = true then (if anyMeet d.2 (x, y, z) = true then (7, [], ([], []), []) else if 8 ≤ d.2.length then (2, [], ([], []), []) else (0, [], d.1, d.2.take (insAt d.2 x) ++ (x, y, z) :: d.2.drop (insAt d.2 x))) else (3, [], ([], []), [])) else (kernF d, [], ([], []), [])) := rfl
  have HEF : Hid (kernF d = 0 → ∀ W, Calls Try.prog 38 #[.agg #[.slice a1 d.1.1.length c1, .slice a2 d.1.2.length c2], .agg #[.int .i64 x, .int .i64 y, .int .i64 z]] W fun e W' => e = .returned (.int .i64 (if rightB (x, y, z) d.1.1.length = true then 0 else 3)) ∧ Below W.heap.size W W') := fun h0 W => extFault_any W a1 a2 d.1.1.length c1 d.1.2.length c2 x y z (faultF_lens (kernF_ok h0).1).1
  have HAM : Hid (kernF d = 0 ∧ rightB (x, y, z) d.1.1.length = true → ∀ W, Below w.heap.size w W → Calls Try.prog 49 #[.slice a3 d.2.length c3, .agg #[.int .i64 x, .int .i64 y, .int .i64 z]] W fun e W' => e = .returned (.bool (anyMeet d.2 (x, y, z))) ∧ Below W.heap.size W W') := fun h0 W hW => anyMeets_walk W a3 d.2.length c3 d.1.1.length d.2 x y z rfl (sE.later hW) (kernF_ok h0.1).2.1 (faultF_lens (kernF_ok h0.1).1).1 (fun i hi => ((kernF_ok h0.1).2.2 i hi).1) h0.2
  have HCD : Hid (kernF d = 0 → ∀ W, Below w.heap.size w W → Calls Try.prog 50 #[.agg #[.slice a1 d.1.1.length c1, .slice a2 d.1.2.length c2]] W fun e W' => ∃ aX nX cX aY nY cY, e = .returned (.agg #[.slice aX nX cX, .slice aY nY cY]) ∧ Below W.heap.size W W' ∧ DiskU W' (.slice aX nX cX) (.slice aY nY cY) d.1 (fresh W W')) := fun h0 W hW => copyOfDisk_ok W a1 a2 c1 c2 d.1.1 d.1.2 (sB.later hW) (sP.later hW) (kernF_ok h0).1 hz hzp
  have HWE : Hid (kernF d = 0 → ∀ W, Below w.heap.size w W → Calls Try.prog 51 #[.slice a3 d.2.length c3, .agg #[.int .i64 x, .int .i64 y, .int .i64 z]] W fun e W' => ∃ a n c, e = .returned (.slice a n c) ∧ Below W.heap.size W W' ∧ ExtsO W' (.slice a n c) (d.2.take (insAt d.2 x) ++ (x, y, z) :: d.2.drop (insAt d.2 x)) (fresh W W')) := fun h0 W hW => withExt_walk W a3 d.2.length c3 d.2 x y z rfl (sE.later hW) (kernF_ok h0).2.1 hcap
  have HRF : Hid (¬ kernF d = 0 → grantR d x y z = (kernF d, [], ([], []), [])) := fun hh => by rw [HRR.out, if_neg hh]
  have HR3' : Hid (kernF d = 0 ∧ rightB (x, y, z) d.1.1.length = false → grantR d x y z = (3, [], ([], []), [])) := fun hh => by rw [HRR.out, if_pos hh.1, if_neg (by rw [hh.2]; simp)]
  have HR7 : Hid (kernF d = 0 ∧ rightB (x, y, z) d.1.1.length = true ∧ anyMeet d.2 (x, y, z) = true → grantR d x y z = (7, [], ([], []), [])) := fun hh => by rw [HRR.out, if_pos hh.1, if_pos hh.2.1, if_pos hh.2.2]
  have HR2' : Hid (kernF d = 0 ∧ rightB (x, y, z) d.1.1.length = true ∧ anyMeet d.2 (x, y, z) = false ∧ 8 ≤ d.2.length → grantR d x y z = (2, [], ([], []), [])) := fun hh => by rw [HRR.out, if_pos hh.1, if_pos hh.2.1, if_neg (by rw [hh.2.2.1]; simp), if_pos hh.2.2.2]
  have HR0 : Hid (kernF d = 0 ∧ rightB (x, y, z) d.1.1.length = true ∧ anyMeet d.2 (x, y, z) = false ∧ ¬ 8 ≤ d.2.length → grantR d x y z = (0, [], d.1, d.2.take (insAt d.2 x) ++ (x, y, z) :: d.2.drop (insAt d.2 x))) := fun hh => by rw [HRR.out, if_pos hh.1, if_pos hh.2.1, if_neg (by rw [hh.2.2.1]; simp), if_neg hh.2.2.2]
  clear h hz hzp HRR sE sB sP hcap
  generalize d.1.1.length = nB at *
  generalize d.1.2.length = nC at *
  generalize d.2.length = nE at *
  generalize d.2.take (insAt d.2 x) ++ (x, y, z) :: d.2.drop (insAt d.2 x) = gs at *
  generalize hm : kernF d = m at *
  have HM : Hid (kernF d = m) := hm
  clear hm
  by_cases h0 : m = 0
  · subst h0
    have KEF : Hid _ := HEF.out rfl
    have KCD : Hid _ := HCD.out rfl
    have KWE : Hid _ := HWE.out rfl
    cases hr : rightB (x, y, z) nB
    · rw [HR3'.out ⟨rfl, hr⟩]
      rw [hr] at KEF
      replace KEF : Hid (∀ W, Calls Try.prog 38 #[.agg #[.slice a1 nB c1, .slice a2 nC c2], .agg #[.int .i64 x, .int .i64 y, .int .i64 z]] W fun e W' => e = .returned (.int .i64 3) ∧ Below W.heap.size W W') := KEF.out
      clear hr HEF HAM HCD HWE HRF HR3' HR7 HR2' HR0 KCD KWE
      go_enter Try.func20, Try.ntmps20
      go_wp2_with fail
      refine (implKernFault_any _ _ _ _ d (H.out.later (later2 _ _ _))).mono ?_
      rw [HM.out]
      rintro e w1 ⟨rfl, hb1⟩
      have HW1 : Hid (Below w.heap.size w w1) := (later2 _ _ _).trans (hb1.mono (by simp; omega))
      have HX1 : Hid (Bx w1 w.heap.size [.slice a1 nB c1, .slice a2 nC c2, .slice a3 nE c3]) := ((Bx.new w [.slice a1 nB c1, .slice a2 nC c2, .slice a3 nE c3] _).later (later1 _ _)).later hb1
      have HR1 : Hid (OwnRow w1 (w.heap.size + 1) zero5.length (fun i => zero5[i]?.getD (.bool false))) := resRowL _ zero5 _ hb1
      have hzr : w.heap.size + 1 < w1.heap.size := HR1.out.lt
      clear hb1
      have x0 := HX1.out 0 _ rfl
      have x1 := HX1.out 1 _ rfl
      have hzk : w.heap.size < w1.heap.size := by omega
      go_wp2_with fail
      refine (KEF.out _).mono ?_
      rintro e w2 ⟨rfl, hb2⟩
      have HO2 : Hid (Bx w2 w1.heap.size [.int .i64 x, .int .i64 y, .int .i64 z]) := (Bx.new w1 [.int .i64 x, .int .i64 y, .int .i64 z] _).later hb2
      have hb12 : Below w1.heap.size w1 w2 := (later1 _ _).trans (hb2.mono (by simp))
      have HW2 : Hid (Below w.heap.size w w2) := HW1.out.trans (hb12.mono HW1.out.size)
      have HX2 : Hid (Bx w2 w.heap.size [.slice a1 nB c1, .slice a2 nC c2, .slice a3 nE c3]) := HX1.out.later hb12
      have HR2 : Hid (OwnRow w2 (w.heap.size + 1) zero5.length (fun i => zero5[i]?.getD (.bool false))) := HR1.out.later hb12
      have hz2 : w1.heap.size < w2.heap.size := HO2.out.lt
      clear hb2 hb12 x0 x1
      have HRq := HR2.out
      have t0 := HRq.cell (i := 0) (by simp [zero5])
      have t1 := HRq.cell (i := 1) (by simp [zero5])
      have t2 := HRq.cell (i := 2) (by simp [zero5])
      have t3 := HRq.cell (i := 3) (by simp [zero5])
      have t4 := HRq.cell (i := 4) (by simp [zero5])
      have s0 := HRq.frozen 0
      have s1 := HRq.frozen 1
      have s2 := HRq.frozen 2
      have s3 := HRq.frozen 3
      have s4 := HRq.frozen 4
      simp [zero5] at t0 t1 t2 t3 t4
      clear HRq
      go_wp2
      exact bodyPost_ret (v := .agg #[.int .i64 3, .slice none 0 0, .slice none 0 0, .slice none 0 0, .slice none 0 0]) (by simp [results, Try.results20, go_sem, t0, t1, t2, t3, t4]) rfl (ansK_no HW2.out (by omega) 3)
    · rw [hr] at KEF
      replace KEF : Hid (∀ W, Calls Try.prog 38 #[.agg #[.slice a1 nB c1, .slice a2 nC c2], .agg #[.int .i64 x, .int .i64 y, .int .i64 z]] W fun e W' => e = .returned (.int .i64 0) ∧ Below W.heap.size W W') := KEF.out
      have KAM : Hid _ := HAM.out ⟨rfl, hr⟩
      cases ha : anyMeet d.2 (x, y, z)
      · rw [ha] at KAM
        by_cases h8 : 8 ≤ nE
        · rw [HR2'.out ⟨rfl, hr, ha, h8⟩]
          have h8' : (8 : Int) ≤ (nE : Int) := by omega
          clear hr ha HEF HAM HCD HWE HRF HR3' HR7 HR2' HR0 KCD KWE
          go_enter Try.func20, Try.ntmps20
          go_wp2_with fail
          refine (implKernFault_any _ _ _ _ d (H.out.later (later2 _ _ _))).mono ?_
          rw [HM.out]
          rintro e w1 ⟨rfl, hb1⟩
          have HW1 : Hid (Below w.heap.size w w1) := (later2 _ _ _).trans (hb1.mono (by simp; omega))
          have HX1 : Hid (Bx w1 w.heap.size [.slice a1 nB c1, .slice a2 nC c2, .slice a3 nE c3]) := ((Bx.new w [.slice a1 nB c1, .slice a2 nC c2, .slice a3 nE c3] _).later (later1 _ _)).later hb1
          have HR1 : Hid (OwnRow w1 (w.heap.size + 1) zero5.length (fun i => zero5[i]?.getD (.bool false))) := resRowL _ zero5 _ hb1
          have hzr : w.heap.size + 1 < w1.heap.size := HR1.out.lt
          clear hb1
          have x0 := HX1.out 0 _ rfl
          have x1 := HX1.out 1 _ rfl
          have hzk : w.heap.size < w1.heap.size := by omega
          go_wp2_with fail
          refine (KEF.out _).mono ?_
          rintro e w2 ⟨rfl, hb2⟩
          have HO2 : Hid (Bx w2 w1.heap.size [.int .i64 x, .int .i64 y, .int .i64 z]) := (Bx.new w1 [.int .i64 x, .int .i64 y, .int .i64 z] _).later hb2
          have hb12 : Below w1.heap.size w1 w2 := (later1 _ _).trans (hb2.mono (by simp))
          have HW2 : Hid (Below w.heap.size w w2) := HW1.out.trans (hb12.mono HW1.out.size)
          have HX2 : Hid (Bx w2 w.heap.size [.slice a1 nB c1, .slice a2 nC c2, .slice a3 nE c3]) := HX1.out.later hb12
          have HR2 : Hid (OwnRow w2 (w.heap.size + 1) zero5.length (fun i => zero5[i]?.getD (.bool false))) := HR1.out.later hb12
          have hz2 : w1.heap.size < w2.heap.size := HO2.out.lt
          clear hb2 hb12 x0 x1
          have y2 := HX2.out 2 _ rfl
          have o0 := HO2.out 0 _ rfl
          have o1 := HO2.out 1 _ rfl
          have o2 := HO2.out 2 _ rfl
          go_wp2_with fail
          refine (KAM.out _ HW2.out).mono ?_
          rintro e w3 ⟨rfl, hb3⟩
          have HO3 : Hid (Bx w3 w1.heap.size [.int .i64 x, .int .i64 y, .int .i64 z]) := HO2.out.later hb3
          have HW3 : Hid (Below w.heap.size w w3) := HW2.out.trans (hb3.mono HW2.out.size)
          have HX3 : Hid (Bx w3 w.heap.size [.slice a1 nB c1, .slice a2 nC c2, .slice a3 nE c3]) := HX2.out.later hb3
          have HR3 : Hid (OwnRow w3 (w.heap.size + 1) zero5.length (fun i => zero5[i]?.getD (.bool false))) := HR2.out.later hb3
          have hz3 : w1.heap.size < w3.heap.size := HO3.out.lt
          clear hb3 y2 o0 o1 o2
          have y2 := HX3.out 2 _ rfl
          have HRq := HR3.out
          have t0 := HRq.cell (i := 0) (by simp [zero5])
          have t1 := HRq.cell (i := 1) (by simp [zero5])
          have t2 := HRq.cell (i := 2) (by simp [zero5])
          have t3 := HRq.cell (i := 3) (by simp [zero5])
          have t4 := HRq.cell (i := 4) (by simp [zero5])
          have s0 := HRq.frozen 0
          have s1 := HRq.frozen 1
          have s2 := HRq.frozen 2
          have s3 := HRq.frozen 3
          have s4 := HRq.frozen 4
          simp [zero5] at t0 t1 t2 t3 t4
          clear HRq
          go_wp2
          exact bodyPost_ret (v := .agg #[.int .i64 2, .slice none 0 0, .slice none 0 0, .slice none 0 0, .slice none 0 0]) (by simp [results, Try.results20, go_sem, t0, t1, t2, t3, t4]) rfl (ansK_no HW3.out (by omega) 2)
        · rw [HR0.out ⟨rfl, hr, ha, h8⟩]
          have h8' : decide ((8 : Int) ≤ (nE : Int)) = false := by simp; omega
          have h8'' : decide (8 ≤ nE) = false := by simp; omega
          clear hr ha HEF HAM HCD HWE HRF HR3' HR7 HR2' HR0
          go_enter Try.func20, Try.ntmps20
          go_wp2_with fail
          refine (implKernFault_any _ _ _ _ d (H.out.later (later2 _ _ _))).mono ?_
          rw [HM.out]
          rintro e w1 ⟨rfl, hb1⟩
          have HW1 : Hid (Below w.heap.size w w1) := (later2 _ _ _).trans (hb1.mono (by simp; omega))
          have HX1 : Hid (Bx w1 w.heap.size [.slice a1 nB c1, .slice a2 nC c2, .slice a3 nE c3]) := ((Bx.new w [.slice a1 nB c1, .slice a2 nC c2, .slice a3 nE c3] _).later (later1 _ _)).later hb1
          have HR1 : Hid (OwnRow w1 (w.heap.size + 1) zero5.length (fun i => zero5[i]?.getD (.bool false))) := resRowL _ zero5 _ hb1
          have hzr : w.heap.size + 1 < w1.heap.size := HR1.out.lt
          clear hb1
          have x0 := HX1.out 0 _ rfl
          have x1 := HX1.out 1 _ rfl
          have hzk : w.heap.size < w1.heap.size := by omega
          go_wp2_with fail
          refine (KEF.out _).mono ?_
          rintro e w2 ⟨rfl, hb2⟩
          have HO2 : Hid (Bx w2 w1.heap.size [.int .i64 x, .int .i64 y, .int .i64 z]) := (Bx.new w1 [.int .i64 x, .int .i64 y, .int .i64 z] _).later hb2
          have hb12 : Below w1.heap.size w1 w2 := (later1 _ _).trans (hb2.mono (by simp))
          have HW2 : Hid (Below w.heap.size w w2) := HW1.out.trans (hb12.mono HW1.out.size)
          have HX2 : Hid (Bx w2 w.heap.size [.slice a1 nB c1, .slice a2 nC c2, .slice a3 nE c3]) := HX1.out.later hb12
          have HR2 : Hid (OwnRow w2 (w.heap.size + 1) zero5.length (fun i => zero5[i]?.getD (.bool false))) := HR1.out.later hb12
          have hz2 : w1.heap.size < w2.heap.size := HO2.out.lt
          clear hb2 hb12 x0 x1
          have y2 := HX2.out 2 _ rfl
          have o0 := HO2.out 0 _ rfl
          have o1 := HO2.out 1 _ rfl
          have o2 := HO2.out 2 _ rfl
          go_wp2_with fail
          refine (KAM.out _ HW2.out).mono ?_
          rintro e w3 ⟨rfl, hb3⟩
          have HO3 : Hid (Bx w3 w1.heap.size [.int .i64 x, .int .i64 y, .int .i64 z]) := HO2.out.later hb3
          have HW3 : Hid (Below w.heap.size w w3) := HW2.out.trans (hb3.mono HW2.out.size)
          have HX3 : Hid (Bx w3 w.heap.size [.slice a1 nB c1, .slice a2 nC c2, .slice a3 nE c3]) := HX2.out.later hb3
          have HR3 : Hid (OwnRow w3 (w.heap.size + 1) zero5.length (fun i => zero5[i]?.getD (.bool false))) := HR2.out.later hb3
          have hz3 : w1.heap.size < w3.heap.size := HO3.out.lt
          clear hb3 y2 o0 o1 o2
          have y0 := HX3.out 0 _ rfl
          have y1 := HX3.out 1 _ rfl
          have y2 := HX3.out 2 _ rfl
          have o0 := HO3.out 0 _ rfl
          have o1 := HO3.out 1 _ rfl
          have o2 := HO3.out 2 _ rfl
          have hn1 : w.heap.size + 1 ≠ w1.heap.size := by omega
          have hn2 : w1.heap.size ≠ w.heap.size + 1 := by omega
          go_wp2_with fail
          go_region_held3 (fun W => W.cell? ⟨w.heap.size, 0, none⟩ = some (.slice a1 nB c1) ∧ W.cell? ⟨w.heap.size, 1, none⟩ = some (.slice a2 nC c2) ∧ W.cell? ⟨w.heap.size, 2, none⟩ = some (.slice a3 nE c3) ∧ W.cell? ⟨w1.heap.size, 0, none⟩ = some (.int .i64 x) ∧ W.cell? ⟨w1.heap.size, 1, none⟩ = some (.int .i64 y) ∧ W.cell? ⟨w1.heap.size, 2, none⟩ = some (.int .i64 z)) (go_keep) (first
            | (go_at_call 50; refine (KCD.out _ HW3.out.drew).mono ?_; rintro e w6 ⟨aX, nX, cX, aY, nY, cY, rfl, hb6, hd6⟩
               have u0 := cell_later hb6 y0
               have u1 := cell_later hb6 y1
               have u2 := cell_later hb6 y2
               have u3 := cell_later hb6 o0
               have u4 := cell_later hb6 o1
               have u5 := cell_later hb6 o2
               have HB6 : Hid (Below w3.heap.size w3 w6) := (Below.refl _ _).drew.trans hb6
               have HD6 : Hid (DiskU w6 (.slice aX nX cX) (.slice aY nY cY) d.1 (fun b => w3.heap.size ≤ b ∧ b < w6.heap.size)) := hd6
               clear hb6 hd6)
            | (go_at_call 51; refine (KWE.out _ (HW3.out.trans (HB6.out.mono HW3.out.size))).mono ?_; rintro e w7 ⟨aZ, nZ, cZ, rfl, hb7, he7⟩
               have q0 := cell_later hb7 u0
               have q1 := cell_later hb7 u1
               have q2 := cell_later hb7 u2
               have q3 := cell_later hb7 u3
               have q4 := cell_later hb7 u4
               have q5 := cell_later hb7 u5
               have hb57 : Below w3.heap.size w3 w7 := HB6.out.trans (hb7.mono HB6.out.size)
               have HW7 : Hid (Below w.heap.size w w7) := HW3.out.trans (hb57.mono HW3.out.size)
               have he7' : ExtsO w7 (.slice aZ nZ cZ) gs (fun b => w6.heap.size ≤ b ∧ b < w7.heap.size) := he7
               have HK7 : Hid (KResU w7 (.slice none 0 0) (.slice aX nX cX) (.slice aY nY cY) (.slice aZ nZ cZ) ([], d.1, gs) (fun b => w3.heap.size ≤ b ∧ b < w7.heap.size)) := KResU.of (F1 := fun _ => False) (Or.inl ⟨rfl, none, 0, rfl⟩) (HD6.out.later hb7) he7' (fun _ h => h.elim) (fun _ h => h.elim) (fun b h h' => by omega) (fun b h => by have := hb7.size; have := HB6.out.size; rcases h with h | h | h; exact h.elim; all_goals omega)
               have HR7 := HR3.out.later hb57
               have t0 := HR7.cell (i := 0) (by simp [zero5])
               have t1 := HR7.cell (i := 1) (by simp [zero5])
               have t2 := HR7.cell (i := 2) (by simp [zero5])
               have t3 := HR7.cell (i := 3) (by simp [zero5])
               have t4 := HR7.cell (i := 4) (by simp [zero5])
               have s0 := HR7.frozen 0
               have s1 := HR7.frozen 1
               have s2 := HR7.frozen 2
               have s3 := HR7.frozen 3
               have s4 := HR7.frozen 4
               simp [zero5] at t0 t1 t2 t3 t4
               clear hb7 hb57 he7 he7' HR7))
          all_goals
            go_wp2
            refine bodyPost_ret (v := .agg #[.int .i64 0, .slice none 0 0, .slice aX nX cX, .slice aY nY cY, .slice aZ nZ cZ]) (by simp [results, Try.results20, go_sem, t0, t1, t2, t3, t4]) rfl ?_
            exact ansK_ret HW7.out (by omega) HK7.out (fun b hb => ⟨by omega, by omega, by omega⟩)
      · rw [ha] at KAM
        rw [HR7.out ⟨rfl, hr, ha⟩]
        clear hr ha HEF HAM HCD HWE HRF HR3' HR7 HR2' HR0 KCD KWE
        go_enter Try.func20, Try.ntmps20
        go_wp2_with fail
        refine (implKernFault_any _ _ _ _ d (H.out.later (later2 _ _ _))).mono ?_
        rw [HM.out]
        rintro e w1 ⟨rfl, hb1⟩
        have HW1 : Hid (Below w.heap.size w w1) := (later2 _ _ _).trans (hb1.mono (by simp; omega))
        have HX1 : Hid (Bx w1 w.heap.size [.slice a1 nB c1, .slice a2 nC c2, .slice a3 nE c3]) := ((Bx.new w [.slice a1 nB c1, .slice a2 nC c2, .slice a3 nE c3] _).later (later1 _ _)).later hb1
        have HR1 : Hid (OwnRow w1 (w.heap.size + 1) zero5.length (fun i => zero5[i]?.getD (.bool false))) := resRowL _ zero5 _ hb1
        have hzr : w.heap.size + 1 < w1.heap.size := HR1.out.lt
        clear hb1
        have x0 := HX1.out 0 _ rfl
        have x1 := HX1.out 1 _ rfl
        have hzk : w.heap.size < w1.heap.size := by omega
        go_wp2_with fail
        refine (KEF.out _).mono ?_
        rintro e w2 ⟨rfl, hb2⟩
        have HO2 : Hid (Bx w2 w1.heap.size [.int .i64 x, .int .i64 y, .int .i64 z]) := (Bx.new w1 [.int .i64 x, .int .i64 y, .int .i64 z] _).later hb2
        have hb12 : Below w1.heap.size w1 w2 := (later1 _ _).trans (hb2.mono (by simp))
        have HW2 : Hid (Below w.heap.size w w2) := HW1.out.trans (hb12.mono HW1.out.size)
        have HX2 : Hid (Bx w2 w.heap.size [.slice a1 nB c1, .slice a2 nC c2, .slice a3 nE c3]) := HX1.out.later hb12
        have HR2 : Hid (OwnRow w2 (w.heap.size + 1) zero5.length (fun i => zero5[i]?.getD (.bool false))) := HR1.out.later hb12
        have hz2 : w1.heap.size < w2.heap.size := HO2.out.lt
        clear hb2 hb12 x0 x1
        have y2 := HX2.out 2 _ rfl
        have o0 := HO2.out 0 _ rfl
        have o1 := HO2.out 1 _ rfl
        have o2 := HO2.out 2 _ rfl
        go_wp2_with fail
        refine (KAM.out _ HW2.out).mono ?_
        rintro e w3 ⟨rfl, hb3⟩
        have HO3 : Hid (Bx w3 w1.heap.size [.int .i64 x, .int .i64 y, .int .i64 z]) := HO2.out.later hb3
        have HW3 : Hid (Below w.heap.size w w3) := HW2.out.trans (hb3.mono HW2.out.size)
        have HX3 : Hid (Bx w3 w.heap.size [.slice a1 nB c1, .slice a2 nC c2, .slice a3 nE c3]) := HX2.out.later hb3
        have HR3 : Hid (OwnRow w3 (w.heap.size + 1) zero5.length (fun i => zero5[i]?.getD (.bool false))) := HR2.out.later hb3
        have hz3 : w1.heap.size < w3.heap.size := HO3.out.lt
        clear hb3 y2 o0 o1 o2
        have HRq := HR3.out
        have t0 := HRq.cell (i := 0) (by simp [zero5])
        have t1 := HRq.cell (i := 1) (by simp [zero5])
        have t2 := HRq.cell (i := 2) (by simp [zero5])
        have t3 := HRq.cell (i := 3) (by simp [zero5])
        have t4 := HRq.cell (i := 4) (by simp [zero5])
        have s0 := HRq.frozen 0
        have s1 := HRq.frozen 1
        have s2 := HRq.frozen 2
        have s3 := HRq.frozen 3
        have s4 := HRq.frozen 4
        simp [zero5] at t0 t1 t2 t3 t4
        clear HRq
        go_wp2
        exact bodyPost_ret (v := .agg #[.int .i64 7, .slice none 0 0, .slice none 0 0, .slice none 0 0, .slice none 0 0]) (by simp [results, Try.results20, go_sem, t0, t1, t2, t3, t4]) rfl (ansK_no HW3.out (by omega) 7)
  · have hne : (m != 0) = true := by simpa using h0
    rw [HRF.out h0]
    clear h0 HEF HAM HCD HWE HRF HR3' HR7 HR2' HR0
    go_enter Try.func20, Try.ntmps20
    go_wp2_with fail
    refine (implKernFault_any _ _ _ _ d (H.out.later (later2 _ _ _))).mono ?_
    rw [HM.out]
    rintro e w1 ⟨rfl, hb1⟩
    have HW1 : Hid (Below w.heap.size w w1) := (later2 _ _ _).trans (hb1.mono (by simp; omega))
    have HX1 : Hid (Bx w1 w.heap.size [.slice a1 nB c1, .slice a2 nC c2, .slice a3 nE c3]) := ((Bx.new w [.slice a1 nB c1, .slice a2 nC c2, .slice a3 nE c3] _).later (later1 _ _)).later hb1
    have HR1 : Hid (OwnRow w1 (w.heap.size + 1) zero5.length (fun i => zero5[i]?.getD (.bool false))) := resRowL _ zero5 _ hb1
    have hzr : w.heap.size + 1 < w1.heap.size := HR1.out.lt
    clear hb1
    have HRq := HR1.out
    have t0 := HRq.cell (i := 0) (by simp [zero5])
    have t1 := HRq.cell (i := 1) (by simp [zero5])
    have t2 := HRq.cell (i := 2) (by simp [zero5])
    have t3 := HRq.cell (i := 3) (by simp [zero5])
    have t4 := HRq.cell (i := 4) (by simp [zero5])
    have s0 := HRq.frozen 0
    have s1 := HRq.frozen 1
    have s2 := HRq.frozen 2
    have s3 := HRq.frozen 3
    have s4 := HRq.frozen 4
    simp [zero5] at t0 t1 t2 t3 t4
    clear HRq
    go_wp2
    exact bodyPost_ret (v := .agg #[.int .i64 m, .slice none 0 0, .slice none 0 0, .slice none 0 0, .slice none 0 0]) (by simp [results, Try.results20, go_sem, t0, t1, t2, t3, t4]) rfl (ansK_no HW1.out (by omega) m)
end Go.Proofs.Ytojegkekafampah

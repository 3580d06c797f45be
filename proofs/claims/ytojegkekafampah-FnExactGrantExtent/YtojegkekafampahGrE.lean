
/- GrantExtent, the specification's. -/
import Derived.Test.YtojegkekafampahGrD
import Derived.Test.YtojegkekafampahRevC
namespace Go.Proofs.Ytojegkekafampah
open Go.RowKit
set_option maxRecDepth 100000

/-- The specification's three appends: to an empty list that was just built, the last two in a region that draws its order. -/
theorem lit_apps (W : World) (n j : Nat) (es : List E3) (gx gy gz : Int) (hn : es.length = n) (hj : j ≤ n) (h8 : n ≤ 8) (A1 A2 : Option Addr) (C1 C2 : Nat) (h1 : AtE W A1 j (es.take j)) (h2 : AtE W A2 (n - j) (es.drop j)) :
    ∃ v1 X1 v2 X2 a m c X3, (Builtin.append_ #[34, 34] 34 #[.slice (some ⟨W.heap.size, 0, none⟩) 0 0, .slice A1 j C1]).run Try.prog (W.alloc (.cells #[] 70)) = .ok v1 X1 ∧
      (Builtin.append_ #[34, 34] 34 #[v1, .slice (some ⟨X1.heap.size, 0, none⟩) 1 1]).run Try.prog (X1.drew.alloc (.cells #[.int .i64 gx, .int .i64 gy, .int .i64 gz] 70)) = .ok v2 X2 ∧
      (Builtin.append_ #[34, 34] 34 #[v2, .slice A2 (n - j) C2]).run Try.prog X2 = .ok (.slice a m c) X3 ∧
      Below W.heap.size W X1 ∧ Below W.heap.size W X2 ∧ Below W.heap.size W X3 ∧ ExtsO X3 (.slice a m c) (es.take j ++ (gx, gy, gz) :: es.drop j) (fun b => W.heap.size ≤ b ∧ b < X3.heap.size) := by
  have l1 : (es.take j).length = j := by rw [List.length_take]; omega
  have l2 : (es.drop j).length = n - j := by rw [List.length_drop]; omega
  have hr0 := ERow.lit W W.heap.size (Nat.le_refl _)
  have hA1 : AtE (W.alloc (.cells #[] 70)) A1 (es.take j).length (es.take j) := by rw [l1]; exact h1.later (later1 _ _)
  obtain ⟨v1, X1, hr1, ho1, hB1, _, _, _, _, _⟩ := append_exts _ 34 W.heap.size _ [] (es.take j) hr0 (by simp) A1 C1 (by simp; omega) hA1
  simp only [List.nil_append] at ho1
  have hW1 : Below W.heap.size W X1 := (later1 _ _).trans hB1
  obtain ⟨v2, X2, hr2, ho2, hB2, _, _⟩ := append_one' X1.drew W.heap.size v1 (es.take j) gx gy gz (ho1.keep fun _ _ => rfl) hW1.size (by omega)
  have hW2 : Below W.heap.size W X2 := hW1.drew.trans hB2
  have hA2 : AtE X2 A2 (es.drop j).length (es.drop j) := by rw [l2]; exact h2.later hW2
  obtain ⟨v3, X3, hr3, ho3, hB3, _, _, a3, c3, e3⟩ := append_exts X2 34 W.heap.size v2 (es.take j ++ [(gx, gy, gz)]) (es.drop j) ho2 hW2.size A2 C2 (by simp [l1, l2]; omega) hA2
  rw [l1] at hr1
  rw [l2] at hr3
  subst e3
  refine ⟨v1, X1, v2, X2, _, _, _, X3, hr1, hr2, hr3, hW1, hW2, hW2.trans hB3, ?_⟩
  have := ho3.exts
  rw [List.append_assoc] at this
  exact this.mono fun b hb => ⟨hb.2.1, hb.2.2⟩

set_option maxHeartbeats 3200000 in
theorem specGrant_any (hcp : L1CopySaid) (w : World) (vB vC vE : Value) (d : KD) (x y z : Int) (h : KernR w vB vC vE d) (hz : ∀ k : Nat, (d.1.1[k]?.getD []).length ≤ 1048576) (hzp : ∀ k : Nat, (d.1.2[k]?.getD (0, [])).2.length ≤ 1048576) :
    Calls Try.prog 19 #[.agg #[vB, vC, vE], .int .i64 x, .int .i64 y, .int .i64 z] w (AnsKR w (grantR d x y z)) := by
  obtain ⟨a1, c1, rfl, _⟩ := h.1.1.open'
  obtain ⟨a2, c2, rfl, _⟩ := h.1.2.open'
  obtain ⟨a3, c3, rfl, _, sE⟩ := h.2.open'
  have hcap : d.2.length ≤ c3 := h.2.cap
  have H : Hid (KernR w (.slice a1 d.1.1.length c1) (.slice a2 d.1.2.length c2) (.slice a3 d.2.length c3) d) := h
  have HE : Hid (AtE w a3 d.2.length d.2) := sE
  have HRR : Hid (grantR d x y z = if kernF d = 0 then (if rightB (x, y, z) d.1.1.length = true then (if anyMeet d.2 (x, y, z) = true then (7, [], ([], []), []) else if 8 ≤ d.2.length then (2, [], ([], []), []) else (0, [], d.1, d.2.take (insAt d.2 x) ++ (x, y, z) :: d.2.drop (insAt d.2 x))) else (3, [], ([], []), [])) else (kernF d, [], ([], []), [])) := rfl
  have HLR : Hid (kernF d = 0 → ∀ W, Calls Try.prog 47 #[.agg #[.int .i64 x, .int .i64 y, .int .i64 z], .int .i64 (d.1.1.length : Int)] W fun e W' => e = .returned (.bool (rightB (x, y, z) d.1.1.length)) ∧ Below W.heap.size W W') := fun h0 W => l2Right_any W x y z d.1.1.length (faultF_lens (kernF_ok h0).1).1
  have HCP : Hid (kernF d = 0 → ∀ W : World, Below w.heap.size w W → Calls Try.prog 48 #[.agg #[.slice a1 d.1.1.length c1, .slice a2 d.1.2.length c2, .slice a3 d.2.length c3]] W (AnsKern W d)) := fun h0 W hW => l2Copy_any hcp W _ _ _ d.1.1 d.1.2 d.2 (h.later hW) (kernF_ok h0).1 (kernF_ok h0).2.1 hz hzp
  have HL8 : Hid (kernF d = 0 → d.2.length ≤ 8 ∧ d.1.1.length ≤ 60 ∧ (∀ i, i < d.2.length → rightB (extAt d.2 i) d.1.1.length = true) ∧ ∀ (j i : Nat), i < j → j < d.2.length → (extAt d.2 i).1 < (extAt d.2 j).1) := fun h0 => ⟨(kernF_ok h0).2.1, (faultF_lens (kernF_ok h0).1).1, fun i hi => ((kernF_ok h0).2.2 i hi).1, kern_rises h0⟩
  have HRF : Hid (¬ kernF d = 0 → grantR d x y z = (kernF d, [], ([], []), [])) := fun hh => by rw [HRR.out, if_neg hh]
  have HR3' : Hid (kernF d = 0 ∧ rightB (x, y, z) d.1.1.length = false → grantR d x y z = (3, [], ([], []), [])) := fun hh => by rw [HRR.out, if_pos hh.1, if_neg (by rw [hh.2]; simp)]
  have HR7 : Hid (kernF d = 0 ∧ rightB (x, y, z) d.1.1.length = true ∧ anyMeet d.2 (x, y, z) = true → grantR d x y z = (7, [], ([], []), [])) := fun hh => by rw [HRR.out, if_pos hh.1, if_pos hh.2.1, if_pos hh.2.2]
  have HR2' : Hid (kernF d = 0 ∧ rightB (x, y, z) d.1.1.length = true ∧ anyMeet d.2 (x, y, z) = false ∧ 8 ≤ d.2.length → grantR d x y z = (2, [], ([], []), [])) := fun hh => by rw [HRR.out, if_pos hh.1, if_pos hh.2.1, if_neg (by rw [hh.2.2.1]; simp), if_pos hh.2.2.2]
  have HR0 : Hid (kernF d = 0 ∧ rightB (x, y, z) d.1.1.length = true ∧ anyMeet d.2 (x, y, z) = false ∧ ¬ 8 ≤ d.2.length → grantR d x y z = (0, [], d.1, d.2.take (insAt d.2 x) ++ (x, y, z) :: d.2.drop (insAt d.2 x))) := fun hh => by rw [HRR.out, if_pos hh.1, if_pos hh.2.1, if_neg (by rw [hh.2.2.1]; simp), if_neg hh.2.2.2]
  clear h hz hzp HRR sE hcp
  generalize d.1.1.length = nB at *
  generalize d.1.2.length = nC at *
  generalize hlE : d.2.length = nE at *
  have HLE : Hid (d.2.length = nE) := hlE
  clear hlE
  generalize hm : kernF d = m at *
  have HM : Hid (kernF d = m) := hm
  clear hm
  by_cases h0 : m = 0
  · subst h0
    have KLR : Hid _ := HLR.out rfl
    have KCP : Hid _ := HCP.out rfl
    obtain ⟨h8n, h60, hrt, hri⟩ := HL8.out rfl
    have HRT : Hid (∀ i, i < nE → rightB (extAt d.2 i) nB = true) := hrt
    have HRI : Hid (∀ (j i : Nat), i < j → j < nE → (extAt d.2 i).1 < (extAt d.2 j).1) := hri
    clear hrt hri
    cases hr : rightB (x, y, z) nB
    · rw [HR3'.out ⟨rfl, hr⟩]
      rw [hr] at KLR
      clear hr HLR HCP HL8 HRF HR3' HR7 HR2' HR0 KCP HRT HRI
      go_enter Try.func19, Try.ntmps19
      go_wp2_with fail
      refine (l2Fault_any (d := d) (((Bx.new w [.slice a1 nB c1, .slice a2 nC c2, .slice a3 nE c3] _).later (later1 _ _)) 0 _ rfl) (((Bx.new w [.slice a1 nB c1, .slice a2 nC c2, .slice a3 nE c3] _).later (later1 _ _)) 1 _ rfl) (((Bx.new w [.slice a1 nB c1, .slice a2 nC c2, .slice a3 nE c3] _).later (later1 _ _)) 2 _ rfl) (H.out.later (later2 _ _ _))).mono ?_
      rw [HM.out]
      rintro e w1 ⟨rfl, hb1⟩
      have HW1 : Hid (Below w.heap.size w w1) := (later2 _ _ _).trans (hb1.mono (by simp; omega))
      have HX1 : Hid (Bx w1 w.heap.size [.slice a1 nB c1, .slice a2 nC c2, .slice a3 nE c3]) := ((Bx.new w [.slice a1 nB c1, .slice a2 nC c2, .slice a3 nE c3] _).later (later1 _ _)).later hb1
      have HR1 : Hid (OwnRow w1 (w.heap.size + 1) zero5.length (fun i => zero5[i]?.getD (.bool false))) := resRowL _ zero5 _ hb1
      have hzr : w.heap.size + 1 < w1.heap.size := HR1.out.lt
      clear hb1
      have x0 := HX1.out 0 _ rfl
      have hzk : w.heap.size < w1.heap.size := by omega
      go_wp2_with fail
      refine (KLR.out _).mono ?_
      rintro e w2 ⟨rfl, hb2⟩
      have HO2 : Hid (Bx w2 w1.heap.size [.int .i64 x, .int .i64 y, .int .i64 z]) := (Bx.new w1 [.int .i64 x, .int .i64 y, .int .i64 z] _).later hb2
      have hb12 : Below w1.heap.size w1 w2 := (later1 _ _).trans (hb2.mono (by simp))
      have HW2 : Hid (Below w.heap.size w w2) := HW1.out.trans (hb12.mono HW1.out.size)
      have HX2 : Hid (Bx w2 w.heap.size [.slice a1 nB c1, .slice a2 nC c2, .slice a3 nE c3]) := HX1.out.later hb12
      have HR2 : Hid (OwnRow w2 (w.heap.size + 1) zero5.length (fun i => zero5[i]?.getD (.bool false))) := HR1.out.later hb12
      have hz2 : w1.heap.size < w2.heap.size := HO2.out.lt
      clear hb2 hb12 x0
      go_wp2_with fail
      refine (l2Bad_any _ 3).mono ?_
      rintro e w9 ⟨rfl, hb9⟩
      have HW9 : Hid (Below w.heap.size w w9) := HW2.out.trans (hb9.mono HW2.out.size)
      have HR9 := HR2.out.later hb9
      have t0 := HR9.cell (i := 0) (by simp [zero5])
      have t1 := HR9.cell (i := 1) (by simp [zero5])
      have t2 := HR9.cell (i := 2) (by simp [zero5])
      have t3 := HR9.cell (i := 3) (by simp [zero5])
      have t4 := HR9.cell (i := 4) (by simp [zero5])
      have s0 := HR9.frozen 0
      have s1 := HR9.frozen 1
      have s2 := HR9.frozen 2
      have s3 := HR9.frozen 3
      have s4 := HR9.frozen 4
      simp [zero5] at t0 t1 t2 t3 t4
      clear hb9 HR9
      go_wp2
      refine bodyPost_ret (v := .agg #[.int .i64 3, .slice none 0 0, .slice none 0 0, .slice none 0 0, .slice none 0 0]) (by simp [results, Try.results19, go_sem, t0, t1, t2, t3, t4]) rfl ?_
      exact ansK_no HW9.out (by omega) 3
    · rw [hr] at KLR
      have KR7 : Hid (anyMeet d.2 (x, y, z) = true → grantR d x y z = (7, [], ([], []), [])) := fun hh => HR7.out ⟨rfl, hr, hh⟩
      have KR2 : Hid (anyMeet d.2 (x, y, z) = false ∧ 8 ≤ nE → grantR d x y z = (2, [], ([], []), [])) := fun hh => HR2'.out ⟨rfl, hr, hh.1, hh.2⟩
      have KR0 : Hid (anyMeet d.2 (x, y, z) = false ∧ ¬ 8 ≤ nE → grantR d x y z = (0, [], d.1, d.2.take (insAt d.2 x) ++ (x, y, z) :: d.2.drop (insAt d.2 x))) := fun hh => HR0.out ⟨rfl, hr, hh.1, hh.2⟩
      have hq := rightB_iff.1 hr
      dsimp only at hq
      have hx0 : 0 ≤ x := by omega
      have hx1 : x ≤ 60 := by omega
      have hy0 : 1 ≤ y := by omega
      have hy1 : y ≤ 60 := by omega
      have hwx : IntKind.i64.wrap (x + y) = x + y := by rw [IntKind.wrap_i64]; omega
      clear hr hq HLR HCP HL8 HRF HR3' HR7 HR2' HR0
      go_enter Try.func19, Try.ntmps19
      go_wp2_with fail
      refine (l2Fault_any (d := d) (((Bx.new w [.slice a1 nB c1, .slice a2 nC c2, .slice a3 nE c3] _).later (later1 _ _)) 0 _ rfl) (((Bx.new w [.slice a1 nB c1, .slice a2 nC c2, .slice a3 nE c3] _).later (later1 _ _)) 1 _ rfl) (((Bx.new w [.slice a1 nB c1, .slice a2 nC c2, .slice a3 nE c3] _).later (later1 _ _)) 2 _ rfl) (H.out.later (later2 _ _ _))).mono ?_
      rw [HM.out]
      rintro e w1 ⟨rfl, hb1⟩
      have HW1 : Hid (Below w.heap.size w w1) := (later2 _ _ _).trans (hb1.mono (by simp; omega))
      have HX1 : Hid (Bx w1 w.heap.size [.slice a1 nB c1, .slice a2 nC c2, .slice a3 nE c3]) := ((Bx.new w [.slice a1 nB c1, .slice a2 nC c2, .slice a3 nE c3] _).later (later1 _ _)).later hb1
      have HR1 : Hid (OwnRow w1 (w.heap.size + 1) zero5.length (fun i => zero5[i]?.getD (.bool false))) := resRowL _ zero5 _ hb1
      have hzr : w.heap.size + 1 < w1.heap.size := HR1.out.lt
      clear hb1
      have x0 := HX1.out 0 _ rfl
      have hzk : w.heap.size < w1.heap.size := by omega
      go_wp2_with fail
      refine (KLR.out _).mono ?_
      rintro e w2 ⟨rfl, hb2⟩
      have HO2 : Hid (Bx w2 w1.heap.size [.int .i64 x, .int .i64 y, .int .i64 z]) := (Bx.new w1 [.int .i64 x, .int .i64 y, .int .i64 z] _).later hb2
      have hb12 : Below w1.heap.size w1 w2 := (later1 _ _).trans (hb2.mono (by simp))
      have HW2 : Hid (Below w.heap.size w w2) := HW1.out.trans (hb12.mono HW1.out.size)
      have HX2 : Hid (Bx w2 w.heap.size [.slice a1 nB c1, .slice a2 nC c2, .slice a3 nE c3]) := HX1.out.later hb12
      have HR2 : Hid (OwnRow w2 (w.heap.size + 1) zero5.length (fun i => zero5[i]?.getD (.bool false))) := HR1.out.later hb12
      have hz2 : w1.heap.size < w2.heap.size := HO2.out.lt
      clear hb2 hb12 x0
      go_wp2
      go_loopw [11, 12] (fun at' i wr => ∃ j a : Nat, j ≤ nE ∧ at' = .int .i64 a ∧ i = .int .i64 j ∧ Below w2.heap.size w2 wr ∧ a ≤ j ∧ (∀ i : Nat, i < a → (extAt d.2 i).1 < x) ∧ (∀ i : Nat, a ≤ i → i < j → ¬ (extAt d.2 i).1 < x) ∧ ∀ i : Nat, i < j → meetB (extAt d.2 i) (x, y, z) = false) (fun _ i _ => nE - (intOf i).toNat)
      case atStart => exact ⟨0, 0, Nat.zero_le _, rfl, rfl, Below.refl _ _, Nat.le_refl _, fun i hi => by omega, fun i h1 h2 => by omega, fun i hi => by omega⟩
      case round =>
        obtain ⟨j, a, hj, rfl, rfl, hbl, haj, hlo, hhi, hme⟩ := hrel
        have HLO : Hid (∀ i : Nat, i < a → (extAt d.2 i).1 < x) := hlo
        have HHI : Hid (∀ i : Nat, a ≤ i → i < j → ¬ (extAt d.2 i).1 < x) := hhi
        have HME : Hid (∀ i : Nat, i < j → meetB (extAt d.2 i) (x, y, z) = false) := hme
        have HWR : Hid (Below w.heap.size w wr) := HW2.out.trans (hbl.mono HW2.out.size)
        have HBL : Hid (Below w2.heap.size w2 wr) := hbl
        have HXR : Hid (Bx wr w.heap.size [.slice a1 nB c1, .slice a2 nC c2, .slice a3 nE c3]) := HX2.out.later hbl
        have HOR : Hid (Bx wr w1.heap.size [.int .i64 x, .int .i64 y, .int .i64 z]) := HO2.out.later hbl
        have x0 := HXR.out 0 _ rfl
        have x1 := HXR.out 1 _ rfl
        have x2 := HXR.out 2 _ rfl
        have o0 := HOR.out 0 _ rfl
        have o1 := HOR.out 1 _ rfl
        have o2 := HOR.out 2 _ rfl
        have hzb : w2.heap.size ≤ wr.heap.size := hbl.size
        have hz1r : w1.heap.size < wr.heap.size := by omega
        have hz0r : w.heap.size < wr.heap.size := by omega
        clear hlo hhi hme hbl
        by_cases hlt : j < nE
        · obtain ⟨b, off, rfl, c0, c1', c2'⟩ := HE.out j hlt
          replace c0 := cell_later HWR.out c0
          replace c1' := cell_later HWR.out c1'
          replace c2' := cell_later HWR.out c2'
          have hq := rightB_iff.1 (HRT.out j hlt)
          have HX : Hid (extAt d.2 j = ((d.2[j]?.getD (0, 0, 0)).1, (d.2[j]?.getD (0, 0, 0)).2.1, (d.2[j]?.getD (0, 0, 0)).2.2)) := rfl
          rw [HX.out] at hq
          dsimp only at hq
          generalize (d.2[j]?.getD (0, 0, 0)).1 = p at *
          generalize (d.2[j]?.getD (0, 0, 0)).2.1 = q at *
          generalize (d.2[j]?.getD (0, 0, 0)).2.2 = r at *
          have hwp : IntKind.i64.wrap (p + q) = p + q := by rw [IntKind.wrap_i64]; omega
          have hq1 : 1 ≤ q := by omega
          clear hq
          by_cases u1 : x < p + q
          · have d1 : decide (x < p + q) = true := by simpa using u1
            by_cases u2 : p < x + y
            · have HZ : Hid (anyMeet d.2 (x, y, z) = true) := anyMeet_at (j := j) (by rw [HLE.out]; exact hlt) (by rw [HX.out]; unfold meetB; simp only [Bool.and_eq_true, decide_eq_true_eq]; exact ⟨u2, u1⟩)
              go_wp2_with fail
              refine (l2Bad_any _ 7).mono ?_
              rintro e w9 ⟨rfl, hb9'⟩
              have hb9 : Below wr.heap.size wr w9 := (later1 _ _).trans (hb9'.mono (by simp))
              have HW9 : Hid (Below w.heap.size w w9) := HWR.out.trans (hb9.mono HWR.out.size)
              have HR9 := (HR2.out.later HBL.out).later hb9
              have t0 := HR9.cell (i := 0) (by simp [zero5])
              have t1 := HR9.cell (i := 1) (by simp [zero5])
              have t2 := HR9.cell (i := 2) (by simp [zero5])
              have t3 := HR9.cell (i := 3) (by simp [zero5])
              have t4 := HR9.cell (i := 4) (by simp [zero5])
              have s0 := HR9.frozen 0
              have s1 := HR9.frozen 1
              have s2 := HR9.frozen 2
              have s3 := HR9.frozen 3
              have s4 := HR9.frozen 4
              simp [zero5] at t0 t1 t2 t3 t4
              clear hb9 hb9' HR9
              go_wp2
              refine bodyPost_ret (v := .agg #[.int .i64 7, .slice none 0 0, .slice none 0 0, .slice none 0 0, .slice none 0 0]) (by simp [results, Try.results19, go_sem, t0, t1, t2, t3, t4]) rfl ?_
              rw [KR7.out HZ.out]
              exact ansK_no HW9.out (by omega) 7
            · have d2 : decide (p < x + y) = false := by simpa using u2
              have hpx : ¬ p < x := by omega
              have d3 : decide (p < x) = false := by simpa using hpx
              have HM2 : Hid (meetB (extAt d.2 j) (x, y, z) = false) := by unfold Hid; rw [HX.out]; unfold meetB; rw [d2, Bool.false_and]
              have HP2 : Hid (¬ (extAt d.2 j).1 < x) := by unfold Hid; rw [HX.out]; exact hpx
              clear u1 u2 hpx
              go_wp2
              go_roundw
              case rel =>
                refine ⟨j + 1, a, by omega, rfl, by go_num, HBL.out.trans ((later1 _ _).mono HBL.out.size), by omega, HLO.out, fun i h1 h2 => ?_, fun i hi => ?_⟩
                · by_cases e : i = j
                  · subst e; exact HP2.out
                  · exact HHI.out i h1 (by omega)
                · by_cases e : i = j
                  · subst e; exact HM2.out
                  · exact HME.out i (by omega)
              case measure => simp [intOf]; omega
          · have d1 : decide (x < p + q) = false := by simpa using u1
            have hpx : p < x := by omega
            have HM2 : Hid (meetB (extAt d.2 j) (x, y, z) = false) := by unfold Hid; rw [HX.out]; unfold meetB; rw [d1, Bool.and_false]
            have HP2 : Hid ((extAt d.2 j).1 < x) := by unfold Hid; rw [HX.out]; exact hpx
            clear u1
            go_wp2
            go_roundw
            case rel =>
              refine ⟨j + 1, j + 1, by omega, by go_num, by go_num, HBL.out.trans ((later1 _ _).mono HBL.out.size), Nat.le_refl _, fun i hi => ?_, fun i h1 h2 => by omega, fun i hi => ?_⟩
              · by_cases e : i = j
                · subst e; exact HP2.out
                · have := HRI.out j i (by omega) hlt
                  have := HP2.out
                  omega
              · by_cases e : i = j
                · subst e; exact HM2.out
                · exact HME.out i (by omega)
            case measure => simp [intOf]; omega
        · have HZ : Hid (anyMeet d.2 (x, y, z) = false) := anyMeet_none (fun i hi => HME.out i (by rw [HLE.out] at hi; omega))
          have HIN : Hid (insAt d.2 x = a) := insAt_of HLO.out (by rw [HLE.out]; omega) (by
            by_cases e : a = nE
            · exact Or.inl (by rw [HLE.out]; exact e)
            · exact Or.inr (HHI.out a (Nat.le_refl _) (by omega)))
          have e : j = nE := by omega
          subst e
          by_cases h8 : 8 ≤ j
          · have h8' : (8 : Int) ≤ (j : Int) := by omega
            go_wp2_with fail
            refine (l2Bad_any _ 2).mono ?_
            rintro e w9 ⟨rfl, hb9'⟩
            have hb9 : Below wr.heap.size wr w9 := hb9'
            have HW9 : Hid (Below w.heap.size w w9) := HWR.out.trans (hb9.mono HWR.out.size)
            have HR9 := (HR2.out.later HBL.out).later hb9
            have t0 := HR9.cell (i := 0) (by simp [zero5])
            have t1 := HR9.cell (i := 1) (by simp [zero5])
            have t2 := HR9.cell (i := 2) (by simp [zero5])
            have t3 := HR9.cell (i := 3) (by simp [zero5])
            have t4 := HR9.cell (i := 4) (by simp [zero5])
            have s0 := HR9.frozen 0
            have s1 := HR9.frozen 1
            have s2 := HR9.frozen 2
            have s3 := HR9.frozen 3
            have s4 := HR9.frozen 4
            simp [zero5] at t0 t1 t2 t3 t4
            clear hb9 hb9' HR9
            go_wp2
            refine bodyPost_ret (v := .agg #[.int .i64 2, .slice none 0 0, .slice none 0 0, .slice none 0 0, .slice none 0 0]) (by simp [results, Try.results19, go_sem, t0, t1, t2, t3, t4]) rfl ?_
            rw [KR2.out ⟨HZ.out, h8⟩]
            exact ansK_no HW9.out (by omega) 2
          · have h8' : decide ((8 : Int) ≤ (j : Int)) = false := by simp; omega
            have h8'' : decide (8 ≤ j) = false := by simp; omega
            have HRG : Hid (grantR d x y z = (0, [], d.1, d.2.take a ++ (x, y, z) :: d.2.drop a)) := by unfold Hid; rw [KR0.out ⟨HZ.out, h8⟩, HIN.out]
            clear h8
            go_wp2_with fail
            refine (KCP.out _ HWR.out).mono ?_
            rintro e w5 ⟨b1, m1, k1, b2, m2, k2, b3, m3, k3, rfl, hb5, hk5⟩
            have HW5 : Hid (Below w.heap.size w w5) := HWR.out.trans (hb5.mono HWR.out.size)
            have HX5 : Hid (Bx w5 w.heap.size [.slice a1 nB c1, .slice a2 nC c2, .slice a3 j c3]) := HXR.out.later hb5
            have HO5 : Hid (Bx w5 w1.heap.size [.int .i64 x, .int .i64 y, .int .i64 z]) := HOR.out.later hb5
            have HR5 : Hid (OwnRow w5 (w.heap.size + 1) zero5.length (fun i => zero5[i]?.getD (.bool false))) := (HR2.out.later HBL.out).later hb5
            obtain ⟨F1, G1, hdd, _, hdis, hsub⟩ := hk5
            have HD5 : Hid (DiskU w5 (.slice b1 m1 k1) (.slice b2 m2 k2) d.1 (fun b => wr.heap.size ≤ b ∧ b < w5.heap.size)) := hdd.mono fun b hb => hsub b (Or.inl hb)
            have hz5 : wr.heap.size ≤ w5.heap.size := hb5.size
            have hzz : w.heap.size < w5.heap.size := by omega
            have y2 := HX5.out 2 _ rfl
            clear hb5 hdd hdis hsub x0 x1 x2 o0 o1 o2
            obtain ⟨A1, C1, hs1, hat1⟩ := slice_take a3 j c3 a (by omega)
            obtain ⟨A2, C2, hs2, hat2⟩ := slice_drop a3 j c3 a (by omega) hcap
            have hW0 : Below w5.heap.size w5 (w5.alloc (.cells #[.slice b1 m1 k1, .slice b2 m2 k2, .slice b3 m3 k3] 36)) := later1 _ _
            have hW0' : Below w.heap.size w (w5.alloc (.cells #[.slice b1 m1 k1, .slice b2 m2 k2, .slice b3 m3 k3] 36)) := HW5.out.trans (hW0.mono HW5.out.size)
            obtain ⟨v1, X1, v2, X2, aV, nV, cV, X3, hr1, hr2, hr3, hB1, hB2, hB3, hE3⟩ := lit_apps (w5.alloc (.cells #[.slice b1 m1 k1, .slice b2 m2 k2, .slice b3 m3 k3] 36)) j a d.2 x y z HLE.out (by omega) h8n A1 A2 C1 C2 (hat1 _ d.2 (by omega) (HE.out.later hW0')) (hat2 _ d.2 (HE.out.later hW0'))
            have hout : OwnRow X3 w5.heap.size 3 (fun i => [Value.slice b1 m1 k1, .slice b2 m2 k2, .slice b3 m3 k3][i]?.getD (.bool false)) := (OwnRow.newL w5 [.slice b1 m1 k1, .slice b2 m2 k2, .slice b3 m3 k3] 36).later hB3
            have hWX : Below w5.heap.size w5 X3 := hW0.trans (hB3.mono hW0.size)
            have HWX : Hid (Below w.heap.size w X3) := HW5.out.trans (hWX.mono HW5.out.size)
            have hRX := HR5.out.later hWX
            have p2 := cell_later hB1 (cell_later hW0 y2)
            have pp2 := cell_later hB2 (cell_later hW0 y2)
            have ppp2 := cell_later hB3 (cell_later hW0 y2)
            have o0 := cell_later hB1 (cell_later hW0 (HO5.out 0 _ rfl))
            have o1 := cell_later hB1 (cell_later hW0 (HO5.out 1 _ rfl))
            have o2 := cell_later hB1 (cell_later hW0 (HO5.out 2 _ rfl))
            have oo0 := cell_later hB2 (cell_later hW0 (HO5.out 0 _ rfl))
            have oo1 := cell_later hB2 (cell_later hW0 (HO5.out 1 _ rfl))
            have oo2 := cell_later hB2 (cell_later hW0 (HO5.out 2 _ rfl))
            have ooo0 := cell_later hB3 (cell_later hW0 (HO5.out 0 _ rfl))
            have ooo1 := cell_later hB3 (cell_later hW0 (HO5.out 1 _ rfl))
            have ooo2 := cell_later hB3 (cell_later hW0 (HO5.out 2 _ rfl))
            have HKX : Hid (KResU X3 (.slice none 0 0) (.slice b1 m1 k1) (.slice b2 m2 k2) (.slice aV nV cV) ([], d.1, d.2.take a ++ (x, y, z) :: d.2.drop a) (fun b => wr.heap.size ≤ b ∧ b < X3.heap.size ∧ b ≠ w5.heap.size)) := by
              have hs3 := hWX.size
              refine KResU.of (F1 := fun _ => False) (F2 := fun b => wr.heap.size ≤ b ∧ b < w5.heap.size) (F3 := fun b => w5.heap.size < b ∧ b < X3.heap.size) (Or.inl ⟨rfl, none, 0, rfl⟩) (HD5.out.later hWX) (hE3.mono fun b hb => ⟨by have h := hb.1; rw [World.size_alloc] at h; exact h, hb.2⟩) (fun _ h => h.elim) (fun _ h => h.elim) (fun b h h' => by omega) (fun b h => by rcases h with h | h | h; exact h.elim; all_goals omega)
            have q0 := hout.cell (i := 0) (by simp)
            have q1 := hout.cell (i := 1) (by simp)
            have q2 := hout.cell (i := 2) (by simp)
            have r2 := hout.frozen 2
            simp at q0 q1 q2
            have hzX : w5.heap.size < X3.heap.size := hout.lt
            have t0 := hRX.cell (i := 0) (by simp [zero5])
            have t1 := hRX.cell (i := 1) (by simp [zero5])
            have t2 := hRX.cell (i := 2) (by simp [zero5])
            have t3 := hRX.cell (i := 3) (by simp [zero5])
            have t4 := hRX.cell (i := 4) (by simp [zero5])
            have s0 := hRX.frozen 0
            have s1 := hRX.frozen 1
            have s2 := hRX.frozen 2
            have s3 := hRX.frozen 3
            have s4 := hRX.frozen 4
            simp [zero5] at t0 t1 t2 t3 t4
            have hn1 : w.heap.size + 1 ≠ w5.heap.size := by omega
            have hn2 : w5.heap.size ≠ w.heap.size + 1 := by omega
            have hn3 : w.heap.size ≠ w5.heap.size := by omega
            have hn4 : w5.heap.size ≠ w.heap.size := by omega
            have hn5 : w1.heap.size ≠ w5.heap.size := by omega
            have hn6 : w5.heap.size ≠ w1.heap.size := by omega
            have hzX1 : w.heap.size < X1.heap.size := by have := hB1.size; rw [World.size_alloc] at this; omega
            have hzX2 : w1.heap.size < X1.heap.size := by have := hB1.size; rw [World.size_alloc] at this; omega
            rw [World.size_alloc] at hr1
            have HR1' : Hid (_ = _) := hr1
            have HR2' : Hid (_ = _) := hr2
            have HR3' : Hid (_ = _) := hr3
            clear hr1 hr2 hr3 hB1 hB2 hB3 hE3 hout hWX hRX hW0 hW0' hat1 hat2
            go_wp2_with (at_builtin; first | (refine wpList_append_run rfl _ _ 34 rfl _ _ rfl rfl _ _ HR1'.out ?_; clear HR1'))
            go_region_held3 (fun W => W.cell? ⟨w.heap.size, 2, none⟩ = some (.slice a3 j c3) ∧ W.cell? ⟨w1.heap.size, 0, none⟩ = some (.int .i64 x) ∧ W.cell? ⟨w1.heap.size, 1, none⟩ = some (.int .i64 y) ∧ W.cell? ⟨w1.heap.size, 2, none⟩ = some (.int .i64 z)) (go_keep) (first
              | (refine step_append_run rfl _ _ 34 rfl _ _ rfl rfl _ _ HR2'.out ?_; clear HR2')
              | (refine step_append_run rfl _ _ 34 rfl _ _ rfl rfl _ _ HR3'.out ?_; clear HR3'))
            all_goals
              go_wp2
              refine bodyPost_ret (v := .agg #[.int .i64 0, .slice none 0 0, .slice b1 m1 k1, .slice b2 m2 k2, .slice aV nV cV]) (by simp [results, Try.results19, go_sem, t0, t1, t2, t3, t4]) rfl ?_
              rw [HRG.out]
              have HK4 := HKX.out.keep (w' := X3.setCell ⟨w5.heap.size, 2, none⟩ (.slice aV nV cV)) fun b hb _ => by rw [Below.heap_setCell _ _ _ _ (by simp; omega)]
              exact ansK_ret (HWX.out.setCell (by simp; omega) _) (by omega) HK4 (fun b hb => ⟨by omega, by simp [World.setCell]; omega, by omega⟩)
  · have hne : (m != 0) = true := by simpa using h0
    rw [HRF.out h0]
    clear h0 HLR HCP HL8 HRF HR3' HR7 HR2' HR0
    go_enter Try.func19, Try.ntmps19
    go_wp2_with fail
    refine (l2Fault_any (d := d) (((Bx.new w [.slice a1 nB c1, .slice a2 nC c2, .slice a3 nE c3] _).later (later1 _ _)) 0 _ rfl) (((Bx.new w [.slice a1 nB c1, .slice a2 nC c2, .slice a3 nE c3] _).later (later1 _ _)) 1 _ rfl) (((Bx.new w [.slice a1 nB c1, .slice a2 nC c2, .slice a3 nE c3] _).later (later1 _ _)) 2 _ rfl) (H.out.later (later2 _ _ _))).mono ?_
    rw [HM.out]
    rintro e w1 ⟨rfl, hb1⟩
    have HW1 : Hid (Below w.heap.size w w1) := (later2 _ _ _).trans (hb1.mono (by simp; omega))
    have HX1 : Hid (Bx w1 w.heap.size [.slice a1 nB c1, .slice a2 nC c2, .slice a3 nE c3]) := ((Bx.new w [.slice a1 nB c1, .slice a2 nC c2, .slice a3 nE c3] _).later (later1 _ _)).later hb1
    have HR1 : Hid (OwnRow w1 (w.heap.size + 1) zero5.length (fun i => zero5[i]?.getD (.bool false))) := resRowL _ zero5 _ hb1
    have hzr : w.heap.size + 1 < w1.heap.size := HR1.out.lt
    clear hb1
    go_wp2_with fail
    refine (l2Bad_any _ m).mono ?_
    rintro e w9 ⟨rfl, hb9⟩
    have HW9 : Hid (Below w.heap.size w w9) := HW1.out.trans (hb9.mono HW1.out.size)
    have HR9 := HR1.out.later hb9
    have t0 := HR9.cell (i := 0) (by simp [zero5])
    have t1 := HR9.cell (i := 1) (by simp [zero5])
    have t2 := HR9.cell (i := 2) (by simp [zero5])
    have t3 := HR9.cell (i := 3) (by simp [zero5])
    have t4 := HR9.cell (i := 4) (by simp [zero5])
    have s0 := HR9.frozen 0
    have s1 := HR9.frozen 1
    have s2 := HR9.frozen 2
    have s3 := HR9.frozen 3
    have s4 := HR9.frozen 4
    simp [zero5] at t0 t1 t2 t3 t4
    clear hb9 HR9
    go_wp2
    refine bodyPost_ret (v := .agg #[.int .i64 m, .slice none 0 0, .slice none 0 0, .slice none 0 0, .slice none 0 0]) (by simp [results, Try.results19, go_sem, t0, t1, t2, t3, t4]) rfl ?_
    exact ansK_no HW9.out (by omega) m
end Go.Proofs.Ytojegkekafampah


/- RevokeExtent, the specification's. -/
import Derived.Test.YtojegkekafampahRevB
import Derived.Test.YtojegkekafampahCutE
import Derived.Deep.RegionLaw
namespace Go.Proofs.Ytojegkekafampah
open Go.RowKit
set_option maxRecDepth 100000

theorem kern_rises {d : KD} (h : kernF d = 0) : ∀ (j i : Nat), i < j → j < d.2.length → (extAt d.2 i).1 < (extAt d.2 j).1 := by
  intro j
  induction j with
  | zero => intro i hi; omega
  | succ j ih =>
    intro i hi hj
    have h1 := ((kernF_ok h).2.2 (j + 1) hj).2 (by omega)
    have h2 := (rightB_iff.1 ((kernF_ok h).2.2 j (by omega)).1).2.2.1.1
    simp only [Nat.add_sub_cancel] at h1
    by_cases e : i = j
    · subst e; omega
    · have := ih i (by omega) (by omega)
      omega
theorem cut_at {es : List E3} {i : Nat} (hi : i < es.length) (h : ∀ j, j < es.length → ¬ j = i → extAt es j ≠ extAt es i) : es.filter (fun e => e != extAt es i) = es.take i ++ es.drop (i + 1) := by
  have e0 : es = es.take i ++ extAt es i :: es.drop (i + 1) := by
    have h1 : extAt es i = es[i] := by simp [extAt, hi]
    rw [h1, ← List.drop_eq_getElem_cons hi, List.take_append_drop]
  conv => lhs; rw [e0]
  have hm : extAt (es.take i ++ extAt es i :: es.drop (i + 1)) i = extAt es i := by rw [← e0]
  rw [hm, List.filter_append, List.filter_cons, if_neg (by simp)]
  congr 1
  · rw [List.filter_eq_self]
    intro e he
    obtain ⟨j, hj, rfl⟩ := List.mem_iff_getElem.1 he
    simp only [List.length_take] at hj
    have := h j (by omega) (by omega)
    simp only [List.getElem_take, bne_iff_ne]
    have h1 : extAt es j = es[j] := by simp [extAt, show j < es.length by omega]
    rw [← h1]; exact this
  · rw [List.filter_eq_self]
    intro e he
    obtain ⟨j, hj, rfl⟩ := List.mem_iff_getElem.1 he
    simp only [List.length_drop] at hj
    have := h (i + 1 + j) (by omega) (by omega)
    simp only [List.getElem_drop, bne_iff_ne]
    have h1 : extAt es (i + 1 + j) = es[i + 1 + j] := by simp [extAt, show i + 1 + j < es.length by omega]
    rw [← h1]; exact this
theorem rev_list {d : KD} {i : Nat} {x : Int} (h : kernF d = 0) (hi : i < d.2.length) (hl : ∀ j : Nat, j < i → ((extAt d.2 j).1 == x) = false) (hx : ((extAt d.2 i).1 == x) = true) : fromE d.2 x = extAt d.2 i ∧ (d.2.filter fun e => e != fromE d.2 x) = d.2.take i ++ d.2.drop (i + 1) := by
  have h1 := fromE_at hl hi hx
  refine ⟨h1, ?_⟩
  rw [h1]
  refine cut_at hi fun j hj hne e => ?_
  have : j < i ∨ i < j := by omega
  rcases this with hh | hh
  · have := kern_rises h i j hh hi; rw [e] at this; omega
  · have := kern_rises h j i hh hj; rw [e] at this; omega

set_option maxHeartbeats 3200000 in
theorem specRevoke_any (hcp : L1CopySaid) (w : World) (vB vC vE : Value) (d : KD) (x key : Int) (h : KernR w vB vC vE d) (hz : ∀ k : Nat, (d.1.1[k]?.getD []).length ≤ 1048576) (hzp : ∀ k : Nat, (d.1.2[k]?.getD (0, [])).2.length ≤ 1048576) :
    Calls Try.prog 22 #[.agg #[vB, vC, vE], .int .i64 x, .int .i64 key] w (AnsKR w (revR d x key)) := by
  obtain ⟨a1, c1, rfl, _⟩ := h.1.1.open'
  obtain ⟨a2, c2, rfl, _⟩ := h.1.2.open'
  obtain ⟨a3, c3, rfl, _, sE⟩ := h.2.open'
  have H : Hid (KernR w (.slice a1 d.1.1.length c1) (.slice a2 d.1.2.length c2) (.slice a3 d.2.length c3) d) := h
  have HE : Hid (AtE w a3 d.2.length d.2) := sE
  have hcap : d.2.length ≤ c3 := h.2.cap
  have HRR : Hid (revR d x key = if kernF d = 0 then (if (fromE d.2 x).2.2 = 0 then (4, [], ([], []), []) else if (fromE d.2 x).2.2 = key then (0, [], d.1, d.2.filter fun e => e != fromE d.2 x) else (6, [], ([], []), [])) else (kernF d, [], ([], []), [])) := rfl
  have HCP : Hid (kernF d = 0 → ∀ W : World, Below w.heap.size w W → Calls Try.prog 48 #[.agg #[.slice a1 d.1.1.length c1, .slice a2 d.1.2.length c2, .slice a3 d.2.length c3]] W (AnsKern W d)) := fun h0 W hW => l2Copy_any hcp W _ _ _ d.1.1 d.1.2 d.2 (h.later hW) (kernF_ok h0).1 (kernF_ok h0).2.1 hz hzp
  have HL8 : Hid (kernF d = 0 → d.2.length ≤ 8) := fun h0 => (kernF_ok h0).2.1
  have HRF : Hid (¬ kernF d = 0 → revR d x key = (kernF d, [], ([], []), [])) := fun hh => by rw [HRR.out, if_neg hh]
  have HRZ : Hid (kernF d = 0 → (∀ i : Nat, i < d.2.length → ((extAt d.2 i).1 == x) = false) → revR d x key = (4, [], ([], []), [])) := fun h0 hh => by rw [HRR.out, if_pos h0, fromE_none hh, if_pos rfl]
  have HRK : Hid (kernF d = 0 → ∀ i, i < d.2.length → (∀ j : Nat, j < i → ((extAt d.2 j).1 == x) = false) → ((extAt d.2 i).1 == x) = true → revR d x key = if (extAt d.2 i).2.2 = key then (0, [], d.1, d.2.take i ++ d.2.drop (i + 1)) else (6, [], ([], []), [])) := fun h0 i hi hl hx => by
    obtain ⟨e1, e2⟩ := rev_list h0 hi hl hx
    have hp := (rightB_iff.1 ((kernF_ok h0).2.2 i hi).1).1.1
    rw [HRR.out, if_pos h0, e2, e1, if_neg (by omega)]
  clear h hz hzp HRR sE hcp
  generalize d.1.1.length = nB at *
  generalize d.1.2.length = nC at *
  generalize hlE : d.2.length = nE at *
  have HLE : Hid (d.2.length = nE) := hlE
  clear hlE
  generalize hm : kernF d = m at *
  have HM : Hid (kernF d = m) := hm
  clear hm
  by_cases h0 : m = 0
  · subst h0
    have KCP : Hid _ := HCP.out rfl
    have KRZ : Hid _ := HRZ.out rfl
    have KRK : Hid _ := HRK.out rfl
    have h8 := HL8.out rfl
    clear HCP HL8 HRZ HRK HRF
    go_enter Try.func22, Try.ntmps22
    go_wp2_with fail
    refine (l2Fault_any (d := d) (((Bx.new w [.slice a1 nB c1, .slice a2 nC c2, .slice a3 nE c3] _).later (later1 _ _)) 0 _ rfl) (((Bx.new w [.slice a1 nB c1, .slice a2 nC c2, .slice a3 nE c3] _).later (later1 _ _)) 1 _ rfl) (((Bx.new w [.slice a1 nB c1, .slice a2 nC c2, .slice a3 nE c3] _).later (later1 _ _)) 2 _ rfl) (H.out.later (later2 _ _ _))).mono ?_
    rw [HM.out]
    rintro e w1 ⟨rfl, hb1⟩
    have HW1 : Hid (Below w.heap.size w w1) := (later2 _ _ _).trans (hb1.mono (by simp; omega))
    have HX1 : Hid (Bx w1 w.heap.size [.slice a1 nB c1, .slice a2 nC c2, .slice a3 nE c3]) := ((Bx.new w [.slice a1 nB c1, .slice a2 nC c2, .slice a3 nE c3] _).later (later1 _ _)).later hb1
    have HR1 : Hid (OwnRow w1 (w.heap.size + 1) zero5.length (fun i => zero5[i]?.getD (.bool false))) := resRowL _ zero5 _ hb1
    have hzr : w.heap.size + 1 < w1.heap.size := HR1.out.lt
    clear hb1
    go_wp2
    go_loopw [8] (fun i wr => ∃ j : Nat, j ≤ nE ∧ i = .int .i64 j ∧ Below w1.heap.size w1 wr ∧ ∀ i : Nat, i < j → ((extAt d.2 i).1 == x) = false) (fun i _ => nE - (intOf i).toNat)
    case atStart => exact ⟨0, Nat.zero_le _, rfl, Below.refl _ _, fun i hi => by omega⟩
    case round =>
      obtain ⟨j, hj, rfl, hbl, hall⟩ := hrel
      have HA : Hid (∀ i : Nat, i < j → ((extAt d.2 i).1 == x) = false) := hall
      have HWR : Hid (Below w.heap.size w wr) := HW1.out.trans (hbl.mono HW1.out.size)
      have HBL : Hid (Below w1.heap.size w1 wr) := hbl
      have HXR : Hid (Bx wr w.heap.size [.slice a1 nB c1, .slice a2 nC c2, .slice a3 nE c3]) := HX1.out.later hbl
      have x0 := HXR.out 0 _ rfl
      have x1 := HXR.out 1 _ rfl
      have x2 := HXR.out 2 _ rfl
      have hzr' : w.heap.size + 1 < wr.heap.size := by have := hbl.size; omega
      clear hall hbl
      by_cases hlt : j < nE
      · obtain ⟨b, off, rfl, c0, c1', c2'⟩ := HE.out j hlt
        replace c2' := cell_later HWR.out c2'
        replace c0 := cell_later HWR.out c0
        have HX : Hid (extAt d.2 j = ((d.2[j]?.getD (0, 0, 0)).1, (d.2[j]?.getD (0, 0, 0)).2.1, (d.2[j]?.getD (0, 0, 0)).2.2)) := rfl
        generalize (d.2[j]?.getD (0, 0, 0)).1 = p at *
        generalize (d.2[j]?.getD (0, 0, 0)).2.1 = y at *
        generalize (d.2[j]?.getD (0, 0, 0)).2.2 = z at *
        clear c1'
        cases hh : (p == x)
        · have HH : Hid (((extAt d.2 j).1 == x) = false) := by unfold Hid; rw [HX.out]; exact hh
          have hh2 : (p != x) = true := by simpa using hh
          go_wp2
          go_roundw
          case rel =>
            refine ⟨j + 1, by omega, by go_num, HBL.out, fun i hi => ?_⟩
            by_cases e : i = j
            · subst e; exact HH.out
            · exact HA.out i (by omega)
          case measure => simp [intOf]; omega
        · have HRJ : Hid (revR d x key = if z = key then (0, [], d.1, d.2.take j ++ d.2.drop (j + 1)) else (6, [], ([], []), [])) := by
            have := KRK.out j hlt HA.out (by rw [HX.out]; exact hh)
            rw [HX.out] at this
            exact this
          have hh2 : (p != x) = false := by simpa using hh
          by_cases hkey : z = key
          · have HRJ2 : Hid (revR d x key = (0, [], d.1, d.2.take j ++ d.2.drop (j + 1))) := by unfold Hid; rw [HRJ.out, if_pos hkey]
            have hk2 : (z != key) = false := by simpa using hkey
            clear HRJ
            go_wp2_with fail
            refine (KCP.out _ HWR.out).mono ?_
            rintro e w2 ⟨b1, m1, k1, b2, m2, k2, b3, m3, k3, rfl, hb2, hk2'⟩
            have HW2 : Hid (Below w.heap.size w w2) := HWR.out.trans (hb2.mono HWR.out.size)
            have HX2 : Hid (Bx w2 w.heap.size [.slice a1 nB c1, .slice a2 nC c2, .slice (some ⟨b, off, none⟩) nE c3]) := HXR.out.later hb2
            have HR2 : Hid (OwnRow w2 (w.heap.size + 1) zero5.length (fun i => zero5[i]?.getD (.bool false))) := (HR1.out.later HBL.out).later hb2
            obtain ⟨F1, G1, hdd, _, hdis, hsub⟩ := hk2'
            have HD2 : Hid (DiskU w2 (.slice b1 m1 k1) (.slice b2 m2 k2) d.1 (fun b => wr.heap.size ≤ b ∧ b < w2.heap.size)) := hdd.mono fun b hb => hsub b (Or.inl hb)
            have y2 := HX2.out 2 _ rfl
            have hz2 : wr.heap.size ≤ w2.heap.size := hb2.size
            have hzz : w.heap.size < w2.heap.size := by omega
            clear hb2 hdd hdis hsub x0 x1 x2 c2' c0
            obtain ⟨A1, C1, hs1, hat1⟩ := slice_take (some ⟨b, off, none⟩) nE c3 j (by omega)
            obtain ⟨A2, C2, hs2', hat2⟩ := slice_drop (some ⟨b, off, none⟩) nE c3 (j + 1) (by omega) hcap
            have hs2 : ∀ W : World, (Instr.slice 34 (.slice (some ⟨b, off, none⟩) nE c3) (some (.int .i64 ((j : Int) + 1))) none none).run Try.prog W = .ok (.slice A2 (nE - (j + 1)) C2) W := fun W => hs2' W
            have hwr : IntKind.i64.wrap ((j : Int) + 1) = (j : Int) + 1 := by rw [IntKind.wrap_i64]; omega
            have HAPP : Hid (∃ v1 X1 aV nV cV X2, (Builtin.append_ #[34, 34] 34 #[.slice (some ⟨w2.heap.size + 1, 0, none⟩) 0 0, .slice A1 j C1]).run Try.prog ((w2.alloc (.cells #[.slice b1 m1 k1, .slice b2 m2 k2, .slice b3 m3 k3] 36)).drew.alloc (.cells #[] 70)) = .ok v1 X1 ∧
                (Builtin.append_ #[34, 34] 34 #[v1, .slice A2 (nE - (j + 1)) C2]).run Try.prog X1 = .ok (.slice aV nV cV) X2 ∧ X1.cell? ⟨w.heap.size, 2, none⟩ = some (.slice (some ⟨b, off, none⟩) nE c3) ∧ X2.cell? ⟨w.heap.size, 2, none⟩ = some (.slice (some ⟨b, off, none⟩) nE c3) ∧ Below w.heap.size w X2 ∧ OwnRow X2 w2.heap.size 3 (fun i => [Value.slice b1 m1 k1, .slice b2 m2 k2, .slice b3 m3 k3][i]?.getD (.bool false)) ∧ OwnRow X2 (w.heap.size + 1) zero5.length (fun i => zero5[i]?.getD (.bool false)) ∧
                KResU X2 (.slice none 0 0) (.slice b1 m1 k1) (.slice b2 m2 k2) (.slice aV nV cV) ([], d.1, d.2.take j ++ d.2.drop (j + 1)) (fun b => wr.heap.size ≤ b ∧ b < X2.heap.size ∧ b ≠ w2.heap.size)) := by
              have hW0 : Below w2.heap.size w2 (w2.alloc (.cells #[.slice b1 m1 k1, .slice b2 m2 k2, .slice b3 m3 k3] 36)).drew := (later1 _ _).drew
              have hW1 : Below w2.heap.size w2 ((w2.alloc (.cells #[.slice b1 m1 k1, .slice b2 m2 k2, .slice b3 m3 k3] 36)).drew.alloc (.cells #[] 70)) := hW0.trans ((later1 _ _).mono hW0.size)
              have hsz : ((w2.alloc (.cells #[.slice b1 m1 k1, .slice b2 m2 k2, .slice b3 m3 k3] 36)).drew.alloc (.cells #[] 70)).heap.size = w2.heap.size + 2 := by simp
              have hrow : ((w2.alloc (.cells #[.slice b1 m1 k1, .slice b2 m2 k2, .slice b3 m3 k3] 36)).drew.alloc (.cells #[] 70)).heap[w2.heap.size + 1]? = some (.cells #[] 70 (0, 0)) := by
                have h := Go.Deep.blk_alloc_new (w2.alloc (.cells #[.slice b1 m1 k1, .slice b2 m2 k2, .slice b3 m3 k3] 36)).drew (.cells #[] 70)
                have e : (w2.alloc (.cells #[.slice b1 m1 k1, .slice b2 m2 k2, .slice b3 m3 k3] 36)).drew.heap.size = w2.heap.size + 1 := by simp
                rw [e] at h
                exact h
              have hout : OwnRow ((w2.alloc (.cells #[.slice b1 m1 k1, .slice b2 m2 k2, .slice b3 m3 k3] 36)).drew.alloc (.cells #[] 70)) w2.heap.size 3 (fun i => [Value.slice b1 m1 k1, .slice b2 m2 k2, .slice b3 m3 k3][i]?.getD (.bool false)) := ((OwnRow.newL w2 [.slice b1 m1 k1, .slice b2 m2 k2, .slice b3 m3 k3] 36).later (Below.refl _ _).drew).later (later1 _ _)
              generalize ((w2.alloc (.cells #[.slice b1 m1 k1, .slice b2 m2 k2, .slice b3 m3 k3] 36)).drew.alloc (.cells #[] 70)) = W1 at *
              have hW1' : Below w.heap.size w W1 := HW2.out.trans (hW1.mono HW2.out.size)
              obtain ⟨v1, X1, v2, X2, aV, cV, hr1, hr2, rfl, hE2, hk1, hk2, hB1, hB2⟩ := two_apps W1 (w2.heap.size + 1) (w2.heap.size + 1) (d.2.take j) (d.2.drop (j + 1)) hrow (Nat.le_refl _) A1 A2 C1 C2 j (nE - (j + 1)) (by rw [List.length_take, HLE.out]; omega) (by rw [List.length_drop, HLE.out]) (by omega) (hat1 W1 d.2 (by omega) (HE.out.later hW1')) (hat2 W1 d.2 (HE.out.later hW1')) (fun b' off' e hn => by
                obtain ⟨b'', off'', e', q0, _⟩ := hat2 w d.2 HE.out 0 hn
                rw [e] at e'
                simp only [Option.some.injEq, Addr.mk.injEq, and_true] at e'
                have hq := World.block_lt_of_cell? _ _ q0
                simp only at hq
                omega)
              have h2s := hB2.size
              refine ⟨v1, X1, aV, _, cV, X2, hr1, hr2, ?_, ?_, hW1'.trans (hB2.mono (by omega)), hout.block (hk2 _ (by omega) (by omega)), (HR2.out.later hW1).block (hk2 _ (by omega) (by omega)), ?_⟩
              · rw [World.cell?_of_block (w := W1) (a := ⟨w.heap.size, 2, none⟩) (hk1 _ (by simp; omega) (by simp; omega))]
                exact cell_later hW1 y2
              · rw [World.cell?_of_block (w := W1) (a := ⟨w.heap.size, 2, none⟩) (hk2 _ (by simp; omega) (by simp; omega))]
                exact cell_later hW1 y2
              · refine KResU.of (F1 := fun _ => False) (F2 := fun b => wr.heap.size ≤ b ∧ b < w2.heap.size) (F3 := fun b => w2.heap.size < b ∧ b < X2.heap.size) (Or.inl ⟨rfl, none, 0, rfl⟩) ((HD2.out.later hW1).keep fun b hb hlt => hk2 b hlt (by omega)) (hE2.mono fun b hb => ⟨by omega, hb.2⟩) (fun _ h => h.elim) (fun _ h => h.elim) (fun b h h' => by omega) (fun b h => by rcases h with h | h | h; exact h.elim; all_goals omega)
            obtain ⟨v1, X1, aV, nV, cV, X2, hr1, hr2, z2, z3, hWX, hOX, hRX, hKX⟩ := HAPP.out
            have HR1' : Hid (_ = _) := hr1
            have HR2' : Hid (_ = _) := hr2
            have HWX : Hid (Below w.heap.size w X2) := hWX
            have HKX : Hid (KResU X2 (.slice none 0 0) (.slice b1 m1 k1) (.slice b2 m2 k2) (.slice aV nV cV) ([], d.1, d.2.take j ++ d.2.drop (j + 1)) (fun b => wr.heap.size ≤ b ∧ b < X2.heap.size ∧ b ≠ w2.heap.size)) := hKX
            have q0 := hOX.cell (i := 0) (by simp)
            have q1 := hOX.cell (i := 1) (by simp)
            have q2 := hOX.cell (i := 2) (by simp)
            have r2 := hOX.frozen 2
            simp at q0 q1 q2
            have hzX : w2.heap.size < X2.heap.size := hOX.lt
            have t0 := hRX.cell (i := 0) (by simp [zero5])
            have t1 := hRX.cell (i := 1) (by simp [zero5])
            have t2 := hRX.cell (i := 2) (by simp [zero5])
            have t3 := hRX.cell (i := 3) (by simp [zero5])
            have t4 := hRX.cell (i := 4) (by simp [zero5])
            have s0 := hRX.frozen 0
            have s1 := hRX.frozen 1
            have s2 := hRX.frozen 2
            have s3 := hRX.frozen 3
            have s4 := hRX.frozen 4
            simp [zero5] at t0 t1 t2 t3 t4
            have hn1 : w.heap.size + 1 ≠ w2.heap.size := by omega
            have hn2 : w2.heap.size ≠ w.heap.size + 1 := by omega
            have hn3 : w.heap.size ≠ w2.heap.size := by omega
            have hn4 : w2.heap.size ≠ w.heap.size := by omega
            clear hr1 hr2 hWX hOX hRX hKX HAPP hat1 hat2 hs2'
            go_wp2_with fail
            go_region_held3 (fun W => W.cell? ⟨w.heap.size, 2, none⟩ = some (.slice (some ⟨b, off, none⟩) nE c3)) (go_keep) (first
              | (refine step_append_run rfl _ _ 34 rfl _ _ rfl rfl _ _ HR1'.out ?_)
              | (refine step_append_run rfl _ _ 34 rfl _ _ rfl rfl _ _ HR2'.out ?_))
            all_goals
              go_wp2
              refine bodyPost_ret (v := .agg #[.int .i64 0, .slice none 0 0, .slice b1 m1 k1, .slice b2 m2 k2, .slice aV nV cV]) (by simp [results, Try.results22, go_sem, t0, t1, t2, t3, t4]) rfl ?_
              rw [HRJ2.out]
              have HK4 := HKX.out.keep (w' := X2.setCell ⟨w2.heap.size, 2, none⟩ (.slice aV nV cV)) fun b hb _ => by rw [Below.heap_setCell _ _ _ _ (by simp; omega)]
              exact ansK_ret (HWX.out.setCell (by simp; omega) _) (by omega) HK4 (fun b hb => ⟨by omega, by simp [World.setCell]; omega, by omega⟩)
          · have HRJ2 : Hid (revR d x key = (6, [], ([], []), [])) := by unfold Hid; rw [HRJ.out, if_neg hkey]
            have hk2 : (z != key) = true := by simpa using hkey
            clear HRJ
            go_wp2_with fail
            refine (l2Bad_any _ 6).mono ?_
            rintro e w3 ⟨rfl, hb3⟩
            have HW3 : Hid (Below w.heap.size w w3) := HWR.out.trans (hb3.mono HWR.out.size)
            have HR3 := (HR1.out.later HBL.out).later hb3
            have t0 := HR3.cell (i := 0) (by simp [zero5])
            have t1 := HR3.cell (i := 1) (by simp [zero5])
            have t2 := HR3.cell (i := 2) (by simp [zero5])
            have t3 := HR3.cell (i := 3) (by simp [zero5])
            have t4 := HR3.cell (i := 4) (by simp [zero5])
            have s0 := HR3.frozen 0
            have s1 := HR3.frozen 1
            have s2 := HR3.frozen 2
            have s3 := HR3.frozen 3
            have s4 := HR3.frozen 4
            simp [zero5] at t0 t1 t2 t3 t4
            clear hb3 HR3 x0 x1 x2 c2' c0
            go_wp2
            refine bodyPost_ret (v := .agg #[.int .i64 6, .slice none 0 0, .slice none 0 0, .slice none 0 0, .slice none 0 0]) (by simp [results, Try.results22, go_sem, t0, t1, t2, t3, t4]) rfl ?_
            rw [HRJ2.out]
            exact ansK_no HW3.out (by omega) 6
      · have e : j = nE := by omega
        subst e
        have HZ : Hid (revR d x key = (4, [], ([], []), [])) := KRZ.out (fun i hi => HA.out i hi)
        go_wp2_with fail
        refine (l2Bad_any _ 4).mono ?_
        rintro e w3 ⟨rfl, hb3⟩
        have HW3 : Hid (Below w.heap.size w w3) := HWR.out.trans (hb3.mono HWR.out.size)
        have HR3 := (HR1.out.later HBL.out).later hb3
        have t0 := HR3.cell (i := 0) (by simp [zero5])
        have t1 := HR3.cell (i := 1) (by simp [zero5])
        have t2 := HR3.cell (i := 2) (by simp [zero5])
        have t3 := HR3.cell (i := 3) (by simp [zero5])
        have t4 := HR3.cell (i := 4) (by simp [zero5])
        have s0 := HR3.frozen 0
        have s1 := HR3.frozen 1
        have s2 := HR3.frozen 2
        have s3 := HR3.frozen 3
        have s4 := HR3.frozen 4
        simp [zero5] at t0 t1 t2 t3 t4
        clear hb3 HR3 x0 x1 x2
        go_wp2
        refine bodyPost_ret (v := .agg #[.int .i64 4, .slice none 0 0, .slice none 0 0, .slice none 0 0, .slice none 0 0]) (by simp [results, Try.results22, go_sem, t0, t1, t2, t3, t4]) rfl ?_
        rw [HZ.out]
        exact ansK_no HW3.out (by omega) 4
  · have hne : (m != 0) = true := by simpa using h0
    rw [HRF.out h0]
    clear h0 HCP HL8 HRZ HRK HRF
    go_enter Try.func22, Try.ntmps22
    go_wp2_with fail
    refine (l2Fault_any (d := d) (((Bx.new w [.slice a1 nB c1, .slice a2 nC c2, .slice a3 nE c3] _).later (later1 _ _)) 0 _ rfl) (((Bx.new w [.slice a1 nB c1, .slice a2 nC c2, .slice a3 nE c3] _).later (later1 _ _)) 1 _ rfl) (((Bx.new w [.slice a1 nB c1, .slice a2 nC c2, .slice a3 nE c3] _).later (later1 _ _)) 2 _ rfl) (H.out.later (later2 _ _ _))).mono ?_
    rw [HM.out]
    rintro e w1 ⟨rfl, hb1⟩
    have HW1 : Hid (Below w.heap.size w w1) := (later2 _ _ _).trans (hb1.mono (by simp; omega))
    have HX1 : Hid (Bx w1 w.heap.size [.slice a1 nB c1, .slice a2 nC c2, .slice a3 nE c3]) := ((Bx.new w [.slice a1 nB c1, .slice a2 nC c2, .slice a3 nE c3] _).later (later1 _ _)).later hb1
    have HR1 : Hid (OwnRow w1 (w.heap.size + 1) zero5.length (fun i => zero5[i]?.getD (.bool false))) := resRowL _ zero5 _ hb1
    have hzr : w.heap.size + 1 < w1.heap.size := HR1.out.lt
    clear hb1
    go_wp2_with fail
    refine (l2Bad_any _ m).mono ?_
    rintro e w3 ⟨rfl, hb3⟩
    have HW3 : Hid (Below w.heap.size w w3) := HW1.out.trans (hb3.mono HW1.out.size)
    have HR3 := HR1.out.later hb3
    have t0 := HR3.cell (i := 0) (by simp [zero5])
    have t1 := HR3.cell (i := 1) (by simp [zero5])
    have t2 := HR3.cell (i := 2) (by simp [zero5])
    have t3 := HR3.cell (i := 3) (by simp [zero5])
    have t4 := HR3.cell (i := 4) (by simp [zero5])
    have s0 := HR3.frozen 0
    have s1 := HR3.frozen 1
    have s2 := HR3.frozen 2
    have s3 := HR3.frozen 3
    have s4 := HR3.frozen 4
    simp [zero5] at t0 t1 t2 t3 t4
    clear hb3 HR3
    go_wp2
    exact bodyPost_ret (v := .agg #[.int .i64 m, .slice none 0 0, .slice none 0 0, .slice none 0 0, .slice none 0 0]) (by simp [results, Try.results22, go_sem, t0, t1, t2, t3, t4]) rfl (ansK_no HW3.out (by omega) m)
end Go.Proofs.Ytojegkekafampah

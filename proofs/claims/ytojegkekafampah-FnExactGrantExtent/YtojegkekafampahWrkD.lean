
/- WriteKern, the specification's. -/
import Derived.Test.YtojegkekafampahWrkC
namespace Go.Proofs.Ytojegkekafampah
open Go.RowKit
set_option maxRecDepth 100000

set_option maxHeartbeats 3200000 in
theorem specWrite_any (hcp : L1CopySaid) (w : World) (vB vC vE v : Value) (d : KD) (key x : Int) (ws : List Int) (h : KernR w vB vC vE d) (hv : Ints w v ws) (hz : ∀ k : Nat, (d.1.1[k]?.getD []).length ≤ 1048576) (hzp : ∀ k : Nat, (d.1.2[k]?.getD (0, [])).2.length ≤ 1048576) (hzw : ws.length ≤ 1048576) :
    Calls Try.prog 27 #[.agg #[vB, vC, vE], .int .i64 key, .int .i64 x, v] w (AnsKR w (writeR d key x ws)) := by
  obtain ⟨a1, c1, rfl, _⟩ := h.1.1.open'
  obtain ⟨a2, c2, rfl, _⟩ := h.1.2.open'
  obtain ⟨a3, c3, rfl, _⟩ := h.2.open'
  have HCP : Hid L1CopySaid := hcp
  have H : Hid (KernR w (.slice a1 d.1.1.length c1) (.slice a2 d.1.2.length c2) (.slice a3 d.2.length c3) d) := h
  have HV : Hid (Ints w v ws) := hv
  have HZ : Hid (∀ k : Nat, (d.1.1[k]?.getD []).length ≤ 1048576) := hz
  have HZP : Hid (∀ k : Nat, (d.1.2[k]?.getD (0, [])).2.length ≤ 1048576) := hzp
  have HZW : Hid (ws.length ≤ 1048576) := hzw
  have HWR : Hid (writeR d key x ws = if mayF d key x = 0 then (if putCode d.1.1 d.1.2 x ws = 0 then (0, [], (d.1.1, d.1.2 ++ [(x, ws)]), d.2) else (putCode d.1.1 d.1.2 x ws, [], ([], []), [])) else (mayF d key x, [], ([], []), [])) := rfl
  have FACTS : Hid (mayF d key x = 0 → faultF d.1.1 d.1.2 = 0 ∧ d.2.length ≤ 8) := fun h => by have := kernF_ok (mayF_ok h); exact ⟨this.1, this.2.1⟩
  rw [HWR.out]
  clear h hv hz hzp hzw HWR hcp
  generalize d.1.1.length = nB at *
  generalize d.1.2.length = nC at *
  generalize hlE : d.2.length = nE at *
  have HLE : Hid (d.2.length = nE) := hlE
  clear hlE
  generalize hm : mayF d key x = m at *
  have HM : Hid (mayF d key x = m) := hm
  clear hm
  by_cases h0 : m = 0
  · subst h0
    rw [if_pos rfl]
    obtain ⟨hff, h8⟩ := FACTS.out rfl
    have HFF : Hid (faultF d.1.1 d.1.2 = 0) := hff
    have H8 : Hid (d.2.length ≤ 8) := by unfold Hid; rw [HLE.out]; exact h8
    generalize hp : putCode d.1.1 d.1.2 x ws = c at *
    have HPC : Hid (putCode d.1.1 d.1.2 x ws = c) := hp
    clear hp FACTS hff h8
    by_cases hc : c = 0
    · subst hc
      rw [if_pos rfl]
      have HPB : Hid (putBlocks d.1.1 d.1.2 x ws = d.1.1) := by unfold Hid putBlocks; rw [if_pos HPC.out]
      have HPP : Hid (putCache d.1.1 d.1.2 x ws = d.1.2 ++ [(x, ws)]) := by unfold Hid putCache; rw [if_pos HPC.out]
      go_enter Try.func27, Try.ntmps27
      go_wp2_with fail
      refine (l2May_any (d := d) key x ((Bx.new w [.slice a1 nB c1, .slice a2 nC c2, .slice a3 nE c3] _).later (later1 _ _) 0 _ rfl) ((Bx.new w [.slice a1 nB c1, .slice a2 nC c2, .slice a3 nE c3] _).later (later1 _ _) 1 _ rfl) ((Bx.new w [.slice a1 nB c1, .slice a2 nC c2, .slice a3 nE c3] _).later (later1 _ _) 2 _ rfl) (H.out.later (later2 _ _ _))).mono ?_
      rw [HM.out]
      rintro e w1 ⟨rfl, hb1⟩
      have HW1 : Hid (Below w.heap.size w w1) := (later2 _ _ _).trans (hb1.mono (by simp; omega))
      have HX1 : Hid (Bx w1 w.heap.size [.slice a1 nB c1, .slice a2 nC c2, .slice a3 nE c3]) := ((Bx.new w [.slice a1 nB c1, .slice a2 nC c2, .slice a3 nE c3] _).later (later1 _ _)).later hb1
      have HR1 : Hid (OwnRow w1 (w.heap.size + 1) zero5.length _) := resRowL _ zero5 _ hb1
      have x0 := HX1.out 0 _ rfl
      have x1 := HX1.out 1 _ rfl
      clear hb1
      go_wp2_with fail
      refine (specPut_any HCP.out _ _ _ _ d.1.1 d.1.2 x ws (H.out.1.1.later HW1.out) (H.out.1.2.later HW1.out) (HV.out.later HW1.out) HZ.out HZP.out HZW.out).mono ?_
      rw [HPC.out, HPB.out, HPP.out]
      rintro e w2 hans
      obtain ⟨aB, nB', cB, aC, nC', cC, rfl, hb2, hd2⟩ := hans.uni
      have HW2 : Hid (Below w.heap.size w w2) := HW1.out.trans (hb2.mono HW1.out.size)
      have HD2 : Hid (DiskU w2 (.slice aB nB' cB) (.slice aC nC' cC) (d.1.1, d.1.2 ++ [(x, ws)]) (fun b => w1.heap.size ≤ b ∧ b < w2.heap.size)) := hd2
      have HX2 : Hid (Bx w2 w.heap.size [.slice a1 nB c1, .slice a2 nC c2, .slice a3 nE c3]) := HX1.out.later hb2
      have HR2 : Hid (OwnRow w2 (w.heap.size + 1) zero5.length _) := HR1.out.later hb2
      have hz12 : w1.heap.size ≤ w2.heap.size := hb2.size
      have hzw : w.heap.size < w2.heap.size := HX2.out.lt
      have hzr : w.heap.size + 1 < w1.heap.size := HR1.out.lt
      have y0 := HX2.out 0 _ rfl
      have y1 := HX2.out 1 _ rfl
      have y2 := HX2.out 2 _ rfl
      clear hb2 hd2 hans x0 x1
      go_wp2_with fail
      refine (l2Copy_any HCP.out _ _ _ _ d.1.1 d.1.2 d.2 (H.out.later (HW2.out.trans ((later1 _ _).mono HW2.out.size))) HFF.out H8.out HZ.out HZP.out).mono ?_
      rintro e w3 ⟨b1, m1, k1, b2, m2, k2, b3, m3, k3, rfl, hb3, hk3⟩
      have hb23 : Below w2.heap.size w2 w3 := (later1 _ _).trans (hb3.mono (by simp))
      have HW3 : Hid (Below w.heap.size w w3) := HW2.out.trans (hb23.mono HW2.out.size)
      have HBX3 := (Bx.new w2 [.int .i64 0, .slice aB nB' cB, .slice aC nC' cC] _).later hb3
      have e1 := HBX3 1 _ rfl
      have e2 := HBX3 2 _ rfl
      have hz3 : w2.heap.size < w3.heap.size := HBX3.lt
      obtain ⟨F1, G1, _, hex, hdis, hsub⟩ := hk3
      have HK3 : Hid (KResU w3 (.slice none 0 0) (.slice aB nB' cB) (.slice aC nC' cC) (.slice b3 m3 k3) ([], (d.1.1, d.1.2 ++ [(x, ws)]), d.2) (fun b => w1.heap.size ≤ b ∧ b < w3.heap.size)) :=
        KResU.of (F1 := fun _ => False) (F3 := fun b => w2.heap.size < b ∧ b < w3.heap.size) (Or.inl ⟨rfl, none, 0, rfl⟩) (HD2.out.later hb23) (hex.mono fun b hb => by have := hsub b (Or.inr hb); unfold fresh at this; simp at this; omega) (fun _ h => h.elim) (fun _ h => h.elim) (fun b h h' => by omega) (fun b h => by rcases h with h | h | h; exact h.elim; all_goals omega)
      have HR3 := HR2.out.later hb23
      have t0 := HR3.cell (i := 0) (by simp [zero5])
      have t1 := HR3.cell (i := 1) (by simp [zero5])
      have t2 := HR3.cell (i := 2) (by simp [zero5])
      have t3 := HR3.cell (i := 3) (by simp [zero5])
      have t4 := HR3.cell (i := 4) (by simp [zero5])
      have s0 := HR3.frozen 0
      have s1 := HR3.frozen 1
      have s2 := HR3.frozen 2
      have s3 := HR3.frozen 3
      have s4 := HR3.frozen 4
      simp [zero5] at t0 t1 t2 t3 t4
      have hzr3 : w.heap.size + 1 < w3.heap.size := by omega
      clear hb3 hb23 HBX3 hex hdis hsub HR3 y0 y1 y2
      go_wp2
      refine bodyPost_ret (v := .agg #[.int .i64 0, .slice none 0 0, .slice aB nB' cB, .slice aC nC' cC, .slice b3 m3 k3]) (by simp [results, Try.results27, go_sem, t0, t1, t2, t3, t4, hzr3]) rfl ?_
      exact (ansK_ret HW3.out (by omega) HK3.out (fun b hb => ⟨by omega, by omega, by omega⟩)).later (later1 _ _)
    · have hne : (c != 0) = true := by simpa using hc
      rw [if_neg hc]
      have HPB : Hid (putBlocks d.1.1 d.1.2 x ws = []) := by unfold Hid putBlocks; rw [if_neg (by rw [HPC.out]; exact hc)]
      have HPP : Hid (putCache d.1.1 d.1.2 x ws = []) := by unfold Hid putCache; rw [if_neg (by rw [HPC.out]; exact hc)]
      clear hc
      go_enter Try.func27, Try.ntmps27
      go_wp2_with fail
      refine (l2May_any (d := d) key x ((Bx.new w [.slice a1 nB c1, .slice a2 nC c2, .slice a3 nE c3] _).later (later1 _ _) 0 _ rfl) ((Bx.new w [.slice a1 nB c1, .slice a2 nC c2, .slice a3 nE c3] _).later (later1 _ _) 1 _ rfl) ((Bx.new w [.slice a1 nB c1, .slice a2 nC c2, .slice a3 nE c3] _).later (later1 _ _) 2 _ rfl) (H.out.later (later2 _ _ _))).mono ?_
      rw [HM.out]
      rintro e w1 ⟨rfl, hb1⟩
      have HW1 : Hid (Below w.heap.size w w1) := (later2 _ _ _).trans (hb1.mono (by simp; omega))
      have HX1 : Hid (Bx w1 w.heap.size [.slice a1 nB c1, .slice a2 nC c2, .slice a3 nE c3]) := ((Bx.new w [.slice a1 nB c1, .slice a2 nC c2, .slice a3 nE c3] _).later (later1 _ _)).later hb1
      have HR1 : Hid (OwnRow w1 (w.heap.size + 1) zero5.length _) := resRowL _ zero5 _ hb1
      have x0 := HX1.out 0 _ rfl
      have x1 := HX1.out 1 _ rfl
      clear hb1
      go_wp2_with fail
      refine (specPut_any HCP.out _ _ _ _ d.1.1 d.1.2 x ws (H.out.1.1.later HW1.out) (H.out.1.2.later HW1.out) (HV.out.later HW1.out) HZ.out HZP.out HZW.out).mono ?_
      rw [HPC.out, HPB.out, HPP.out]
      rintro e w2 hans
      obtain ⟨aB, nB', cB, aC, nC', cC, rfl, hb2, hd2⟩ := hans.uni
      have HW2 : Hid (Below w.heap.size w w2) := HW1.out.trans (hb2.mono HW1.out.size)
      have HR2 : Hid (OwnRow w2 (w.heap.size + 1) zero5.length _) := HR1.out.later hb2
      have hzr : w.heap.size + 1 < w2.heap.size := HR2.out.lt
      clear hb2 hd2 hans x0 x1
      go_wp2_with fail
      refine (l2Bad_any _ c).mono ?_
      rintro e w3 ⟨rfl, hb3⟩
      have hb23 : Below w2.heap.size w2 w3 := (later1 _ _).trans (hb3.mono (by simp))
      have HW3 : Hid (Below w.heap.size w w3) := HW2.out.trans (hb23.mono HW2.out.size)
      have HR3 := HR2.out.later hb23
      have t0 := HR3.cell (i := 0) (by simp [zero5])
      have t1 := HR3.cell (i := 1) (by simp [zero5])
      have t2 := HR3.cell (i := 2) (by simp [zero5])
      have t3 := HR3.cell (i := 3) (by simp [zero5])
      have t4 := HR3.cell (i := 4) (by simp [zero5])
      have s0 := HR3.frozen 0
      have s1 := HR3.frozen 1
      have s2 := HR3.frozen 2
      have s3 := HR3.frozen 3
      have s4 := HR3.frozen 4
      simp [zero5] at t0 t1 t2 t3 t4
      clear hb3 hb23 HR3
      go_wp2
      exact bodyPost_ret (v := .agg #[.int .i64 c, .slice none 0 0, .slice none 0 0, .slice none 0 0, .slice none 0 0]) (by simp [results, Try.results27, go_sem, t0, t1, t2, t3, t4]) rfl (ansK_no HW3.out (by omega) c)
  · have hne : (m != 0) = true := by simpa using h0
    rw [if_neg h0]
    clear h0 FACTS
    go_enter Try.func27, Try.ntmps27
    go_wp2_with fail
    refine (l2May_any (d := d) key x ((Bx.new w [.slice a1 nB c1, .slice a2 nC c2, .slice a3 nE c3] _).later (later1 _ _) 0 _ rfl) ((Bx.new w [.slice a1 nB c1, .slice a2 nC c2, .slice a3 nE c3] _).later (later1 _ _) 1 _ rfl) ((Bx.new w [.slice a1 nB c1, .slice a2 nC c2, .slice a3 nE c3] _).later (later1 _ _) 2 _ rfl) (H.out.later (later2 _ _ _))).mono ?_
    rw [HM.out]
    rintro e w1 ⟨rfl, hb1⟩
    have HW1 : Hid (Below w.heap.size w w1) := (later2 _ _ _).trans (hb1.mono (by simp; omega))
    have HX1 : Hid (Bx w1 w.heap.size [.slice a1 nB c1, .slice a2 nC c2, .slice a3 nE c3]) := ((Bx.new w [.slice a1 nB c1, .slice a2 nC c2, .slice a3 nE c3] _).later (later1 _ _)).later hb1
    have HR1 : Hid (OwnRow w1 (w.heap.size + 1) zero5.length _) := resRowL _ zero5 _ hb1
    have hzr : w.heap.size + 1 < w1.heap.size := HR1.out.lt
    clear hb1
    go_wp2_with fail
    refine (l2Bad_any _ m).mono ?_
    rintro e w3 ⟨rfl, hb3⟩
    have HW3 : Hid (Below w.heap.size w w3) := HW1.out.trans (hb3.mono HW1.out.size)
    have HR3 := HR1.out.later hb3
    have t0 := HR3.cell (i := 0) (by simp [zero5])
    have t1 := HR3.cell (i := 1) (by simp [zero5])
    have t2 := HR3.cell (i := 2) (by simp [zero5])
    have t3 := HR3.cell (i := 3) (by simp [zero5])
    have t4 := HR3.cell (i := 4) (by simp [zero5])
    have s0 := HR3.frozen 0
    have s1 := HR3.frozen 1
    have s2 := HR3.frozen 2
    have s3 := HR3.frozen 3
    have s4 := HR3.frozen 4
    simp [zero5] at t0 t1 t2 t3 t4
    clear hb3 HR3
    go_wp2
    exact bodyPost_ret (v := .agg #[.int .i64 m, .slice none 0 0, .slice none 0 0, .slice none 0 0, .slice none 0 0]) (by simp [results, Try.results27, go_sem, t0, t1, t2, t3, t4]) rfl (ansK_no HW3.out (by omega) m)
end Go.Proofs.Ytojegkekafampah

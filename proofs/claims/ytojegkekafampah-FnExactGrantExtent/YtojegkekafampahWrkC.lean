
/- WriteKern, the program's. -/
import Derived.Test.YtojegkekafampahWrkB
import Derived.Test.YtojegkekafampahL2D
import Derived.Test.YtojegkekafampahPutC
namespace Go.Proofs.Ytojegkekafampah
open Go.RowKit
set_option maxRecDepth 100000

def writeR (d : KD) (key x : Int) (ws : List Int) : Int × KResD :=
  if mayF d key x = 0 then (if putCode d.1.1 d.1.2 x ws = 0 then (0, [], (d.1.1, d.1.2 ++ [(x, ws)]), d.2) else (putCode d.1.1 d.1.2 x ws, [], ([], []), [])) else (mayF d key x, [], ([], []), [])
theorem mayF_ok {d : KD} {key x : Int} (h : mayF d key x = 0) : kernF d = 0 := by
  unfold mayF at h
  split at h
  · rename_i hc
    obtain ⟨c, v, hr⟩ : ∃ c v, ownR d x = (c, v) := ⟨_, _, rfl⟩
    rw [hr] at hc
    dsimp only at hc
    subst hc
    exact (ownR_ok hr).1
  · rename_i hc
    exact absurd h hc

set_option maxHeartbeats 3200000 in
theorem implWrite_any (w : World) (vB vC vE v : Value) (d : KD) (key x : Int) (ws : List Int) (h : KernR w vB vC vE d) (hv : Ints w v ws) (hz : ∀ k : Nat, (d.1.1[k]?.getD []).length ≤ 1048576) (hzp : ∀ k : Nat, (d.1.2[k]?.getD (0, [])).2.length ≤ 1048576) (hzw : ws.length ≤ 1048576) :
    Calls Try.prog 29 #[.agg #[vB, vC, vE], .int .i64 key, .int .i64 x, v] w (AnsKR w (writeR d key x ws)) := by
  obtain ⟨a1, c1, rfl, _⟩ := h.1.1.open'
  obtain ⟨a2, c2, rfl, _⟩ := h.1.2.open'
  obtain ⟨a3, c3, rfl, _⟩ := h.2.open'
  have H : Hid (KernR w (.slice a1 d.1.1.length c1) (.slice a2 d.1.2.length c2) (.slice a3 d.2.length c3) d) := h
  have HV : Hid (Ints w v ws) := hv
  have HZ : Hid (∀ k : Nat, (d.1.1[k]?.getD []).length ≤ 1048576) := hz
  have HZP : Hid (∀ k : Nat, (d.1.2[k]?.getD (0, [])).2.length ≤ 1048576) := hzp
  have HZW : Hid (ws.length ≤ 1048576) := hzw
  have HWR : Hid (writeR d key x ws = if mayF d key x = 0 then (if putCode d.1.1 d.1.2 x ws = 0 then (0, [], (d.1.1, d.1.2 ++ [(x, ws)]), d.2) else (putCode d.1.1 d.1.2 x ws, [], ([], []), [])) else (mayF d key x, [], ([], []), [])) := rfl
  have FACTS : Hid (mayF d key x = 0 → d.2.length ≤ 1048576) := fun h => by have := (kernF_ok (mayF_ok h)).2.1; omega
  rw [HWR.out]
  clear h hv hz hzp hzw HWR
  generalize d.1.1.length = nB at *
  generalize d.1.2.length = nC at *
  generalize hlE : d.2.length = nE at *
  have HLE : Hid (d.2.length = nE) := hlE
  clear hlE
  generalize hm : mayF d key x = m at *
  have HM : Hid (mayF d key x = m) := hm
  clear hm
  by_cases h0 : m = 0
  · subst h0
    rw [if_pos rfl]
    have HNE : Hid (d.2.length ≤ 1048576) := by unfold Hid; rw [HLE.out]; exact FACTS.out rfl
    generalize hp : putCode d.1.1 d.1.2 x ws = c at *
    have HPC : Hid (putCode d.1.1 d.1.2 x ws = c) := hp
    clear hp FACTS
    by_cases hc : c = 0
    · subst hc
      rw [if_pos rfl]
      have HPB : Hid (putBlocks d.1.1 d.1.2 x ws = d.1.1) := by unfold Hid putBlocks; rw [if_pos HPC.out]
      have HPP : Hid (putCache d.1.1 d.1.2 x ws = d.1.2 ++ [(x, ws)]) := by unfold Hid putCache; rw [if_pos HPC.out]
      go_enter Try.func29, Try.ntmps29
      go_wp2_with fail
      refine (keyFault_any _ _ _ _ d key x (H.out.later (later2 _ _ _))).mono ?_
      rw [HM.out]
      rintro e w1 ⟨rfl, hb1⟩
      have HW1 : Hid (Below w.heap.size w w1) := (later2 _ _ _).trans (hb1.mono (by simp; omega))
      have HX1 : Hid (Bx w1 w.heap.size [.slice a1 nB c1, .slice a2 nC c2, .slice a3 nE c3]) := ((Bx.new w [.slice a1 nB c1, .slice a2 nC c2, .slice a3 nE c3] _).later (later1 _ _)).later hb1
      have HR1 : Hid (OwnRow w1 (w.heap.size + 1) zero5.length _) := resRowL _ zero5 _ hb1
      have x0 := HX1.out 0 _ rfl
      have x1 := HX1.out 1 _ rfl
      clear hb1
      go_wp2_with fail
      refine (implPut_any _ _ _ _ d.1.1 d.1.2 x ws (H.out.1.1.later HW1.out) (H.out.1.2.later HW1.out) (HV.out.later HW1.out) HZ.out HZP.out HZW.out).mono ?_
      rw [HPC.out, HPB.out, HPP.out]
      rintro e w2 hans
      obtain ⟨aB, nB', cB, aC, nC', cC, rfl, hb2, hd2⟩ := hans.uni
      have HW2 : Hid (Below w.heap.size w w2) := HW1.out.trans (hb2.mono HW1.out.size)
      have HD2 : Hid (DiskU w2 (.slice aB nB' cB) (.slice aC nC' cC) (d.1.1, d.1.2 ++ [(x, ws)]) (fun b => w1.heap.size ≤ b ∧ b < w2.heap.size)) := hd2
      have HX2 : Hid (Bx w2 w.heap.size [.slice a1 nB c1, .slice a2 nC c2, .slice a3 nE c3]) := HX1.out.later hb2
      have HR2 : Hid (OwnRow w2 (w.heap.size + 1) zero5.length _) := HR1.out.later hb2
      have hz12 : w1.heap.size ≤ w2.heap.size := hb2.size
      have hzw : w.heap.size < w2.heap.size := HX2.out.lt
      have hzr : w.heap.size + 1 < w1.heap.size := HR1.out.lt
      have y2 := HX2.out 2 _ rfl
      clear hb2 hd2 hans x0 x1
      have HCE : Hid (∀ W0 : World, W0 = w2.alloc (.cells #[.int .i64 0, .slice aB nB' cB, .slice aC nC' cC] 76) → Calls Try.prog 66 #[.slice a3 nE c3] W0.drew fun e w3 => ∃ ax nx cx, e = .returned (.slice ax nx cx) ∧ w3.cell? ⟨w2.heap.size, 1, none⟩ = some (.slice aB nB' cB) ∧ w3.cell? ⟨w2.heap.size, 2, none⟩ = some (.slice aC nC' cC) ∧ w3.cell? ⟨w.heap.size, 2, none⟩ = some (.slice a3 nE c3) ∧
          Hid (Below w.heap.size w w3) ∧ Hid (KResU w3 (.slice none 0 0) (.slice aB nB' cB) (.slice aC nC' cC) (.slice ax nx cx) ([], (d.1.1, d.1.2 ++ [(x, ws)]), d.2) (fun b => w1.heap.size ≤ b ∧ b < w3.heap.size)) ∧ Hid (OwnRow w3 (w.heap.size + 1) zero5.length (fun i => zero5[i]?.getD (.bool false)))) := by
        intro W0 e0
        have h0 : Below w2.heap.size w2 W0 := by rw [e0]; exact later1 _ _
        have hbx : Bx W0 w2.heap.size [.int .i64 0, .slice aB nB' cB, .slice aC nC' cC] := by rw [e0]; exact Bx.new w2 _ _
        refine (copyOfE_any (H.out.2.later (HW2.out.trans (h0.mono HW2.out.size)).drew) HNE.out).mono ?_
        rintro e w3 ⟨ax, nx, cx, rfl, hb3', he3⟩
        have hb3 : Below W0.heap.size W0 w3 := (Below.refl _ _).drew.trans hb3'
        have hb23 : Below w2.heap.size w2 w3 := h0.trans (hb3.mono h0.size)
        have hz3 := hb3.size
        have hz2 := h0.size
        have he3' : ExtsO w3 (.slice ax nx cx) d.2 (fun b => W0.heap.size ≤ b ∧ b < w3.heap.size) := he3
        refine ⟨ax, nx, cx, rfl, cell_later hb3 (hbx 1 _ rfl), cell_later hb3 (hbx 2 _ rfl), cell_later hb23 (HX2.out 2 _ rfl), HW2.out.trans (hb23.mono HW2.out.size), ?_, HR2.out.later hb23⟩
        exact KResU.of (F1 := fun _ => False) (Or.inl ⟨rfl, none, 0, rfl⟩) (HD2.out.later hb23) he3' (fun _ h => h.elim) (fun _ h => h.elim) (fun b h h' => by omega) (fun b h => by rcases h with h | h | h; exact h.elim; all_goals omega)
      go_wp2_with fail
      have e1 := Bx.new w2 [.int .i64 0, .slice aB nB' cB, .slice aC nC' cC] 76 1 _ rfl
      have e2 := Bx.new w2 [.int .i64 0, .slice aB nB' cB, .slice aC nC' cC] 76 2 _ rfl
      have y2' := cell_later (later1 w2 (.cells #[.int .i64 0, .slice aB nB' cB, .slice aC nC' cC] 76)) y2
      have hn1 : w.heap.size + 1 ≠ w2.heap.size := by omega
      have hn2 : w2.heap.size ≠ w.heap.size + 1 := by omega
      go_region_held3 (fun W => W.cell? ⟨w2.heap.size, 1, none⟩ = some (.slice aB nB' cB) ∧ W.cell? ⟨w2.heap.size, 2, none⟩ = some (.slice aC nC' cC) ∧ W.cell? ⟨w.heap.size, 2, none⟩ = some (.slice a3 nE c3)) (go_keep) (first
        | (go_at_call 66; refine (HCE.out _ rfl).mono ?_; rintro e w3 ⟨ax, nx, cx, rfl, k0, k1, k2, HW3, HK3, HR3⟩
           have t0 := HR3.out.cell (i := 0) (by simp [zero5])
           have t1 := HR3.out.cell (i := 1) (by simp [zero5])
           have t2 := HR3.out.cell (i := 2) (by simp [zero5])
           have t3 := HR3.out.cell (i := 3) (by simp [zero5])
           have t4 := HR3.out.cell (i := 4) (by simp [zero5])
           have s0 := HR3.out.frozen 0
           have s1 := HR3.out.frozen 1
           have s2 := HR3.out.frozen 2
           have s3 := HR3.out.frozen 3
           have s4 := HR3.out.frozen 4
           simp [zero5] at t0 t1 t2 t3 t4))
      all_goals
        go_wp2
        refine bodyPost_ret (v := .agg #[.int .i64 0, .slice none 0 0, .slice aB nB' cB, .slice aC nC' cC, .slice ax nx cx]) (by simp [results, Try.results29, go_sem, t0, t1, t2, t3, t4]) rfl ?_
        exact ansK_ret HW3.out (by omega) HK3.out (fun b hb => ⟨by omega, by omega, by omega⟩)
    · have hne : (c != 0) = true := by simpa using hc
      rw [if_neg hc]
      have HPB : Hid (putBlocks d.1.1 d.1.2 x ws = []) := by unfold Hid putBlocks; rw [if_neg (by rw [HPC.out]; exact hc)]
      have HPP : Hid (putCache d.1.1 d.1.2 x ws = []) := by unfold Hid putCache; rw [if_neg (by rw [HPC.out]; exact hc)]
      clear hc
      go_enter Try.func29, Try.ntmps29
      go_wp2_with fail
      refine (keyFault_any _ _ _ _ d key x (H.out.later (later2 _ _ _))).mono ?_
      rw [HM.out]
      rintro e w1 ⟨rfl, hb1⟩
      have HW1 : Hid (Below w.heap.size w w1) := (later2 _ _ _).trans (hb1.mono (by simp; omega))
      have HX1 : Hid (Bx w1 w.heap.size [.slice a1 nB c1, .slice a2 nC c2, .slice a3 nE c3]) := ((Bx.new w [.slice a1 nB c1, .slice a2 nC c2, .slice a3 nE c3] _).later (later1 _ _)).later hb1
      have HR1 : Hid (OwnRow w1 (w.heap.size + 1) zero5.length _) := resRowL _ zero5 _ hb1
      have x0 := HX1.out 0 _ rfl
      have x1 := HX1.out 1 _ rfl
      clear hb1
      go_wp2_with fail
      refine (implPut_any _ _ _ _ d.1.1 d.1.2 x ws (H.out.1.1.later HW1.out) (H.out.1.2.later HW1.out) (HV.out.later HW1.out) HZ.out HZP.out HZW.out).mono ?_
      rw [HPC.out, HPB.out, HPP.out]
      rintro e w2 hans
      obtain ⟨aB, nB', cB, aC, nC', cC, rfl, hb2, hd2⟩ := hans.uni
      have HW2 : Hid (Below w.heap.size w w2) := HW1.out.trans (hb2.mono HW1.out.size)
      have HR2 := HR1.out.later hb2
      have hzr : w.heap.size + 1 < w2.heap.size := HR2.lt
      have t0 := HR2.cell (i := 0) (by simp [zero5])
      have t1 := HR2.cell (i := 1) (by simp [zero5])
      have t2 := HR2.cell (i := 2) (by simp [zero5])
      have t3 := HR2.cell (i := 3) (by simp [zero5])
      have t4 := HR2.cell (i := 4) (by simp [zero5])
      have s0 := HR2.frozen 0
      have s1 := HR2.frozen 1
      have s2 := HR2.frozen 2
      have s3 := HR2.frozen 3
      have s4 := HR2.frozen 4
      simp [zero5] at t0 t1 t2 t3 t4
      clear hb2 hd2 hans x0 x1 HR2
      go_wp2
      refine bodyPost_ret (v := .agg #[.int .i64 c, .slice none 0 0, .slice none 0 0, .slice none 0 0, .slice none 0 0]) (by simp [results, Try.results29, go_sem, t0, t1, t2, t3, t4, hzr]) rfl ?_
      exact (ansK_no HW2.out (by omega) c).later (later1 _ _)
  · have hne : (m != 0) = true := by simpa using h0
    rw [if_neg h0]
    clear h0 FACTS
    go_enter Try.func29, Try.ntmps29
    go_wp2_with fail
    refine (keyFault_any _ _ _ _ d key x (H.out.later (later2 _ _ _))).mono ?_
    rw [HM.out]
    rintro e w1 ⟨rfl, hb1⟩
    have HW1 : Hid (Below w.heap.size w w1) := (later2 _ _ _).trans (hb1.mono (by simp; omega))
    have HR1 := resRowL _ zero5 _ hb1
    have t0 := HR1.cell (i := 0) (by simp [zero5])
    have t1 := HR1.cell (i := 1) (by simp [zero5])
    have t2 := HR1.cell (i := 2) (by simp [zero5])
    have t3 := HR1.cell (i := 3) (by simp [zero5])
    have t4 := HR1.cell (i := 4) (by simp [zero5])
    have s0 := HR1.frozen 0
    have s1 := HR1.frozen 1
    have s2 := HR1.frozen 2
    have s3 := HR1.frozen 3
    have s4 := HR1.frozen 4
    simp [zero5] at t0 t1 t2 t3 t4
    clear hb1 HR1
    go_wp2
    exact bodyPost_ret (v := .agg #[.int .i64 m, .slice none 0 0, .slice none 0 0, .slice none 0 0, .slice none 0 0]) (by simp [results, Try.results29, go_sem, t0, t1, t2, t3, t4]) rfl (ansK_no HW1.out (by omega) m)
end Go.Proofs.Ytojegkekafampah

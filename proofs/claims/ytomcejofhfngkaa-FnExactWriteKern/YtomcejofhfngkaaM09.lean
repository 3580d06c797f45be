/- WriteKern, the program's. WriteKern, the specification's. A list of a row of lists is put in the place of another: what the row is behind it. What a flush or a crash keeps. No program is named here. The walk of the specification's keeping of what is picked. The walks of the specification's FlushDisk and CrashDisk. The walk of the program's settling of what is picked. -/
import Derived.Test.YtomcejofhfngkaaM08
import Derived.Test.YtomcejofhfngkaaM00
import Derived.Test.YtomcejofhfngkaaM07
import Derived.Deep.RegionHeld3
namespace Go.Proofs.Ytomcejofhfngkaa
open Go.RowKit
set_option maxRecDepth 100000

def writeR (d : KD) (key x : Int) (ws : List Int) : Int × KResD :=
  if mayF d key x = 0 then (if putCode d.1.1 d.1.2 x ws = 0 then (0, [], (d.1.1, d.1.2 ++ [(x, ws)]), d.2) else (putCode d.1.1 d.1.2 x ws, [], ([], []), [])) else (mayF d key x, [], ([], []), [])
theorem mayF_ok {d : KD} {key x : Int} (h : mayF d key x = 0) : kernF d = 0 := by
  unfold mayF at h
  split at h
  · rename_i hc
    obtain ⟨c, v, hr⟩ : ∃ c v, ownR d x = (c, v) := ⟨_, _, rfl⟩
    rw [hr] at hc
    dsimp only at hc
    subst hc
    exact (ownR_ok hr).1
  · rename_i hc
    exact absurd h hc

set_option maxHeartbeats 3200000 in
theorem implWrite_any (w : World) (vB vC vE v : Value) (d : KD) (key x : Int) (ws : List Int) (h : KernR w vB vC vE d) (hv : Ints w v ws) (hz : ∀ k : Nat, (d.1.1[k]?.getD []).length ≤ 1048576) (hzp : ∀ k : Nat, (d.1.2[k]?.getD (0, [])).2.length ≤ 1048576) (hzw : ws.length ≤ 1048576) :
    Calls Try.prog 25 #[.agg #[vB, vC, vE], .int .i64 key, .int .i64 x, v] w (AnsKR w (writeR d key x ws)) := by
  obtain ⟨a1, c1, rfl, _⟩ := h.1.1.open'
  obtain ⟨a2, c2, rfl, _⟩ := h.1.2.open'
  obtain ⟨a3, c3, rfl, _⟩ := h.2.open'
  have H : Hid (KernR w (.slice a1 d.1.1.length c1) (.slice a2 d.1.2.length c2) (.slice a3 d.2.length c3) d) := h
  have HV : Hid (Ints w v ws) := hv
  have HZ : Hid (∀ k : Nat, (d.1.1[k]?.getD []).length ≤ 1048576) := hz
  have HZP : Hid (∀ k : Nat, (d.1.2[k]?.getD (0, [])).2.length ≤ 1048576) := hzp
  have HZW : Hid (ws.length ≤ 1048576) := hzw
  have HWR : Hid (writeR d key x ws = if mayF d key x = 0 then (if putCode d.1.1 d.1.2 x ws = 0 then (0, [], (d.1.1, d.1.2 ++ [(x, ws)]), d.2) else (putCode d.1.1 d.1.2 x ws, [], ([], []), [])) else (mayF d key x, [], ([], []), [])) := rfl
  have FACTS : Hid (mayF d key x = 0 → d.2.length ≤ 1048576) := fun h => by have := (kernF_ok (mayF_ok h)).2.1; omega
  rw [HWR.out]
  clear h hv hz hzp hzw HWR
  generalize d.1.1.length = nB at *
  generalize d.1.2.length = nC at *
  generalize hlE : d.2.length = nE at *
  have HLE : Hid (d.2.length = nE) := hlE
  clear hlE
  generalize hm : mayF d key x = m at *
  have HM : Hid (mayF d key x = m) := hm
  clear hm
  by_cases h0 : m = 0
  · subst h0
    rw [if_pos rfl]
    have HNE : Hid (d.2.length ≤ 1048576) := by unfold Hid; rw [HLE.out]; exact FACTS.out rfl
    generalize hp : putCode d.1.1 d.1.2 x ws = c at *
    have HPC : Hid (putCode d.1.1 d.1.2 x ws = c) := hp
    clear hp FACTS
    by_cases hc : c = 0
    · subst hc
      rw [if_pos rfl]
      have HPB : Hid (putBlocks d.1.1 d.1.2 x ws = d.1.1) := by unfold Hid putBlocks; rw [if_pos HPC.out]
      have HPP : Hid (putCache d.1.1 d.1.2 x ws = d.1.2 ++ [(x, ws)]) := by unfold Hid putCache; rw [if_pos HPC.out]
      go_enter Try.func25, Try.ntmps25
      go_wp2_with fail
      refine (keyFault_any _ _ _ _ d key x (H.out.later (later2 _ _ _))).mono ?_
      rw [HM.out]
      rintro e w1 ⟨rfl, hb1⟩
      have HW1 : Hid (Below w.heap.size w w1) := (later2 _ _ _).trans (hb1.mono (by simp; omega))
      have HX1 : Hid (Bx w1 w.heap.size [.slice a1 nB c1, .slice a2 nC c2, .slice a3 nE c3]) := ((Bx.new w [.slice a1 nB c1, .slice a2 nC c2, .slice a3 nE c3] _).later (later1 _ _)).later hb1
      have HR1 : Hid (OwnRow w1 (w.heap.size + 1) zero5.length _) := resRowL _ zero5 _ hb1
      have x0 := HX1.out 0 _ rfl
      have x1 := HX1.out 1 _ rfl
      clear hb1
      go_wp2_with fail
      refine (implPut_any _ _ _ _ d.1.1 d.1.2 x ws (H.out.1.1.later HW1.out) (H.out.1.2.later HW1.out) (HV.out.later HW1.out) HZ.out HZP.out HZW.out).mono ?_
      rw [HPC.out, HPB.out, HPP.out]
      rintro e w2 hans
      obtain ⟨aB, nB', cB, aC, nC', cC, rfl, hb2, hd2⟩ := hans.uni
      have HW2 : Hid (Below w.heap.size w w2) := HW1.out.trans (hb2.mono HW1.out.size)
      have HD2 : Hid (DiskU w2 (.slice aB nB' cB) (.slice aC nC' cC) (d.1.1, d.1.2 ++ [(x, ws)]) (fun b => w1.heap.size ≤ b ∧ b < w2.heap.size)) := hd2
      have HX2 : Hid (Bx w2 w.heap.size [.slice a1 nB c1, .slice a2 nC c2, .slice a3 nE c3]) := HX1.out.later hb2
      have HR2 : Hid (OwnRow w2 (w.heap.size + 1) zero5.length _) := HR1.out.later hb2
      have hz12 : w1.heap.size ≤ w2.heap.size := hb2.size
      have hzw : w.heap.size < w2.heap.size := HX2.out.lt
      have hzr : w.heap.size + 1 < w1.heap.size := HR1.out.lt
      have y2 := HX2.out 2 _ rfl
      clear hb2 hd2 hans x0 x1
      have HCE : Hid (∀ W0 : World, W0 = w2.alloc (.cells #[.int .i64 0, .slice aB nB' cB, .slice aC nC' cC] 32) → Calls Try.prog 69 #[.slice a3 nE c3] W0.drew fun e w3 => ∃ ax nx cx, e = .returned (.slice ax nx cx) ∧ w3.cell? ⟨w2.heap.size, 1, none⟩ = some (.slice aB nB' cB) ∧ w3.cell? ⟨w2.heap.size, 2, none⟩ = some (.slice aC nC' cC) ∧ w3.cell? ⟨w.heap.size, 2, none⟩ = some (.slice a3 nE c3) ∧
          Hid (Below w.heap.size w w3) ∧ Hid (KResU w3 (.slice none 0 0) (.slice aB nB' cB) (.slice aC nC' cC) (.slice ax nx cx) ([], (d.1.1, d.1.2 ++ [(x, ws)]), d.2) (fun b => w1.heap.size ≤ b ∧ b < w3.heap.size)) ∧ Hid (OwnRow w3 (w.heap.size + 1) zero5.length (fun i => zero5[i]?.getD (.bool false)))) := by
        intro W0 e0
        have h0 : Below w2.heap.size w2 W0 := by rw [e0]; exact later1 _ _
        have hbx : Bx W0 w2.heap.size [.int .i64 0, .slice aB nB' cB, .slice aC nC' cC] := by rw [e0]; exact Bx.new w2 _ _
        refine (copyOfE_any (H.out.2.later (HW2.out.trans (h0.mono HW2.out.size)).drew) HNE.out).mono ?_
        rintro e w3 ⟨ax, nx, cx, rfl, hb3', he3⟩
        have hb3 : Below W0.heap.size W0 w3 := (Below.refl _ _).drew.trans hb3'
        have hb23 : Below w2.heap.size w2 w3 := h0.trans (hb3.mono h0.size)
        have hz3 := hb3.size
        have hz2 := h0.size
        have he3' : ExtsO w3 (.slice ax nx cx) d.2 (fun b => W0.heap.size ≤ b ∧ b < w3.heap.size) := he3
        refine ⟨ax, nx, cx, rfl, cell_later hb3 (hbx 1 _ rfl), cell_later hb3 (hbx 2 _ rfl), cell_later hb23 (HX2.out 2 _ rfl), HW2.out.trans (hb23.mono HW2.out.size), ?_, HR2.out.later hb23⟩
        exact KResU.of (F1 := fun _ => False) (Or.inl ⟨rfl, none, 0, rfl⟩) (HD2.out.later hb23) he3' (fun _ h => h.elim) (fun _ h => h.elim) (fun b h h' => by omega) (fun b h => by rcases h with h | h | h; exact h.elim; all_goals omega)
      go_wp2_with fail
      have e1 := Bx.new w2 [.int .i64 0, .slice aB nB' cB, .slice aC nC' cC] 32 1 _ rfl
      have e2 := Bx.new w2 [.int .i64 0, .slice aB nB' cB, .slice aC nC' cC] 32 2 _ rfl
      have y2' := cell_later (later1 w2 (.cells #[.int .i64 0, .slice aB nB' cB, .slice aC nC' cC] 32)) y2
      have hn1 : w.heap.size + 1 ≠ w2.heap.size := by omega
      have hn2 : w2.heap.size ≠ w.heap.size + 1 := by omega
      go_region_held3 (fun W => W.cell? ⟨w2.heap.size, 1, none⟩ = some (.slice aB nB' cB) ∧ W.cell? ⟨w2.heap.size, 2, none⟩ = some (.slice aC nC' cC) ∧ W.cell? ⟨w.heap.size, 2, none⟩ = some (.slice a3 nE c3)) (go_keep) (first
        | (go_at_call 69; refine (HCE.out _ rfl).mono ?_; rintro e w3 ⟨ax, nx, cx, rfl, k0, k1, k2, HW3, HK3, HR3⟩
           have t0 := HR3.out.cell (i := 0) (by simp [zero5])
           have t1 := HR3.out.cell (i := 1) (by simp [zero5])
           have t2 := HR3.out.cell (i := 2) (by simp [zero5])
           have t3 := HR3.out.cell (i := 3) (by simp [zero5])
           have t4 := HR3.out.cell (i := 4) (by simp [zero5])
           have s0 := HR3.out.frozen 0
           have s1 := HR3.out.frozen 1
           have s2 := HR3.out.frozen 2
           have s3 := HR3.out.frozen 3
           have s4 := HR3.out.frozen 4
           simp [zero5] at t0 t1 t2 t3 t4))
      all_goals
        go_wp2
        refine bodyPost_ret (v := .agg #[.int .i64 0, .slice none 0 0, .slice aB nB' cB, .slice aC nC' cC, .slice ax nx cx]) (by simp [results, Try.results25, go_sem, t0, t1, t2, t3, t4]) rfl ?_
        exact ansK_ret HW3.out (by omega) HK3.out (fun b hb => ⟨by omega, by omega, by omega⟩)
    · have hne : (c != 0) = true := by simpa using hc
      rw [if_neg hc]
      have HPB : Hid (putBlocks d.1.1 d.1.2 x ws = []) := by unfold Hid putBlocks; rw [if_neg (by rw [HPC.out]; exact hc)]
      have HPP : Hid (putCache d.1.1 d.1.2 x ws = []) := by unfold Hid putCache; rw [if_neg (by rw [HPC.out]; exact hc)]
      clear hc
      go_enter Try.func25, Try.ntmps25
      go_wp2_with fail
      refine (keyFault_any _ _ _ _ d key x (H.out.later (later2 _ _ _))).mono ?_
      rw [HM.out]
      rintro e w1 ⟨rfl, hb1⟩
      have HW1 : Hid (Below w.heap.size w w1) := (later2 _ _ _).trans (hb1.mono (by simp; omega))
      have HX1 : Hid (Bx w1 w.heap.size [.slice a1 nB c1, .slice a2 nC c2, .slice a3 nE c3]) := ((Bx.new w [.slice a1 nB c1, .slice a2 nC c2, .slice a3 nE c3] _).later (later1 _ _)).later hb1
      have HR1 : Hid (OwnRow w1 (w.heap.size + 1) zero5.length _) := resRowL _ zero5 _ hb1
      have x0 := HX1.out 0 _ rfl
      have x1 := HX1.out 1 _ rfl
      clear hb1
      go_wp2_with fail
      refine (implPut_any _ _ _ _ d.1.1 d.1.2 x ws (H.out.1.1.later HW1.out) (H.out.1.2.later HW1.out) (HV.out.later HW1.out) HZ.out HZP.out HZW.out).mono ?_
      rw [HPC.out, HPB.out, HPP.out]
      rintro e w2 hans
      obtain ⟨aB, nB', cB, aC, nC', cC, rfl, hb2, hd2⟩ := hans.uni
      have HW2 : Hid (Below w.heap.size w w2) := HW1.out.trans (hb2.mono HW1.out.size)
      have HR2 := HR1.out.later hb2
      have hzr : w.heap.size + 1 < w2.heap.size := HR2.lt
      have t0 := HR2.cell (i := 0) (by simp [zero5])
      have t1 := HR2.cell (i := 1) (by simp [zero5])
      have t2 := HR2.cell (i := 2) (by simp [zero5])
      have t3 := HR2.cell (i := 3) (by simp [zero5])
      have t4 := HR2.cell (i := 4) (by simp [zero5])
      have s0 := HR2.frozen 0
      have s1 := HR2.frozen 1
      have s2 := HR2.frozen 2
      have s3 := HR2.frozen 3
      have s4 := HR2.frozen 4
      simp [zero5] at t0 t1 t2 t3 t4
      clear hb2 hd2 hans x0 x1 HR2
      go_wp2
      refine bodyPost_ret (v := .agg #[.int .i64 c, .slice none 0 0, .slice none 0 0, .slice none 0 0, .slice none 0 0]) (by simp [results, Try.results25, go_sem, t0, t1, t2, t3, t4, hzr]) rfl ?_
      exact (ansK_no HW2.out (by omega) c).later (later1 _ _)
  · have hne : (m != 0) = true := by simpa using h0
    rw [if_neg h0]
    clear h0 FACTS
    go_enter Try.func25, Try.ntmps25
    go_wp2_with fail
    refine (keyFault_any _ _ _ _ d key x (H.out.later (later2 _ _ _))).mono ?_
    rw [HM.out]
    rintro e w1 ⟨rfl, hb1⟩
    have HW1 : Hid (Below w.heap.size w w1) := (later2 _ _ _).trans (hb1.mono (by simp; omega))
    have HR1 := resRowL _ zero5 _ hb1
    have t0 := HR1.cell (i := 0) (by simp [zero5])
    have t1 := HR1.cell (i := 1) (by simp [zero5])
    have t2 := HR1.cell (i := 2) (by simp [zero5])
    have t3 := HR1.cell (i := 3) (by simp [zero5])
    have t4 := HR1.cell (i := 4) (by simp [zero5])
    have s0 := HR1.frozen 0
    have s1 := HR1.frozen 1
    have s2 := HR1.frozen 2
    have s3 := HR1.frozen 3
    have s4 := HR1.frozen 4
    simp [zero5] at t0 t1 t2 t3 t4
    clear hb1 HR1
    go_wp2
    exact bodyPost_ret (v := .agg #[.int .i64 m, .slice none 0 0, .slice none 0 0, .slice none 0 0, .slice none 0 0]) (by simp [results, Try.results25, go_sem, t0, t1, t2, t3, t4]) rfl (ansK_no HW1.out (by omega) m)
end Go.Proofs.Ytomcejofhfngkaa

namespace Go.Proofs.Ytomcejofhfngkaa
open Go.RowKit
set_option maxRecDepth 100000

set_option maxHeartbeats 3200000 in
theorem specWrite_any (hcp : L1CopySaid) (w : World) (vB vC vE v : Value) (d : KD) (key x : Int) (ws : List Int) (h : KernR w vB vC vE d) (hv : Ints w v ws) (hz : ∀ k : Nat, (d.1.1[k]?.getD []).length ≤ 1048576) (hzp : ∀ k : Nat, (d.1.2[k]?.getD (0, [])).2.length ≤ 1048576) (hzw : ws.length ≤ 1048576) :
    Calls Try.prog 23 #[.agg #[vB, vC, vE], .int .i64 key, .int .i64 x, v] w (AnsKR w (writeR d key x ws)) := by
  obtain ⟨a1, c1, rfl, _⟩ := h.1.1.open'
  obtain ⟨a2, c2, rfl, _⟩ := h.1.2.open'
  obtain ⟨a3, c3, rfl, _⟩ := h.2.open'
  have HCP : Hid L1CopySaid := hcp
  have H : Hid (KernR w (.slice a1 d.1.1.length c1) (.slice a2 d.1.2.length c2) (.slice a3 d.2.length c3) d) := h
  have HV : Hid (Ints w v ws) := hv
  have HZ : Hid (∀ k : Nat, (d.1.1[k]?.getD []).length ≤ 1048576) := hz
  have HZP : Hid (∀ k : Nat, (d.1.2[k]?.getD (0, [])).2.length ≤ 1048576) := hzp
  have HZW : Hid (ws.length ≤ 1048576) := hzw
  have HWR : Hid (writeR d key x ws = if mayF d key x = 0 then (if putCode d.1.1 d.1.2 x ws = 0 then (0, [], (d.1.1, d.1.2 ++ [(x, ws)]), d.2) else (putCode d.1.1 d.1.2 x ws, [], ([], []), [])) else (mayF d key x, [], ([], []), [])) := rfl
  have FACTS : Hid (mayF d key x = 0 → faultF d.1.1 d.1.2 = 0 ∧ d.2.length ≤ 8) := fun h => by have := kernF_ok (mayF_ok h); exact ⟨this.1, this.2.1⟩
  rw [HWR.out]
  clear h hv hz hzp hzw HWR hcp
  generalize d.1.1.length = nB at *
  generalize d.1.2.length = nC at *
  generalize hlE : d.2.length = nE at *
  have HLE : Hid (d.2.length = nE) := hlE
  clear hlE
  generalize hm : mayF d key x = m at *
  have HM : Hid (mayF d key x = m) := hm
  clear hm
  by_cases h0 : m = 0
  · subst h0
    rw [if_pos rfl]
    obtain ⟨hff, h8⟩ := FACTS.out rfl
    have HFF : Hid (faultF d.1.1 d.1.2 = 0) := hff
    have H8 : Hid (d.2.length ≤ 8) := by unfold Hid; rw [HLE.out]; exact h8
    generalize hp : putCode d.1.1 d.1.2 x ws = c at *
    have HPC : Hid (putCode d.1.1 d.1.2 x ws = c) := hp
    clear hp FACTS hff h8
    by_cases hc : c = 0
    · subst hc
      rw [if_pos rfl]
      have HPB : Hid (putBlocks d.1.1 d.1.2 x ws = d.1.1) := by unfold Hid putBlocks; rw [if_pos HPC.out]
      have HPP : Hid (putCache d.1.1 d.1.2 x ws = d.1.2 ++ [(x, ws)]) := by unfold Hid putCache; rw [if_pos HPC.out]
      go_enter Try.func23, Try.ntmps23
      go_wp2_with fail
      refine (l2May_any (d := d) key x ((Bx.new w [.slice a1 nB c1, .slice a2 nC c2, .slice a3 nE c3] _).later (later1 _ _) 0 _ rfl) ((Bx.new w [.slice a1 nB c1, .slice a2 nC c2, .slice a3 nE c3] _).later (later1 _ _) 1 _ rfl) ((Bx.new w [.slice a1 nB c1, .slice a2 nC c2, .slice a3 nE c3] _).later (later1 _ _) 2 _ rfl) (H.out.later (later2 _ _ _))).mono ?_
      rw [HM.out]
      rintro e w1 ⟨rfl, hb1⟩
      have HW1 : Hid (Below w.heap.size w w1) := (later2 _ _ _).trans (hb1.mono (by simp; omega))
      have HX1 : Hid (Bx w1 w.heap.size [.slice a1 nB c1, .slice a2 nC c2, .slice a3 nE c3]) := ((Bx.new w [.slice a1 nB c1, .slice a2 nC c2, .slice a3 nE c3] _).later (later1 _ _)).later hb1
      have HR1 : Hid (OwnRow w1 (w.heap.size + 1) zero5.length _) := resRowL _ zero5 _ hb1
      have x0 := HX1.out 0 _ rfl
      have x1 := HX1.out 1 _ rfl
      clear hb1
      go_wp2_with fail
      refine (specPut_any HCP.out _ _ _ _ d.1.1 d.1.2 x ws (H.out.1.1.later HW1.out) (H.out.1.2.later HW1.out) (HV.out.later HW1.out) HZ.out HZP.out HZW.out).mono ?_
      rw [HPC.out, HPB.out, HPP.out]
      rintro e w2 hans
      obtain ⟨aB, nB', cB, aC, nC', cC, rfl, hb2, hd2⟩ := hans.uni
      have HW2 : Hid (Below w.heap.size w w2) := HW1.out.trans (hb2.mono HW1.out.size)
      have HD2 : Hid (DiskU w2 (.slice aB nB' cB) (.slice aC nC' cC) (d.1.1, d.1.2 ++ [(x, ws)]) (fun b => w1.heap.size ≤ b ∧ b < w2.heap.size)) := hd2
      have HX2 : Hid (Bx w2 w.heap.size [.slice a1 nB c1, .slice a2 nC c2, .slice a3 nE c3]) := HX1.out.later hb2
      have HR2 : Hid (OwnRow w2 (w.heap.size + 1) zero5.length _) := HR1.out.later hb2
      have hz12 : w1.heap.size ≤ w2.heap.size := hb2.size
      have hzw : w.heap.size < w2.heap.size := HX2.out.lt
      have hzr : w.heap.size + 1 < w1.heap.size := HR1.out.lt
      have y0 := HX2.out 0 _ rfl
      have y1 := HX2.out 1 _ rfl
      have y2 := HX2.out 2 _ rfl
      clear hb2 hd2 hans x0 x1
      go_wp2_with fail
      refine (l2Copy_any HCP.out _ _ _ _ d.1.1 d.1.2 d.2 (H.out.later (HW2.out.trans ((later1 _ _).mono HW2.out.size))) HFF.out H8.out HZ.out HZP.out).mono ?_
      rintro e w3 ⟨b1, m1, k1, b2, m2, k2, b3, m3, k3, rfl, hb3, hk3⟩
      have hb23 : Below w2.heap.size w2 w3 := (later1 _ _).trans (hb3.mono (by simp))
      have HW3 : Hid (Below w.heap.size w w3) := HW2.out.trans (hb23.mono HW2.out.size)
      have HBX3 := (Bx.new w2 [.int .i64 0, .slice aB nB' cB, .slice aC nC' cC] _).later hb3
      have e1 := HBX3 1 _ rfl
      have e2 := HBX3 2 _ rfl
      have hz3 : w2.heap.size < w3.heap.size := HBX3.lt
      obtain ⟨F1, G1, _, hex, hdis, hsub⟩ := hk3
      have HK3 : Hid (KResU w3 (.slice none 0 0) (.slice aB nB' cB) (.slice aC nC' cC) (.slice b3 m3 k3) ([], (d.1.1, d.1.2 ++ [(x, ws)]), d.2) (fun b => w1.heap.size ≤ b ∧ b < w3.heap.size)) :=
        KResU.of (F1 := fun _ => False) (F3 := fun b => w2.heap.size < b ∧ b < w3.heap.size) (Or.inl ⟨rfl, none, 0, rfl⟩) (HD2.out.later hb23) (hex.mono fun b hb => by have := hsub b (Or.inr hb); unfold fresh at this; simp at this; omega) (fun _ h => h.elim) (fun _ h => h.elim) (fun b h h' => by omega) (fun b h => by rcases h with h | h | h; exact h.elim; all_goals omega)
      have HR3 := HR2.out.later hb23
      have t0 := HR3.cell (i := 0) (by simp [zero5])
      have t1 := HR3.cell (i := 1) (by simp [zero5])
      have t2 := HR3.cell (i := 2) (by simp [zero5])
      have t3 := HR3.cell (i := 3) (by simp [zero5])
      have t4 := HR3.cell (i := 4) (by simp [zero5])
      have s0 := HR3.frozen 0
      have s1 := HR3.frozen 1
      have s2 := HR3.frozen 2
      have s3 := HR3.frozen 3
      have s4 := HR3.frozen 4
      simp [zero5] at t0 t1 t2 t3 t4
      have hzr3 : w.heap.size + 1 < w3.heap.size := by omega
      clear hb3 hb23 HBX3 hex hdis hsub HR3 y0 y1 y2
      go_wp2
      refine bodyPost_ret (v := .agg #[.int .i64 0, .slice none 0 0, .slice aB nB' cB, .slice aC nC' cC, .slice b3 m3 k3]) (by simp [results, Try.results23, go_sem, t0, t1, t2, t3, t4, hzr3]) rfl ?_
      exact (ansK_ret HW3.out (by omega) HK3.out (fun b hb => ⟨by omega, by omega, by omega⟩)).later (later1 _ _)
    · have hne : (c != 0) = true := by simpa using hc
      rw [if_neg hc]
      have HPB : Hid (putBlocks d.1.1 d.1.2 x ws = []) := by unfold Hid putBlocks; rw [if_neg (by rw [HPC.out]; exact hc)]
      have HPP : Hid (putCache d.1.1 d.1.2 x ws = []) := by unfold Hid putCache; rw [if_neg (by rw [HPC.out]; exact hc)]
      clear hc
      go_enter Try.func23, Try.ntmps23
      go_wp2_with fail
      refine (l2May_any (d := d) key x ((Bx.new w [.slice a1 nB c1, .slice a2 nC c2, .slice a3 nE c3] _).later (later1 _ _) 0 _ rfl) ((Bx.new w [.slice a1 nB c1, .slice a2 nC c2, .slice a3 nE c3] _).later (later1 _ _) 1 _ rfl) ((Bx.new w [.slice a1 nB c1, .slice a2 nC c2, .slice a3 nE c3] _).later (later1 _ _) 2 _ rfl) (H.out.later (later2 _ _ _))).mono ?_
      rw [HM.out]
      rintro e w1 ⟨rfl, hb1⟩
      have HW1 : Hid (Below w.heap.size w w1) := (later2 _ _ _).trans (hb1.mono (by simp; omega))
      have HX1 : Hid (Bx w1 w.heap.size [.slice a1 nB c1, .slice a2 nC c2, .slice a3 nE c3]) := ((Bx.new w [.slice a1 nB c1, .slice a2 nC c2, .slice a3 nE c3] _).later (later1 _ _)).later hb1
      have HR1 : Hid (OwnRow w1 (w.heap.size + 1) zero5.length _) := resRowL _ zero5 _ hb1
      have x0 := HX1.out 0 _ rfl
      have x1 := HX1.out 1 _ rfl
      clear hb1
      go_wp2_with fail
      refine (specPut_any HCP.out _ _ _ _ d.1.1 d.1.2 x ws (H.out.1.1.later HW1.out) (H.out.1.2.later HW1.out) (HV.out.later HW1.out) HZ.out HZP.out HZW.out).mono ?_
      rw [HPC.out, HPB.out, HPP.out]
      rintro e w2 hans
      obtain ⟨aB, nB', cB, aC, nC', cC, rfl, hb2, hd2⟩ := hans.uni
      have HW2 : Hid (Below w.heap.size w w2) := HW1.out.trans (hb2.mono HW1.out.size)
      have HR2 : Hid (OwnRow w2 (w.heap.size + 1) zero5.length _) := HR1.out.later hb2
      have hzr : w.heap.size + 1 < w2.heap.size := HR2.out.lt
      clear hb2 hd2 hans x0 x1
      go_wp2_with fail
      refine (l2Bad_any _ c).mono ?_
      rintro e w3 ⟨rfl, hb3⟩
      have hb23 : Below w2.heap.size w2 w3 := (later1 _ _).trans (hb3.mono (by simp))
      have HW3 : Hid (Below w.heap.size w w3) := HW2.out.trans (hb23.mono HW2.out.size)
      have HR3 := HR2.out.later hb23
      have t0 := HR3.cell (i := 0) (by simp [zero5])
      have t1 := HR3.cell (i := 1) (by simp [zero5])
      have t2 := HR3.cell (i := 2) (by simp [zero5])
      have t3 := HR3.cell (i := 3) (by simp [zero5])
      have t4 := HR3.cell (i := 4) (by simp [zero5])
      have s0 := HR3.frozen 0
      have s1 := HR3.frozen 1
      have s2 := HR3.frozen 2
      have s3 := HR3.frozen 3
      have s4 := HR3.frozen 4
      simp [zero5] at t0 t1 t2 t3 t4
      clear hb3 hb23 HR3
      go_wp2
      exact bodyPost_ret (v := .agg #[.int .i64 c, .slice none 0 0, .slice none 0 0, .slice none 0 0, .slice none 0 0]) (by simp [results, Try.results23, go_sem, t0, t1, t2, t3, t4]) rfl (ansK_no HW3.out (by omega) c)
  · have hne : (m != 0) = true := by simpa using h0
    rw [if_neg h0]
    clear h0 FACTS
    go_enter Try.func23, Try.ntmps23
    go_wp2_with fail
    refine (l2May_any (d := d) key x ((Bx.new w [.slice a1 nB c1, .slice a2 nC c2, .slice a3 nE c3] _).later (later1 _ _) 0 _ rfl) ((Bx.new w [.slice a1 nB c1, .slice a2 nC c2, .slice a3 nE c3] _).later (later1 _ _) 1 _ rfl) ((Bx.new w [.slice a1 nB c1, .slice a2 nC c2, .slice a3 nE c3] _).later (later1 _ _) 2 _ rfl) (H.out.later (later2 _ _ _))).mono ?_
    rw [HM.out]
    rintro e w1 ⟨rfl, hb1⟩
    have HW1 : Hid (Below w.heap.size w w1) := (later2 _ _ _).trans (hb1.mono (by simp; omega))
    have HX1 : Hid (Bx w1 w.heap.size [.slice a1 nB c1, .slice a2 nC c2, .slice a3 nE c3]) := ((Bx.new w [.slice a1 nB c1, .slice a2 nC c2, .slice a3 nE c3] _).later (later1 _ _)).later hb1
    have HR1 : Hid (OwnRow w1 (w.heap.size + 1) zero5.length _) := resRowL _ zero5 _ hb1
    have hzr : w.heap.size + 1 < w1.heap.size := HR1.out.lt
    clear hb1
    go_wp2_with fail
    refine (l2Bad_any _ m).mono ?_
    rintro e w3 ⟨rfl, hb3⟩
    have HW3 : Hid (Below w.heap.size w w3) := HW1.out.trans (hb3.mono HW1.out.size)
    have HR3 := HR1.out.later hb3
    have t0 := HR3.cell (i := 0) (by simp [zero5])
    have t1 := HR3.cell (i := 1) (by simp [zero5])
    have t2 := HR3.cell (i := 2) (by simp [zero5])
    have t3 := HR3.cell (i := 3) (by simp [zero5])
    have t4 := HR3.cell (i := 4) (by simp [zero5])
    have s0 := HR3.frozen 0
    have s1 := HR3.frozen 1
    have s2 := HR3.frozen 2
    have s3 := HR3.frozen 3
    have s4 := HR3.frozen 4
    simp [zero5] at t0 t1 t2 t3 t4
    clear hb3 HR3
    go_wp2
    exact bodyPost_ret (v := .agg #[.int .i64 m, .slice none 0 0, .slice none 0 0, .slice none 0 0, .slice none 0 0]) (by simp [results, Try.results23, go_sem, t0, t1, t2, t3, t4]) rfl (ansK_no HW3.out (by omega) m)
end Go.Proofs.Ytomcejofhfngkaa

namespace Go.Proofs.Ytomcejofhfngkaa
open Go.RowKit
set_option maxRecDepth 100000

theorem IntsSO.set {w X : World} {g n cap : Nat} {v : Value} {zs : List Int} {zss : List (List Int)} {F : Nat → Prop} (h : IntsSO w (.slice (some ⟨g, 0, none⟩) n cap) zss F) {x : Nat} (hx : x < zss.length) (hb : Below w.heap.size w X) (hF : ∀ b, F b → b < w.heap.size) (hv : IntsO X v zs (fresh w X)) :
    IntsSO (X.setCell ⟨g, x, none⟩ v) (.slice (some ⟨g, 0, none⟩) n cap) (zss.set x zs) (fun b => F b ∨ fresh w X b) := by
  rcases h with ⟨h, _⟩ | ⟨b, cap', u, G, hFb, hG, hGG, h1, h2, h3, h4⟩
  · subst h; simp at hx
  · simp only [Value.slice.injEq, Option.some.injEq, Addr.mk.injEq, and_true] at h1
    obtain ⟨rfl, rfl, rfl⟩ := h1
    have hgl := h3.lt
    refine Or.inr ⟨g, cap, fun j => if j = x then v else u j, fun i c => (i = x ∧ fresh w X c) ∨ (i ≠ x ∧ G i c), Or.inl hFb, fun i c hc => ?_, fun i j c e h5 h6 => ?_, by simp, by simpa using h2, by simpa using (h3.block (hb.block g hgl)).set x v, fun i hi => ?_⟩
    · rcases hc with ⟨_, hc⟩ | ⟨_, hc⟩
      · exact ⟨Or.inr hc, fun e => by have := hc.1; omega⟩
      · exact ⟨Or.inl (hG i c hc).1, (hG i c hc).2⟩
    · rcases h5 with ⟨e5, h5⟩ | ⟨e5, h5⟩ <;> rcases h6 with ⟨e6, h6⟩ | ⟨e6, h6⟩
      · omega
      · have := h5.1; have := hF c (hG j c h6).1; omega
      · have := h6.1; have := hF c (hG i c h5).1; omega
      · exact hGG i j c e h5 h6
    · simp only [List.length_set] at hi
      by_cases e : i = x
      · subst e
        have h7 : IntsO X v zs (fun c => (i = i ∧ fresh w X c) ∨ (i ≠ i ∧ G i c)) := hv.mono fun c hc => Or.inl ⟨rfl, hc⟩
        show IntsO _ (if i = i then v else u i) _ (fun c => (i = i ∧ fresh w X c) ∨ (i ≠ i ∧ G i c))
        rw [if_pos rfl, List.getElem?_set_self hx, Option.getD_some]
        refine h7.keep fun c hc _ => Below.heap_setCell _ _ _ _ ?_
        rcases hc with ⟨_, hc⟩ | ⟨hc, _⟩
        · show c ≠ g
          have := hc.1; omega
        · exact absurd rfl hc
      · show IntsO _ (if i = x then v else u i) _ (fun c => (i = x ∧ fresh w X c) ∨ (i ≠ x ∧ G i c))
        rw [if_neg e, List.getElem?_set_ne (fun h => e h.symm)]
        have h7 : IntsO w (u i) (zss[i]?.getD []) (fun c => (i = x ∧ fresh w X c) ∨ (i ≠ x ∧ G i c)) := (h4 i hi).mono fun c hc => Or.inr ⟨e, hc⟩
        refine h7.keep fun c hc hlt => ?_
        rcases hc with ⟨hc, _⟩ | ⟨_, hc⟩
        · exact absurd hc e
        · rw [Below.heap_setCell _ _ _ _ (show c ≠ g from (hG i c hc).2), hb.block c hlt]

theorem Box2.store {w : World} {b : Nat} {x y : Value} (h : Box2 w b x y) {p : Addr} (hp : b ≠ p.block) (v : Value) : Box2 (w.setCell p v) b x y :=
  ⟨(World.cell?_of_block (w := w) (a := ⟨b, 0, none⟩) (Below.heap_setCell _ _ _ _ hp)).trans h.1, (World.cell?_of_block (w := w) (a := ⟨b, 1, none⟩) (Below.heap_setCell _ _ _ _ hp)).trans h.2⟩
theorem IntsSO.cell {w : World} {a : Option Addr} {n cap : Nat} {zss : List (List Int)} {F : Nat → Prop} (h : IntsSO w (.slice a n cap) zss F) {x : Nat} (hx : x < zss.length) :
    ∃ g ua un uc, a = some ⟨g, 0, none⟩ ∧ F g ∧ g < w.heap.size ∧ w.cell? ⟨g, x, none⟩ = some (.slice ua un uc) ∧ w.frozen? ⟨g, x, none⟩ = false := by
  rcases h with ⟨h, _⟩ | ⟨b, cap', u, G, hFb, _, _, h1, _, h3, h4⟩
  · subst h; simp at hx
  · simp only [Value.slice.injEq] at h1
    obtain ⟨rfl, rfl, rfl⟩ := h1
    have hu : ∃ ua un uc, u x = .slice ua un uc := by
      rcases h4 x hx with ⟨_, a, c, e⟩ | ⟨_, _, _, e, _⟩
      · exact ⟨_, _, _, e⟩
      · exact ⟨_, _, _, e⟩
    obtain ⟨ua, un, uc, e⟩ := hu
    exact ⟨b, ua, un, uc, rfl, hFb, h3.lt, by rw [h3.cell hx, e], h3.frozen x⟩

/-- The blocks behind the first k puts of those that are picked. -/
def keepTo (pk : Nat → Bool) (bs : List (List Int)) (ps : List (Int × List Int)) : Nat → List (List Int)
  | 0 => bs
  | k + 1 => if pk k then (keepTo pk bs ps k).set (ps[k]?.getD (0, [])).1.toNat (ps[k]?.getD (0, [])).2 else keepTo pk bs ps k
theorem keepTo_length (pk : Nat → Bool) (bs : List (List Int)) (ps : List (Int × List Int)) (k : Nat) : (keepTo pk bs ps k).length = bs.length := by
  induction k with
  | zero => rfl
  | succ k ih => unfold keepTo; split <;> simp [ih]
theorem keepTo_len (pk : Nat → Bool) (bs : List (List Int)) (ps : List (Int × List Int)) {M : Nat} (hz : ∀ k : Nat, (bs[k]?.getD []).length ≤ M) (hzp : ∀ k : Nat, (ps[k]?.getD (0, [])).2.length ≤ M) (k : Nat) : ∀ i : Nat, ((keepTo pk bs ps k)[i]?.getD []).length ≤ M := by
  induction k with
  | zero => exact hz
  | succ k ih =>
    intro i
    unfold keepTo
    split
    · rw [List.getElem?_set]
      split
      · split
        · exact hzp k
        · simp
      · exact ih i
    · exact ih i
theorem keepTo_step {pk : Nat → Bool} {bs : List (List Int)} {ps : List (Int × List Int)} {k : Nat} (h : pk k = true) : keepTo pk bs ps (k + 1) = (keepTo pk bs ps k).set (ps[k]?.getD (0, [])).1.toNat (ps[k]?.getD (0, [])).2 := by simp [keepTo, h]
theorem keepTo_skip {pk : Nat → Bool} {bs : List (List Int)} {ps : List (Int × List Int)} {k : Nat} (h : pk k = false) : keepTo pk bs ps (k + 1) = keepTo pk bs ps k := by simp [keepTo, h]
end Go.Proofs.Ytomcejofhfngkaa

namespace Go.Proofs.Ytomcejofhfngkaa
open Go.RowKit
set_option maxRecDepth 100000

/-- Where the bits of a list lie. -/
def AtBs (w : World) (a : Option Addr) (n : Nat) (pb : List Bool) : Prop := ∀ k, k < n → ∃ b off, a = some ⟨b, off, none⟩ ∧ w.cell? ⟨b, off + k, none⟩ = some (.bool (pb[k]?.getD false))
theorem AtBs.later {w w' : World} {a : Option Addr} {n : Nat} {pb : List Bool} (h : AtBs w a n pb) (hb : Below w.heap.size w w') : AtBs w' a n pb := fun k hk => by
  obtain ⟨b, off, e, c⟩ := h k hk
  exact ⟨b, off, e, cell_later hb c⟩

set_option maxHeartbeats 3200000 in
theorem l1Keep_any (hcp : L1CopySaid) (w : World) (aB aC ap : Option Addr) (cB cC np cap : Nat) (all : Bool) (bs : List (List Int)) (ps : List (Int × List Int)) (pb : List Bool) (g1 : bs.length ≤ 60) (g2 : ps.length ≤ 200) (hz : ∀ k : Nat, (bs[k]?.getD []).length ≤ 1048576) (hzp : ∀ k : Nat, (ps[k]?.getD (0, [])).2.length ≤ 1048576) (hB : AtS w aB bs.length bs) (hP : AtP w aC ps.length ps)
    (hpl : ∀ k, k < ps.length → ∃ x : Nat, (ps[k]?.getD (0, [])).1 = x ∧ x < bs.length) (hpb : pb.length = np) (hA : AtBs w ap np pb) :
    Calls Try.prog 61 #[.agg #[.slice aB bs.length cB, .slice aC ps.length cC], .slice ap np cap, .bool all] w fun e w' => ∃ aX cX, e = .returned (.agg #[.slice aX bs.length cX, .slice none 0 0]) ∧ Below w.heap.size w w' ∧ IntsSO w' (.slice aX bs.length cX) (keepTo (fun i => all || pb[i]?.getD false) bs ps ps.length) (fresh w w') := by
  have HCP : Hid L1CopySaid := hcp
  have HZP : Hid (∀ k : Nat, (ps[k]?.getD (0, [])).2.length ≤ 1048576) := hzp
  have HZ : Hid (∀ k : Nat, (bs[k]?.getD []).length ≤ 1048576) := hz
  have HB : Hid (AtS w aB bs.length bs) := hB
  have HP : Hid (AtP w aC ps.length ps) := hP
  have HPL : Hid (∀ k, k < ps.length → ∃ x : Nat, (ps[k]?.getD (0, [])).1 = x ∧ x < bs.length) := hpl
  have HA : Hid (AtBs w ap np pb) := hA
  clear hcp hzp hz hB hP hpl hA
  go_enter Try.func61, Try.ntmps61
  go_wp2_with fail
  refine (HCP.out _ aB aC bs.length cB ps.length cC bs ps rfl rfl g1 g2 HZ.out HZP.out (HB.out.later (later2 _ _ _)) (HP.out.later (later2 _ _ _))).mono ?_
  rintro e w1 ⟨S, aX, cX, aY, cY, k, u, rfl, hb1, hS1, hS2, hio, hlr⟩
  have HW1 : Hid (Below w.heap.size w w1) := (later2 _ _ _).trans (hb1.mono (by simp; omega))
  have HX1 : Hid (Box2 w1 w.heap.size (.slice aB bs.length cB) (.slice aC ps.length cC)) := ((Box2.new _ _ _ _).later (later1 _ _)).later hb1
  have HR1 : Hid (OwnRow w1 (w.heap.size + 1) 2 (fun c => if c = 0 then .slice none 0 0 else .slice none 0 0)) := by
    have h := (OwnRow.two (w.alloc (.cells #[.slice aB bs.length cB, .slice aC ps.length cC] 30)) (.slice none 0 0) (.slice none 0 0) 30).later hb1
    unfold Hid
    simpa using h
  have HIO : Hid (IntsSO w1 (.slice aX bs.length cX) bs (fun c => w.heap.size + 2 ≤ c ∧ c < w1.heap.size)) := hio.mono fun b hb => ⟨by have := hb.1; simp at this; omega, by have := hb.2; omega⟩
  have hz1 : w.heap.size + 1 < w1.heap.size := HR1.out.lt
  clear hb1 hS1 hS2 hio hlr
  go_wp2_with fail
  go_loopw [8] (fun i wr => ∃ q : Nat, q ≤ ps.length ∧ i = .int .i64 q ∧ Below w.heap.size w wr ∧ w1.heap.size < wr.heap.size ∧ Box2 wr w.heap.size (.slice aB bs.length cB) (.slice aC ps.length cC) ∧ OwnRow wr (w.heap.size + 1) 2 (fun c => if c = 0 then .slice none 0 0 else .slice none 0 0) ∧ OwnRow wr w1.heap.size 2 (fun c => if c = 0 then .slice aX bs.length cX else .slice none 0 0) ∧
    IntsSO wr (.slice aX bs.length cX) (keepTo (fun i => all || pb[i]?.getD false) bs ps q) (fun c => w.heap.size + 2 ≤ c ∧ c < wr.heap.size ∧ c ≠ w1.heap.size)) (fun i _ => ps.length - (intOf i).toNat)
  case atStart =>
    refine ⟨0, Nat.zero_le _, rfl, HW1.out.trans ((later1 _ _).mono HW1.out.size), by simp, HX1.out.later (later1 _ _), HR1.out.later (later1 _ _), OwnRow.two w1 _ _ _, (HIO.out.keep (fun b _ hlt => (later1 _ _).block b hlt)).mono fun b hb => ⟨hb.1, by simp; omega, by omega⟩⟩
  case round =>
    obtain ⟨q, hq, rfl, hbw, hsz, hbx, hres, hout, his⟩ := hrel
    have HBW : Hid (Below w.heap.size w wr) := hbw
    have HBX : Hid (Box2 wr w.heap.size (.slice aB bs.length cB) (.slice aC ps.length cC)) := hbx
    have HRES : Hid (OwnRow wr (w.heap.size + 1) 2 (fun c => if c = 0 then .slice none 0 0 else .slice none 0 0)) := hres
    have HOUT : Hid (OwnRow wr w1.heap.size 2 (fun c => if c = 0 then .slice aX bs.length cX else .slice none 0 0)) := hout
    have HIS : Hid (IntsSO wr (.slice aX bs.length cX) (keepTo (fun i => all || pb[i]?.getD false) bs ps q) (fun c => w.heap.size + 2 ≤ c ∧ c < wr.heap.size ∧ c ≠ w1.heap.size)) := his
    clear hbw hbx hres hout his
    obtain ⟨b0, b1⟩ := HBX.out
    by_cases hlt : q < ps.length
    · obtain ⟨b, off, ua, ucap, e, c1, c2, i1⟩ := HP.out q hlt
      subst e
      have c0 := c1
      replace c1 := cell_later HBW.out c1
      replace c2 := cell_later HBW.out c2
      obtain ⟨x, hx, hxl⟩ := HPL.out q hlt
      rw [hx] at c1
      generalize hwd : (ps[q]?.getD (0, [])).2 = wd at c2 i1
      have HWD : Hid ((ps[q]?.getD (0, [])).2 = wd) := hwd
      have HLW : Hid (wd.length ≤ 1048576) := hwd ▸ HZP.out q
      have HXX : Hid ((ps[q]?.getD (0, [])).1 = (x : Int)) := hx
      have HI : Hid (Ints wr _ wd) := i1.later HBW.out
      clear i1 hwd hx
      have o0 := HOUT.out.cell (i := 0) (by omega)
      simp at o0
      obtain ⟨g, va, vn, vc, rfl, hFg, hgl, g1', g2'⟩ := HIS.out.cell (x := x) (by rw [keepTo_length]; exact hxl)
      have ST : ∀ {X : World} {v : Value}, Below wr.heap.size wr X → IntsO X v wd (fresh wr X) → Below w.heap.size w (X.setCell ⟨g, x, none⟩ v) ∧ w1.heap.size < (X.setCell ⟨g, x, none⟩ v).heap.size ∧ Box2 (X.setCell ⟨g, x, none⟩ v) w.heap.size (.slice aB bs.length cB) (.slice (some ⟨b, off, none⟩) ps.length cC) ∧ OwnRow (X.setCell ⟨g, x, none⟩ v) (w.heap.size + 1) 2 (fun c => if c = 0 then .slice none 0 0 else .slice none 0 0) ∧ OwnRow (X.setCell ⟨g, x, none⟩ v) w1.heap.size 2 (fun c => if c = 0 then .slice (some ⟨g, 0, none⟩) bs.length cX else .slice none 0 0) ∧
          IntsSO (X.setCell ⟨g, x, none⟩ v) (.slice (some ⟨g, 0, none⟩) bs.length cX) ((keepTo (fun i => all || pb[i]?.getD false) bs ps q).set ((x : Int)).toNat wd) (fun c => w.heap.size + 2 ≤ c ∧ c < (X.setCell ⟨g, x, none⟩ v).heap.size ∧ c ≠ w1.heap.size) := by
        intro X v hX hv
        have hXs := hX.size
        refine ⟨(HBW.out.trans (hX.mono HBW.out.size)).setCell (by simp; omega) _, by simp [World.setCell]; omega, (HBX.out.later hX).store (by simp; omega) _, (HRES.out.later hX).store (by simp; omega) _, (HOUT.out.later hX).store (by simp; omega) _, ?_⟩
        refine (HIS.out.set (x := x) (by rw [keepTo_length]; exact hxl) hX (fun b hb => hb.2.1) hv).mono fun c hc => ?_
        simp only [World.setCell, Array.size_modify]
        rcases hc with hc | hc
        · omega
        · have := hc.1; have := hc.2; omega
      have n1 : g ≠ w1.heap.size := hFg.2.2
      have n2 : g ≠ w.heap.size := by omega
      have n3 : g ≠ b := by have := World.block_lt_of_cell? _ _ c0; simp at this; omega
      have x0 : (0 : Int) ≤ (x : Int) := by omega
      have x1 : (x : Int) < (bs.length : Int) := by omega
      clear c0
      cases all
      · by_cases hqn : q < np
        · obtain ⟨b', off', e', c3⟩ := HA.out q hqn
          replace c3 := cell_later HBW.out c3
          subst e'
          cases hpk : pb[q]?.getD false
          · rw [hpk] at c3
            go_wp2
            go_roundw
            case rel => exact ⟨q + 1, by omega, by go_num, HBW.out, hsz, HBX.out, HRES.out, HOUT.out, by rw [keepTo_skip (by simp [hpk])]; exact HIS.out⟩
            case measure => simp [intOf]; omega
          · rw [hpk] at c3
            go_wp2_with fail
            go_region_held3 (fun W => W.cell? ⟨w1.heap.size, 0, none⟩ = some (.slice (some ⟨g, 0, none⟩) bs.length cX) ∧ W.cell? ⟨w.heap.size, 1, none⟩ = some (.slice (some ⟨b, off, none⟩) ps.length cC) ∧ W.cell? ⟨b, off + q * 2, none⟩ = some (.int .i64 (x : Int)) ∧ W.cell? ⟨b, off + q * 2 + 1, none⟩ = some (.slice ua wd.length ucap)) (go_keep) (first | (go_at_call 47; refine (l1Ints_more ?_ HLW.out).mono ?_; exact HI.out; rintro e w2 ⟨na, nc, rfl, hb2, ho2, hs2⟩; have d0 := cell_later hb2 o0; have d1 := cell_later hb2 g1'; have d2 := (hb2.frozen (p := ⟨g, x, none⟩) hgl).trans g2'; have d3 := cell_later hb2 b1; have d4 := cell_later hb2 c1; have d5 := cell_later hb2 c2; have HB2 : Hid (Below wr.heap.size wr w2) := (Below.refl _ _).drew.trans hb2; have HO2 : Hid (IntsO w2 (.slice na wd.length nc) wd (fresh wr w2)) := ho2; clear hb2 ho2 hs2))
            all_goals
              go_wp2
              go_roundw
              case rel =>
                refine ⟨q + 1, by omega, by go_num, ?_⟩
                rw [keepTo_step (by simp [hpk]), HXX.out, HWD.out]
                exact ST HB2.out HO2.out
              case measure => simp [intOf]; omega
        · have hpk : pb[q]?.getD false = false := by rw [List.getElem?_eq_none (by omega)]; rfl
          go_wp2
          go_roundw
          case rel => exact ⟨q + 1, by omega, by go_num, HBW.out, hsz, HBX.out, HRES.out, HOUT.out, by rw [keepTo_skip (by simp [hpk])]; exact HIS.out⟩
          case measure => simp [intOf]; omega
      · go_wp2_with fail
        go_region_held3 (fun W => W.cell? ⟨w1.heap.size, 0, none⟩ = some (.slice (some ⟨g, 0, none⟩) bs.length cX) ∧ W.cell? ⟨w.heap.size, 1, none⟩ = some (.slice (some ⟨b, off, none⟩) ps.length cC) ∧ W.cell? ⟨b, off + q * 2, none⟩ = some (.int .i64 (x : Int)) ∧ W.cell? ⟨b, off + q * 2 + 1, none⟩ = some (.slice ua wd.length ucap)) (go_keep) (first | (go_at_call 47; refine (l1Ints_more ?_ HLW.out).mono ?_; exact HI.out; rintro e w2 ⟨na, nc, rfl, hb2, ho2, hs2⟩; have d0 := cell_later hb2 o0; have d1 := cell_later hb2 g1'; have d2 := (hb2.frozen (p := ⟨g, x, none⟩) hgl).trans g2'; have d3 := cell_later hb2 b1; have d4 := cell_later hb2 c1; have d5 := cell_later hb2 c2; have HB2 : Hid (Below wr.heap.size wr w2) := (Below.refl _ _).drew.trans hb2; have HO2 : Hid (IntsO w2 (.slice na wd.length nc) wd (fresh wr w2)) := ho2; clear hb2 ho2 hs2))
        all_goals
          go_wp2
          go_roundw
          case rel =>
            refine ⟨q + 1, by omega, by go_num, ?_⟩
            rw [keepTo_step (by simp []), HXX.out, HWD.out]
            exact ST HB2.out HO2.out
          case measure => simp [intOf]; omega
    · have e : q = ps.length := by omega
      subst e
      have o0 := HOUT.out.cell (i := 0) (by omega)
      have o1 := HOUT.out.cell (i := 1) (by omega)
      simp at o0 o1
      have r0 := HRES.out.cell (i := 0) (by omega)
      have r1 := HRES.out.cell (i := 1) (by omega)
      have s0 := HRES.out.frozen 0
      have s1 := HRES.out.frozen 1
      simp at r0 r1
      go_wp2
      refine bodyPost_ret (v := .agg #[.slice aX bs.length cX, .slice none 0 0]) (by simp [results, Try.results61, go_sem, r0, r1]) rfl ⟨_, _, rfl, (HBW.out.setCell (by simp) _).setCell (by simp) _, ?_⟩
      refine ((HIS.out.store (fun b hb => by simp; omega) _).store (fun b hb => by simp; omega) _).mono fun b hb => ⟨by omega, ?_⟩
      simp only [World.setCell, Array.size_modify]
      omega
end Go.Proofs.Ytomcejofhfngkaa

namespace Go.Proofs.Ytomcejofhfngkaa
open Go.RowKit
set_option maxRecDepth 100000

theorem faultF_places {bs : List (List Int)} {ps : List (Int × List Int)} (h : faultF bs ps = 0) : ∀ k, k < ps.length → ∃ x : Nat, (ps[k]?.getD (0, [])).1 = x ∧ x < bs.length := by
  have g := faultF_lens h
  have hb : ∀ n, ∀ i : Nat, i < n → i < bs.length → wordsF (bs[i]?.getD []) = 0 := by
    intro n
    induction n with
    | zero => intro i hi; omega
    | succ n ih =>
      intro i hi hl
      by_cases e : wordsF (bs[i]?.getD []) = 0
      · exact e
      · exact absurd (faultF_block (ps := ps) (by omega) hl (fun j hj => ih j (by omega) (by omega)) e) (by rw [h]; exact fun e' => e e'.symm)
  have hp : ∀ n, ∀ i : Nat, i < n → i < ps.length → putF bs.length (ps[i]?.getD (0, [])) = 0 := by
    intro n
    induction n with
    | zero => intro i hi; omega
    | succ n ih =>
      intro i hi hl
      by_cases e : putF bs.length (ps[i]?.getD (0, [])) = 0
      · exact e
      · exact absurd (faultF_put (by omega) (fun j hj => hb (j + 1) j (by omega) hj) hl (fun j hj => ih j (by omega) (by omega)) e) (by rw [h]; exact fun e' => e e'.symm)
  intro k hk
  have := hp (k + 1) k (by omega) hk
  unfold putF at this
  split at this
  · rename_i hq
    unfold placeB at hq
    simp only [decide_eq_true_eq] at hq
    exact ⟨(ps[k]?.getD (0, [])).1.toNat, by omega, by omega⟩
  · omega

set_option maxHeartbeats 800000 in
theorem specFlush_fault (w : World) (vB vC : Value) (bs : List (List Int)) (ps : List (Int × List Int)) (hB : IntsS w vB bs) (hP : Puts w vC ps) (hf : ¬ faultF bs ps = 0) :
    Calls Try.prog 20 #[.agg #[vB, vC]] w fun e w' => e = .returned (.agg #[.int .i64 (faultF bs ps), .slice none 0 0, .slice none 0 0]) ∧ Below w.heap.size w w' := by
  have HB : Hid (IntsS w vB bs) := hB
  have HP : Hid (Puts w vC ps) := hP
  generalize hc : faultF bs ps = c at *
  have HC : Hid (faultF bs ps = c) := hc
  have hne : (c != 0) = true := by simpa using hf
  clear hB hP hf hc
  go_enter Try.func20, Try.ntmps20
  go_wp2_with fail
  refine (l1Fault_any (vB := vB) (vC := vC) ?_ ?_ (HB.out.later (later2 _ _ _)) (HP.out.later (later2 _ _ _))).mono ?_
  · exact ((Box2.new w vB vC 30).later (later1 _ _)).1
  · exact ((Box2.new w vB vC 30).later (later1 _ _)).2
  rw [HC.out]
  rintro e w' ⟨rfl, m, rfl⟩
  go_wp2
  exact bodyPost_ret (v := .agg #[.int .i64 c, .slice none 0 0, .slice none 0 0]) (by simp [results, Try.results20, go_sem]) rfl ⟨rfl, (((below_drewN (later2 _ _ _) m).setCell (by simp) _).setCell (by simp) _).setCell (by simp) _⟩

set_option maxHeartbeats 1600000 in
theorem specFlush_ok (hcp : L1CopySaid) (w : World) (aB aC : Option Addr) (cB cC : Nat) (bs : List (List Int)) (ps : List (Int × List Int)) (hB : IntsS w (.slice aB bs.length cB) bs) (hP : Puts w (.slice aC ps.length cC) ps) (sB : AtS w aB bs.length bs) (sP : AtP w aC ps.length ps) (hf : faultF bs ps = 0)
    (hz : ∀ k : Nat, (bs[k]?.getD []).length ≤ 1048576) (hzp : ∀ k : Nat, (ps[k]?.getD (0, [])).2.length ≤ 1048576) :
    Calls Try.prog 20 #[.agg #[.slice aB bs.length cB, .slice aC ps.length cC]] w (AnsDisk w 0 (keepTo (fun i => true || ([] : List Bool)[i]?.getD false) bs ps ps.length) []) := by
  have HCP : Hid L1CopySaid := hcp
  have HB : Hid (IntsS w (.slice aB bs.length cB) bs) := hB
  have HP : Hid (Puts w (.slice aC ps.length cC) ps) := hP
  have SB : Hid (AtS w aB bs.length bs) := sB
  have SP : Hid (AtP w aC ps.length ps) := sP
  have HF : Hid (faultF bs ps = 0) := hf
  obtain ⟨g1, g2⟩ := faultF_lens hf
  have HZ : Hid (∀ k : Nat, (bs[k]?.getD []).length ≤ 1048576) := hz
  have HZP : Hid (∀ k : Nat, (ps[k]?.getD (0, [])).2.length ≤ 1048576) := hzp
  clear hcp hB hP sB sP hf hz hzp
  go_enter Try.func20, Try.ntmps20
  go_wp2_with fail
  refine (l1Fault_any (vB := .slice aB bs.length cB) (vC := .slice aC ps.length cC) ?_ ?_ (HB.out.later (later2 _ _ _)) (HP.out.later (later2 _ _ _))).mono ?_
  · exact ((Box2.new w (.slice aB bs.length cB) (.slice aC ps.length cC) 30).later (later1 _ _)).1
  · exact ((Box2.new w (.slice aB bs.length cB) (.slice aC ps.length cC) 30).later (later1 _ _)).2
  rw [HF.out]
  rintro e w' ⟨rfl, m, rfl⟩
  go_wp2_with fail
  refine (l1Keep_any HCP.out _ aB aC _ cB cC _ _ true bs ps [] g1 g2 HZ.out HZP.out (SB.out.later (below_drewN (later2 _ _ _) m)) (SP.out.later (below_drewN (later2 _ _ _) m)) (faultF_places HF.out) rfl (fun k hk => absurd hk (Nat.not_lt_zero k))).mono ?_
  rintro e w1 ⟨aX, cX, rfl, hb1, hio⟩
  have HW1 : Hid (Below w.heap.size w w1) := (below_drewN (later2 _ _ _) m).trans (hb1.mono (by simp [World.drewN]; omega))
  have HR1 : Hid (OwnRow w1 (w.heap.size + 1) 3 (fun i => if i = 0 then .int .i64 0 else if i = 1 then .slice none 0 0 else .slice none 0 0)) := by
    have h := (three (w.alloc (Obj.cells #[Value.slice aB bs.length cB, Value.slice aC ps.length cC] 30)) (.int .i64 0) (.slice none 0 0) (.slice none 0 0) 32)
    have h2 := (h.later (below_drewN (Below.refl _ _) m)).later hb1
    unfold Hid
    simpa using h2
  have HIO : Hid (IntsSO w1 (.slice aX bs.length cX) (keepTo (fun i => true || ([] : List Bool)[i]?.getD false) bs ps ps.length) (fun c => w.heap.size + 2 ≤ c ∧ c < w1.heap.size)) := hio.mono fun b hb => ⟨by have := hb.1; simp [World.drewN] at this; omega, hb.2⟩
  have r0 := HR1.out.cell (i := 0) (by omega)
  have r1 := HR1.out.cell (i := 1) (by omega)
  have r2 := HR1.out.cell (i := 2) (by omega)
  have s0 := HR1.out.frozen 0
  have s1 := HR1.out.frozen 1
  have s2 := HR1.out.frozen 2
  simp at r0 r1 r2
  clear hb1 hio
  go_wp2
  refine bodyPost_ret (v := .agg #[.int .i64 0, .slice aX bs.length cX, .slice none 0 0]) (by simp [results, Try.results20, go_sem, r0, r1, r2]) rfl ⟨_, _, _, _, _, _, rfl, ((HW1.out.setCell (by simp) _).setCell (by simp) _).setCell (by simp) _, fun c => w.heap.size + 2 ≤ c ∧ c < w1.heap.size, fun _ => False, ((HIO.out.store (fun b hb => by simp; omega) _).store (fun b hb => by simp; omega) _).store (fun b hb => by simp; omega) _, Or.inl ⟨rfl, none, 0, rfl⟩, fun b _ h => h.elim, fun b hb => ?_⟩
  rcases hb with hb | hb
  · simp only [World.setCell, Array.size_modify]
    omega
  · exact hb.elim

/-- What a flush or a crash leaves in the blocks. -/
def keepBlocks (pk : Nat → Bool) (bs : List (List Int)) (ps : List (Int × List Int)) : List (List Int) := if faultF bs ps = 0 then keepTo pk bs ps ps.length else []

theorem specFlush_any (hcp : L1CopySaid) (w : World) (vB vC : Value) (bs : List (List Int)) (ps : List (Int × List Int)) (hB : IntsS w vB bs) (hP : Puts w vC ps) (hz : ∀ k : Nat, (bs[k]?.getD []).length ≤ 1048576) (hzp : ∀ k : Nat, (ps[k]?.getD (0, [])).2.length ≤ 1048576) :
    Calls Try.prog 20 #[.agg #[vB, vC]] w (AnsDisk w (faultF bs ps) (keepBlocks (fun _ => true) bs ps) []) := by
  obtain ⟨aB, cB, rfl, _, sB⟩ := hB.open'
  obtain ⟨aC, cC, rfl, _, sP⟩ := hP.open'
  unfold keepBlocks
  by_cases hf : faultF bs ps = 0
  · rw [if_pos hf, hf]
    have := specFlush_ok hcp w aB aC cB cC bs ps hB hP sB sP hf hz hzp
    simpa using this
  · rw [if_neg hf]
    exact (specFlush_fault w _ _ bs ps hB hP hf).mono fun e w' ⟨h1, h2⟩ => by rw [h1]; exact ans_bad h2 _
end Go.Proofs.Ytomcejofhfngkaa

namespace Go.Proofs.Ytomcejofhfngkaa
open Go.RowKit
set_option maxRecDepth 100000

theorem IntsSO.row {w : World} {g n cap : Nat} {zss : List (List Int)} {F : Nat → Prop} (h : IntsSO w (.slice (some ⟨g, 0, none⟩) n cap) zss F) (h0 : 0 < zss.length) : ∃ u, OwnRow w g n u ∧ F g ∧ ∀ i, i < n → ∃ ua un uc, u i = .slice ua un uc := by
  rcases h with ⟨h, _⟩ | ⟨b, cap', u, G, hFb, _, _, h1, _, h3, h4⟩
  · subst h; simp at h0
  · simp only [Value.slice.injEq, Option.some.injEq, Addr.mk.injEq, and_true] at h1
    obtain ⟨rfl, rfl, rfl⟩ := h1
    refine ⟨u, h3, hFb, fun i hi => ?_⟩
    rcases h4 i hi with ⟨_, a, c, e⟩ | ⟨_, _, _, e, _⟩
    · exact ⟨_, _, _, e⟩
    · exact ⟨_, _, _, e⟩
theorem AtBs.set {w X : World} {a : Option Addr} {n g x : Nat} {v : Value} {pb : List Bool} (h : AtBs w a n pb) (hb : Below w.heap.size w X) (hg : ∀ b off, a = some ⟨b, off, none⟩ → b ≠ g) : AtBs (X.setCell ⟨g, x, none⟩ v) a n pb := fun k hk => by
  obtain ⟨b, off, e, c⟩ := h k hk
  exact ⟨b, off, e, (World.cell?_of_block (w := X) (Below.heap_setCell _ _ _ _ (hg b off e))).trans (cell_later hb c)⟩

set_option maxHeartbeats 3200000 in
theorem settle_any (w : World) (lo bd g nB n : Nat) (aP : Option Addr) (cP : Nat) (ap : Option Addr) (np cap : Nat) (bs : List (List Int)) (ps : List (Int × List Int)) (bb : List Bool) (pb k : Nat → Nat) (u : Nat → Value) (hlo : lo ≤ bd) (hbl : bs.length = nB) (hn : n ≤ 200) (hnB : nB ≤ 60) (hnp : bb.length = np) (hpl : ∀ i, i < n → ∃ x : Nat, (ps[i]?.getD (0, [])).1 = x ∧ x < nB) (hzp : ∀ k : Nat, (ps[k]?.getD (0, [])).2.length ≤ 1048576) (hA : AtBs w ap np bb) (hAg : 0 < nB → 0 < np → ∀ b off, ap = some ⟨b, off, none⟩ → b ≠ g)
    (hd : OwnRow w bd 2 (fun c => if c = 0 then .slice (some ⟨g, 0, none⟩) nB nB else .slice aP n cP)) (hc : Cache w (bd + 1) (.slice aP n cP) n (fun i => ps[i]?.getD (0, [])) pb k u) (hb : IntsSO w (.slice (some ⟨g, 0, none⟩) nB nB) bs (fun c => lo ≤ c ∧ c < bd)) :
    Calls Try.prog 81 #[.pointer (some ⟨bd, 0, none⟩), .slice ap np cap] w fun e w' => e = .returned (.tuple #[]) ∧ Below lo w w' ∧ OwnRow w' bd 2 (fun c => if c = 0 then .slice (some ⟨g, 0, none⟩) nB nB else .slice none 0 0) ∧ IntsSO w' (.slice (some ⟨g, 0, none⟩) nB nB) (keepTo (fun i => bb[i]?.getD false) bs ps n) (fun c => lo ≤ c ∧ c < w'.heap.size ∧ c ≠ bd) := by
  have HC : Hid (Cache w (bd + 1) (.slice aP n cP) n (fun i => ps[i]?.getD (0, [])) pb k u) := hc
  have HD : Hid (OwnRow w bd 2 (fun c => if c = 0 then .slice (some ⟨g, 0, none⟩) nB nB else .slice aP n cP)) := hd
  have HB : Hid (IntsSO w (.slice (some ⟨g, 0, none⟩) nB nB) bs (fun c => lo ≤ c ∧ c < bd)) := hb
  have HPL : Hid (∀ i, i < n → ∃ x : Nat, (ps[i]?.getD (0, [])).1 = x ∧ x < nB) := hpl
  have HZP : Hid (∀ k : Nat, (ps[k]?.getD (0, [])).2.length ≤ 1048576) := hzp
  have HA : Hid (AtBs w ap np bb) := hA
  have d0 := hd.cell (i := 0) (by omega)
  have d1 := hd.cell (i := 1) (by omega)
  simp at d0 d1
  have hlt : bd < w.heap.size := hd.lt
  have HAG : Hid (0 < nB → 0 < np → ∀ b off, ap = some ⟨b, off, none⟩ → b ≠ g) := hAg
  clear hc hd hb hpl hzp hA hAg
  go_enter Try.func81, Try.ntmps81
  go_wp2_with fail
  go_loopw [4, 5, 11] (fun _ _ i wr => ∃ j : Nat, j ≤ n ∧ i = .int .i64 j ∧ Below lo w wr ∧ OwnRow wr bd 2 (fun c => if c = 0 then .slice (some ⟨g, 0, none⟩) nB nB else .slice aP n cP) ∧ Cache wr (bd + 1) (.slice aP n cP) n (fun i => ps[i]?.getD (0, [])) pb k u ∧ AtBs wr ap np bb ∧
    IntsSO wr (.slice (some ⟨g, 0, none⟩) nB nB) (keepTo (fun i => bb[i]?.getD false) bs ps j) (fun c => lo ≤ c ∧ c < wr.heap.size ∧ (c < bd ∨ w.heap.size ≤ c))) (fun _ _ i _ => n - (intOf i).toNat)
  case atStart => exact ⟨0, Nat.zero_le _, rfl, Below.refl _ _, HD.out, HC.out, HA.out, HB.out.mono fun b hb => ⟨hb.1, by omega, Or.inl hb.2⟩⟩
  case round =>
    obtain ⟨j, hj, rfl, hbw, hrow, hca, hat, his⟩ := hrel
    have HBW : Hid (Below lo w wr) := hbw
    have HROW : Hid (OwnRow wr bd 2 (fun c => if c = 0 then .slice (some ⟨g, 0, none⟩) nB nB else .slice aP n cP)) := hrow
    have HCA : Hid (Cache wr (bd + 1) (.slice aP n cP) n (fun i => ps[i]?.getD (0, [])) pb k u) := hca
    have HAT : Hid (AtBs wr ap np bb) := hat
    have HIS : Hid (IntsSO wr (.slice (some ⟨g, 0, none⟩) nB nB) (keepTo (fun i => bb[i]?.getD false) bs ps j) (fun c => lo ≤ c ∧ c < wr.heap.size ∧ (c < bd ∨ w.heap.size ≤ c))) := his
    have hws : w.heap.size ≤ wr.heap.size := hbw.size
    clear hbw hrow hca hat his d0 d1
    have d0 := HROW.out.cell (i := 0) (by omega)
    have d1 := HROW.out.cell (i := 1) (by omega)
    have d2 := HROW.out.frozen 1
    simp at d0 d1
    by_cases hlt2 : j < n
    · obtain ⟨g', ua, uc, e, p0, p1, p2, hu⟩ := HCA.out.ptr hlt2
      subst e
      have HI0 := (HCA.out.at' j hlt2).ints
      rw [hu] at HI0
      obtain ⟨x, hx, hxl⟩ := HPL.out j hlt2
      simp only [hx] at p1
      generalize hwd : (ps[j]?.getD (0, [])).2 = wd at p2 HI0
      have HWD : Hid ((ps[j]?.getD (0, [])).2 = wd) := hwd
      have HLW : Hid (wd.length ≤ 1048576) := hwd ▸ HZP.out j
      have HXX : Hid ((ps[j]?.getD (0, [])).1 = (x : Int)) := hx
      have HI : Hid (Ints wr (.slice ua wd.length uc) wd) := HI0
      have HUU : Hid (u j = .slice ua wd.length uc) := by unfold Hid; rw [hu, hwd]
      clear HI0 hwd hx hu
      by_cases hqn : j < np
      · obtain ⟨b', off', e', c3⟩ := HAT.out j hqn
        subst e'
        cases hpk : bb[j]?.getD false
        · rw [hpk] at c3
          go_wp2
          go_roundw
          case rel => exact ⟨j + 1, by omega, by go_num, HBW.out, HROW.out, HCA.out, HAT.out, by rw [keepTo_skip (by simp [hpk])]; exact HIS.out⟩
          case measure => simp [intOf]; omega
        · rw [hpk] at c3
          obtain ⟨ur, hur, _, hsh⟩ := HIS.out.row (by rw [keepTo_length]; omega)
          have HUR : Hid (OwnRow wr g nB ur) := hur
          have HSX : Hid (∃ ua un uc, ur x = .slice ua un uc) := hsh x hxl
          have hgw : g < wr.heap.size := hur.lt
          have hgb : lo ≤ g ∧ g < bd := by
            obtain ⟨_, _, h, _⟩ := HB.out.row (by omega)
            exact h
          clear hur hsh
          go_wp2_with fail
          go_region_with ((go_at_call 110; refine (set_any _ bd 0 g nB nB x ur _ wd hnB hxl ?_ ?_ HSX.out ?_ HLW.out).mono ?_; exact d0; exact HUR.out; exact HI.out; rintro e w2 ⟨rfl, X, rfl, hbX, hoX⟩; have HX : Hid (Below wr.heap.size wr X) := (Below.refl _ _).drew.trans hbX; have HO : Hid (IntsO X (.slice (some ⟨wr.heap.size, 0, none⟩) wd.length wd.length) wd (fresh wr X)) := hoX; clear hbX hoX))
          all_goals
            go_wp2
            go_roundw
            case rel =>
              have hXs := HX.out.size
              refine ⟨j + 1, by omega, by go_num, (HBW.out.trans (HX.out.mono (by omega))).setCell (by simp; omega) _, (HROW.out.later HX.out).store (by simp; omega) _, (HCA.out.later HX.out).keep (by simp [World.setCell]) (fun b h1 _ => Below.heap_setCell _ _ _ _ (by simp; omega)), HAT.out.set HX.out (HAG.out (by omega) (by omega)), ?_⟩
              rw [keepTo_step (by simp [hpk]), HXX.out, HWD.out]
              refine (HIS.out.set (x := x) (by rw [keepTo_length]; omega) HX.out (fun b hb => hb.2.1) HO.out).mono fun c hc => ?_
              simp only [World.setCell, Array.size_modify]
              rcases hc with hc | hc
              · omega
              · have := hc.1; have := hc.2; omega
            case measure => simp [intOf]; omega
      · have hpk : bb[j]?.getD false = false := by rw [List.getElem?_eq_none (by omega)]; rfl
        go_wp2
        go_roundw
        case rel => exact ⟨j + 1, by omega, by go_num, HBW.out, HROW.out, HCA.out, HAT.out, by rw [keepTo_skip (by simp [hpk])]; exact HIS.out⟩
        case measure => simp [intOf]; omega
    · have e : j = n := by omega
      subst e
      go_wp2
      go_end0
      refine ⟨rfl, HBW.out.setCell hlo _, (HROW.out.set 1 _).congr fun c hc => ?_, (HIS.out.store (fun b hb => by simp; omega) _).mono fun b hb => ⟨hb.1, by simp [World.setCell]; omega, by omega⟩⟩
      have : c = 0 ∨ c = 1 := by omega
      rcases this with rfl | rfl <;> simp
end Go.Proofs.Ytomcejofhfngkaa

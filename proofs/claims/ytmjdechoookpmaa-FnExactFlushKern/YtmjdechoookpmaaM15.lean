/- WriteKern, the program's. FlushKern, the program's. WriteKern, the specification's. WriteKern in the one form of the laws. FlushKern, the specification's. FlushKern in the one form of the laws. How kerns that came in are opened. -/
import Derived.Test.YtmjdechoookpmaaM14
import Derived.Test.YtmjdechoookpmaaM09
import Derived.Test.YtmjdechoookpmaaM10
import Derived.Test.YtmjdechoookpmaaM11
import Derived.Test.YtmjdechoookpmaaM12
namespace Go.Proofs.Ytmjdechoookpmaa
open Go.RowKit
set_option maxRecDepth 100000

def writeR (d : KD) (key x : Int) (ws : List Int) : Int × KResD :=
  if mayF d key x = 0 then (if putCode d.1.1 d.1.2 x ws = 0 then (0, [], (d.1.1, d.1.2 ++ [(x, ws)]), d.2) else (putCode d.1.1 d.1.2 x ws, [], ([], []), [])) else (mayF d key x, [], ([], []), [])
theorem mayF_ok {d : KD} {key x : Int} (h : mayF d key x = 0) : kernF d = 0 := by
  unfold mayF at h
  split at h
  · rename_i hc
    obtain ⟨c, v, hr⟩ : ∃ c v, ownR d x = (c, v) := ⟨_, _, rfl⟩
    rw [hr] at hc
    dsimp only at hc
    subst hc
    exact (ownR_ok hr).1
  · rename_i hc
    exact absurd h hc

set_option maxHeartbeats 3200000 in
theorem implWrite_any (w : World) (vB vC vE v : Value) (d : KD) (key x : Int) (ws : List Int) (h : KernR w vB vC vE d) (hv : Ints w v ws) (hz : ∀ k : Nat, (d.1.1[k]?.getD []).length ≤ 1048576) (hzp : ∀ k : Nat, (d.1.2[k]?.getD (0, [])).2.length ≤ 1048576) (hzw : ws.length ≤ 1048576) :
    Calls Try.prog 20 #[.agg #[vB, vC, vE], .int .i64 key, .int .i64 x, v] w (AnsKR w (writeR d key x ws)) := by
  obtain ⟨a1, c1, rfl, _⟩ := h.1.1.open'
  obtain ⟨a2, c2, rfl, _⟩ := h.1.2.open'
  obtain ⟨a3, c3, rfl, _⟩ := h.2.open'
  have H : Hid (KernR w (.slice a1 d.1.1.length c1) (.slice a2 d.1.2.length c2) (.slice a3 d.2.length c3) d) := h
  have HV : Hid (Ints w v ws) := hv
  have HZ : Hid (∀ k : Nat, (d.1.1[k]?.getD []).length ≤ 1048576) := hz
  have HZP : Hid (∀ k : Nat, (d.1.2[k]?.getD (0, [])).2.length ≤ 1048576) := hzp
  have HZW : Hid (ws.length ≤ 1048576) := hzw
  have HWR : Hid (writeR d key x ws = if mayF d key x = 0 then (if putCode d.1.1 d.1.2 x ws = 0 then (0, [], (d.1.1, d.1.2 ++ [(x, ws)]), d.2) else (putCode d.1.1 d.1.2 x ws, [], ([], []), [])) else (mayF d key x, [], ([], []), [])) := rfl
  have FACTS : Hid (mayF d key x = 0 → d.2.length ≤ 1048576) := fun h => by have := (kernF_ok (mayF_ok h)).2.1; omega
  rw [HWR.out]
  clear h hv hz hzp hzw HWR
  generalize d.1.1.length = nB at *
  generalize d.1.2.length = nC at *
  generalize hlE : d.2.length = nE at *
  have HLE : Hid (d.2.length = nE) := hlE
  clear hlE
  generalize hm : mayF d key x = m at *
  have HM : Hid (mayF d key x = m) := hm
  clear hm
  by_cases h0 : m = 0
  · subst h0
    rw [if_pos rfl]
    have HNE : Hid (d.2.length ≤ 1048576) := by unfold Hid; rw [HLE.out]; exact FACTS.out rfl
    generalize hp : putCode d.1.1 d.1.2 x ws = c at *
    have HPC : Hid (putCode d.1.1 d.1.2 x ws = c) := hp
    clear hp FACTS
    by_cases hc : c = 0
    · subst hc
      rw [if_pos rfl]
      have HPB : Hid (putBlocks d.1.1 d.1.2 x ws = d.1.1) := by unfold Hid putBlocks; rw [if_pos HPC.out]
      have HPP : Hid (putCache d.1.1 d.1.2 x ws = d.1.2 ++ [(x, ws)]) := by unfold Hid putCache; rw [if_pos HPC.out]
      go_enter Try.func20, Try.ntmps20
      go_wp2_with fail
      refine (keyFault_any _ _ _ _ d key x (H.out.later (later2 _ _ _))).mono ?_
      rw [HM.out]
      rintro e w1 ⟨rfl, hb1⟩
      have HW1 : Hid (Below w.heap.size w w1) := (later2 _ _ _).trans (hb1.mono (by simp; omega))
      have HX1 : Hid (Bx w1 w.heap.size [.slice a1 nB c1, .slice a2 nC c2, .slice a3 nE c3]) := ((Bx.new w [.slice a1 nB c1, .slice a2 nC c2, .slice a3 nE c3] _).later (later1 _ _)).later hb1
      have HR1 : Hid (OwnRow w1 (w.heap.size + 1) zero5.length _) := resRowL _ zero5 _ hb1
      have x0 := HX1.out 0 _ rfl
      have x1 := HX1.out 1 _ rfl
      clear hb1
      go_wp2_with fail
      refine (implPut_any _ _ _ _ d.1.1 d.1.2 x ws (H.out.1.1.later HW1.out) (H.out.1.2.later HW1.out) (HV.out.later HW1.out) HZ.out HZP.out HZW.out).mono ?_
      rw [HPC.out, HPB.out, HPP.out]
      rintro e w2 hans
      obtain ⟨aB, nB', cB, aC, nC', cC, rfl, hb2, hd2⟩ := hans.uni
      have HW2 : Hid (Below w.heap.size w w2) := HW1.out.trans (hb2.mono HW1.out.size)
      have HD2 : Hid (DiskU w2 (.slice aB nB' cB) (.slice aC nC' cC) (d.1.1, d.1.2 ++ [(x, ws)]) (fun b => w1.heap.size ≤ b ∧ b < w2.heap.size)) := hd2
      have HX2 : Hid (Bx w2 w.heap.size [.slice a1 nB c1, .slice a2 nC c2, .slice a3 nE c3]) := HX1.out.later hb2
      have HR2 : Hid (OwnRow w2 (w.heap.size + 1) zero5.length _) := HR1.out.later hb2
      have hz12 : w1.heap.size ≤ w2.heap.size := hb2.size
      have hzw : w.heap.size < w2.heap.size := HX2.out.lt
      have hzr : w.heap.size + 1 < w1.heap.size := HR1.out.lt
      have y2 := HX2.out 2 _ rfl
      clear hb2 hd2 hans x0 x1
      have HCE : Hid (∀ W0 : World, W0 = w2.alloc (.cells #[.int .i64 0, .slice aB nB' cB, .slice aC nC' cC] 32) → Calls Try.prog 55 #[.slice a3 nE c3] W0.drew fun e w3 => ∃ ax nx cx, e = .returned (.slice ax nx cx) ∧ w3.cell? ⟨w2.heap.size, 1, none⟩ = some (.slice aB nB' cB) ∧ w3.cell? ⟨w2.heap.size, 2, none⟩ = some (.slice aC nC' cC) ∧ w3.cell? ⟨w.heap.size, 2, none⟩ = some (.slice a3 nE c3) ∧
          Hid (Below w.heap.size w w3) ∧ Hid (KResU w3 (.slice none 0 0) (.slice aB nB' cB) (.slice aC nC' cC) (.slice ax nx cx) ([], (d.1.1, d.1.2 ++ [(x, ws)]), d.2) (fun b => w1.heap.size ≤ b ∧ b < w3.heap.size)) ∧ Hid (OwnRow w3 (w.heap.size + 1) zero5.length (fun i => zero5[i]?.getD (.bool false)))) := by
        intro W0 e0
        have h0 : Below w2.heap.size w2 W0 := by rw [e0]; exact later1 _ _
        have hbx : Bx W0 w2.heap.size [.int .i64 0, .slice aB nB' cB, .slice aC nC' cC] := by rw [e0]; exact Bx.new w2 _ _
        refine (copyOfE_any (H.out.2.later (HW2.out.trans (h0.mono HW2.out.size)).drew) HNE.out).mono ?_
        rintro e w3 ⟨ax, nx, cx, rfl, hb3', he3⟩
        have hb3 : Below W0.heap.size W0 w3 := (Below.refl _ _).drew.trans hb3'
        have hb23 : Below w2.heap.size w2 w3 := h0.trans (hb3.mono h0.size)
        have hz3 := hb3.size
        have hz2 := h0.size
        have he3' : ExtsO w3 (.slice ax nx cx) d.2 (fun b => W0.heap.size ≤ b ∧ b < w3.heap.size) := he3
        refine ⟨ax, nx, cx, rfl, cell_later hb3 (hbx 1 _ rfl), cell_later hb3 (hbx 2 _ rfl), cell_later hb23 (HX2.out 2 _ rfl), HW2.out.trans (hb23.mono HW2.out.size), ?_, HR2.out.later hb23⟩
        exact KResU.of (F1 := fun _ => False) (Or.inl ⟨rfl, none, 0, rfl⟩) (HD2.out.later hb23) he3' (fun _ h => h.elim) (fun _ h => h.elim) (fun b h h' => by omega) (fun b h => by rcases h with h | h | h; exact h.elim; all_goals omega)
      go_wp2_with fail
      have e1 := Bx.new w2 [.int .i64 0, .slice aB nB' cB, .slice aC nC' cC] 32 1 _ rfl
      have e2 := Bx.new w2 [.int .i64 0, .slice aB nB' cB, .slice aC nC' cC] 32 2 _ rfl
      have y2' := cell_later (later1 w2 (.cells #[.int .i64 0, .slice aB nB' cB, .slice aC nC' cC] 32)) y2
      have hn1 : w.heap.size + 1 ≠ w2.heap.size := by omega
      have hn2 : w2.heap.size ≠ w.heap.size + 1 := by omega
      go_region_held3 (fun W => W.cell? ⟨w2.heap.size, 1, none⟩ = some (.slice aB nB' cB) ∧ W.cell? ⟨w2.heap.size, 2, none⟩ = some (.slice aC nC' cC) ∧ W.cell? ⟨w.heap.size, 2, none⟩ = some (.slice a3 nE c3)) (go_keep) (first
        | (go_at_call 55; refine (HCE.out _ rfl).mono ?_; rintro e w3 ⟨ax, nx, cx, rfl, k0, k1, k2, HW3, HK3, HR3⟩
           have t0 := HR3.out.cell (i := 0) (by simp [zero5])
           have t1 := HR3.out.cell (i := 1) (by simp [zero5])
           have t2 := HR3.out.cell (i := 2) (by simp [zero5])
           have t3 := HR3.out.cell (i := 3) (by simp [zero5])
           have t4 := HR3.out.cell (i := 4) (by simp [zero5])
           have s0 := HR3.out.frozen 0
           have s1 := HR3.out.frozen 1
           have s2 := HR3.out.frozen 2
           have s3 := HR3.out.frozen 3
           have s4 := HR3.out.frozen 4
           simp [zero5] at t0 t1 t2 t3 t4))
      all_goals
        go_wp2
        refine bodyPost_ret (v := .agg #[.int .i64 0, .slice none 0 0, .slice aB nB' cB, .slice aC nC' cC, .slice ax nx cx]) (by simp [results, Try.results20, go_sem, t0, t1, t2, t3, t4]) rfl ?_
        exact ansK_ret HW3.out (by omega) HK3.out (fun b hb => ⟨by omega, by omega, by omega⟩)
    · have hne : (c != 0) = true := by simpa using hc
      rw [if_neg hc]
      have HPB : Hid (putBlocks d.1.1 d.1.2 x ws = []) := by unfold Hid putBlocks; rw [if_neg (by rw [HPC.out]; exact hc)]
      have HPP : Hid (putCache d.1.1 d.1.2 x ws = []) := by unfold Hid putCache; rw [if_neg (by rw [HPC.out]; exact hc)]
      clear hc
      go_enter Try.func20, Try.ntmps20
      go_wp2_with fail
      refine (keyFault_any _ _ _ _ d key x (H.out.later (later2 _ _ _))).mono ?_
      rw [HM.out]
      rintro e w1 ⟨rfl, hb1⟩
      have HW1 : Hid (Below w.heap.size w w1) := (later2 _ _ _).trans (hb1.mono (by simp; omega))
      have HX1 : Hid (Bx w1 w.heap.size [.slice a1 nB c1, .slice a2 nC c2, .slice a3 nE c3]) := ((Bx.new w [.slice a1 nB c1, .slice a2 nC c2, .slice a3 nE c3] _).later (later1 _ _)).later hb1
      have HR1 : Hid (OwnRow w1 (w.heap.size + 1) zero5.length _) := resRowL _ zero5 _ hb1
      have x0 := HX1.out 0 _ rfl
      have x1 := HX1.out 1 _ rfl
      clear hb1
      go_wp2_with fail
      refine (implPut_any _ _ _ _ d.1.1 d.1.2 x ws (H.out.1.1.later HW1.out) (H.out.1.2.later HW1.out) (HV.out.later HW1.out) HZ.out HZP.out HZW.out).mono ?_
      rw [HPC.out, HPB.out, HPP.out]
      rintro e w2 hans
      obtain ⟨aB, nB', cB, aC, nC', cC, rfl, hb2, hd2⟩ := hans.uni
      have HW2 : Hid (Below w.heap.size w w2) := HW1.out.trans (hb2.mono HW1.out.size)
      have HR2 := HR1.out.later hb2
      have hzr : w.heap.size + 1 < w2.heap.size := HR2.lt
      have t0 := HR2.cell (i := 0) (by simp [zero5])
      have t1 := HR2.cell (i := 1) (by simp [zero5])
      have t2 := HR2.cell (i := 2) (by simp [zero5])
      have t3 := HR2.cell (i := 3) (by simp [zero5])
      have t4 := HR2.cell (i := 4) (by simp [zero5])
      have s0 := HR2.frozen 0
      have s1 := HR2.frozen 1
      have s2 := HR2.frozen 2
      have s3 := HR2.frozen 3
      have s4 := HR2.frozen 4
      simp [zero5] at t0 t1 t2 t3 t4
      clear hb2 hd2 hans x0 x1 HR2
      go_wp2
      refine bodyPost_ret (v := .agg #[.int .i64 c, .slice none 0 0, .slice none 0 0, .slice none 0 0, .slice none 0 0]) (by simp [results, Try.results20, go_sem, t0, t1, t2, t3, t4, hzr]) rfl ?_
      exact (ansK_no HW2.out (by omega) c).later (later1 _ _)
  · have hne : (m != 0) = true := by simpa using h0
    rw [if_neg h0]
    clear h0 FACTS
    go_enter Try.func20, Try.ntmps20
    go_wp2_with fail
    refine (keyFault_any _ _ _ _ d key x (H.out.later (later2 _ _ _))).mono ?_
    rw [HM.out]
    rintro e w1 ⟨rfl, hb1⟩
    have HW1 : Hid (Below w.heap.size w w1) := (later2 _ _ _).trans (hb1.mono (by simp; omega))
    have HR1 := resRowL _ zero5 _ hb1
    have t0 := HR1.cell (i := 0) (by simp [zero5])
    have t1 := HR1.cell (i := 1) (by simp [zero5])
    have t2 := HR1.cell (i := 2) (by simp [zero5])
    have t3 := HR1.cell (i := 3) (by simp [zero5])
    have t4 := HR1.cell (i := 4) (by simp [zero5])
    have s0 := HR1.frozen 0
    have s1 := HR1.frozen 1
    have s2 := HR1.frozen 2
    have s3 := HR1.frozen 3
    have s4 := HR1.frozen 4
    simp [zero5] at t0 t1 t2 t3 t4
    clear hb1 HR1
    go_wp2
    exact bodyPost_ret (v := .agg #[.int .i64 m, .slice none 0 0, .slice none 0 0, .slice none 0 0, .slice none 0 0]) (by simp [results, Try.results20, go_sem, t0, t1, t2, t3, t4]) rfl (ansK_no HW1.out (by omega) m)
end Go.Proofs.Ytmjdechoookpmaa

namespace Go.Proofs.Ytmjdechoookpmaa
open Go.RowKit
set_option maxRecDepth 100000

def anyKey (es : List E3) (key : Int) : Bool := es.any fun e => e.2.2 == key
theorem anyKey_at {es : List E3} {key : Int} {j : Nat} (hj : j < es.length) (h : ((extAt es j).2.2 == key) = true) : anyKey es key = true := by
  unfold anyKey
  rw [List.any_eq_true]
  refine ⟨es[j], List.getElem_mem hj, ?_⟩
  simpa [extAt, hj] using h
theorem anyKey_none {es : List E3} {key : Int} (h : ∀ j, j < es.length → ((extAt es j).2.2 == key) = false) : anyKey es key = false := by
  unfold anyKey
  rw [List.any_eq_false]
  intro e he
  obtain ⟨j, hj, rfl⟩ := List.mem_iff_getElem.1 he
  have := h j hj
  simp only [extAt, List.getElem?_eq_getElem hj, Option.getD_some] at this
  simp [this]

def flushK (d : KD) (key : Int) : Int × KResD := if kernF d = 0 then (if anyKey d.2 key = true then (0, [], (keepBlocks (fun _ => true) d.1.1 d.1.2, []), d.2) else (6, [], ([], []), [])) else (kernF d, [], ([], []), [])

set_option maxHeartbeats 1600000 in
theorem anyOpens_walk (w : World) (aE : Option Addr) (nE cE nB : Nat) (es : List E3) (key : Int) (hnE : es.length = nE) (hE : AtE w aE nE es) (h8 : nE ≤ 8) (hr : ∀ i, i < nE → rightB (extAt es i) nB = true) :
    Calls Try.prog 65 #[.slice aE nE cE, .int .i64 key] w fun e w' => e = .returned (.bool (anyKey es key)) ∧ Below w.heap.size w w' := by
  have HN : Hid (es.length = nE) := hnE
  have HE : Hid (AtE w aE nE es) := hE
  have HR : Hid (∀ i, i < nE → rightB (extAt es i) nB = true) := hr
  clear hnE hE hr
  go_enter Try.func65, Try.ntmps65
  go_wp2
  go_loopw [9] (fun i wr => ∃ j : Nat, j ≤ nE ∧ i = .int .i64 j ∧ Below w.heap.size w wr ∧ ∀ i : Nat, i < j → ((extAt es i).2.2 == key) = false) (fun i _ => nE - (intOf i).toNat)
  case atStart => exact ⟨0, Nat.zero_le _, rfl, Below.refl _ _, fun i hi => by omega⟩
  case round =>
    obtain ⟨j, hj, rfl, hbl, hall⟩ := hrel
    have HA : Hid (∀ i : Nat, i < j → ((extAt es i).2.2 == key) = false) := hall
    have HBL : Hid (Below w.heap.size w wr) := hbl
    clear hall hbl
    by_cases hlt : j < nE
    · obtain ⟨b, off, rfl, c0, c1, c2⟩ := HE.out j hlt
      replace c0 := cell_later HBL.out c0
      replace c1 := cell_later HBL.out c1
      replace c2 := cell_later HBL.out c2
      have hq := rightB_iff.1 (HR.out j hlt)
      have HX : Hid (extAt es j = ((es[j]?.getD (0, 0, 0)).1, (es[j]?.getD (0, 0, 0)).2.1, (es[j]?.getD (0, 0, 0)).2.2)) := rfl
      rw [HX.out] at hq
      dsimp only at hq
      generalize (es[j]?.getD (0, 0, 0)).1 = p at *
      generalize (es[j]?.getD (0, 0, 0)).2.1 = y at *
      generalize (es[j]?.getD (0, 0, 0)).2.2 = z at *
      have HLK := lockF_eq (key := key) hq.1.1 hq.1.2
      clear hq
      cases hh : (z == key)
      · have HQ : Hid ((lockF z == lockF key) = false) := by unfold Hid; rw [HLK]; exact hh
        have HH : Hid (((extAt es j).2.2 == key) = false) := by unfold Hid; rw [HX.out]; exact hh
        clear hh HLK
        go_wp2_with fail
        refine (opensTo_any _ p y z key).mono ?_
        rw [HQ.out]
        rintro e w2 ⟨rfl, hb2⟩
        have HB2 : Hid (Below w.heap.size w w2) := HBL.out.trans (((later1 _ _).trans (hb2.mono (by simp))).mono HBL.out.size)
        clear hb2
        go_wp2
        go_roundw
        case rel =>
          refine ⟨j + 1, by omega, by go_num, HB2.out, fun i hi => ?_⟩
          by_cases e : i = j
          · subst e; exact HH.out
          · exact HA.out i (by omega)
        case measure => simp [intOf]; omega
      · have HQ : Hid ((lockF z == lockF key) = true) := by unfold Hid; rw [HLK]; exact hh
        have HZ : Hid (anyKey es key = true) := anyKey_at (j := j) (by rw [HN.out]; exact hlt) (by rw [HX.out]; exact hh)
        clear hh HLK
        go_wp2_with fail
        refine (opensTo_any _ p y z key).mono ?_
        rw [HQ.out]
        rintro e w2 ⟨rfl, hb2⟩
        have HB2 : Hid (Below w.heap.size w w2) := HBL.out.trans (((later1 _ _).trans (hb2.mono (by simp))).mono HBL.out.size)
        clear hb2
        go_wp2
        go_ret
        exact ⟨by rw [HZ.out]; rfl, HB2.out⟩
    · have e : j = nE := by omega
      subst e
      have HZ : Hid (anyKey es key = false) := anyKey_none (fun i hi => HA.out i (by rw [HN.out] at hi; exact hi))
      go_wp2
      go_ret
      exact ⟨by rw [HZ.out]; rfl, HBL.out⟩

theorem field_disk (a b : Option Addr) (n c m k : Nat) (w : World) : (Instr.field 32 (.agg #[.int .i64 0, .slice a n c, .slice b m k]) 1).run Try.prog w = .ok (.agg #[.slice a n c, .slice b m k]) w := by kernel_rfl

set_option maxHeartbeats 3200000 in
theorem implFlushK_any (w : World) (vB vC vE : Value) (d : KD) (key : Int) (h : KernR w vB vC vE d) (hz : ∀ k : Nat, (d.1.1[k]?.getD []).length ≤ 1048576) (hzp : ∀ k : Nat, (d.1.2[k]?.getD (0, [])).2.length ≤ 1048576) :
    Calls Try.prog 29 #[.agg #[vB, vC, vE], .int .i64 key] w (AnsKR w (flushK d key)) := by
  obtain ⟨a1, c1, rfl, _⟩ := h.1.1.open'
  obtain ⟨a2, c2, rfl, _⟩ := h.1.2.open'
  obtain ⟨a3, c3, rfl, _, sE⟩ := h.2.open'
  have H : Hid (KernR w (.slice a1 d.1.1.length c1) (.slice a2 d.1.2.length c2) (.slice a3 d.2.length c3) d) := h
  have HRR : Hid (flushK d key = if kernF d = 0 then (if anyKey d.2 key = true then (0, [], (keepBlocks (fun _ => true) d.1.1 d.1.2, []), d.2) else (6, [], ([], []), [])) else (kernF d, [], ([], []), [])) := rfl
  have HAO : Hid (kernF d = 0 → ∀ W, Below w.heap.size w W → Calls Try.prog 65 #[.slice a3 d.2.length c3, .int .i64 key] W fun e W' => e = .returned (.bool (anyKey d.2 key)) ∧ Below W.heap.size W W') := fun h0 W hW => anyOpens_walk W a3 d.2.length c3 d.1.1.length d.2 key rfl (sE.later hW) (kernF_ok h0).2.1 (fun i hi => ((kernF_ok h0).2.2 i hi).1)
  have HFD : Hid (kernF d = 0 → ∀ W, Below w.heap.size w W → Calls Try.prog 9 #[.agg #[.slice a1 d.1.1.length c1, .slice a2 d.1.2.length c2]] W fun e W' => ∃ aX nX cX aY nY cY, e = .returned (.agg #[.int .i64 0, .slice aX nX cX, .slice aY nY cY]) ∧ Below W.heap.size W W' ∧ DiskU W' (.slice aX nX cX) (.slice aY nY cY) (keepBlocks (fun _ => true) d.1.1 d.1.2, []) (fresh W W')) := fun h0 W hW => by
    have := implFlush_any W _ _ d.1.1 d.1.2 (h.1.1.later hW) (h.1.2.later hW) hz hzp
    rw [(kernF_ok h0).1] at this
    exact this.mono fun e W' hh => hh.uni
  have HCE : Hid (kernF d = 0 → ∀ W, Below w.heap.size w W → Calls Try.prog 55 #[.slice a3 d.2.length c3] W fun e W' => ∃ a n c, e = .returned (.slice a n c) ∧ Below W.heap.size W W' ∧ ExtsO W' (.slice a n c) d.2 (fresh W W')) := fun h0 W hW => copyOfE_any (h.2.later hW) (by have := (kernF_ok h0).2.1; omega)
  rw [HRR.out]
  clear h hz hzp HRR sE
  generalize d.1.1.length = nB at *
  generalize d.1.2.length = nC at *
  generalize d.2.length = nE at *
  generalize hm : kernF d = m at *
  have HM : Hid (kernF d = m) := hm
  clear hm
  by_cases h0 : m = 0
  · subst h0
    rw [if_pos rfl]
    have KAO : Hid _ := HAO.out rfl
    have KFD : Hid _ := HFD.out rfl
    have KCE : Hid _ := HCE.out rfl
    clear HAO HFD HCE
    cases hk : anyKey d.2 key
    · rw [hk] at KAO
      rw [if_neg (by simp)]
      clear hk KFD KCE
      go_enter Try.func29, Try.ntmps29
      go_wp2_with fail
      refine (implKernFault_any _ _ _ _ d (H.out.later (later2 _ _ _))).mono ?_
      rw [HM.out]
      rintro e w1 ⟨rfl, hb1⟩
      have HW1 : Hid (Below w.heap.size w w1) := (later2 _ _ _).trans (hb1.mono (by simp; omega))
      have HX1 : Hid (Bx w1 w.heap.size [.slice a1 nB c1, .slice a2 nC c2, .slice a3 nE c3]) := ((Bx.new w [.slice a1 nB c1, .slice a2 nC c2, .slice a3 nE c3] _).later (later1 _ _)).later hb1
      have HR1 : Hid (OwnRow w1 (w.heap.size + 1) zero5.length (fun i => zero5[i]?.getD (.bool false))) := resRowL _ zero5 _ hb1
      have x2 := HX1.out 2 _ rfl
      clear hb1
      go_wp2_with fail
      refine (KAO.out _ HW1.out).mono ?_
      rintro e w2 ⟨rfl, hb2⟩
      have HW2 : Hid (Below w.heap.size w w2) := HW1.out.trans (hb2.mono HW1.out.size)
      have HR2 := HR1.out.later hb2
      have t0 := HR2.cell (i := 0) (by simp [zero5])
      have t1 := HR2.cell (i := 1) (by simp [zero5])
      have t2 := HR2.cell (i := 2) (by simp [zero5])
      have t3 := HR2.cell (i := 3) (by simp [zero5])
      have t4 := HR2.cell (i := 4) (by simp [zero5])
      have s0 := HR2.frozen 0
      have s1 := HR2.frozen 1
      have s2 := HR2.frozen 2
      have s3 := HR2.frozen 3
      have s4 := HR2.frozen 4
      simp [zero5] at t0 t1 t2 t3 t4
      clear hb2 HR2 x2
      go_wp2
      exact bodyPost_ret (v := .agg #[.int .i64 6, .slice none 0 0, .slice none 0 0, .slice none 0 0, .slice none 0 0]) (by simp [results, Try.results29, go_sem, t0, t1, t2, t3, t4]) rfl (ansK_no HW2.out (by omega) 6)
    · rw [hk] at KAO
      rw [if_pos rfl]
      clear hk
      go_enter Try.func29, Try.ntmps29
      go_wp2_with fail
      refine (implKernFault_any _ _ _ _ d (H.out.later (later2 _ _ _))).mono ?_
      rw [HM.out]
      rintro e w1 ⟨rfl, hb1⟩
      have HW1 : Hid (Below w.heap.size w w1) := (later2 _ _ _).trans (hb1.mono (by simp; omega))
      have HX1 : Hid (Bx w1 w.heap.size [.slice a1 nB c1, .slice a2 nC c2, .slice a3 nE c3]) := ((Bx.new w [.slice a1 nB c1, .slice a2 nC c2, .slice a3 nE c3] _).later (later1 _ _)).later hb1
      have HR1 : Hid (OwnRow w1 (w.heap.size + 1) zero5.length (fun i => zero5[i]?.getD (.bool false))) := resRowL _ zero5 _ hb1
      have x2 := HX1.out 2 _ rfl
      clear hb1
      go_wp2_with fail
      refine (KAO.out _ HW1.out).mono ?_
      rintro e w2 ⟨rfl, hb2⟩
      have HW2 : Hid (Below w.heap.size w w2) := HW1.out.trans (hb2.mono HW1.out.size)
      have HX2 : Hid (Bx w2 w.heap.size [.slice a1 nB c1, .slice a2 nC c2, .slice a3 nE c3]) := HX1.out.later hb2
      have HR2 : Hid (OwnRow w2 (w.heap.size + 1) zero5.length (fun i => zero5[i]?.getD (.bool false))) := HR1.out.later hb2
      have hzr : w.heap.size + 1 < w2.heap.size := HR2.out.lt
      clear hb2 x2
      have x0 := HX2.out 0 _ rfl
      have x1 := HX2.out 1 _ rfl
      have x2 := HX2.out 2 _ rfl
      go_wp2_with fail
      go_region_held3 (fun W => W.cell? ⟨w.heap.size, 0, none⟩ = some (.slice a1 nB c1) ∧ W.cell? ⟨w.heap.size, 1, none⟩ = some (.slice a2 nC c2) ∧ W.cell? ⟨w.heap.size, 2, none⟩ = some (.slice a3 nE c3)) (go_keep) (first
        | (go_at_call 9; refine (KFD.out _ HW2.out.drew).mono ?_; rintro e w3 ⟨aX, nX, cX, aY, nY, cY, rfl, hb3, hd3⟩
           have hfd := field_disk aX aY nX cX nY cY
           have y0 := cell_later hb3 x0
           have y1 := cell_later hb3 x1
           have y2 := cell_later hb3 x2
           have HB3 : Hid (Below w2.heap.size w2 w3) := (Below.refl _ _).drew.trans hb3
           have HD3 : Hid (DiskU w3 (.slice aX nX cX) (.slice aY nY cY) (keepBlocks (fun _ => true) d.1.1 d.1.2, []) (fun b => w2.heap.size ≤ b ∧ b < w3.heap.size)) := hd3
           clear hb3 hd3)
        | (go_at_call 55; refine (KCE.out _ (HW2.out.trans (HB3.out.mono HW2.out.size))).mono ?_; rintro e w4 ⟨aZ, nZ, cZ, rfl, hb4, he4⟩
           have z0 := cell_later hb4 y0
           have z1 := cell_later hb4 y1
           have z2 := cell_later hb4 y2
           have hb24 : Below w2.heap.size w2 w4 := HB3.out.trans (hb4.mono HB3.out.size)
           have HW4 : Hid (Below w.heap.size w w4) := HW2.out.trans (hb24.mono HW2.out.size)
           have he4' : ExtsO w4 (.slice aZ nZ cZ) d.2 (fun b => w3.heap.size ≤ b ∧ b < w4.heap.size) := he4
           have HK4 : Hid (KResU w4 (.slice none 0 0) (.slice aX nX cX) (.slice aY nY cY) (.slice aZ nZ cZ) ([], (keepBlocks (fun _ => true) d.1.1 d.1.2, []), d.2) (fun b => w2.heap.size ≤ b ∧ b < w4.heap.size)) := KResU.of (F1 := fun _ => False) (Or.inl ⟨rfl, none, 0, rfl⟩) (HD3.out.later hb4) he4' (fun _ h => h.elim) (fun _ h => h.elim) (fun b h h' => by omega) (fun b h => by have := hb4.size; have := HB3.out.size; rcases h with h | h | h; exact h.elim; all_goals omega)
           have HR4 := HR2.out.later hb24
           have t0 := HR4.cell (i := 0) (by simp [zero5])
           have t1 := HR4.cell (i := 1) (by simp [zero5])
           have t2 := HR4.cell (i := 2) (by simp [zero5])
           have t3 := HR4.cell (i := 3) (by simp [zero5])
           have t4 := HR4.cell (i := 4) (by simp [zero5])
           have s0 := HR4.frozen 0
           have s1 := HR4.frozen 1
           have s2 := HR4.frozen 2
           have s3 := HR4.frozen 3
           have s4 := HR4.frozen 4
           simp [zero5] at t0 t1 t2 t3 t4
           clear hb4 hb24 he4 he4' HR4))
      all_goals
        go_wp2
        refine bodyPost_ret (v := .agg #[.int .i64 0, .slice none 0 0, .slice aX nX cX, .slice aY nY cY, .slice aZ nZ cZ]) (by simp [results, Try.results29, go_sem, t0, t1, t2, t3, t4]) rfl ?_
        exact ansK_ret HW4.out (by omega) HK4.out (fun b hb => ⟨by omega, by omega, by omega⟩)
  · have hne : (m != 0) = true := by simpa using h0
    rw [if_neg h0]
    clear h0 HAO HFD HCE
    go_enter Try.func29, Try.ntmps29
    go_wp2_with fail
    refine (implKernFault_any _ _ _ _ d (H.out.later (later2 _ _ _))).mono ?_
    rw [HM.out]
    rintro e w1 ⟨rfl, hb1⟩
    have HW1 : Hid (Below w.heap.size w w1) := (later2 _ _ _).trans (hb1.mono (by simp; omega))
    have HR1 := resRowL _ zero5 _ hb1
    have t0 := HR1.cell (i := 0) (by simp [zero5])
    have t1 := HR1.cell (i := 1) (by simp [zero5])
    have t2 := HR1.cell (i := 2) (by simp [zero5])
    have t3 := HR1.cell (i := 3) (by simp [zero5])
    have t4 := HR1.cell (i := 4) (by simp [zero5])
    have s0 := HR1.frozen 0
    have s1 := HR1.frozen 1
    have s2 := HR1.frozen 2
    have s3 := HR1.frozen 3
    have s4 := HR1.frozen 4
    simp [zero5] at t0 t1 t2 t3 t4
    clear hb1 HR1
    go_wp2
    exact bodyPost_ret (v := .agg #[.int .i64 m, .slice none 0 0, .slice none 0 0, .slice none 0 0, .slice none 0 0]) (by simp [results, Try.results29, go_sem, t0, t1, t2, t3, t4]) rfl (ansK_no HW1.out (by omega) m)
end Go.Proofs.Ytmjdechoookpmaa

namespace Go.Proofs.Ytmjdechoookpmaa
open Go.RowKit
set_option maxRecDepth 100000

set_option maxHeartbeats 3200000 in
theorem specWrite_any (hcp : L1CopySaid) (w : World) (vB vC vE v : Value) (d : KD) (key x : Int) (ws : List Int) (h : KernR w vB vC vE d) (hv : Ints w v ws) (hz : ∀ k : Nat, (d.1.1[k]?.getD []).length ≤ 1048576) (hzp : ∀ k : Nat, (d.1.2[k]?.getD (0, [])).2.length ≤ 1048576) (hzw : ws.length ≤ 1048576) :
    Calls Try.prog 17 #[.agg #[vB, vC, vE], .int .i64 key, .int .i64 x, v] w (AnsKR w (writeR d key x ws)) := by
  obtain ⟨a1, c1, rfl, _⟩ := h.1.1.open'
  obtain ⟨a2, c2, rfl, _⟩ := h.1.2.open'
  obtain ⟨a3, c3, rfl, _⟩ := h.2.open'
  have HCP : Hid L1CopySaid := hcp
  have H : Hid (KernR w (.slice a1 d.1.1.length c1) (.slice a2 d.1.2.length c2) (.slice a3 d.2.length c3) d) := h
  have HV : Hid (Ints w v ws) := hv
  have HZ : Hid (∀ k : Nat, (d.1.1[k]?.getD []).length ≤ 1048576) := hz
  have HZP : Hid (∀ k : Nat, (d.1.2[k]?.getD (0, [])).2.length ≤ 1048576) := hzp
  have HZW : Hid (ws.length ≤ 1048576) := hzw
  have HWR : Hid (writeR d key x ws = if mayF d key x = 0 then (if putCode d.1.1 d.1.2 x ws = 0 then (0, [], (d.1.1, d.1.2 ++ [(x, ws)]), d.2) else (putCode d.1.1 d.1.2 x ws, [], ([], []), [])) else (mayF d key x, [], ([], []), [])) := rfl
  have FACTS : Hid (mayF d key x = 0 → faultF d.1.1 d.1.2 = 0 ∧ d.2.length ≤ 8) := fun h => by have := kernF_ok (mayF_ok h); exact ⟨this.1, this.2.1⟩
  rw [HWR.out]
  clear h hv hz hzp hzw HWR hcp
  generalize d.1.1.length = nB at *
  generalize d.1.2.length = nC at *
  generalize hlE : d.2.length = nE at *
  have HLE : Hid (d.2.length = nE) := hlE
  clear hlE
  generalize hm : mayF d key x = m at *
  have HM : Hid (mayF d key x = m) := hm
  clear hm
  by_cases h0 : m = 0
  · subst h0
    rw [if_pos rfl]
    obtain ⟨hff, h8⟩ := FACTS.out rfl
    have HFF : Hid (faultF d.1.1 d.1.2 = 0) := hff
    have H8 : Hid (d.2.length ≤ 8) := by unfold Hid; rw [HLE.out]; exact h8
    generalize hp : putCode d.1.1 d.1.2 x ws = c at *
    have HPC : Hid (putCode d.1.1 d.1.2 x ws = c) := hp
    clear hp FACTS hff h8
    by_cases hc : c = 0
    · subst hc
      rw [if_pos rfl]
      have HPB : Hid (putBlocks d.1.1 d.1.2 x ws = d.1.1) := by unfold Hid putBlocks; rw [if_pos HPC.out]
      have HPP : Hid (putCache d.1.1 d.1.2 x ws = d.1.2 ++ [(x, ws)]) := by unfold Hid putCache; rw [if_pos HPC.out]
      go_enter Try.func17, Try.ntmps17
      go_wp2_with fail
      refine (l2May_any (d := d) key x ((Bx.new w [.slice a1 nB c1, .slice a2 nC c2, .slice a3 nE c3] _).later (later1 _ _) 0 _ rfl) ((Bx.new w [.slice a1 nB c1, .slice a2 nC c2, .slice a3 nE c3] _).later (later1 _ _) 1 _ rfl) ((Bx.new w [.slice a1 nB c1, .slice a2 nC c2, .slice a3 nE c3] _).later (later1 _ _) 2 _ rfl) (H.out.later (later2 _ _ _))).mono ?_
      rw [HM.out]
      rintro e w1 ⟨rfl, hb1⟩
      have HW1 : Hid (Below w.heap.size w w1) := (later2 _ _ _).trans (hb1.mono (by simp; omega))
      have HX1 : Hid (Bx w1 w.heap.size [.slice a1 nB c1, .slice a2 nC c2, .slice a3 nE c3]) := ((Bx.new w [.slice a1 nB c1, .slice a2 nC c2, .slice a3 nE c3] _).later (later1 _ _)).later hb1
      have HR1 : Hid (OwnRow w1 (w.heap.size + 1) zero5.length _) := resRowL _ zero5 _ hb1
      have x0 := HX1.out 0 _ rfl
      have x1 := HX1.out 1 _ rfl
      clear hb1
      go_wp2_with fail
      refine (specPut_any HCP.out _ _ _ _ d.1.1 d.1.2 x ws (H.out.1.1.later HW1.out) (H.out.1.2.later HW1.out) (HV.out.later HW1.out) HZ.out HZP.out HZW.out).mono ?_
      rw [HPC.out, HPB.out, HPP.out]
      rintro e w2 hans
      obtain ⟨aB, nB', cB, aC, nC', cC, rfl, hb2, hd2⟩ := hans.uni
      have HW2 : Hid (Below w.heap.size w w2) := HW1.out.trans (hb2.mono HW1.out.size)
      have HD2 : Hid (DiskU w2 (.slice aB nB' cB) (.slice aC nC' cC) (d.1.1, d.1.2 ++ [(x, ws)]) (fun b => w1.heap.size ≤ b ∧ b < w2.heap.size)) := hd2
      have HX2 : Hid (Bx w2 w.heap.size [.slice a1 nB c1, .slice a2 nC c2, .slice a3 nE c3]) := HX1.out.later hb2
      have HR2 : Hid (OwnRow w2 (w.heap.size + 1) zero5.length _) := HR1.out.later hb2
      have hz12 : w1.heap.size ≤ w2.heap.size := hb2.size
      have hzw : w.heap.size < w2.heap.size := HX2.out.lt
      have hzr : w.heap.size + 1 < w1.heap.size := HR1.out.lt
      have y0 := HX2.out 0 _ rfl
      have y1 := HX2.out 1 _ rfl
      have y2 := HX2.out 2 _ rfl
      clear hb2 hd2 hans x0 x1
      go_wp2_with fail
      refine (l2Copy_any HCP.out _ _ _ _ d.1.1 d.1.2 d.2 (H.out.later (HW2.out.trans ((later1 _ _).mono HW2.out.size))) HFF.out H8.out HZ.out HZP.out).mono ?_
      rintro e w3 ⟨b1, m1, k1, b2, m2, k2, b3, m3, k3, rfl, hb3, hk3⟩
      have hb23 : Below w2.heap.size w2 w3 := (later1 _ _).trans (hb3.mono (by simp))
      have HW3 : Hid (Below w.heap.size w w3) := HW2.out.trans (hb23.mono HW2.out.size)
      have HBX3 := (Bx.new w2 [.int .i64 0, .slice aB nB' cB, .slice aC nC' cC] _).later hb3
      have e1 := HBX3 1 _ rfl
      have e2 := HBX3 2 _ rfl
      have hz3 : w2.heap.size < w3.heap.size := HBX3.lt
      obtain ⟨F1, G1, _, hex, hdis, hsub⟩ := hk3
      have HK3 : Hid (KResU w3 (.slice none 0 0) (.slice aB nB' cB) (.slice aC nC' cC) (.slice b3 m3 k3) ([], (d.1.1, d.1.2 ++ [(x, ws)]), d.2) (fun b => w1.heap.size ≤ b ∧ b < w3.heap.size)) :=
        KResU.of (F1 := fun _ => False) (F3 := fun b => w2.heap.size < b ∧ b < w3.heap.size) (Or.inl ⟨rfl, none, 0, rfl⟩) (HD2.out.later hb23) (hex.mono fun b hb => by have := hsub b (Or.inr hb); unfold fresh at this; simp at this; omega) (fun _ h => h.elim) (fun _ h => h.elim) (fun b h h' => by omega) (fun b h => by rcases h with h | h | h; exact h.elim; all_goals omega)
      have HR3 := HR2.out.later hb23
      have t0 := HR3.cell (i := 0) (by simp [zero5])
      have t1 := HR3.cell (i := 1) (by simp [zero5])
      have t2 := HR3.cell (i := 2) (by simp [zero5])
      have t3 := HR3.cell (i := 3) (by simp [zero5])
      have t4 := HR3.cell (i := 4) (by simp [zero5])
      have s0 := HR3.frozen 0
      have s1 := HR3.frozen 1
      have s2 := HR3.frozen 2
      have s3 := HR3.frozen 3
      have s4 := HR3.frozen 4
      simp [zero5] at t0 t1 t2 t3 t4
      have hzr3 : w.heap.size + 1 < w3.heap.size := by omega
      clear hb3 hb23 HBX3 hex hdis hsub HR3 y0 y1 y2
      go_wp2
      refine bodyPost_ret (v := .agg #[.int .i64 0, .slice none 0 0, .slice aB nB' cB, .slice aC nC' cC, .slice b3 m3 k3]) (by simp [results, Try.results17, go_sem, t0, t1, t2, t3, t4, hzr3]) rfl ?_
      exact (ansK_ret HW3.out (by omega) HK3.out (fun b hb => ⟨by omega, by omega, by omega⟩)).later (later1 _ _)
    · have hne : (c != 0) = true := by simpa using hc
      rw [if_neg hc]
      have HPB : Hid (putBlocks d.1.1 d.1.2 x ws = []) := by unfold Hid putBlocks; rw [if_neg (by rw [HPC.out]; exact hc)]
      have HPP : Hid (putCache d.1.1 d.1.2 x ws = []) := by unfold Hid putCache; rw [if_neg (by rw [HPC.out]; exact hc)]
      clear hc
      go_enter Try.func17, Try.ntmps17
      go_wp2_with fail
      refine (l2May_any (d := d) key x ((Bx.new w [.slice a1 nB c1, .slice a2 nC c2, .slice a3 nE c3] _).later (later1 _ _) 0 _ rfl) ((Bx.new w [.slice a1 nB c1, .slice a2 nC c2, .slice a3 nE c3] _).later (later1 _ _) 1 _ rfl) ((Bx.new w [.slice a1 nB c1, .slice a2 nC c2, .slice a3 nE c3] _).later (later1 _ _) 2 _ rfl) (H.out.later (later2 _ _ _))).mono ?_
      rw [HM.out]
      rintro e w1 ⟨rfl, hb1⟩
      have HW1 : Hid (Below w.heap.size w w1) := (later2 _ _ _).trans (hb1.mono (by simp; omega))
      have HX1 : Hid (Bx w1 w.heap.size [.slice a1 nB c1, .slice a2 nC c2, .slice a3 nE c3]) := ((Bx.new w [.slice a1 nB c1, .slice a2 nC c2, .slice a3 nE c3] _).later (later1 _ _)).later hb1
      have HR1 : Hid (OwnRow w1 (w.heap.size + 1) zero5.length _) := resRowL _ zero5 _ hb1
      have x0 := HX1.out 0 _ rfl
      have x1 := HX1.out 1 _ rfl
      clear hb1
      go_wp2_with fail
      refine (specPut_any HCP.out _ _ _ _ d.1.1 d.1.2 x ws (H.out.1.1.later HW1.out) (H.out.1.2.later HW1.out) (HV.out.later HW1.out) HZ.out HZP.out HZW.out).mono ?_
      rw [HPC.out, HPB.out, HPP.out]
      rintro e w2 hans
      obtain ⟨aB, nB', cB, aC, nC', cC, rfl, hb2, hd2⟩ := hans.uni
      have HW2 : Hid (Below w.heap.size w w2) := HW1.out.trans (hb2.mono HW1.out.size)
      have HR2 : Hid (OwnRow w2 (w.heap.size + 1) zero5.length _) := HR1.out.later hb2
      have hzr : w.heap.size + 1 < w2.heap.size := HR2.out.lt
      clear hb2 hd2 hans x0 x1
      go_wp2_with fail
      refine (l2Bad_any _ c).mono ?_
      rintro e w3 ⟨rfl, hb3⟩
      have hb23 : Below w2.heap.size w2 w3 := (later1 _ _).trans (hb3.mono (by simp))
      have HW3 : Hid (Below w.heap.size w w3) := HW2.out.trans (hb23.mono HW2.out.size)
      have HR3 := HR2.out.later hb23
      have t0 := HR3.cell (i := 0) (by simp [zero5])
      have t1 := HR3.cell (i := 1) (by simp [zero5])
      have t2 := HR3.cell (i := 2) (by simp [zero5])
      have t3 := HR3.cell (i := 3) (by simp [zero5])
      have t4 := HR3.cell (i := 4) (by simp [zero5])
      have s0 := HR3.frozen 0
      have s1 := HR3.frozen 1
      have s2 := HR3.frozen 2
      have s3 := HR3.frozen 3
      have s4 := HR3.frozen 4
      simp [zero5] at t0 t1 t2 t3 t4
      clear hb3 hb23 HR3
      go_wp2
      exact bodyPost_ret (v := .agg #[.int .i64 c, .slice none 0 0, .slice none 0 0, .slice none 0 0, .slice none 0 0]) (by simp [results, Try.results17, go_sem, t0, t1, t2, t3, t4]) rfl (ansK_no HW3.out (by omega) c)
  · have hne : (m != 0) = true := by simpa using h0
    rw [if_neg h0]
    clear h0 FACTS
    go_enter Try.func17, Try.ntmps17
    go_wp2_with fail
    refine (l2May_any (d := d) key x ((Bx.new w [.slice a1 nB c1, .slice a2 nC c2, .slice a3 nE c3] _).later (later1 _ _) 0 _ rfl) ((Bx.new w [.slice a1 nB c1, .slice a2 nC c2, .slice a3 nE c3] _).later (later1 _ _) 1 _ rfl) ((Bx.new w [.slice a1 nB c1, .slice a2 nC c2, .slice a3 nE c3] _).later (later1 _ _) 2 _ rfl) (H.out.later (later2 _ _ _))).mono ?_
    rw [HM.out]
    rintro e w1 ⟨rfl, hb1⟩
    have HW1 : Hid (Below w.heap.size w w1) := (later2 _ _ _).trans (hb1.mono (by simp; omega))
    have HX1 : Hid (Bx w1 w.heap.size [.slice a1 nB c1, .slice a2 nC c2, .slice a3 nE c3]) := ((Bx.new w [.slice a1 nB c1, .slice a2 nC c2, .slice a3 nE c3] _).later (later1 _ _)).later hb1
    have HR1 : Hid (OwnRow w1 (w.heap.size + 1) zero5.length _) := resRowL _ zero5 _ hb1
    have hzr : w.heap.size + 1 < w1.heap.size := HR1.out.lt
    clear hb1
    go_wp2_with fail
    refine (l2Bad_any _ m).mono ?_
    rintro e w3 ⟨rfl, hb3⟩
    have HW3 : Hid (Below w.heap.size w w3) := HW1.out.trans (hb3.mono HW1.out.size)
    have HR3 := HR1.out.later hb3
    have t0 := HR3.cell (i := 0) (by simp [zero5])
    have t1 := HR3.cell (i := 1) (by simp [zero5])
    have t2 := HR3.cell (i := 2) (by simp [zero5])
    have t3 := HR3.cell (i := 3) (by simp [zero5])
    have t4 := HR3.cell (i := 4) (by simp [zero5])
    have s0 := HR3.frozen 0
    have s1 := HR3.frozen 1
    have s2 := HR3.frozen 2
    have s3 := HR3.frozen 3
    have s4 := HR3.frozen 4
    simp [zero5] at t0 t1 t2 t3 t4
    clear hb3 HR3
    go_wp2
    exact bodyPost_ret (v := .agg #[.int .i64 m, .slice none 0 0, .slice none 0 0, .slice none 0 0, .slice none 0 0]) (by simp [results, Try.results17, go_sem, t0, t1, t2, t3, t4]) rfl (ansK_no HW3.out (by omega) m)
end Go.Proofs.Ytmjdechoookpmaa

namespace Go.Proofs.Ytmjdechoookpmaa
open Go.RowKit
set_option maxRecDepth 100000

theorem small_kern {d : KD} (h : sizeKern d ≤ 1048576) : sizeDisk d.1 ≤ 1048576 := by unfold sizeKern at h; omega
theorem bad_span (c : Int) : spanKRes ((c, [], ([], []), []) : Int × KResD).2 = 0 := rfl
theorem writeSpan (d : KD) (key x : Int) (ws : List Int) : spanKRes (writeR d key x ws).2 ≤ 3 * sizeKern d + 1 + ws.length := by
  unfold writeR
  split
  · split
    · simp only [spanKRes, spanKern, spanDisk, dspan, sizeKern, sizeDisk, dsize, wlens, List.map_append, List.sum_append, List.length_append, List.map_cons, List.map_nil, List.sum_cons, List.sum_nil, List.length_cons, List.length_nil]
      omega
    · rw [bad_span]; omega
  · rw [bad_span]; omega
theorem specWriteU (w : World) (aB : Option Addr) (nB cB : Nat) (aC : Option Addr) (nC cC : Nat) (aE : Option Addr) (nE cE : Nat) (d : KD) (key x : Int) (a : Option Addr) (n c : Nat) (ws : List Int) (h : KernR w (.slice aB nB cB) (.slice aC nC cC) (.slice aE nE cE) d) (hv : Ints w (.slice a n c) ws) (s : sizeKern d ≤ 1048576) (s' : ws.length ≤ 1048576) :
    Calls Try.prog 17 #[.agg #[.slice aB nB cB, .slice aC nC cC, .slice aE nE cE], .int .i64 key, .int .i64 x, .slice a n c] w (AnsKR w (writeR d key x ws)) :=
  specWrite_any l1Copy_said w _ _ _ _ d key x ws h hv (small_blocks (small_kern s)) (small_puts (small_kern s)) s'
theorem implWriteU (w : World) (aB : Option Addr) (nB cB : Nat) (aC : Option Addr) (nC cC : Nat) (aE : Option Addr) (nE cE : Nat) (d : KD) (key x : Int) (a : Option Addr) (n c : Nat) (ws : List Int) (h : KernR w (.slice aB nB cB) (.slice aC nC cC) (.slice aE nE cE) d) (hv : Ints w (.slice a n c) ws) (s : sizeKern d ≤ 1048576) (s' : ws.length ≤ 1048576) :
    Calls Try.prog 20 #[.agg #[.slice aB nB cB, .slice aC nC cC, .slice aE nE cE], .int .i64 key, .int .i64 x, .slice a n c] w (AnsKR w (writeR d key x ws)) :=
  implWrite_any w _ _ _ _ d key x ws h hv (small_blocks (small_kern s)) (small_puts (small_kern s)) s'
end Go.Proofs.Ytmjdechoookpmaa

namespace Go.Proofs.Ytmjdechoookpmaa
open Go.RowKit
set_option maxRecDepth 100000

set_option maxHeartbeats 3200000 in
theorem specFlushK_any (hcp : L1CopySaid) (w : World) (vB vC vE : Value) (d : KD) (key : Int) (h : KernR w vB vC vE d) (hz : ∀ k : Nat, (d.1.1[k]?.getD []).length ≤ 1048576) (hzp : ∀ k : Nat, (d.1.2[k]?.getD (0, [])).2.length ≤ 1048576) :
    Calls Try.prog 28 #[.agg #[vB, vC, vE], .int .i64 key] w (AnsKR w (flushK d key)) := by
  obtain ⟨a1, c1, rfl, _, sB⟩ := h.1.1.open'
  obtain ⟨a2, c2, rfl, _, sP⟩ := h.1.2.open'
  obtain ⟨a3, c3, rfl, _, sE⟩ := h.2.open'
  have H : Hid (KernR w (.slice a1 d.1.1.length c1) (.slice a2 d.1.2.length c2) (.slice a3 d.2.length c3) d) := h
  have HE : Hid (AtE w a3 d.2.length d.2) := sE
  have HRR : Hid (flushK d key = if kernF d = 0 then (if anyKey d.2 key = true then (0, [], (keepBlocks (fun _ => true) d.1.1 d.1.2, []), d.2) else (6, [], ([], []), [])) else (kernF d, [], ([], []), [])) := rfl
  have HCP : Hid (kernF d = 0 → ∀ W : World, Below w.heap.size w W → Calls Try.prog 51 #[.agg #[.slice a1 d.1.1.length c1, .slice a2 d.1.2.length c2, .slice a3 d.2.length c3]] W (AnsKern W d)) := fun h0 W hW => l2Copy_any hcp W _ _ _ d.1.1 d.1.2 d.2 (h.later hW) (kernF_ok h0).1 (kernF_ok h0).2.1 hz hzp
  have HKP : Hid (kernF d = 0 → ∀ W : World, Below w.heap.size w W → Calls Try.prog 63 #[.agg #[.slice a1 d.1.1.length c1, .slice a2 d.1.2.length c2], .slice none 0 0, .bool true] W fun e W' => ∃ aX nX cX, e = .returned (.agg #[.slice aX nX cX, .slice none 0 0]) ∧ Below W.heap.size W W' ∧ IntsSO W' (.slice aX nX cX) (keepBlocks (fun _ => true) d.1.1 d.1.2) (fresh W W')) := fun h0 W hW => by
    have hk := (kernF_ok h0).1
    have := l1Keep_any hcp W a1 a2 none c1 c2 0 0 true d.1.1 d.1.2 [] (faultF_lens hk).1 (faultF_lens hk).2 hz hzp (sB.later hW) (sP.later hW) (faultF_places hk) rfl (fun k hk => absurd hk (Nat.not_lt_zero k))
    refine this.mono ?_
    rintro e W' ⟨aX, cX, rfl, hb, hio⟩
    refine ⟨_, _, _, rfl, hb, ?_⟩
    unfold keepBlocks
    rw [if_pos hk]
    simpa using hio
  have HL8 : Hid (kernF d = 0 → d.2.length ≤ 8) := fun h0 => (kernF_ok h0).2.1
  have HRT : Hid (kernF d = 0 ∧ anyKey d.2 key = true → flushK d key = (0, [], (keepBlocks (fun _ => true) d.1.1 d.1.2, []), d.2)) := fun hh => by rw [HRR.out, if_pos hh.1, if_pos hh.2]
  have HRF : Hid (kernF d = 0 ∧ anyKey d.2 key = false → flushK d key = (6, [], ([], []), [])) := fun hh => by rw [HRR.out, if_pos hh.1, if_neg (by rw [hh.2]; simp)]
  have HRN : Hid (¬ kernF d = 0 → flushK d key = (kernF d, [], ([], []), [])) := fun hh => by rw [HRR.out, if_neg hh]
  clear h hz hzp HRR sE sB sP hcp
  generalize d.1.1.length = nB at *
  generalize d.1.2.length = nC at *
  generalize hlE : d.2.length = nE at *
  have HLE : Hid (d.2.length = nE) := hlE
  clear hlE
  generalize hm : kernF d = m at *
  have HM : Hid (kernF d = m) := hm
  clear hm
  by_cases h0 : m = 0
  · subst h0
    have KRT : Hid (anyKey d.2 key = true → flushK d key = (0, [], (keepBlocks (fun _ => true) d.1.1 d.1.2, []), d.2)) := fun hh => HRT.out ⟨rfl, hh⟩
    have KRF : Hid (anyKey d.2 key = false → flushK d key = (6, [], ([], []), [])) := fun hh => HRF.out ⟨rfl, hh⟩
    clear HRT HRF HRN
    have KCP : Hid _ := HCP.out rfl
    have KKP : Hid _ := HKP.out rfl
    have h8 := HL8.out rfl
    clear HCP HKP HL8
    go_enter Try.func28, Try.ntmps28
    go_wp2_with fail
    refine (l2Fault_any (d := d) (((Bx.new w [.slice a1 nB c1, .slice a2 nC c2, .slice a3 nE c3] _).later (later1 _ _)) 0 _ rfl) (((Bx.new w [.slice a1 nB c1, .slice a2 nC c2, .slice a3 nE c3] _).later (later1 _ _)) 1 _ rfl) (((Bx.new w [.slice a1 nB c1, .slice a2 nC c2, .slice a3 nE c3] _).later (later1 _ _)) 2 _ rfl) (H.out.later (later2 _ _ _))).mono ?_
    rw [HM.out]
    rintro e w1 ⟨rfl, hb1⟩
    have HW1 : Hid (Below w.heap.size w w1) := (later2 _ _ _).trans (hb1.mono (by simp; omega))
    have HX1 : Hid (Bx w1 w.heap.size [.slice a1 nB c1, .slice a2 nC c2, .slice a3 nE c3]) := ((Bx.new w [.slice a1 nB c1, .slice a2 nC c2, .slice a3 nE c3] _).later (later1 _ _)).later hb1
    have HR1 : Hid (OwnRow w1 (w.heap.size + 1) zero5.length (fun i => zero5[i]?.getD (.bool false))) := resRowL _ zero5 _ hb1
    have hzr : w.heap.size + 1 < w1.heap.size := HR1.out.lt
    clear hb1
    go_wp2
    go_loopw [6] (fun i wr => ∃ j : Nat, j ≤ nE ∧ i = .int .i64 j ∧ Below w1.heap.size w1 wr ∧ ∀ i : Nat, i < j → ((extAt d.2 i).2.2 == key) = false) (fun i _ => nE - (intOf i).toNat)
    case atStart => exact ⟨0, Nat.zero_le _, rfl, Below.refl _ _, fun i hi => by omega⟩
    case round =>
      obtain ⟨j, hj, rfl, hbl, hall⟩ := hrel
      have HA : Hid (∀ i : Nat, i < j → ((extAt d.2 i).2.2 == key) = false) := hall
      have HWR : Hid (Below w.heap.size w wr) := HW1.out.trans (hbl.mono HW1.out.size)
      have HBL : Hid (Below w1.heap.size w1 wr) := hbl
      have HXR : Hid (Bx wr w.heap.size [.slice a1 nB c1, .slice a2 nC c2, .slice a3 nE c3]) := HX1.out.later hbl
      have x0 := HXR.out 0 _ rfl
      have x1 := HXR.out 1 _ rfl
      have x2 := HXR.out 2 _ rfl
      have hzr' : w.heap.size + 1 < wr.heap.size := by have := hbl.size; omega
      clear hall hbl
      by_cases hlt : j < nE
      · obtain ⟨b, off, rfl, c0, c1', c2'⟩ := HE.out j hlt
        replace c2' := cell_later HWR.out c2'
        have HX : Hid ((extAt d.2 j).2.2 = (d.2[j]?.getD (0, 0, 0)).2.2) := rfl
        generalize (d.2[j]?.getD (0, 0, 0)).2.2 = z at *
        clear c0 c1'
        cases hh : (z == key)
        · have HH : Hid (((extAt d.2 j).2.2 == key) = false) := by unfold Hid; rw [HX.out]; exact hh
          go_wp2
          go_roundw
          case rel =>
            refine ⟨j + 1, by omega, by go_num, HBL.out, fun i hi => ?_⟩
            by_cases e : i = j
            · subst e; exact HH.out
            · exact HA.out i (by omega)
          case measure => simp [intOf]; omega
        · have HZ : Hid (anyKey d.2 key = true) := anyKey_at (j := j) (by rw [HLE.out]; exact hlt) (by rw [HX.out]; exact hh)
          go_wp2_with fail
          refine (KCP.out _ HWR.out).mono ?_
          rintro e w2 ⟨b1, m1, k1, b2, m2, k2, b3, m3, k3, rfl, hb2, hk2⟩
          have HW2 : Hid (Below w.heap.size w w2) := HWR.out.trans (hb2.mono HWR.out.size)
          have HX2 : Hid (Bx w2 w.heap.size [.slice a1 nB c1, .slice a2 nC c2, .slice (some ⟨b, off, none⟩) nE c3]) := HXR.out.later hb2
          have HR2 : Hid (OwnRow w2 (w.heap.size + 1) zero5.length (fun i => zero5[i]?.getD (.bool false))) := (HR1.out.later HBL.out).later hb2
          obtain ⟨F1, G1, _, hex, hdis, hsub⟩ := hk2
          have HE2 : Hid (ExtsO w2 (.slice b3 m3 k3) d.2 (fun b => wr.heap.size ≤ b ∧ b < w2.heap.size)) := hex.mono fun b hb => hsub b (Or.inr hb)
          have y0 := HX2.out 0 _ rfl
          have y1 := HX2.out 1 _ rfl
          have hz2 : wr.heap.size ≤ w2.heap.size := hb2.size
          have hzz : w.heap.size < w2.heap.size := by omega
          clear hb2 hex hdis hsub x0 x1 x2 c2'
          go_wp2_with fail
          refine (KKP.out _ (HW2.out.trans ((later1 _ _).mono HW2.out.size))).mono ?_
          rintro e w3 ⟨aX, nX, cX, rfl, hb3, hio⟩
          have hb23 : Below w2.heap.size w2 w3 := (later1 _ _).trans (hb3.mono (by simp))
          have HW3 : Hid (Below w.heap.size w w3) := HW2.out.trans (hb23.mono HW2.out.size)
          have HO3 : OwnRow w3 w2.heap.size 3 _ := (OwnRow.newL w2 [.slice b1 m1 k1, .slice b2 m2 k2, .slice b3 m3 k3] 54).later hb3
          have hio' : IntsSO w3 (.slice aX nX cX) (keepBlocks (fun _ => true) d.1.1 d.1.2) (fun b => w2.heap.size < b ∧ b < w3.heap.size) := hio.mono fun b hb => ⟨by have h := hb.1; rw [World.size_alloc] at h; exact h, hb.2⟩
          have HK3 : Hid (KResU w3 (.slice none 0 0) (.slice aX nX cX) (.slice none 0 0) (.slice b3 m3 k3) ([], (keepBlocks (fun _ => true) d.1.1 d.1.2, []), d.2) (fun b => wr.heap.size ≤ b ∧ b < w3.heap.size ∧ b ≠ w2.heap.size)) :=
            KResU.of (F1 := fun _ => False) (F2 := fun b => w2.heap.size < b ∧ b < w3.heap.size) (F3 := fun b => wr.heap.size ≤ b ∧ b < w2.heap.size) (Or.inl ⟨rfl, none, 0, rfl⟩) ⟨fun b => w2.heap.size < b ∧ b < w3.heap.size, fun _ => False, hio', Or.inl ⟨rfl, none, 0, rfl⟩, fun _ _ h => h, fun b h => h.elim id False.elim⟩ (HE2.out.later hb23) (fun _ h => h.elim) (fun _ h => h.elim) (fun b h h' => by omega) (fun b h => by have := hb23.size; rcases h with h | h | h; exact h.elim; all_goals omega)
          have q0 := HO3.cell (i := 0) (by simp)
          have q1 := HO3.cell (i := 1) (by simp)
          have q2 := HO3.cell (i := 2) (by simp)
          have r0 := HO3.frozen 0
          have r1 := HO3.frozen 1
          simp at q0 q1 q2
          have hz3 : w2.heap.size < w3.heap.size := HO3.lt
          have HR3 := HR2.out.later hb23
          have t0 := HR3.cell (i := 0) (by simp [zero5])
          have t1 := HR3.cell (i := 1) (by simp [zero5])
          have t2 := HR3.cell (i := 2) (by simp [zero5])
          have t3 := HR3.cell (i := 3) (by simp [zero5])
          have t4 := HR3.cell (i := 4) (by simp [zero5])
          have s0 := HR3.frozen 0
          have s1 := HR3.frozen 1
          have s2 := HR3.frozen 2
          have s3 := HR3.frozen 3
          have s4 := HR3.frozen 4
          simp [zero5] at t0 t1 t2 t3 t4
          have hn1 : w.heap.size + 1 ≠ w2.heap.size := by omega
          have hn2 : w2.heap.size ≠ w.heap.size + 1 := by omega
          clear hb3 hb23 HO3 hio hio' HR3 y0 y1
          go_wp2
          refine bodyPost_ret (v := .agg #[.int .i64 0, .slice none 0 0, .slice aX nX cX, .slice none 0 0, .slice b3 m3 k3]) (by simp [results, Try.results28, go_sem, t0, t1, t2, t3, t4]) rfl ?_
          rw [KRT.out HZ.out]
          have HK4 := HK3.out.keep (w' := (w3.setCell ⟨w2.heap.size, 0, none⟩ (.slice aX nX cX)).setCell ⟨w2.heap.size, 1, none⟩ (.slice none 0 0)) fun b hb _ => by rw [Below.heap_setCell _ _ _ _ (by simp; omega), Below.heap_setCell _ _ _ _ (by simp; omega)]
          exact ansK_ret ((HW3.out.setCell (by simp; omega) _).setCell (by simp; omega) _) (by omega) HK4 (fun b hb => ⟨by omega, by simp [World.setCell]; omega, by omega⟩)
      · have e : j = nE := by omega
        subst e
        have HZ : Hid (anyKey d.2 key = false) := anyKey_none (fun i hi => HA.out i (by rw [HLE.out] at hi; exact hi))
        go_wp2_with fail
        refine (l2Bad_any _ 6).mono ?_
        rintro e w3 ⟨rfl, hb3⟩
        have HW3 : Hid (Below w.heap.size w w3) := HWR.out.trans (hb3.mono HWR.out.size)
        have HR3 := (HR1.out.later HBL.out).later hb3
        have t0 := HR3.cell (i := 0) (by simp [zero5])
        have t1 := HR3.cell (i := 1) (by simp [zero5])
        have t2 := HR3.cell (i := 2) (by simp [zero5])
        have t3 := HR3.cell (i := 3) (by simp [zero5])
        have t4 := HR3.cell (i := 4) (by simp [zero5])
        have s0 := HR3.frozen 0
        have s1 := HR3.frozen 1
        have s2 := HR3.frozen 2
        have s3 := HR3.frozen 3
        have s4 := HR3.frozen 4
        simp [zero5] at t0 t1 t2 t3 t4
        clear hb3 HR3 x0 x1 x2
        go_wp2
        refine bodyPost_ret (v := .agg #[.int .i64 6, .slice none 0 0, .slice none 0 0, .slice none 0 0, .slice none 0 0]) (by simp [results, Try.results28, go_sem, t0, t1, t2, t3, t4]) rfl ?_
        rw [KRF.out HZ.out]
        exact ansK_no HW3.out (by omega) 6
  · have hne : (m != 0) = true := by simpa using h0
    rw [HRN.out h0]
    clear h0 HCP HKP HL8 HRT HRF HRN
    go_enter Try.func28, Try.ntmps28
    go_wp2_with fail
    refine (l2Fault_any (d := d) (((Bx.new w [.slice a1 nB c1, .slice a2 nC c2, .slice a3 nE c3] _).later (later1 _ _)) 0 _ rfl) (((Bx.new w [.slice a1 nB c1, .slice a2 nC c2, .slice a3 nE c3] _).later (later1 _ _)) 1 _ rfl) (((Bx.new w [.slice a1 nB c1, .slice a2 nC c2, .slice a3 nE c3] _).later (later1 _ _)) 2 _ rfl) (H.out.later (later2 _ _ _))).mono ?_
    rw [HM.out]
    rintro e w1 ⟨rfl, hb1⟩
    have HW1 : Hid (Below w.heap.size w w1) := (later2 _ _ _).trans (hb1.mono (by simp; omega))
    have HX1 : Hid (Bx w1 w.heap.size [.slice a1 nB c1, .slice a2 nC c2, .slice a3 nE c3]) := ((Bx.new w [.slice a1 nB c1, .slice a2 nC c2, .slice a3 nE c3] _).later (later1 _ _)).later hb1
    have HR1 : Hid (OwnRow w1 (w.heap.size + 1) zero5.length (fun i => zero5[i]?.getD (.bool false))) := resRowL _ zero5 _ hb1
    have hzr : w.heap.size + 1 < w1.heap.size := HR1.out.lt
    clear hb1
    go_wp2_with fail
    refine (l2Bad_any _ m).mono ?_
    rintro e w3 ⟨rfl, hb3⟩
    have HW3 : Hid (Below w.heap.size w w3) := HW1.out.trans (hb3.mono HW1.out.size)
    have HR3 := HR1.out.later hb3
    have t0 := HR3.cell (i := 0) (by simp [zero5])
    have t1 := HR3.cell (i := 1) (by simp [zero5])
    have t2 := HR3.cell (i := 2) (by simp [zero5])
    have t3 := HR3.cell (i := 3) (by simp [zero5])
    have t4 := HR3.cell (i := 4) (by simp [zero5])
    have s0 := HR3.frozen 0
    have s1 := HR3.frozen 1
    have s2 := HR3.frozen 2
    have s3 := HR3.frozen 3
    have s4 := HR3.frozen 4
    simp [zero5] at t0 t1 t2 t3 t4
    clear hb3 HR3
    go_wp2
    exact bodyPost_ret (v := .agg #[.int .i64 m, .slice none 0 0, .slice none 0 0, .slice none 0 0, .slice none 0 0]) (by simp [results, Try.results28, go_sem, t0, t1, t2, t3, t4]) rfl (ansK_no HW3.out (by omega) m)
end Go.Proofs.Ytmjdechoookpmaa

namespace Go.Proofs.Ytmjdechoookpmaa
open Go.RowKit
set_option maxRecDepth 100000

theorem flushSpan (d : KD) (key : Int) (s : sizeKern d ≤ 1048576) : spanKRes (flushK d key).2 ≤ 3 * sizeKern d + 70000000 := by
  unfold flushK
  split
  · split
    · have h1 := keepSpan (fun _ => true) d.1 (small_kern s)
      show 0 + (spanDisk (keepBlocks (fun _ => true) d.1.1 d.1.2, []) + 3 * d.2.length) ≤ _
      unfold sizeKern
      omega
    · rw [bad_span]; omega
  · rw [bad_span]; omega
theorem specFlushKU (w : World) (aB : Option Addr) (nB cB : Nat) (aC : Option Addr) (nC cC : Nat) (aE : Option Addr) (nE cE : Nat) (d : KD) (key : Int) (h : KernR w (.slice aB nB cB) (.slice aC nC cC) (.slice aE nE cE) d) (s : sizeKern d ≤ 1048576) :
    Calls Try.prog 28 #[.agg #[.slice aB nB cB, .slice aC nC cC, .slice aE nE cE], .int .i64 key] w (AnsKR w (flushK d key)) :=
  specFlushK_any l1Copy_said w _ _ _ d key h (small_blocks (small_kern s)) (small_puts (small_kern s))
theorem implFlushKU (w : World) (aB : Option Addr) (nB cB : Nat) (aC : Option Addr) (nC cC : Nat) (aE : Option Addr) (nE cE : Nat) (d : KD) (key : Int) (h : KernR w (.slice aB nB cB) (.slice aC nC cC) (.slice aE nE cE) d) (s : sizeKern d ≤ 1048576) :
    Calls Try.prog 29 #[.agg #[.slice aB nB cB, .slice aC nC cC, .slice aE nE cE], .int .i64 key] w (AnsKR w (flushK d key)) :=
  implFlushK_any w _ _ _ d key h (small_blocks (small_kern s)) (small_puts (small_kern s))
end Go.Proofs.Ytmjdechoookpmaa

namespace Go.Proofs.Ytmjdechoookpmaa
open Go.ChangeShapes Go.WideShapes Go.ChangeAt Go.RowKit Go.Joins Go.Deep
set_option maxRecDepth 100000

theorem open_Exts {H : Type} {enc : TypeId × Value → H} {P : Program} {w : World} {base : Nat} {held : Bool} {t e : TypeId} {f0 f1 f2 : Field} {fuel : Nat} {v : Value} {x : DataW H × List MemPlace} (ht : P.underlying t = some (.slice e)) (he : P.underlying e = some (.struct #[f0, f1, f2]))
    (ce : P.cellsOf e = 3) (o0 : f0.offset = 0) (o1 : f1.offset = 1) (o2 : f2.offset = 2) (c0 : P.cellsOf f0.type = 1) (c1 : P.cellsOf f1.type = 1) (c2 : P.cellsOf f2.type = 1) (h0 : P.underlying f0.type = some (.int .i64)) (h1 : P.underlying f1.type = some (.int .i64)) (h2 : P.underlying f2.type = some (.int .i64))
    (h : DataW.trod enc P w base (fun _ => true) held fuel t [v] = some x) : ∃ es, Exts w v es := by
  rcases open_slice ht h with ⟨hcs, _⟩ | ⟨a, len, cap, m, n, D, Pl, hcs, hb, hl, hm, hmm, _, hx⟩
  · simp only [List.cons.injEq, and_true] at hcs
    exact ⟨[], by rw [hcs]; exact Exts.nil w none 0⟩
  · simp only [List.cons.injEq, and_true] at hcs
    simp only [if_true] at hmm
    by_cases hl0 : len = 0
    · subst hl0; exact ⟨[], by rw [hcs]; exact Exts.nil w (some a) cap⟩
    · have each : ∀ i, i < m → ∃ q : E3, w.cell? (a.add (i * 3)) = some (.int .i64 q.1) ∧ w.cell? (a.add (i * 3 + 1)) = some (.int .i64 q.2.1) ∧ w.cell? (a.add (i * 3 + 2)) = some (.int .i64 q.2.2) := by
        intro i hi
        obtain ⟨cs', k1, k2⟩ := hx i hi
        rw [ce] at k1
        obtain ⟨_, hlen, hcell⟩ := World.cells?_some k1
        obtain ⟨xs, k, hk, hxy, _, hxl, hf⟩ := DataW.trod_struct he k2
        match xs, hxl, cs', hlen with
        | [y0, y1, y2], _, [v0, v1, v2], _ =>
          have g0 := hf 0 f0 rfl
          have g1 := hf 1 f1 rfl
          have g2 := hf 2 f2 rfl
          simp [o0, o1, o2, c0, c1, c2] at g0 g1 g2
          have e0 := hcell 0 (by omega)
          have e1 := hcell 1 (by omega)
          have e2 := hcell 2 (by omega)
          rw [add_add] at e0 e1 e2
          obtain ⟨z0, hz0, _⟩ := DataW.trod_int h0 g0
          obtain ⟨z1, hz1, _⟩ := DataW.trod_int h1 g1
          obtain ⟨z2, hz2, _⟩ := DataW.trod_int h2 g2
          simp only [List.cons.injEq, and_true] at hz0 hz1 hz2
          subst hz0 hz1 hz2
          exact ⟨(z0, z1, z2), by simpa using e0, by simpa using e1, by simpa using e2⟩
      obtain ⟨q, hq⟩ := choose_lt each
      have ha := addr_of (by simpa using (hq 0 (by omega)).1)
      refine ⟨(List.range len).map q, some a, cap, ?_, ?_, fun k hk => ?_⟩
      · simp only [List.length_map, List.length_range]; exact hcs
      · simp only [List.length_map, List.length_range]; exact ⟨by omega, by omega⟩
      · simp only [List.length_map, List.length_range] at hk
        obtain ⟨e0, e1, e2⟩ := hq k (by omega)
        rw [ha, add_plain] at e0 e1 e2
        have hg : ((List.range len).map q)[k]?.getD (0, 0, 0) = q k := by simp [hk]
        rw [hg]
        exact ⟨a.block, a.off, by rw [← ha], e0, e1, e2⟩

theorem Try.cellsExt : Try.prog.cellsOf 132 = 3 := by kernel_rfl
theorem Try.cellsExts : Try.prog.cellsOf 48 = 1 := by kernel_rfl
theorem Try.cellsKern : Try.prog.cellsOf 50 = 3 := by kernel_rfl
theorem Try.cellsBs : Try.prog.cellsOf 24 = 1 := by kernel_rfl
theorem Try.cellsPs : Try.prog.cellsOf 45 = 1 := by kernel_rfl
theorem open_KernU {H : Type} {enc : TypeId × Value → H} {W : World} {r : Reach} {b0 : Nat} {v : Value} {d : DataW H} {p : List MemPlace} (hv : Value.okWide Try.prog W r b0 50 v) (h : DataW.Trod enc Try.prog W 0 (fun _ => true) true 50 v d p) :
    ∃ vB vC vE kd, v = .agg #[vB, vC, vE] ∧ KernR W vB vC vE kd := by
  obtain ⟨cs, rfl, hsz⟩ := okWide_struct Try.underlying50 hv
  obtain ⟨c0, c1, c2, rfl⟩ := array3 (hsz.trans Try.cellsKern)
  obtain ⟨fuel, hf⟩ := h
  obtain ⟨y0, y1, n, _, _, h0, h1⟩ := trod_struct2 Try.underlying50 hf
  have g0 : DataW.trod enc Try.prog W 0 (fun _ => true) true n 47 [c0, c1] = some y0 := by simpa [Value.cells, Try.cellsDisk] using h0
  have g1 : DataW.trod enc Try.prog W 0 (fun _ => true) true n 48 [c2] = some y1 := by simpa [Value.cells, Try.cellsExts] using h1
  obtain ⟨z0, z1, k, _, _, k0, k1⟩ := trod_struct2 Try.underlying47 g0
  have l0 : DataW.trod enc Try.prog W 0 (fun _ => true) true k 24 [c0] = some z0 := by simpa [Try.cellsBs] using k0
  have l1 : DataW.trod enc Try.prog W 0 (fun _ => true) true k 45 [c1] = some z1 := by simpa [Try.cellsPs] using k1
  obtain ⟨bs, hbs⟩ := open_IntsS Try.underlying24 Try.underlying36 Try.underlying2 Try.cellsInts Try.cellsInt l0
  obtain ⟨ps, hps⟩ := open_Puts Try.underlying45 Try.underlying144 Try.cellsPut rfl rfl Try.cellsInt Try.cellsInts Try.underlying2 Try.underlying36 Try.underlying2 Try.cellsInt l1
  obtain ⟨es, hes⟩ := open_Exts Try.underlying48 Try.underlying132 Try.cellsExt rfl rfl rfl Try.cellsInt Try.cellsInt Try.cellsInt Try.underlying2 Try.underlying2 Try.underlying2 g1
  exact ⟨c0, c1, c2, ((bs, ps), es), rfl, ⟨hbs, hps⟩, hes⟩
end Go.Proofs.Ytmjdechoookpmaa

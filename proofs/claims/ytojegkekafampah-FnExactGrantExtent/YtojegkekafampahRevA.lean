
/- RevokeExtent, the program's: which extent, and the others. -/
import Derived.Test.YtojegkekafampahWrkC
namespace Go.Proofs.Ytojegkekafampah
open Go.RowKit
set_option maxRecDepth 100000

/-- The extent that begins at x, or a zero one. -/
def fromE (es : List E3) (x : Int) : E3 := (es.find? fun e => e.1 == x).getD (0, 0, 0)
theorem find_first {es : List E3} {f : E3 → Bool} {j : Nat} (h : ∀ i : Nat, i < j → f (extAt es i) = false) (hj : j < es.length) (hf : f (extAt es j) = true) : es.find? f = some (extAt es j) := by
  induction es generalizing j with
  | nil => simp at hj
  | cons a t ih =>
    cases j with
    | zero =>
      have : f a = true := by simpa [extAt] using hf
      simp [extAt, this]
    | succ j =>
      have h0 : f a = false := by simpa [extAt] using h 0 (by omega)
      rw [List.find?_cons, h0]
      have := ih (j := j) (fun i hi => by simpa [extAt] using h (i + 1) (by omega)) (by simpa using hj) (by simpa [extAt] using hf)
      simpa [extAt] using this
theorem find_no {es : List E3} {f : E3 → Bool} (h : ∀ i : Nat, i < es.length → f (extAt es i) = false) : es.find? f = none := by
  rw [List.find?_eq_none]
  intro e he
  obtain ⟨j, hj, rfl⟩ := List.mem_iff_getElem.1 he
  have := h j hj
  simp only [extAt, List.getElem?_eq_getElem hj, Option.getD_some] at this
  simp [this]
theorem fromE_at {es : List E3} {x : Int} {j : Nat} (h : ∀ i : Nat, i < j → ((extAt es i).1 == x) = false) (hj : j < es.length) (hf : ((extAt es j).1 == x) = true) : fromE es x = extAt es j := by
  unfold fromE
  rw [find_first (f := fun e => e.1 == x) h hj hf]
  rfl
theorem fromE_none {es : List E3} {x : Int} (h : ∀ i : Nat, i < es.length → ((extAt es i).1 == x) = false) : fromE es x = (0, 0, 0) := by
  unfold fromE
  rw [find_no (f := fun e => e.1 == x) h]
  rfl

set_option maxHeartbeats 1600000 in
theorem extFrom_walk (w : World) (aE : Option Addr) (nE cE nB : Nat) (es : List E3) (x : Int) (hnE : es.length = nE) (hE : AtE w aE nE es) (h8 : nE ≤ 8) (h60 : nB ≤ 60) (hr : ∀ i, i < nE → rightB (extAt es i) nB = true) :
    Calls Try.prog 54 #[.slice aE nE cE, .int .i64 x] w fun e w' => e = .returned (.agg #[.int .i64 (fromE es x).1, .int .i64 (fromE es x).2.1, .int .i64 (fromE es x).2.2]) ∧ Below w.heap.size w w' := by
  have HN : Hid (es.length = nE) := hnE
  have HE : Hid (AtE w aE nE es) := hE
  have HR : Hid (∀ i, i < nE → rightB (extAt es i) nB = true) := hr
  clear hnE hE hr
  go_enter Try.func54, Try.ntmps54
  go_wp2
  go_loopw [9] (fun i wr => ∃ j : Nat, j ≤ nE ∧ i = .int .i64 j ∧ Below w.heap.size w wr ∧ OwnRow wr w.heap.size 3 (fun i => [Value.int .i64 0, .int .i64 0, .int .i64 0][i]?.getD (.bool false)) ∧ ∀ i : Nat, i < j → ((extAt es i).1 == x) = false) (fun i _ => nE - (intOf i).toNat)
  case atStart => exact ⟨0, Nat.zero_le _, rfl, later1 _ _, OwnRow.newL w [.int .i64 0, .int .i64 0, .int .i64 0] _, fun i hi => by omega⟩
  case round =>
    obtain ⟨j, hj, rfl, hbl, hrow, hall⟩ := hrel
    have HA : Hid (∀ i : Nat, i < j → ((extAt es i).1 == x) = false) := hall
    have HBL : Hid (Below w.heap.size w wr) := hbl
    have HROW : Hid (OwnRow wr w.heap.size 3 (fun i => [Value.int .i64 0, .int .i64 0, .int .i64 0][i]?.getD (.bool false))) := hrow
    have hzw : w.heap.size < wr.heap.size := hrow.lt
    clear hall hbl hrow
    by_cases hlt : j < nE
    · obtain ⟨b, off, rfl, c0, c1, c2⟩ := HE.out j hlt
      replace c0 := cell_later HBL.out c0
      replace c1 := cell_later HBL.out c1
      replace c2 := cell_later HBL.out c2
      have hq := rightB_iff.1 (HR.out j hlt)
      have HX : Hid (extAt es j = ((es[j]?.getD (0, 0, 0)).1, (es[j]?.getD (0, 0, 0)).2.1, (es[j]?.getD (0, 0, 0)).2.2)) := rfl
      rw [HX.out] at hq
      dsimp only at hq
      generalize (es[j]?.getD (0, 0, 0)).1 = p at *
      generalize (es[j]?.getD (0, 0, 0)).2.1 = y at *
      generalize (es[j]?.getD (0, 0, 0)).2.2 = z at *
      have hp0 : 0 ≤ p := by omega
      have hp1 : p ≤ 60 := by omega
      have hy0 : 0 ≤ y := by omega
      have hy1 : y ≤ 60 := by omega
      clear hq
      cases hh : (p == x)
      · have hpx : (p == x) = false := hh
        have HH : Hid (((extAt es j).1 == x) = false) := by unfold Hid; rw [HX.out]; exact hh
        clear hh
        go_wp2
        go_roundw
        case rel =>
          refine ⟨j + 1, by omega, by go_num, HBL.out.trans ((later1 _ _).mono HBL.out.size), HROW.out.later (later1 _ _), fun i hi => ?_⟩
          by_cases e : i = j
          · subst e; exact HH.out
          · exact HA.out i (by omega)
        case measure => simp [intOf]; omega
      · have hpx : (p == x) = true := hh
        have HH : Hid (((extAt es j).1 == x) = true) := by unfold Hid; rw [HX.out]; exact hh
        have HZ : Hid (fromE es x = (p, y, z)) := by unfold Hid; rw [fromE_at HA.out (by rw [HN.out]; exact hlt) HH.out, HX.out]
        clear hh
        have HR2 := HROW.out
        have t0 := HR2.cell (i := 0) (by omega)
        have t1 := HR2.cell (i := 1) (by omega)
        have t2 := HR2.cell (i := 2) (by omega)
        have s0 := HR2.frozen 0
        have s1 := HR2.frozen 1
        have s2 := HR2.frozen 2
        simp at t0 t1 t2
        clear HR2
        go_wp2
        exact bodyPost_ret (v := .agg #[.int .i64 p, .int .i64 y, .int .i64 z]) (by simp [results, Try.results54, go_sem, t0, t1, t2, hzw]) rfl ⟨by rw [HZ.out], by
          have h := (((HBL.out.setCell (p := ⟨w.heap.size, 0, none⟩) (by simp) (.int .i64 p)).setCell (p := ⟨w.heap.size, 1, none⟩) (by simp) (.int .i64 y)).setCell (p := ⟨w.heap.size, 2, none⟩) (by simp) (.int .i64 z))
          exact h.trans ((later1 _ _).mono h.size)⟩
    · have e : j = nE := by omega
      subst e
      have HZ : Hid (fromE es x = (0, 0, 0)) := by unfold Hid; rw [fromE_none (fun i hi => HA.out i (by rw [HN.out] at hi; exact hi))]
      go_wp2_with fail
      refine (nobody_any _).mono ?_
      rintro e w2 ⟨rfl, hb2⟩
      have HB2 : Hid (Below wr.heap.size wr w2) := hb2
      have HR2 := HROW.out.later hb2
      have t0 := HR2.cell (i := 0) (by omega)
      have t1 := HR2.cell (i := 1) (by omega)
      have t2 := HR2.cell (i := 2) (by omega)
      have s0 := HR2.frozen 0
      have s1 := HR2.frozen 1
      have s2 := HR2.frozen 2
      simp at t0 t1 t2
      clear hb2 HR2
      go_wp2
      exact bodyPost_ret (v := .agg #[.int .i64 0, .int .i64 0, .int .i64 0]) (by simp [results, Try.results54, go_sem, t0, t1, t2]) rfl ⟨by rw [HZ.out], (((HBL.out.trans (HB2.out.mono HBL.out.size)).setCell (by simp) _).setCell (by simp) _).setCell (by simp) _⟩


theorem take_snoc3 (es : List E3) {j : Nat} (h : j < es.length) : es.take (j + 1) = es.take j ++ [extAt es j] := by
  rw [List.take_succ_eq_append_getElem h]
  simp [extAt, h]
theorem filter_next (es : List E3) {j : Nat} {e : E3} (f : E3 → Bool) (h : j < es.length) (he : extAt es j = e) : (es.take (j + 1)).filter f = (es.take j).filter f ++ (if f e = true then [e] else []) := by
  rw [take_snoc3 es h, List.filter_append, he]
  cases hfe : f e <;> simp [hfe]
/-- One extent more behind a row: what the program's append comes to (a copy of it lies in a block of its own). -/
theorem append_one (wr : World) (base : Nat) (v : Value) (es : List E3) (p y z : Int) (o : Obj) (h : ERow wr base v es) (hb : base ≤ wr.heap.size) (hn : es.length ≤ 1000000) :
    ∃ v' X, (Builtin.append_ #[34, 34] 34 #[v, .slice (some ⟨wr.heap.size + 1, 0, none⟩) 1 1]).run Try.prog ((wr.alloc o).alloc (.cells #[.int .i64 p, .int .i64 y, .int .i64 z] 70)) = .ok v' X ∧ ERow X base v' (es ++ [(p, y, z)]) ∧ Below base wr X ∧ wr.heap.size + 1 < X.heap.size := by
  have hrow := (h.keep fun b hb => (later1 wr o).block b (h.lt b hb).2)
  have hrow2 : ERow ((wr.alloc o).alloc (.cells #[.int .i64 p, .int .i64 y, .int .i64 z] 70)) base v es := hrow.keep fun b hb => (later1 _ _).block b (hrow.lt b hb).2
  have hbx := Bx.new (wr.alloc o) [.int .i64 p, .int .i64 y, .int .i64 z] 70
  rw [World.size_alloc] at hbx
  obtain ⟨v', X, hr, ho, hB, hk, hg, a', c', rfl⟩ := append_exts ((wr.alloc o).alloc (.cells #[.int .i64 p, .int .i64 y, .int .i64 z] 70)) 34 base v es [(p, y, z)] hrow2 (by simp; omega) (some ⟨wr.heap.size + 1, 0, none⟩) 1 (by simp; omega) (fun k hk => ⟨wr.heap.size + 1, 0, rfl, by
    have : k = 0 := by simp at hk; omega
    subst this
    exact ⟨hbx 0 _ rfl, hbx 1 _ rfl, hbx 2 _ rfl⟩⟩)
  refine ⟨_, X, hr, ho, ((later1 wr o).mono hb).trans ((((later1 _ _).mono (by simp; omega)).trans hB)), ?_⟩
  have := hB.size
  simp at this
  omega

set_option maxHeartbeats 1600000 in
theorem without_walk (w : World) (aE : Option Addr) (nE cE : Nat) (es : List E3) (gx gy gz : Int) (hnE : es.length = nE) (hE : AtE w aE nE es) (h8 : nE ≤ 8) :
    Calls Try.prog 57 #[.slice aE nE cE, .agg #[.int .i64 gx, .int .i64 gy, .int .i64 gz]] w fun e w' => ∃ a n c, e = .returned (.slice a n c) ∧ Below w.heap.size w w' ∧ ExtsO w' (.slice a n c) (es.filter fun e => e != (gx, gy, gz)) (fresh w w') := by
  have HN : Hid (es.length = nE) := hnE
  have HE : Hid (AtE w aE nE es) := hE
  clear hnE hE
  go_enter Try.func57, Try.ntmps57
  go_wp2
  go_loopw [5, 10] (fun f i wr => ∃ (j : Nat) (v : Value), f = v ∧ j ≤ nE ∧ i = .int .i64 j ∧ Below w.heap.size w wr ∧ Bx wr w.heap.size [.int .i64 gx, .int .i64 gy, .int .i64 gz] ∧ ERow wr (w.heap.size + 1) v ((es.take j).filter fun e => e != (gx, gy, gz))) (fun _ i _ => nE - (intOf i).toNat)
  case atStart => exact ⟨0, _, rfl, Nat.zero_le _, rfl, later1 _ _, Bx.new w [.int .i64 gx, .int .i64 gy, .int .i64 gz] _, by simp [ERow, exCells, World.ownsRow]⟩
  case round =>
    obtain ⟨j, v, rfl, hj, rfl, hbl, hbx, hrow⟩ := hrel
    have HBL : Hid (Below w.heap.size w wr) := hbl
    have HBX : Hid (Bx wr w.heap.size [.int .i64 gx, .int .i64 gy, .int .i64 gz]) := hbx
    have hzw : w.heap.size < wr.heap.size := hbx.lt
    have g0 := hbx 0 _ rfl
    have g1 := hbx 1 _ rfl
    have g2 := hbx 2 _ rfl
    have HROW : Hid (ERow wr (w.heap.size + 1) _ ((es.take j).filter fun e => e != (gx, gy, gz))) := hrow
    obtain ⟨aV, cV, rfl⟩ := hrow.shape
    clear hbl hbx hrow
    by_cases hlt : j < nE
    · obtain ⟨b, off, rfl, c0, c1, c2⟩ := HE.out j hlt
      replace c0 := cell_later HBL.out c0
      replace c1 := cell_later HBL.out c1
      replace c2 := cell_later HBL.out c2
      have HX : Hid (extAt es j = ((es[j]?.getD (0, 0, 0)).1, (es[j]?.getD (0, 0, 0)).2.1, (es[j]?.getD (0, 0, 0)).2.2)) := rfl
      generalize (es[j]?.getD (0, 0, 0)).1 = p at *
      generalize (es[j]?.getD (0, 0, 0)).2.1 = y at *
      generalize (es[j]?.getD (0, 0, 0)).2.2 = z at *
      have HF : Hid ((es.take (j + 1)).filter (fun e => e != (gx, gy, gz)) = (es.take j).filter (fun e => e != (gx, gy, gz)) ++ (if ((p, y, z) != (gx, gy, gz)) = true then [(p, y, z)] else [])) := filter_next es (fun e => e != (gx, gy, gz)) (by rw [HN.out]; exact hlt) HX.out
      have hlen : ((es.take j).filter fun e => e != (gx, gy, gz)).length ≤ 1000000 := by
        have h1 : ((es.take j).filter fun e => e != (gx, gy, gz)).length ≤ (es.take j).length := List.length_filter_le _ _
        have h2 := List.length_take_le j es
        omega
      obtain ⟨v', X, hap, hoX, hBX, hsX⟩ := append_one wr (w.heap.size + 1) _ _ p y z (.cells #[.int .i64 p, .int .i64 y, .int .i64 z] 70) HROW.out hzw hlen
      have HOX : Hid (ERow X (w.heap.size + 1) v' ((es.take j).filter (fun e => e != (gx, gy, gz)) ++ [(p, y, z)])) := hoX
      have HBX2 : Hid (Below (w.heap.size + 1) wr X) := hBX
      generalize hL : ((es.take j).filter fun e => e != (gx, gy, gz)).length = L at *
      clear hoX hBX hL hlen
      by_cases heq : p = gx ∧ y = gy ∧ z = gz
      · obtain ⟨rfl, rfl, rfl⟩ := heq
        have HF2 : Hid ((es.take (j + 1)).filter (fun e => e != (p, y, z)) = (es.take j).filter (fun e => e != (p, y, z))) := by unfold Hid; rw [HF.out]; simp
        clear hap HOX HBX2 hsX HF
        go_wp2
        go_roundw
        case rel =>
          refine ⟨j + 1, _, rfl, by omega, by go_num, HBL.out.trans ((later1 _ _).mono HBL.out.size), HBX.out.later (later1 _ _), ?_⟩
          rw [HF2.out]
          exact HROW.out.keep fun b hb => (later1 _ _).block b (HROW.out.lt b hb).2
        case measure => simp [intOf]; omega
      · have HF2 : Hid ((es.take (j + 1)).filter (fun e => e != (gx, gy, gz)) = (es.take j).filter (fun e => e != (gx, gy, gz)) ++ [(p, y, z)]) := by
          unfold Hid
          rw [HF.out, if_pos]
          simp only [bne_iff_ne, ne_eq, Prod.mk.injEq]
          exact heq
        have HBX3 : Hid (Bx X w.heap.size [.int .i64 gx, .int .i64 gy, .int .i64 gz]) := fun i u e => by
          rw [World.cell?_of_block (w := wr) (a := ⟨w.heap.size, i, none⟩) (HBX2.out.block _ (by simp))]
          exact HBX.out i u e
        have HAP : Hid (_ = _) := hap
        clear HF hap
        by_cases hpx : p = gx
        · subst hpx
          by_cases hyy : y = gy
          · subst hyy
            have hzz : ¬ z = gz := fun e => heq ⟨rfl, rfl, e⟩
            clear heq
            go_wp2_with (at_builtin; refine wpList_append_run rfl _ _ 34 rfl _ _ rfl rfl _ _ HAP.out ?_)
            go_roundw
            case rel =>
              refine ⟨j + 1, _, rfl, by omega, by go_num, HBL.out.trans (HBX2.out.mono (by omega)), HBX3.out, ?_⟩
              rw [HF2.out]
              exact HOX.out
            case measure => simp [intOf]; omega
          · clear heq
            go_wp2_with (at_builtin; refine wpList_append_run rfl _ _ 34 rfl _ _ rfl rfl _ _ HAP.out ?_)
            go_roundw
            case rel =>
              refine ⟨j + 1, _, rfl, by omega, by go_num, HBL.out.trans (HBX2.out.mono (by omega)), HBX3.out, ?_⟩
              rw [HF2.out]
              exact HOX.out
            case measure => simp [intOf]; omega
        · clear heq
          go_wp2_with (at_builtin; refine wpList_append_run rfl _ _ 34 rfl _ _ rfl rfl _ _ HAP.out ?_)
          go_roundw
          case rel =>
            refine ⟨j + 1, _, rfl, by omega, by go_num, HBL.out.trans (HBX2.out.mono (by omega)), HBX3.out, ?_⟩
            rw [HF2.out]
            exact HOX.out
          case measure => simp [intOf]; omega
    · have e : j = nE := by omega
      subst e
      have HR2 : Hid (ERow wr (w.heap.size + 1) (.slice aV ((es.take j).filter fun e => e != (gx, gy, gz)).length cV) (es.filter fun e => e != (gx, gy, gz))) := by
        have := HROW.out
        rw [List.take_of_length_le (by rw [HN.out]; exact Nat.le_refl _)] at this
        unfold Hid
        rw [List.take_of_length_le (by rw [HN.out]; exact Nat.le_refl _)]
        exact this
      go_wp2
      go_ret
      exact ⟨_, _, _, rfl, HBL.out, HR2.out.exts.mono fun b hb => ⟨by omega, hb.2.2⟩⟩
end Go.Proofs.Ytojegkekafampah

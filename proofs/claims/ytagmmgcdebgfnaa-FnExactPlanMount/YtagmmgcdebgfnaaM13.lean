/- Phases of steps: the program's loops; slices.Concat of steps. Phases of steps: rows of words; the steps that bring a journal home. Answers that are puts: held against one another, marked, held. Answers that are a code, a truth and puts, in the one form; ScanJournal in it. PlanMount: the program; answers that are steps. From the reading of an argument to the lists that it holds. No program is named here. -/
import Derived.Test.YtagmmgcdebgfnaaM12
import Derived.Test.YtagmmgcdebgfnaaM03
import Derived.Test.YtagmmgcdebgfnaaM02
import Derived.Test.YtagmmgcdebgfnaaM00
import Derived.ProofKit
import Derived.Deep.Slices
import Derived.Deep.SlicePairs
import Derived.Lib.SmallJoins
namespace Go.Proofs.Ytagmmgcdebgfnaa
open Go.RowKit
set_option maxRecDepth 100000

def endS : List SD := [(true, 0, [])]
set_option maxHeartbeats 3200000 in
theorem phaseP_any (w : World) (a : Option Addr) (c : Nat) (ps : List (Int × List Int)) (h : Puts w (.slice a ps.length c) ps) (hn : ps.length ≤ 1000) (hz : ∀ i : Nat, (ps[i]?.getD (0, [])).2.length ≤ 1048576) :
    Calls Try.prog 100 #[.slice a ps.length c, .func (.func 101) #[] #[]] w fun e w' => ∃ a' c' u G, e = .returned (.slice a' (ps.length + 1) c') ∧ Below w.heap.size w w' ∧ GRow StpP w' w.heap.size 27 3 (.slice a' (ps.length + 1) c') (ps.length + 1) (fun i => (putsS ps ++ endS)[i]?.getD sd0) u G := by
  obtain ⟨_, _, e1, _, hA⟩ := h.open'
  simp only [Value.slice.injEq] at e1
  obtain ⟨rfl, -, rfl⟩ := e1
  have HA : Hid (AtP w a ps.length ps) := hA
  have HG : Hid (∀ i, i < ps.length → (putsS ps ++ endS)[i]?.getD sd0 = (false, (ps[i]?.getD (0, [])).1, (ps[i]?.getD (0, [])).2)) := fun i hi => by rw [two_getD, if_pos (by rw [putsS_len]; exact hi), putsS_get ps hi]
  have HE : Hid ((putsS ps ++ endS)[ps.length]?.getD sd0 = (true, 0, [])) := by unfold Hid; rw [two_getD, putsS_len, if_neg (by omega), Nat.sub_self]; rfl
  have HZ : Hid (∀ i : Nat, (ps[i]?.getD (0, [])).2.length ≤ 1048576) := hz
  clear h hA hz
  generalize putsS ps ++ endS = XS at *
  generalize ps.length = n at *
  go_enter Try.func100, Try.ntmps100
  go_wp2
  go_loopw [5, 10] (fun s i wr => ∃ (j : Nat) (u : Nat → List Value) (G : Nat → Nat → Prop), j ≤ n ∧ i = .int .i64 j ∧ Below w.heap.size w wr ∧ GRow StpP wr w.heap.size 27 3 s j (fun k => XS[k]?.getD sd0) u G) (fun _ i _ => n - (intOf i).toNat)
  case atStart => exact ⟨0, _, _, Nat.zero_le _, rfl, Below.refl _ _, GRow.nil w _ _ _ _⟩
  case round =>
    obtain ⟨j, u, G, hj, rfl, hbl, hrow⟩ := hrel
    obtain ⟨aQ, cQ, rfl⟩ := hrow.shape
    have HBL : Hid (Below w.heap.size w wr) := hbl
    have HRX : Hid (GRow StpP wr w.heap.size 27 3 (.slice aQ j cQ) j (fun k => XS[k]?.getD sd0) u G) := hrow
    clear hrow
    by_cases hlt : j < n
    · have HGJ : Hid (XS[j]?.getD sd0 = (false, (ps[j]?.getD (0, [])).1, (ps[j]?.getD (0, [])).2)) := HG.out j hlt
      obtain ⟨b, o, ua, uc, rfl, k0, k1, k2⟩ := HA.out j hlt
      replace k0 := cell_later hbl k0
      replace k1 := cell_later hbl k1
      have hbz := lt_of_cell k0
      have HCP : Hid (∀ W, Below wr.heap.size wr W → Calls Try.prog 101 #[.int .i64 (j : Int), .agg #[.int .i64 (ps[j]?.getD (0, [])).1, .slice ua (ps[j]?.getD (0, [])).2.length uc]] W _) := fun W hW => putStep_any W (j : Int) _ _ _ uc _ (k2.later (hbl.trans (hW.mono hbl.size))) (HZ.out j)
      clear hbl k2 HG HZ HE
      generalize (ps[j]?.getD (0, [])).1 = x at *
      generalize (ps[j]?.getD (0, [])).2 = ws at *
      generalize ws.length = lw at *
      go_wp2_with fail
      refine (HCP.out _ (later1 _ _)).mono ?_
      rintro e w1 ⟨av, cv, rfl, hb1, ho⟩
      have hb1' : Below wr.heap.size wr w1 := (later1 _ _).trans (hb1.mono (by simp))
      obtain ⟨_, _, ev, _⟩ := ho.reads.shape
      simp only [Value.slice.injEq] at ev
      obtain ⟨-, hm, -⟩ := ev
      obtain ⟨g, cap, X, u', G', hr, hbx, _, hgx, -⟩ := append_stpG wr w1 w.heap.size j _ _ u G HRX.out HBL.out.size (by omega) hb1' false x av lw cv ws HGJ.out _ (fun c hc => ⟨by have := hc.1; simp at this; omega, hc.2⟩) hm ho w1.heap.size rfl
      have HR : Hid (_ = _) := hr
      have HBX : Hid (Below w.heap.size w X) := (HBL.out.trans hbx)
      have HGX : Hid (GRow StpP X w.heap.size 27 3 _ (j + 1) (fun k => XS[k]?.getD sd0) u' G') := hgx
      clear hr hbx hgx hb1 hb1' ho HRX HGJ HCP hm k0 k1
      go_wp2_with (at_builtin; refine wpList_append_run rfl _ _ 36 rfl _ _ rfl rfl _ _ HR.out ?_)
      go_roundw
      case rel => exact ⟨j + 1, _, _, by omega, by go_num, HBX.out, HGX.out⟩
      case measure => simp [intOf]; omega
    · have e : j = n := by omega
      subst e
      have HEJ : Hid (XS[j]?.getD sd0 = (true, 0, [])) := HE.out
      obtain ⟨g, cap, X, u', G', hr, hbx, _, hgx, -⟩ := append_stpG wr wr w.heap.size j _ _ u G HRX.out HBL.out.size (by omega) (Below.refl _ _) true 0 none 0 0 [] HEJ.out (fun _ => False) (fun c hc => hc.elim) rfl (Or.inl ⟨rfl, none, 0, rfl⟩) wr.heap.size rfl
      have HR : Hid (_ = _) := hr
      have HBX : Hid (Below w.heap.size w X) := (HBL.out.trans hbx)
      have HGX : Hid (GRow StpP X w.heap.size 27 3 _ (j + 1) (fun k => XS[k]?.getD sd0) u' G') := hgx
      clear hr hbx hgx HA HG HE HRX HEJ hbl
      go_wp2_with (at_builtin; refine wpList_append_run rfl _ _ 36 rfl _ _ rfl rfl _ _ HR.out ?_)
      go_ret
      exact ⟨_, _, _, _, rfl, HBX.out, HGX.out⟩
section
variable {P : Program} {w : World}
theorem wpList_appendM_run {ops : Array Oper} {rest : List Oper} {o : Oper} {a : Act} {Q : Exit → Act → World → Prop} (hgd : o.guard = none) (s x : Operand) (t t' : TypeId)
    (ho : o.op = .call { callee := .builtin .append, args := #[s, x], argTypes := #[t, t'] }) (v y : Value) (hs : a.eval s = v) (hx : a.eval x = y) (v' : Value) (w' : World)
    (hr : (Builtin.append_ #[t, t'] o.type #[v, y]).run P w = .ok v' w') (h : wpList P ops Q rest (a.put o.dst v') w') : wpList P ops Q (o :: rest) a w := by
  refine wpList_plain hgd fun K hK => ?_
  unfold Oper.wp execOp
  simp only [ho, resolve, invoke, builtin, Sem.run_bind, Sem.run_pure, Result.andThen_ok, List.map_toArray, List.map_cons, List.map_nil, hs, hx, hr]
  exact hK _ _ h
end
theorem append_makeS (w : World) (m : Nat) (hm : 0 < m) (hs : m ≤ 1000) :
    ∃ cap X, (Builtin.append_ #[36, 3] 36 #[.slice none 0 0, .int .i64 (m : Int)]).run Try.prog w = .ok (.slice (some ⟨w.heap.size, 0, none⟩) m cap) X ∧
      Below w.heap.size w X ∧ X.ownsRow w.heap.size 27 3 (.slice (some ⟨w.heap.size, 0, none⟩) 0 cap) 0 [] := by
  obtain ⟨i, hi, hz, hsz, hby⟩ := Try.infoStp'
  have hcap := grownCap_ge w m 0 27
  have hcm := grownCap_le_maxLen w m 0 27 (by unfold maxLen; omega)
  have h63 : ¬ (9223372036854775807 < ((m : Nat) : Int)) := by omega
  have h48 : ¬ (281474976710656 < Builtin.nextslicecap m 0 * i.bytes) := by
    have := growslice_fits (need := m) (old := 0) (bytes := i.bytes) (by omega) (by rw [hby]; omega)
    omega
  rw [hby] at h48
  have hpos : ¬ m = 0 := by omega
  have hpos3 : ¬ m * 3 = 0 := by omega
  have hw : IntKind.i64.wrap (m : Int) = m := by rw [IntKind.wrap_i64]; omega
  have hneg : ¬ ((m : Int) < 0) := by omega
  have hmb : ¬ (281474976710656 < (m : Int) * 40) := by omega
  have hfo := run_firstCells_none (P := Try.prog) (w := w.drew) 3 0 0 0
  refine ⟨grownCap w m 0 27, w.drew.alloc (.cells (Builtin.zeroCells (Value.agg #[.bool false, .int .i64 0, .slice none 0 0]).cells m ++ Builtin.zeroCells (Value.agg #[.bool false, .int .i64 0, .slice none 0 0]).cells (grownCap w m 0 27 - m)) 27), ?_, ?_, ?_⟩
  · simp [Builtin.append_, run_underlying Try.underlying36, run_underlying Try.underlying3, sizeOf, typeInfo, zeroValue, hi, hz, hsz, hby, asInt, asIntOf, hw, hneg, hmb, hpos, hpos3, h63, h48, Question.forced, hfo, newRow, grownCap]
    try rfl
  · exact (Below.refl _ _).drew.trans (by simpa using later1 w.drew _)
  · refine ⟨rfl, .inr ⟨w.heap.size, _, _, rfl, Nat.le_refl _, by simpa using Go.Deep.blk_alloc_new w.drew _, Nat.zero_le _, hcm, ?_, rfl⟩⟩
    rw [Array.size_append, size_zeroCells, size_zeroCells]
    have e : (Value.agg #[.bool false, .int .i64 0, .slice none 0 0]).cells.size = 3 := rfl
    rw [e]
    omega
theorem slice_cap0 (W : World) (b m cap : Nat) : (Instr.slice 36 (.slice (some ⟨b, 0, none⟩) m cap) none (some (.int .i64 0)) none).run Try.prog W = .ok (.slice (some ⟨b, 0, none⟩) 0 cap) W := by
  obtain ⟨i, hi, _⟩ := Try.infoStp'
  simp [Instr.slice, Instr.sliceBounds, Instr.sliceBound, asIntOf, run_underlying Try.underlying36, sizeOf, typeInfo, hi]
  exact fun _ => by simp [Addr.add]
set_option maxHeartbeats 1600000 in
theorem growS_any (w : World) (m : Nat) (hm : 0 < m) (hs : m ≤ 1000) :
    Calls Try.prog 108 #[.slice none 0 0, .int .i64 (m : Int)] w fun e w' => ∃ cap, e = .returned (.slice (some ⟨w.heap.size, 0, none⟩) 0 cap) ∧ Below w.heap.size w w' ∧ w'.ownsRow w.heap.size 27 3 (.slice (some ⟨w.heap.size, 0, none⟩) 0 cap) 0 [] := by
  obtain ⟨cap, X, hr, hb, ho⟩ := append_makeS w m hm hs
  have HR : Hid (_ = _) := hr
  have HB : Hid (Below w.heap.size w X) := hb
  have HO : Hid (X.ownsRow w.heap.size 27 3 (.slice (some ⟨w.heap.size, 0, none⟩) 0 cap) 0 []) := ho
  have hsl := slice_cap0 X w.heap.size m cap
  clear hr hb ho
  go_enter Try.func108, Try.ntmps108
  go_wp2_with (at_builtin; refine wpList_appendM_run rfl _ _ 36 3 rfl _ _ rfl rfl _ _ HR.out ?_)
  go_ret
  exact ⟨_, rfl, HB.out, HO.out⟩
set_option maxHeartbeats 3200000 in
/-- Two rows of steps, one behind the other. -/
theorem concatS_any (w : World) (bb base n1 n2 : Nat) (v1 v2 : Value) (x1 x2 : Nat → SD) (u1 u2 : Nat → List Value) (G1 G2 : Nat → Nat → Prop) (h1 : GRow StpP w base 27 3 v1 n1 x1 u1 G1) (h2 : GRow StpP w base 27 3 v2 n2 x2 u2 G2) (hb : base ≤ w.heap.size) (hn1 : 0 < n1) (hn2 : 0 < n2) (hn : n1 + n2 ≤ 100) (hd : ∀ i j c, i < n1 → j < n2 → G1 i c → ¬ G2 j c) (c0 : w.cell? ⟨bb, 0, none⟩ = some v1) (c1 : w.cell? ⟨bb, 1, none⟩ = some v2) :
    Calls Try.prog 99 #[.slice (some ⟨bb, 0, none⟩) 2 2] w fun e w' => ∃ a c u G, e = .returned (.slice a (n1 + n2) c) ∧ Below w.heap.size w w' ∧ GRow StpP w' base 27 3 (.slice a (n1 + n2) c) (n1 + n2) (fun i => if i < n1 then x1 i else x2 (i - n1)) u G := by
  obtain ⟨b1, cp1, rfl, _, _, hm1, _⟩ := h1.cells (by decide) hn1
  obtain ⟨b2, cp2, rfl, _, _, hm2, _⟩ := h2.cells (by decide) hn2
  have H1 : Hid (GRow StpP w base 27 3 (.slice (some ⟨b1, 0, none⟩) n1 cp1) n1 x1 u1 G1) := h1
  have H2 : Hid (GRow StpP w base 27 3 (.slice (some ⟨b2, 0, none⟩) n2 cp2) n2 x2 u2 G2) := h2
  have HGR : Hid (Calls Try.prog 108 #[.slice none 0 0, .int .i64 ((n1 + n2 : Nat) : Int)] w _) := growS_any w (n1 + n2) (by omega) (by omega)
  have HD : Hid (∀ i j c, i < n1 → j < n2 → G1 i c → ¬ G2 j c) := hd
  clear h1 h2 hd
  unfold maxLen at hm1 hm2
  have hbb := lt_of_cell c0
  go_enter Try.func99, Try.ntmps99
  go_wp2
  go_loopw [3, 11] (fun s i wr => wr = w ∧ ((i = .int .i64 0 ∧ s = .int .i64 0) ∨ (i = .int .i64 1 ∧ s = .int .i64 (n1 : Int)) ∨ (i = .int .i64 2 ∧ s = .int .i64 ((n1 + n2 : Nat) : Int)))) (fun _ i _ => 2 - (intOf i).toNat)
  case atStart => exact ⟨rfl, Or.inl ⟨rfl, rfl⟩⟩
  case round =>
    obtain ⟨hw, hc⟩ := hrel
    subst wr
    rcases hc with ⟨rfl, rfl⟩ | ⟨rfl, rfl⟩ | ⟨rfl, rfl⟩
    · go_wp2
      go_roundw
      case rel => exact ⟨trivial, Or.inr (Or.inl ⟨rfl, by go_num⟩)⟩
      case measure => simp [intOf]
    · go_wp2
      go_roundw
      case rel => exact ⟨trivial, Or.inr (Or.inr ⟨rfl, by go_num⟩)⟩
      case measure => simp [intOf]
    · go_wp2_with fail
      refine HGR.out.mono ?_
      rintro e w3 ⟨cap0, rfl, hb3, ho3⟩
      have hs3 := hb3.size
      have hg0 : GRow StpP w3 base 27 3 (.slice (some ⟨w.heap.size, 0, none⟩) 0 cap0) 0 x1 (fun _ => []) (fun _ _ => False) := ⟨ownsRow_le ho3 hb, fun i hi => by omega, fun i _ hi => by omega, fun i _ hi => by omega, fun i _ _ hi => by omega, fun i hi => by omega⟩
      have hlt3 := (ho3.lt w.heap.size rfl).2
      have ho0 : ∀ b, b < w.heap.size → (Value.slice (some ⟨w.heap.size, 0, none⟩) 0 cap0).ownBlock ≠ some b := fun b hb' e => by simp [Value.ownBlock] at e; omega
      obtain ⟨g1, cap1, X1, u1', G1', r1, r2, r3, r4, r5⟩ := append_stpsG w3 base 0 n1 _ _ x1 x1 (fun _ => []) u1 (fun _ _ => False) G1 hg0 (H1.out.later StpP.steady hb3) (by omega) hn1 (by omega) (fun j c hj hc => ho0 c (H1.out.lo j c hj hc).2) (fun i j c hi => by omega)
      rw [Nat.zero_add] at r1 r3 r5
      have hBX1 : Below w.heap.size w X1 := hb3.trans (r2 w.heap.size hs3 fun g hg => by simp [Value.ownBlock] at hg; omega)
      have hg1 : ∀ b, b < w.heap.size → g1 ≠ b := fun b hb' => (r4 b (by omega) (ho0 b hb')).2
      have hg1' : w.heap.size ≤ g1 := by
        by_cases e : g1 < w.heap.size
        · exact absurd rfl (hg1 g1 e)
        · omega
      obtain ⟨g2, cap2, X2, u2', G2', q1, q2, q3, -, -⟩ := append_stpsG X1 base n1 n2 (.slice (some ⟨g1, 0, none⟩) n1 cap1) _ _ x2 u1' u2 G1' G2 r3 (H2.out.later StpP.steady hBX1) (Nat.le_trans hb hBX1.size) hn2 (by omega) (fun j c hj hc e => by simp [Value.ownBlock] at e; exact hg1 c (H2.out.lo j c hj hc).2 e) (fun i j c hi hj h1 h2 => by
        have h1' := (r5 i c hi).1 h1
        rw [if_neg (by omega), Nat.sub_zero] at h1'
        exact HD.out i j c hi hj h1' h2)
      have HBX : Hid (Below w.heap.size w X2) := hBX1.trans (q2 w.heap.size hBX1.size fun g hg => by simp [Value.ownBlock] at hg; omega)
      have HQ1 : Hid (_ = _) := r1
      have HQ2 : Hid (_ = _) := q1
      have HY : Hid (GRow StpP X2 base 27 3 (.slice (some ⟨g2, 0, none⟩) (n1 + n2) cap2) (n1 + n2) (fun i => if i < n1 then x1 i else x2 (i - n1)) u2' G2') := q3.congr fun i hi => by
        by_cases e : i < n1
        · rw [if_pos e, if_pos e, if_neg (by omega), Nat.sub_zero]
        · rw [if_neg e, if_neg e]
      have d0 := cell_later hb3 c0
      have d1 := cell_later hBX1 c1
      have hbb3 : bb < w3.heap.size := by omega
      have hbbX : bb < X1.heap.size := by have := hBX1.size; omega
      clear r1 r2 r3 r4 r5 q1 q2 q3 hBX1 hg1 hg1' hg0 ho0 hlt3 ho3 hb3 hs3 H1 H2 HD HGR c0 c1 hb
      go_wp2
      go_loopw [6, 27] (fun s i wr => (i = .int .i64 0 ∧ s = .slice (some ⟨w.heap.size, 0, none⟩) 0 cap0 ∧ wr = w3) ∨ (i = .int .i64 1 ∧ s = .slice (some ⟨g1, 0, none⟩) n1 cap1 ∧ wr = X1) ∨ (i = .int .i64 2 ∧ s = .slice (some ⟨g2, 0, none⟩) (n1 + n2) cap2 ∧ wr = X2)) (fun _ i _ => 2 - (intOf i).toNat)
      case atStart => exact Or.inl ⟨rfl, rfl, rfl⟩
      case round =>
        rcases hrel with ⟨rfl, rfl, hw⟩ | ⟨rfl, rfl, hw⟩ | ⟨rfl, rfl, hw⟩
        · subst wr
          go_wp2_with (at_builtin; refine wpList_append_run rfl _ _ 36 rfl _ _ rfl rfl _ _ HQ1.out ?_)
          go_roundw
          case rel => exact Or.inr (Or.inl ⟨rfl, rfl, trivial⟩)
          case measure => simp [intOf]
        · subst wr
          go_wp2_with (at_builtin; refine wpList_append_run rfl _ _ 36 rfl _ _ rfl rfl _ _ HQ2.out ?_)
          go_roundw
          case rel => exact Or.inr (Or.inr ⟨rfl, rfl, trivial⟩)
          case measure => simp [intOf]
        · subst wr
          go_wp2
          go_ret
          exact ⟨_, _, _, _, rfl, HBX.out, HY.out⟩
end Go.Proofs.Ytagmmgcdebgfnaa

namespace Go.Proofs.Ytagmmgcdebgfnaa
open Go.RowKit
set_option maxRecDepth 100000

def rowsS (first : Int) (wss : List (List Int)) : List SD := (List.range wss.length).map fun i : Nat => (false, first + (i : Int), wss[i]?.getD [])
theorem rowsS_len (first : Int) (wss : List (List Int)) : (rowsS first wss).length = wss.length := by simp [rowsS]
theorem rowsS_get (first : Int) (wss : List (List Int)) {i : Nat} (h : i < wss.length) : (rowsS first wss)[i]?.getD sd0 = (false, first + (i : Int), wss[i]?.getD []) := by
  unfold rowsS; rw [List.getElem?_map, List.getElem?_range h]; rfl
set_option maxHeartbeats 3200000 in
theorem phaseI_any (w : World) (base bS n c kb : Nat) (first : Int) (vs : Nat → Value) (wss : List (List Int)) (S : Nat → Nat → Prop) (hk : w.cell? ⟨kb, 0, none⟩ = some (.int .i64 first)) (hf : 0 ≤ first ∧ first ≤ 100) (hn : wss.length = n) (hn' : n ≤ 100) (hc : ∀ k, k < n → w.cell? ⟨bS, k, none⟩ = some (vs k)) (hI : ∀ k, k < n → IntsO w (vs k) (wss[k]?.getD []) (S k)) (hS : ∀ k c, k < n → S k c → base ≤ c ∧ c < w.heap.size) (hSS : ∀ i j c, i < n → j < n → i ≠ j → S i c → ¬ S j c) (hb : base ≤ w.heap.size) :
    Calls Try.prog 102 #[.slice (some ⟨bS, 0, none⟩) n c, .func (.func 109) #[] #[.pointer (some ⟨kb, 0, none⟩)]] w fun e w' => ∃ a' c' u G, e = .returned (.slice a' (n + 1) c') ∧ Below w.heap.size w w' ∧ GRow StpP w' base 27 3 (.slice a' (n + 1) c') (n + 1) (fun i => (rowsS first wss ++ endS)[i]?.getD sd0) u G ∧ (∀ i c, i < n + 1 → G i c → ∃ k, k < n ∧ S k c) := by
  have HG : Hid (∀ i, i < n → (rowsS first wss ++ endS)[i]?.getD sd0 = (false, first + (i : Int), wss[i]?.getD [])) := fun i hi => by rw [two_getD, if_pos (by rw [rowsS_len]; omega), rowsS_get _ _ (by omega)]
  have HE : Hid ((rowsS first wss ++ endS)[n]?.getD sd0 = (true, 0, [])) := by unfold Hid; rw [two_getD, rowsS_len, if_neg (by omega), hn, Nat.sub_self]; rfl
  have HC : Hid (∀ k, k < n → w.cell? ⟨bS, k, none⟩ = some (vs k)) := hc
  have HI : Hid (∀ k, k < n → IntsO w (vs k) (wss[k]?.getD []) (S k)) := hI
  have HS : Hid (∀ k c, k < n → S k c → base ≤ c ∧ c < w.heap.size) := hS
  have HSS : Hid (∀ i j c, i < n → j < n → i ≠ j → S i c → ¬ S j c) := hSS
  have HB : Hid (base ≤ w.heap.size) := hb
  obtain ⟨hf0, hf1⟩ := hf
  clear hc hI hS hSS hb hn
  generalize rowsS first wss ++ endS = XS at *
  go_enter Try.func102, Try.ntmps102
  go_wp2
  go_loopw [5, 10] (fun s i wr => ∃ (j : Nat) (u : Nat → List Value) (G : Nat → Nat → Prop), j ≤ n ∧ i = .int .i64 j ∧ Below w.heap.size w wr ∧ GRow (StpT fun _ => True) wr base 27 3 s j (fun k => XS[k]?.getD sd0) u G ∧ (∀ i c, i < j → G i c → S i c) ∧ (∀ g, s.ownBlock = some g → w.heap.size ≤ g)) (fun _ i _ => n - (intOf i).toNat)
  case atStart => exact ⟨0, _, _, Nat.zero_le _, rfl, Below.refl _ _, GRow.nil w _ _ _ _, fun i _ hi => by omega, fun g hg => by simp [Value.ownBlock] at hg⟩
  case round =>
    obtain ⟨j, u, G, hj, rfl, hbl, hrow, hgs, hown⟩ := hrel
    obtain ⟨aQ, cQ, rfl⟩ := hrow.shape
    have HBL : Hid (Below w.heap.size w wr) := hbl
    have HRX : Hid (GRow (StpT fun _ => True) wr base 27 3 (.slice aQ j cQ) j (fun k => XS[k]?.getD sd0) u G) := hrow
    have HGS : Hid (∀ i c, i < j → G i c → S i c) := hgs
    have HOW : Hid (∀ g, (Value.slice aQ j cQ).ownBlock = some g → w.heap.size ≤ g) := hown
    clear hrow hgs hown
    by_cases hlt : j < n
    · have HGJ : Hid (XS[j]?.getD sd0 = (false, first + (j : Int), wss[j]?.getD [])) := HG.out j hlt
      have k0 := cell_later hbl (HC.out j hlt)
      have hbz := lt_of_cell k0
      have HIJ : Hid (IntsO wr (vs j) (wss[j]?.getD []) (S j)) := (HI.out j hlt).later hbl
      obtain ⟨av, cv, ev, _⟩ := HIJ.out.reads.shape
      rw [ev] at k0 HIJ
      have HCP : Hid (Calls Try.prog 109 #[.int .i64 (j : Int), .slice av (wss[j]?.getD []).length cv, .pointer (some ⟨kb, 0, none⟩)] wr _) := rowsIn_any wr kb first (j : Int) av _ cv (cell_later hbl hk) (by omega) (by omega)
      clear hbl HG HE ev
      generalize wss[j]?.getD [] = ws at *
      have HLW : Hid (ws.length = ws.length) := rfl
      generalize hlw : ws.length = lw at *
      have HLN : Hid (lw = ws.length) := hlw.symm
      clear hlw HLW
      go_wp2_with fail
      refine HCP.out.mono ?_
      rintro e w1 ⟨rfl, hb1⟩
      have hbw1 : Below w.heap.size w w1 := HBL.out.trans (hb1.mono HBL.out.size)
      obtain ⟨g, cap, X, u', G', hr, hbx, hgx, hkp, hgg⟩ := append_stpO (fun _ => True) w1 base j (.slice aQ j cQ) _ u G (HRX.out.later (StpT.steady _) hb1) (Nat.le_trans HB.out hbw1.size) (by omega) false (first + (j : Int)) av lw cv ws HGJ.out (S j) (fun c hc => ⟨(HS.out j c hlt hc).1, Nat.lt_of_lt_of_le (HS.out j c hlt hc).2 hbw1.size⟩) (fun _ _ => trivial) (fun c hc e => by have := HOW.out c e; have := (HS.out j c hlt hc).2; omega) (fun i c hi h1 h2 => HSS.out i j c (by omega) hlt (by omega) (HGS.out i c hi h1) h2) HLN.out (HIJ.out.later hb1) w1.heap.size rfl
      have HR : Hid (_ = _) := hr
      have HBX : Hid (Below w.heap.size w X) := hbw1.trans (hbx w.heap.size hbw1.size HOW.out)
      have HGX : Hid (GRow (StpT fun _ => True) X base 27 3 (.slice (some ⟨g, 0, none⟩) (j + 1) cap) (j + 1) (fun k => XS[k]?.getD sd0) u' G') := hgx
      have HG2 : Hid (∀ i c, i < j + 1 → G' i c → S i c) := fun i c hi h1 => by
        have h2 := (hgg i c hi).1 h1
        by_cases e : i < j
        · rw [if_pos e] at h2; exact HGS.out i c e h2
        · rw [if_neg e] at h2; rw [show i = j by omega]; exact h2
      have HO2 : Hid (∀ b, (Value.slice (some ⟨g, 0, none⟩) (j + 1) cap).ownBlock = some b → w.heap.size ≤ b) := fun b hb => by
        simp [Value.ownBlock] at hb
        subst hb
        by_cases e : g < w.heap.size
        · exact absurd rfl (hkp g (Nat.lt_of_lt_of_le e hbw1.size) (fun h => by have := HOW.out g h; omega)).2
        · omega
      clear hr hbx hgx hkp hgg hb1 hbw1 HRX HGJ HCP HIJ HLN HGS HOW k0
      go_wp2_with (at_builtin; refine wpList_append_run rfl _ _ 36 rfl _ _ rfl rfl _ _ HR.out ?_)
      go_roundw
      case rel => exact ⟨j + 1, _, _, by omega, by go_num, HBX.out, HGX.out, HG2.out, HO2.out⟩
      case measure => simp [intOf]; omega
    · have e : j = n := by omega
      subst e
      have HEJ : Hid (XS[j]?.getD sd0 = (true, 0, [])) := HE.out
      obtain ⟨g, cap, X, u', G', hr, hbx, hgx, _, hgg⟩ := append_stpO (fun _ => True) wr base j (.slice aQ j cQ) _ u G HRX.out (Nat.le_trans HB.out HBL.out.size) (by omega) true 0 none 0 0 [] HEJ.out (fun _ => False) (fun c hc => hc.elim) (fun _ _ => trivial) (fun c hc => hc.elim) (fun _ _ _ _ h => h.elim) rfl (Or.inl ⟨rfl, none, 0, rfl⟩) wr.heap.size rfl
      have HR : Hid (_ = _) := hr
      have HBX : Hid (Below w.heap.size w X) := HBL.out.trans (hbx w.heap.size HBL.out.size HOW.out)
      have HGX : Hid (GRow StpP X base 27 3 (.slice (some ⟨g, 0, none⟩) (j + 1) cap) (j + 1) (fun k => XS[k]?.getD sd0) u' G') := hgx.imp fun i _ h => h.1
      have HG2 : Hid (∀ i c, i < j + 1 → G' i c → ∃ k, k < j ∧ S k c) := fun i c hi h1 => by
        have h2 := (hgg i c hi).1 h1
        by_cases e : i < j
        · rw [if_pos e] at h2; exact ⟨i, e, HGS.out i c e h2⟩
        · rw [if_neg e] at h2; exact h2.elim
      clear hr hbx hgx hgg HC HI HS HSS HG HE HRX HEJ hbl HGS HOW
      go_wp2_with (at_builtin; refine wpList_append_run rfl _ _ 36 rfl _ _ rfl rfl _ _ HR.out ?_)
      go_ret
      exact ⟨_, _, _, _, rfl, HBX.out, HGX.out, HG2.out⟩
set_option maxHeartbeats 3200000 in
theorem homeSteps_any (w : World) (q : Int) (hq0 : 0 ≤ q) (hq1 : q ≤ 60000) (a : Option Addr) (n c : Nat) (ps : List (Int × List Int)) (h : Puts w (.slice a n c) ps) (hn : ps.length ≤ 10) (hz : ∀ i : Nat, (ps[i]?.getD (0, [])).2.length ≤ 1048576) :
    Calls Try.prog 77 #[.int .i64 q, .slice a n c] w fun e w' => ∃ a' n' c', e = .returned (.slice a' n' c') ∧ Below w.heap.size w w' ∧ StpsO w' (.slice a' n' c') (homeS q ps) (fresh w w') := by
  obtain ⟨_, _, e1, _⟩ := h.open'
  simp only [Value.slice.injEq] at e1
  obtain ⟨rfl, rfl, rfl⟩ := e1
  have HSW : Hid (Calls Try.prog 98 #[.int .i64 (q + 1)] w _) := superW_any w (q + 1)
  have HPP : Hid (∀ W, Below w.heap.size w W → Calls Try.prog 100 #[.slice a ps.length c, .func (.func 101) #[] #[]] W _) := fun W hW => phaseP_any W a c ps (h.later hW) (by omega) hz
  have HHS : Hid (homeS q ps = (putsS ps ++ endS) ++ (rowsS 0 [[7, q + 1]] ++ endS)) := by
    unfold Hid homeS
    rw [List.append_assoc]
    rfl
  have HL1 : Hid ((putsS ps ++ endS).length = ps.length + 1) := by unfold Hid; rw [List.length_append, putsS_len]; rfl
  have HL2 : Hid ((rowsS 0 [[7, q + 1]] ++ endS).length = 2) := rfl
  clear h hz
  generalize homeS q ps = HS at *
  generalize putsS ps ++ endS = XS at *
  generalize ps.length = n at *
  go_enter Try.func77, Try.ntmps77
  go_wp2_with fail
  refine HSW.out.mono ?_
  rintro e w1 ⟨rfl, hb1, hi1, hs1⟩
  have hla := later1 w1 (.cells #[.slice (some ⟨w.heap.size, 0, none⟩) 2 2] 22)
  have HB1 : Hid (Below w.heap.size w (w1.alloc (.cells #[.slice (some ⟨w.heap.size, 0, none⟩) 2 2] 22))) := hb1.trans (hla.mono hb1.size)
  have HI1 : Hid (IntsO (w1.alloc (.cells #[.slice (some ⟨w.heap.size, 0, none⟩) 2 2] 22)) (.slice (some ⟨w.heap.size, 0, none⟩) 2 2) [7, q + 1] (fun c => c = w.heap.size)) := hi1.later hla
  have HC1 : Hid ((w1.alloc (.cells #[.slice (some ⟨w.heap.size, 0, none⟩) 2 2] 22)).cell? ⟨w1.heap.size, 0, none⟩ = some (.slice (some ⟨w.heap.size, 0, none⟩) 2 2)) := by unfold Hid; rw [new_cell]; rfl
  rw [hs1] at HC1
  have HS1 : Hid ((w1.alloc (.cells #[.slice (some ⟨w.heap.size, 0, none⟩) 2 2] 22)).heap.size = w.heap.size + 2) := by unfold Hid; rw [World.size_alloc, hs1]
  clear hb1 hi1 hla HSW
  go_wp2_with fail
  refine (HPP.out _ HB1.out).mono ?_
  rintro e w2 ⟨a1, c1, u1, G1, rfl, hb2, hg1⟩
  have HG1 : Hid (GRow StpP w2 (w.heap.size + 2) 27 3 (.slice a1 (n + 1) c1) (n + 1) (fun i => XS[i]?.getD sd0) u1 G1) := by rw [← HS1.out]; exact hg1
  have HB2 : Hid (Below w.heap.size w w2) := HB1.out.trans (hb2.mono HB1.out.size)
  have HI2 : Hid (IntsO w2 (.slice (some ⟨w.heap.size, 0, none⟩) 2 2) [7, q + 1] (fun c => c = w.heap.size)) := HI1.out.later hb2
  have HC2 : Hid (w2.cell? ⟨w.heap.size + 1, 0, none⟩ = some (.slice (some ⟨w.heap.size, 0, none⟩) 2 2)) := cell_later hb2 HC1.out
  have HS2 : Hid (w.heap.size + 2 ≤ w2.heap.size) := by have := hb2.size; rw [HS1.out] at this; exact this
  clear hb2 hg1 HPP HB1 HI1 HC1 HS1 hs1
  go_wp2_with fail
  refine (rowsFrom_any _ 0).mono ?_
  rintro e w3 ⟨rfl, hw3⟩
  subst w3
  have hla := later1 w2 (.cells #[.int .i64 0] 2)
  have HB3 : Hid (Below w.heap.size w (w2.alloc (.cells #[.int .i64 0] 2))) := HB2.out.trans (hla.mono HB2.out.size)
  have hcell : ∀ k, k < 1 → (w2.alloc (.cells #[.int .i64 0] 2)).cell? ⟨w.heap.size + 1, k, none⟩ = some (.slice (some ⟨w.heap.size, 0, none⟩) 2 2) := fun k hk => by
    obtain rfl : k = 0 := by omega
    exact cell_later hla HC2.out
  have hint : ∀ k, k < 1 → IntsO (w2.alloc (.cells #[.int .i64 0] 2)) (.slice (some ⟨w.heap.size, 0, none⟩) 2 2) ([[7, q + 1]][k]?.getD []) (fun c => c = w.heap.size) := fun k hk => by
    obtain rfl : k = 0 := by omega
    exact HI2.out.later hla
  have HPI : Hid (Calls Try.prog 102 #[.slice (some ⟨w.heap.size + 1, 0, none⟩) 1 1, .func (.func 109) #[] #[.pointer (some ⟨w2.heap.size, 0, none⟩)]] (w2.alloc (.cells #[.int .i64 0] 2)) _) := phaseI_any (w2.alloc (.cells #[.int .i64 0] 2)) w.heap.size (w.heap.size + 1) 1 1 w2.heap.size 0 (fun _ => .slice (some ⟨w.heap.size, 0, none⟩) 2 2) [[7, q + 1]] (fun _ c => c = w.heap.size) (by rw [new_cell]; rfl) (by omega) rfl (by omega) hcell hint (fun k c hk hc => by have := HS2.out; have := hla.size; omega) (fun i j c hi hj e => by omega) HB3.out.size
  clear hcell hint
  have HG1' : Hid (GRow StpP (w2.alloc (.cells #[.int .i64 0] 2)) (w.heap.size + 2) 27 3 (.slice a1 (n + 1) c1) (n + 1) (fun i => XS[i]?.getD sd0) u1 G1) := HG1.out.later StpP.steady hla
  clear hla HG1 HI2 HC2 HB2 HS2
  go_wp2_with fail
  refine HPI.out.mono ?_
  rintro e w4 ⟨a2, c2, u2, G2, rfl, hb4, hg2, hs2⟩
  have HB4 : Hid (Below w.heap.size w w4) := HB3.out.trans (hb4.mono HB3.out.size)
  have hla := later1 w4 (.cells #[.slice a1 (n + 1) c1, .slice a2 (1 + 1) c2] 36)
  have HB5 : Hid (Below w.heap.size w (w4.alloc (.cells #[.slice a1 (n + 1) c1, .slice a2 (1 + 1) c2] 36))) := HB4.out.trans (hla.mono HB4.out.size)
  have HCC : Hid (Calls Try.prog 99 #[.slice (some ⟨w4.heap.size, 0, none⟩) 2 2] (w4.alloc (.cells #[.slice a1 (n + 1) c1, .slice a2 (1 + 1) c2] 36)) _) := concatS_any (w4.alloc (.cells #[.slice a1 (n + 1) c1, .slice a2 (1 + 1) c2] 36)) w4.heap.size w.heap.size (n + 1) (1 + 1) _ _ (fun i => XS[i]?.getD sd0) (fun i => (rowsS 0 [[7, q + 1]] ++ endS)[i]?.getD sd0) u1 u2 G1 G2 (((HG1'.out.later StpP.steady hb4).later StpP.steady hla).low (by omega)) (hg2.later StpP.steady hla) HB5.out.size (by omega) (by omega) (by omega) (fun i j c hi hj h1 h2 => by
    obtain ⟨_, _, e⟩ := hs2 j c hj h2
    have := (HG1'.out.lo i c hi h1).1
    omega) (by rw [new_cell]; rfl) (by rw [new_cell]; rfl)
  clear hla hb4 hg2 hs2 HPI HG1' HB3
  go_wp2_with fail
  refine HCC.out.mono ?_
  rintro e w5 ⟨a5, c5, u5, G5, rfl, hb5, hg5⟩
  have HB6 : Hid (Below w.heap.size w w5) := HB5.out.trans (hb5.mono HB5.out.size)
  have HY : Hid (StpsO w5 (.slice a5 (n + 1 + (1 + 1)) c5) HS (fresh w w5)) := by
    rw [HHS.out]
    exact (hg5.congr (x' := fun i => (XS ++ (rowsS 0 [[7, q + 1]] ++ endS))[i]?.getD sd0) fun i _ => by rw [two_getD XS _ i, HL1.out]).stps (by rw [List.length_append, HL1.out, HL2.out]) _ fun c h1 h2 => ⟨h1, h2⟩
  clear hb5 hg5 HCC
  go_wp2
  go_ret
  exact ⟨_, _, _, rfl, HB6.out, HY.out⟩
end Go.Proofs.Ytagmmgcdebgfnaa

namespace Go.Proofs.Ytagmmgcdebgfnaa
open Go.RowKit
set_option maxRecDepth 100000

def spanPs (ps : List (Int × List Int)) : Nat := ps.length + (wlens ps).sum
def mkPs (k : Int) (ps : List (Int × List Int)) : List (Int × List Int) := marksP k (wlens ps)
theorem eqPutsResultU (w : World) (c : Int) (va vb : Value) (zs : List (Int × List Int)) (h1 : Puts w va zs) (h2 : Puts w vb zs) :
    Calls Try.prog 40 #[.agg #[.int .i64 c, va], .agg #[.int .i64 c, vb]] w fun e w' => e = .returned (.bool true) ∧ Below w.heap.size w w' := by
  have H1 : Hid (Puts w va zs) := h1
  have H2 : Hid (Puts w vb zs) := h2
  clear h1 h2
  go_enter Try.func40, Try.ntmps40
  go_wp2_with fail
  refine (eqPuts_any (H1.out.later (later2 _ _ _)) (H2.out.later (later2 _ _ _))).mono ?_
  rw [beq_self_eq_true]
  rintro e w' ⟨rfl, hb⟩
  have HB : Hid (Below w.heap.size w w') := (later2 _ _ _).trans (hb.mono (by simp; omega))
  clear hb
  go_wp2
  go_ret
  exact ⟨rfl, HB.out⟩
theorem markPutsResultU (w : World) (c : Int) (v : Value) (zs : List (Int × List Int)) (F : Nat → Prop) (k : Int) (h : PutsO w v zs F) (hk0 : 0 ≤ k) (hk : k + (spanPs zs : Nat) ≤ 4611686018427387904) :
    Calls Try.prog 43 #[.agg #[.int .i64 c, v], .int .i64 k] w fun e w' => e = .returned (.int .i64 (k + (spanPs zs : Nat))) ∧ PutsO w' v (mkPs k zs) F ∧ Chg F w w' := by
  have H : Hid (PutsO w v zs F) := h
  clear h
  have HS : Hid (k + (zs.length : Int) + ((wlens zs).sum : Nat) = k + (spanPs zs : Nat)) := by unfold Hid spanPs; omega
  have hk' : k + (zs.length : Int) + ((wlens zs).sum : Nat) ≤ 4611686018427387904 := by rw [HS.out]; exact hk
  go_enter Try.func43, Try.ntmps43
  go_wp2_with fail
  refine (markPuts_any k (H.out.keep fun b _ hlt => (later1 _ _).block b hlt) hk0 hk').mono ?_
  rw [HS.out]
  rintro e w1 ⟨rfl, hm, hc⟩
  have HM : Hid (PutsO w1 v (mkPs k zs) F) := hm
  have HC : Hid (Chg F w w1) := (Chg.of_below (later1 _ _)).trans hc
  clear hm hc hk'
  go_wp2
  go_ret
  exact ⟨rfl, HM.out, HC.out⟩
theorem heldPutsResultU (w : World) (c : Int) (v : Value) (zs : List (Int × List Int)) (F : Nat → Prop) (k : Int) (h : PutsO w v (mkPs k zs) F) (hk0 : 0 ≤ k) (hk : k + (spanPs zs : Nat) ≤ 4611686018427387904) :
    Calls Try.prog 44 #[.agg #[.int .i64 c, v], .int .i64 k] w fun e w' => e = .returned (.int .i64 (k + (spanPs zs : Nat))) ∧ Below w.heap.size w w' := by
  have H : Hid (Puts w v (marksP k (wlens zs))) := h.puts
  clear h
  have HL : (wlens zs).length = zs.length := by simp [wlens]
  have HS : Hid (k + ((wlens zs).length : Int) + ((wlens zs).sum : Nat) = k + (spanPs zs : Nat)) := by unfold Hid spanPs; omega
  have hk' : k + ((wlens zs).length : Int) + ((wlens zs).sum : Nat) ≤ 4611686018427387904 := by rw [HS.out]; exact hk
  have l2 : ¬ (k + (spanPs zs : Nat) < 0) := by omega
  clear HL
  go_enter Try.func44, Try.ntmps44
  go_wp2_with fail
  refine (heldPuts_any k (wlens zs) (H.out.later (later1 _ _)) hk0 hk').mono ?_
  rw [HS.out]
  rintro e w1 ⟨rfl, rfl⟩
  clear hk'
  go_wp2
  go_ret
  exact ⟨rfl, later1 _ _⟩
end Go.Proofs.Ytagmmgcdebgfnaa

namespace Go.Proofs.Ytagmmgcdebgfnaa
open Go.RowKit
set_option maxRecDepth 100000

abbrev TxD := Bool × List (Int × List Int)
def TxR (w : World) (v1 v2 : Value) (d : TxD) : Prop := v1 = .bool d.1 ∧ Puts w v2 d.2
def TxU (w : World) (v1 v2 : Value) (d : TxD) (F : Nat → Prop) : Prop := v1 = .bool d.1 ∧ PutsO w v2 d.2 F
theorem TxR.later {w w' : World} {v1 v2 : Value} {d : TxD} (h : TxR w v1 v2 d) (hb : Below w.heap.size w w') : TxR w' v1 v2 d := ⟨h.1, h.2.later hb⟩
theorem TxU.reads {w : World} {v1 v2 : Value} {d : TxD} {F : Nat → Prop} (h : TxU w v1 v2 d F) : TxR w v1 v2 d := ⟨h.1, h.2.puts⟩
theorem TxU.keep {w w' : World} {v1 v2 : Value} {d : TxD} {F : Nat → Prop} (h : TxU w v1 v2 d F) (e : ∀ b, F b → b < w.heap.size → w'.heap[b]? = w.heap[b]?) : TxU w' v1 v2 d F := ⟨h.1, h.2.keep e⟩
theorem TxU.later {w w' : World} {v1 v2 : Value} {d : TxD} {F : Nat → Prop} (h : TxU w v1 v2 d F) (hb : Below w.heap.size w w') : TxU w' v1 v2 d F := h.keep fun b _ hlt => hb.block b hlt
theorem TxU.mono {w : World} {v1 v2 : Value} {d : TxD} {F G : Nat → Prop} (h : TxU w v1 v2 d F) (e : ∀ b, F b → G b) : TxU w v1 v2 d G := ⟨h.1, h.2.mono e⟩
theorem TxU.chg {w w' : World} {v1 v2 : Value} {d : TxD} {F G : Nat → Prop} (h : TxU w v1 v2 d F) (hc : Chg G w w') (hd : ∀ b, F b → ¬ G b) : TxU w' v1 v2 d F := h.keep fun b hb hlt => hc.block b hlt (hd b hb)
def spanTx (d : TxD) : Nat := spanPs d.2
def mkTx (k : Int) (d : TxD) : TxD := (d.1, mkPs k d.2)
def AnsTX (w : World) (r : Int × TxD) (e : Ending) (w' : World) : Prop := ∃ z a n c, e = .returned (.agg #[.int .i64 r.1, .bool z, .slice a n c]) ∧ Below w.heap.size w w' ∧ TxU w' (.bool z) (.slice a n c) r.2 (fresh w w')

theorem eqTxResultU (w : World) (c : Int) (v1 v2 v1' v2' : Value) (d : TxD) (h : TxR w v1 v2 d) (h' : TxR w v1' v2' d) :
    Calls Try.prog 27 #[.agg #[.int .i64 c, v1, v2], .agg #[.int .i64 c, v1', v2']] w fun e w' => e = .returned (.bool true) ∧ Below w.heap.size w w' := by
  obtain ⟨rfl, h2⟩ := h
  obtain ⟨rfl, h2'⟩ := h'
  have H1 : Hid (Puts w v2 d.2) := h2
  have H2 : Hid (Puts w v2' d.2) := h2'
  clear h2 h2'
  generalize d.1 = z at *
  have e1 : (z != z) = false := by simp
  go_enter Try.func27, Try.ntmps27
  go_wp2_with fail
  refine (eqPuts_any (H1.out.later (later2 _ _ _)) (H2.out.later (later2 _ _ _))).mono ?_
  rw [beq_self_eq_true]
  rintro e w' ⟨rfl, hb⟩
  have HB : Hid (Below w.heap.size w w') := (later2 _ _ _).trans (hb.mono (by simp; omega))
  clear hb
  go_wp2
  go_ret
  exact ⟨rfl, HB.out⟩
theorem markTxResultU (w : World) (c : Int) (v1 v2 : Value) (d : TxD) (F : Nat → Prop) (k : Int) (h : TxU w v1 v2 d F) (hk0 : 0 ≤ k) (hk : k + (spanTx d : Nat) ≤ 4611686018427387904) :
    Calls Try.prog 29 #[.agg #[.int .i64 c, v1, v2], .int .i64 k] w fun e w' => e = .returned (.int .i64 (k + (spanTx d : Nat))) ∧ TxU w' v1 v2 (mkTx k d) F ∧ Chg F w w' := by
  obtain ⟨rfl, h⟩ := h
  have H : Hid (PutsO w v2 d.2 F) := h
  clear h
  have HS : Hid (k + (d.2.length : Int) + ((wlens d.2).sum : Nat) = k + (spanTx d : Nat)) := by unfold Hid spanTx spanPs; omega
  have hk' : k + (d.2.length : Int) + ((wlens d.2).sum : Nat) ≤ 4611686018427387904 := by rw [HS.out]; exact hk
  go_enter Try.func29, Try.ntmps29
  go_wp2_with fail
  refine (markPuts_any k (H.out.keep fun b _ hlt => (later1 _ _).block b hlt) hk0 hk').mono ?_
  rw [HS.out]
  rintro e w1 ⟨rfl, hm, hc⟩
  have HM : Hid (PutsO w1 v2 (mkPs k d.2) F) := hm
  have HC : Hid (Chg F w w1) := (Chg.of_below (later1 _ _)).trans hc
  clear hm hc hk'
  go_wp2
  go_ret
  exact ⟨rfl, ⟨rfl, HM.out⟩, HC.out⟩
theorem heldTxResultU (w : World) (c : Int) (v1 v2 : Value) (d : TxD) (F : Nat → Prop) (k : Int) (h : TxU w v1 v2 (mkTx k d) F) (hk0 : 0 ≤ k) (hk : k + (spanTx d : Nat) ≤ 4611686018427387904) :
    Calls Try.prog 30 #[.agg #[.int .i64 c, v1, v2], .int .i64 k] w fun e w' => e = .returned (.int .i64 (k + (spanTx d : Nat))) ∧ Below w.heap.size w w' := by
  obtain ⟨rfl, h⟩ := h
  have H : Hid (Puts w v2 (marksP k (wlens d.2))) := h.puts
  clear h
  have HL : (wlens d.2).length = d.2.length := by simp [wlens]
  have HS : Hid (k + ((wlens d.2).length : Int) + ((wlens d.2).sum : Nat) = k + (spanTx d : Nat)) := by unfold Hid spanTx spanPs; omega
  have hk' : k + ((wlens d.2).length : Int) + ((wlens d.2).sum : Nat) ≤ 4611686018427387904 := by rw [HS.out]; exact hk
  have l2 : ¬ (k + (spanTx d : Nat) < 0) := by omega
  clear HL
  go_enter Try.func30, Try.ntmps30
  go_wp2_with fail
  refine (heldPuts_any k (wlens d.2) (H.out.later (later1 _ _)) hk0 hk').mono ?_
  rw [HS.out]
  rintro e w1 ⟨rfl, rfl⟩
  clear hk'
  go_wp2
  go_ret
  exact ⟨rfl, later1 _ _⟩
theorem sum_most (l : List Nat) (B : Nat) (h : ∀ x ∈ l, x ≤ B) : l.sum ≤ l.length * B := by
  induction l with
  | nil => simp
  | cons a l ih =>
    have h1 := h a (by simp)
    have h2 := ih fun x hx => h x (by simp [hx])
    rw [List.sum_cons, List.length_cons, Nat.succ_mul]
    omega
theorem scanR_span (d : DK) (hs : sizeDisk d ≤ 1048576) : spanTx (scanR d).2 ≤ 20000000 := by
  unfold scanR
  by_cases h0 : (seqR d).1 = 0
  · rw [if_pos h0]
    by_cases hf : foundB (fun k => atF d.1 d.2 k) (seqR d).2 = true
    · rw [if_pos hf]
      have hl := putsJ_len fun k : Nat => atF d.1 d.2 k
      have h10 : ((atF d.1 d.2 1).drop 3).length ≤ 10 := by
        unfold foundB at hf
        rw [Bool.and_eq_true] at hf
        exact (headB_len hf.1).2.2
      have hw : (wlens (putsJ fun k : Nat => atF d.1 d.2 k)).length ≤ 10 := by unfold wlens; rw [List.length_map, hl]; exact h10
      have hm := sum_most (wlens (putsJ fun k : Nat => atF d.1 d.2 k)) 1048576 fun x hx => by
        unfold wlens putsJ at hx
        simp only [List.mem_map, List.mem_range] at hx
        obtain ⟨_, ⟨i, _, rfl⟩, rfl⟩ := hx
        exact atF_len (dsize_blk hs) (dsize_put hs)
      have hm2 := Nat.mul_le_mul_right 1048576 hw
      show (putsJ fun k : Nat => atF d.1 d.2 k).length + (wlens (putsJ fun k : Nat => atF d.1 d.2 k)).sum ≤ 20000000
      rw [hl]
      have h10' : ((atF d.1 d.2 ((1 : Nat) : Int)).drop 3).length ≤ 10 := h10
      omega
    · rw [if_neg hf]; simp [spanTx, spanPs, wlens]
  · rw [if_neg h0]; simp [spanTx, spanPs, wlens]
theorem implScanV (w : World) (a1 : Option Addr) (n1 c1 : Nat) (a2 : Option Addr) (n2 c2 : Nat) (d : DK) (h : DiskR w (.slice a1 n1 c1) (.slice a2 n2 c2) d) (hs : sizeDisk d ≤ 1048576) :
    Calls Try.prog 26 #[.agg #[.slice a1 n1 c1, .slice a2 n2 c2]] w (AnsTX w (scanR d)) :=
  (implScanU w _ _ _ _ _ _ d h hs).mono fun _ _ ⟨a, n, c, h1, h2, h3⟩ => ⟨_, a, n, c, h1, h2, rfl, h3⟩
theorem specScanV (w : World) (a1 : Option Addr) (n1 c1 : Nat) (a2 : Option Addr) (n2 c2 : Nat) (d : DK) (h : DiskR w (.slice a1 n1 c1) (.slice a2 n2 c2) d) (hs : sizeDisk d ≤ 1048576) :
    Calls Try.prog 25 #[.agg #[.slice a1 n1 c1, .slice a2 n2 c2]] w (AnsTX w (scanR d)) :=
  (specScanU w _ _ _ _ _ _ d h hs).mono fun _ _ ⟨a, n, c, h1, h2, h3⟩ => ⟨_, a, n, c, h1, h2, rfl, h3⟩
end Go.Proofs.Ytagmmgcdebgfnaa

namespace Go.Proofs.Ytagmmgcdebgfnaa
open Go.RowKit
set_option maxRecDepth 100000

theorem eqStepsResultU (w : World) (c : Int) (va vb : Value) (zs : List SD) (h1 : Stps w va zs) (h2 : Stps w vb zs) :
    Calls Try.prog 33 #[.agg #[.int .i64 c, va], .agg #[.int .i64 c, vb]] w fun e w' => e = .returned (.bool true) ∧ Below w.heap.size w w' := by
  have H1 : Hid (Stps w va zs) := h1
  have H2 : Hid (Stps w vb zs) := h2
  clear h1 h2
  go_enter Try.func33, Try.ntmps33
  go_wp2_with fail
  refine (eqStpsU (H1.out.later (later2 _ _ _)) (H2.out.later (later2 _ _ _))).mono ?_
  rintro e w' ⟨rfl, hb⟩
  have HB : Hid (Below w.heap.size w w') := (later2 _ _ _).trans (hb.mono (by simp; omega))
  clear hb
  go_wp2
  go_ret
  exact ⟨rfl, HB.out⟩
theorem markStepsResultU (w : World) (c : Int) (v : Value) (zs : List SD) (F : Nat → Prop) (k : Int) (h : StpsO w v zs F) (hk0 : 0 ≤ k) (hk : k + (spanStps zs : Nat) ≤ 4611686018427387904) :
    Calls Try.prog 34 #[.agg #[.int .i64 c, v], .int .i64 k] w fun e w' => e = .returned (.int .i64 (k + (spanStps zs : Nat))) ∧ StpsO w' v (mkStps k zs) F ∧ Chg F w w' := by
  have H : Hid (StpsO w v zs F) := h
  clear h
  go_enter Try.func34, Try.ntmps34
  go_wp2_with fail
  refine (markStpsU k (H.out.keep fun b _ hlt => (later1 _ _).block b hlt) hk0 hk).mono ?_
  rintro e w1 ⟨rfl, hm, hc⟩
  have HM : Hid (StpsO w1 v (mkStps k zs) F) := hm
  have HC : Hid (Chg F w w1) := (Chg.of_below (later1 _ _)).trans hc
  clear hm hc
  go_wp2
  go_ret
  exact ⟨rfl, HM.out, HC.out⟩
theorem heldStepsResultU (w : World) (c : Int) (v : Value) (zs : List SD) (F : Nat → Prop) (k : Int) (h : StpsO w v (mkStps k zs) F) (hk0 : 0 ≤ k) (hk : k + (spanStps zs : Nat) ≤ 4611686018427387904) :
    Calls Try.prog 35 #[.agg #[.int .i64 c, v], .int .i64 k] w fun e w' => e = .returned (.int .i64 (k + (spanStps zs : Nat))) ∧ Below w.heap.size w w' := by
  have H : Hid (StpsO w v (mkStps k zs) F) := h
  clear h
  have l2 : ¬ (k + (spanStps zs : Nat) < 0) := by omega
  go_enter Try.func35, Try.ntmps35
  go_wp2_with fail
  refine (heldStpsU k zs (H.out.later (later1 _ _)) hk0 hk).mono ?_
  rintro e w1 ⟨rfl, rfl⟩
  go_wp2
  go_ret
  exact ⟨rfl, later1 _ _⟩
theorem scanR_ten (d : DK) : (scanR d).2.2.length ≤ 10 := by
  by_cases h0 : (seqR d).1 = 0
  · cases hf : foundB (fun k => atF d.1 d.2 k) (seqR d).2 with
    | true => rw [scanR_yes h0 hf]; exact putsJ_ten hf
    | false => rw [scanR_no h0 hf]; simp
  · rw [scanR_bad h0]; simp
theorem scanR_small {d : DK} (hs : sizeDisk d ≤ 1048576) (i : Nat) : ((scanR d).2.2[i]?.getD (0, [])).2.length ≤ 1048576 := by
  by_cases h0 : (seqR d).1 = 0
  · cases hf : foundB (fun k => atF d.1 d.2 k) (seqR d).2 with
    | true => rw [scanR_yes h0 hf]; exact putsJ_small hs i
    | false => rw [scanR_no h0 hf]; simp
  · rw [scanR_bad h0]; simp
theorem stp_sum_le (ds : List SD) (B : Nat) (h : ∀ i : Nat, (ds[i]?.getD sd0).2.2.length ≤ B) : spanStps ds ≤ ds.length * (2 + B) := by
  have h1 := sum_most (stp ds) (2 + B) fun x hx => by
    obtain ⟨i, hi, rfl⟩ := List.getElem_of_mem hx
    have e := stp_get ds i (by rw [stp_length] at hi; exact hi)
    rw [List.getElem?_eq_getElem hi] at e
    have := h i
    unfold spanSte at e
    simp only [Option.getD_some] at e
    omega
  rw [stp_length] at h1
  exact h1
theorem planR_span (d : DK) (hs : sizeDisk d ≤ 1048576) : spanStps (planR d).2 ≤ 20000000 := by
  have h10 := scanR_ten d
  have hsm := scanR_small hs
  unfold planR
  by_cases h0 : (scanR d).1 = 0
  · rw [if_pos h0]
    by_cases hf : (scanR d).2.1 = true ∧ ¬ (seqR d).2 = 60000
    · rw [if_pos hf]
      have hl : (homeS (seqR d).2 (scanR d).2.2).length ≤ 13 := by unfold homeS; rw [List.length_append, putsS_len]; show _ + 3 ≤ 13; omega
      have hb := stp_sum_le (homeS (seqR d).2 (scanR d).2.2) 1048576 fun i => by
        unfold homeS
        rw [two_getD, putsS_len]
        by_cases hi : i < (scanR d).2.2.length
        · rw [if_pos hi, putsS_get _ hi]; exact hsm i
        · rw [if_neg hi]
          generalize i - (scanR d).2.2.length = k
          unfold superS
          match k with
          | 0 => simp
          | 1 => simp
          | 2 => simp
          | k + 3 => simp [sd0]
      have := Nat.mul_le_mul_right (2 + 1048576) hl
      show spanStps (homeS (seqR d).2 (scanR d).2.2) ≤ 20000000
      omega
    · rw [if_neg hf]; simp [spanStps, stp]
  · rw [if_neg h0]; simp [spanStps, stp]
theorem field_val (z v : Int) (w : World) : (Instr.field 34 (.agg #[.int .i64 z, .int .i64 v]) 1).run Try.prog w = .ok (.int .i64 v) w := by kernel_rfl

set_option maxHeartbeats 3200000 in
theorem implPlanU (w : World) (a1 : Option Addr) (n1 c1 : Nat) (a2 : Option Addr) (n2 c2 : Nat) (d : DK) (h : DiskR w (.slice a1 n1 c1) (.slice a2 n2 c2) d) (hs : sizeDisk d ≤ 1048576) :
    Calls Try.prog 32 #[.agg #[.slice a1 n1 c1, .slice a2 n2 c2]] w (AnsSR w (planR d)) := by
  have HF : Hid (∀ W, Below w.heap.size w W → Calls Try.prog 26 #[.agg #[.slice a1 n1 c1, .slice a2 n2 c2]] W fun e w' => ∃ a n c, e = .returned (.agg #[.int .i64 (scanR d).1, .bool (scanR d).2.1, .slice a n c]) ∧ Below W.heap.size W w' ∧ PutsO w' (.slice a n c) (scanR d).2.2 (fresh W w')) := fun W hW => implScanU W _ _ _ _ _ _ d (h.later hW) hs
  have HSQ : Hid (∀ W, Below w.heap.size w W → Calls Try.prog 23 #[.agg #[.slice a1 n1 c1, .slice a2 n2 c2]] W fun e w' => e = .returned (.agg #[.int .i64 (seqR d).1, .int .i64 (seqR d).2]) ∧ Below W.heap.size W w') := fun W hW => implSeqU W _ _ _ _ _ _ d (h.later hW) hs
  have HBAD : Hid (¬ (scanR d).1 = 0 → planR d = ((scanR d).1, [])) := fun h0 => by unfold planR; rw [if_neg h0]
  have HNO : Hid ((scanR d).1 = 0 → ¬ ((scanR d).2.1 = true ∧ ¬ (seqR d).2 = 60000) → planR d = (0, [])) := fun h0 h1 => by unfold planR; rw [if_pos h0, if_neg h1]
  have HYES : Hid ((scanR d).1 = 0 → (scanR d).2.1 = true ∧ ¬ (seqR d).2 = 60000 → planR d = (0, homeS (seqR d).2 (scanR d).2.2)) := fun h0 h1 => by unfold planR; rw [if_pos h0, if_pos h1]
  have HIN : Hid ((scanR d).1 = 0 → 1 ≤ (seqR d).2 ∧ (seqR d).2 ≤ 60000) := fun h0 => seq_in (by rw [← scan_code]; exact h0)
  have h10 := scanR_ten d
  have HSM : Hid (∀ i : Nat, ((scanR d).2.2[i]?.getD (0, [])).2.length ≤ 1048576) := scanR_small hs
  clear h
  generalize (scanR d).1 = r at *
  generalize (scanR d).2.1 = fb at *
  generalize (scanR d).2.2 = PJ at *
  generalize (seqR d).1 = s at *
  generalize (seqR d).2 = q at *
  generalize planR d = RES at *
  have HB0 : Hid (Below w.heap.size w ((w.alloc (.cells #[.slice a1 n1 c1, .slice a2 n2 c2] 49)).alloc (.cells #[.int .i64 0, .slice none 0 0] 60))) := later2 _ _ _
  have HX0 : Hid (Bx ((w.alloc (.cells #[.slice a1 n1 c1, .slice a2 n2 c2] 49)).alloc (.cells #[.int .i64 0, .slice none 0 0] 60)) (w.heap.size) [.slice a1 n1 c1, .slice a2 n2 c2]) := (Bx.new w [.slice a1 n1 c1, .slice a2 n2 c2] _).later (later1 _ _)
  have HR0 : Hid (OwnRow ((w.alloc (.cells #[.slice a1 n1 c1, .slice a2 n2 c2] 49)).alloc (.cells #[.int .i64 0, .slice none 0 0] 60)) (w.heap.size + 1) 2 (cel [.int .i64 0, .slice none 0 0])) := (show OwnRow ((w.alloc (.cells #[.slice a1 n1 c1, .slice a2 n2 c2] 49)).alloc (.cells #[.int .i64 0, .slice none 0 0] 60)) (w.heap.size + 1) 2 (cel [.int .i64 0, .slice none 0 0]) from by have := newCel (w.alloc (.cells #[.slice a1 n1 c1, .slice a2 n2 c2] 49)) [.int .i64 0, .slice none 0 0] 60; rw [World.size_alloc] at this; exact this)
  go_enter Try.func32, Try.ntmps32
  have xHX0 := HX0.out 0 _ rfl
  have xHX1 := HX0.out 1 _ rfl
  go_wp2_with fail
  clear xHX0 xHX1
  refine (HF.out _ HB0.out).mono ?_
  rintro e w1 ⟨ap, np, cp, rfl, hb, ho⟩
  have HP : Hid (Puts w1 (.slice ap np cp) PJ) := ho.puts
  clear ho
  have hb' : Below ((w.alloc (.cells #[.slice a1 n1 c1, .slice a2 n2 c2] 49)).alloc (.cells #[.int .i64 0, .slice none 0 0] 60)).heap.size ((w.alloc (.cells #[.slice a1 n1 c1, .slice a2 n2 c2] 49)).alloc (.cells #[.int .i64 0, .slice none 0 0] 60)) (w1.alloc (.cells #[.int .i64 r, .bool fb, .slice ap np cp] 54)) := hb.trans ((later1 _ _).mono hb.size)
  have HB1 : Hid (Below w.heap.size w (w1.alloc (.cells #[.int .i64 r, .bool fb, .slice ap np cp] 54))) := HB0.out.trans (hb'.mono HB0.out.size)
  have HX1 : Hid (Bx (w1.alloc (.cells #[.int .i64 r, .bool fb, .slice ap np cp] 54)) (w.heap.size) [.slice a1 n1 c1, .slice a2 n2 c2]) := HX0.out.later hb'
  have HR1 : Hid (OwnRow (w1.alloc (.cells #[.int .i64 r, .bool fb, .slice ap np cp] 54)) (w.heap.size + 1) 2 (cel [.int .i64 0, .slice none 0 0])) := HR0.out.later hb'
  clear hb hb'
  have HQ1 : Hid (Bx (w1.alloc (.cells #[.int .i64 r, .bool fb, .slice ap np cp] 54)) w1.heap.size [.int .i64 r, .bool fb, .slice ap np cp]) := Bx.new w1 [.int .i64 r, .bool fb, .slice ap np cp] _
  replace HP : Hid (Puts (w1.alloc (.cells #[.int .i64 r, .bool fb, .slice ap np cp] 54)) (.slice ap np cp) PJ) := HP.out.later (later1 _ _)
  by_cases hf : r = 0
  · skip
    replace HNO : Hid _ := HNO.out hf
    replace HYES : Hid _ := HYES.out hf
    replace HIN : Hid _ := HIN.out hf
    clear HBAD HF
    subst hf
    obtain ⟨hq0, hq1⟩ := HIN.out
    have xHX0 := HX1.out 0 _ rfl
    have xHX1 := HX1.out 1 _ rfl
    have xHQ0 := HQ1.out 0 _ rfl
    have xHQ1 := HQ1.out 1 _ rfl
    have xHQ2 := HQ1.out 2 _ rfl
    go_wp2_with fail
    clear xHX0 xHX1 xHQ0 xHQ1 xHQ2
    refine (HSQ.out _ HB1.out).mono ?_
    rintro e w2 ⟨rfl, hb⟩
    replace HP : Hid (Puts w2 (.slice ap np cp) PJ) := HP.out.later hb
    have fv := field_val s q w2
    have HB2 : Hid (Below w.heap.size w w2) := HB1.out.trans (hb.mono HB1.out.size)
    have HX2 : Hid (Bx w2 (w.heap.size) [.slice a1 n1 c1, .slice a2 n2 c2]) := HX1.out.later hb
    have HR2 : Hid (OwnRow w2 (w.heap.size + 1) 2 (cel [.int .i64 0, .slice none 0 0])) := HR1.out.later hb
    have HQ2 : Hid (Bx w2 w1.heap.size [.int .i64 0, .bool fb, .slice ap np cp]) := HQ1.out.later hb
    clear hb
    cases fb with
    | false =>
      have HE : Hid (RES = (0, [])) := HNO.out (by simp)
      clear HNO HYES HIN HP HSM
      have xHQ0 := HQ2.out 0 _ rfl
      have xHQ1 := HQ2.out 1 _ rfl
      have xHQ2 := HQ2.out 2 _ rfl
      have hrr := HR2.out
      have t0 : w2.cell? ⟨w.heap.size + 1, 0, none⟩ = some (.int .i64 0) := hrr.cell (i := 0) (by omega)
      have t1 : w2.cell? ⟨w.heap.size + 1, 1, none⟩ = some (.slice none 0 0) := hrr.cell (i := 1) (by omega)
      have f0 := hrr.frozen 0
      have f1 := hrr.frozen 1
      have hlr := hrr.lt
      clear hrr
      go_wp2
      exact bodyPost_ret (v := .agg #[.int .i64 0, .slice none 0 0]) (by simp [results, Try.results32, go_sem, t0, t1]) rfl (by rw [HE.out]; exact AnsSR.badB 0 HB2.out (by omega) _ _)
    | true =>
      by_cases hq : q = 60000
      · skip
        have HE : Hid (RES = (0, [])) := HNO.out (by simp [hq])
        subst hq
        clear HNO HYES HIN HP HSM
        have xHQ0 := HQ2.out 0 _ rfl
        have xHQ1 := HQ2.out 1 _ rfl
        have xHQ2 := HQ2.out 2 _ rfl
        have hrr := HR2.out
        have t0 : w2.cell? ⟨w.heap.size + 1, 0, none⟩ = some (.int .i64 0) := hrr.cell (i := 0) (by omega)
        have t1 : w2.cell? ⟨w.heap.size + 1, 1, none⟩ = some (.slice none 0 0) := hrr.cell (i := 1) (by omega)
        have f0 := hrr.frozen 0
        have f1 := hrr.frozen 1
        have hlr := hrr.lt
        clear hrr
        go_wp2
        exact bodyPost_ret (v := .agg #[.int .i64 0, .slice none 0 0]) (by simp [results, Try.results32, go_sem, t0, t1]) rfl (by rw [HE.out]; exact AnsSR.badB 0 HB2.out (by omega) _ _)
      · skip
        have HE : Hid (RES = (0, homeS q PJ)) := HYES.out ⟨rfl, hq⟩
        have hqb : (q == 60000) = false := by simpa using hq
        clear HNO HYES HIN
        have xHQ0 := HQ2.out 0 _ rfl
        have xHQ1 := HQ2.out 1 _ rfl
        have xHQ2 := HQ2.out 2 _ rfl
        go_wp2_with fail
        clear xHQ0 xHQ1 xHQ2
        refine (homeSteps_any _ q (by omega) hq1 ap np cp PJ HP.out h10 HSM.out).mono ?_
        rintro e w3 ⟨av, nv, cv, rfl, hb, ho⟩
        have HI : Hid (StpsO w3 (.slice av nv cv) (homeS q PJ) (fun b => w.heap.size + 1 < b ∧ b < w3.heap.size)) := ho.mono fun b hb' => ⟨by have := hb'.1; have := HR2.out.lt; omega, hb'.2⟩
        clear ho HP HSM
        have HB3 : Hid (Below w.heap.size w w3) := HB2.out.trans (hb.mono HB2.out.size)
        have HX3 : Hid (Bx w3 (w.heap.size) [.slice a1 n1 c1, .slice a2 n2 c2]) := HX2.out.later hb
        have HR3 : Hid (OwnRow w3 (w.heap.size + 1) 2 (cel [.int .i64 0, .slice none 0 0])) := HR2.out.later hb
        have HQ3 : Hid (Bx w3 w1.heap.size [.int .i64 0, .bool true, .slice ap np cp]) := HQ2.out.later hb
        clear hb
        have hrr := HR3.out
        have t0 : w3.cell? ⟨w.heap.size + 1, 0, none⟩ = some (.int .i64 0) := hrr.cell (i := 0) (by omega)
        have t1 : w3.cell? ⟨w.heap.size + 1, 1, none⟩ = some (.slice none 0 0) := hrr.cell (i := 1) (by omega)
        have f0 := hrr.frozen 0
        have f1 := hrr.frozen 1
        have hlr := hrr.lt
        clear hrr
        go_wp2
        exact bodyPost_ret (v := .agg #[.int .i64 0, .slice av nv cv]) (by simp [results, Try.results32, go_sem, t0, t1]) rfl (by rw [HE.out]; exact AnsSR.putB HB3.out (by omega) HI.out _ _)
  · skip
    have hfb : (r != 0) = true := by simpa using hf
    have HE : Hid (RES = (r, [])) := HBAD.out hf
    clear HBAD HNO HYES HF HIN HSQ HP HSM hf
    have xHQ0 := HQ1.out 0 _ rfl
    have xHQ1 := HQ1.out 1 _ rfl
    have xHQ2 := HQ1.out 2 _ rfl
    have hrr := HR1.out
    have t0 : (w1.alloc (.cells #[.int .i64 r, .bool fb, .slice ap np cp] 54)).cell? ⟨w.heap.size + 1, 0, none⟩ = some (.int .i64 0) := hrr.cell (i := 0) (by omega)
    have t1 : (w1.alloc (.cells #[.int .i64 r, .bool fb, .slice ap np cp] 54)).cell? ⟨w.heap.size + 1, 1, none⟩ = some (.slice none 0 0) := hrr.cell (i := 1) (by omega)
    have f0 := hrr.frozen 0
    have f1 := hrr.frozen 1
    have hlr := hrr.lt
    clear hrr
    go_wp2
    exact bodyPost_ret (v := .agg #[.int .i64 r, .slice none 0 0]) (by simp [results, Try.results32, go_sem, t0, t1]) rfl (by rw [HE.out]; exact AnsSR.badB r HB1.out (by omega) _ _)

end Go.Proofs.Ytagmmgcdebgfnaa

namespace Go.Proofs.Ytagmmgcdebgfnaa
open Go.ChangeShapes Go.WideShapes Go.ChangeAt Go.RowKit Go.Deep
set_option maxRecDepth 100000

section
variable {H : Type} {enc : TypeId × Value → H} {P : Program} {w : World} {base : Nat} {held : Bool}

theorem addr_of {a : Addr} {v : Value} (h : w.cell? (a.add 0) = some v) : a = ⟨a.block, a.off, none⟩ := by
  obtain ⟨b, o, s⟩ := a
  have : s = none := by simpa [Addr.add] using World.cell?_spot h
  subst this; rfl
theorem add_plain (b off k : Nat) : (⟨b, off, none⟩ : Addr).add k = ⟨b, off + k, none⟩ := by
  by_cases h : k = 0
  · subst h; simp [Addr.add]
  · simp [Addr.add, h]

theorem open_Ints {t e : TypeId} {fuel : Nat} {v : Value} {x : DataW H × List MemPlace} (ht : P.underlying t = some (.slice e)) (he : P.underlying e = some (.int .i64)) (ce : P.cellsOf e = 1) (h : DataW.trod enc P w base (fun _ => true) held fuel t [v] = some x) :
    ∃ zs, Ints w v zs := by
  rcases open_ints ht he ce h with ⟨hcs, _⟩ | ⟨a, len, cap, zs, hcs, _, hl, hm, hz, _, hcell, _⟩
  · simp only [List.cons.injEq, and_true] at hcs
    exact ⟨[], Or.inl ⟨rfl, none, 0, hcs⟩⟩
  · simp only [List.cons.injEq, and_true] at hcs
    simp only [if_true] at hz
    by_cases h0 : len = 0
    · subst h0; exact ⟨[], Or.inl ⟨rfl, some a, cap, hcs⟩⟩
    · have ha := addr_of (hcell 0 (by omega))
      refine ⟨zs.take len, Or.inr ⟨a.block, a.off, cap, ?_, ?_, fun k hk => ?_⟩⟩
      · rw [hcs, List.length_take, Nat.min_eq_left (by omega), ← ha]
      · rw [List.length_take]; omega
      · rw [List.length_take] at hk
        have h1 := hcell k (by omega)
        rw [ha, add_plain] at h1
        rw [h1, List.getElem?_take, if_pos (by omega)]
        rfl

theorem open_IntsS {t e q : TypeId} {fuel : Nat} {v : Value} {x : DataW H × List MemPlace} (ht : P.underlying t = some (.slice e)) (he : P.underlying e = some (.slice q)) (hq : P.underlying q = some (.int .i64)) (ce : P.cellsOf e = 1) (cq : P.cellsOf q = 1)
    (h : DataW.trod enc P w base (fun _ => true) held fuel t [v] = some x) : ∃ zss, IntsS w v zss := by
  rcases open_slice1 ht ce h with ⟨hcs, _⟩ | ⟨a, len, cap, m, n, V, D, Pl, hcs, _, hl, hm, hmm, _, hx⟩
  · simp only [List.cons.injEq, and_true] at hcs
    exact ⟨[], Or.inl ⟨rfl, none, 0, hcs⟩⟩
  · simp only [List.cons.injEq, and_true] at hcs
    simp only [if_true] at hmm
    by_cases h0 : len = 0
    · subst h0; exact ⟨[], Or.inl ⟨rfl, some a, cap, hcs⟩⟩
    · have ha := addr_of (hx 0 (by omega)).1
      obtain ⟨Z, hZ⟩ := choose_lt (α := List Int) (n := m) (p := fun i zs => Ints w (V i) zs) fun i hi => open_Ints he hq cq (hx i hi).2
      refine ⟨(List.range len).map Z, Or.inr ⟨a.block, a.off, cap, V, ?_, ?_, fun k hk => ?_⟩⟩
      · simp only [List.length_map, List.length_range]; rw [hcs, ← ha]
      · simp only [List.length_map, List.length_range]; omega
      · simp only [List.length_map, List.length_range] at hk
        have h1 := (hx k (by omega)).1
        rw [ha, add_plain] at h1
        refine ⟨h1, ?_⟩
        have := hZ k (by omega)
        simpa [hk] using this

theorem open_Puts {t e q : TypeId} {f0 f1 : Field} {fuel : Nat} {v : Value} {x : DataW H × List MemPlace} (ht : P.underlying t = some (.slice e)) (he : P.underlying e = some (.struct #[f0, f1]))
    (ce : P.cellsOf e = 2) (o0 : f0.offset = 0) (o1 : f1.offset = 1) (c0 : P.cellsOf f0.type = 1) (c1 : P.cellsOf f1.type = 1) (h0 : P.underlying f0.type = some (.int .i64)) (h1 : P.underlying f1.type = some (.slice q)) (hq : P.underlying q = some (.int .i64)) (cq : P.cellsOf q = 1)
    (h : DataW.trod enc P w base (fun _ => true) held fuel t [v] = some x) : ∃ ps, Puts w v ps := by
  rcases open_slice_pairs ht he ce o0 o1 c0 c1 h with ⟨hcs, _⟩ | ⟨a, len, cap, m, n, V0, V1, D0, D1, P0, P1, hcs, _, hl, hm, hmm, _, hx⟩
  · simp only [List.cons.injEq, and_true] at hcs
    exact ⟨[], Or.inl ⟨rfl, none, 0, hcs⟩⟩
  · simp only [List.cons.injEq, and_true] at hcs
    simp only [if_true] at hmm
    by_cases hl0 : len = 0
    · subst hl0; exact ⟨[], Or.inl ⟨rfl, some a, cap, hcs⟩⟩
    · have ha := addr_of (by simpa using (hx 0 (by omega)).1)
      obtain ⟨Z, hZ⟩ := choose_lt (α := Int × List Int) (n := m) (p := fun i z => V0 i = .int .i64 z.1 ∧ Ints w (V1 i) z.2) fun i hi => by
        obtain ⟨_, _, g0, g1⟩ := hx i hi
        obtain ⟨zs, hzs⟩ := open_Ints h1 hq cq g1
        obtain ⟨y, hy, _⟩ := DataW.trod_int h0 g0
        simp only [List.cons.injEq, and_true] at hy
        exact ⟨(y, zs), hy, hzs⟩
      refine ⟨(List.range len).map Z, Or.inr ⟨a.block, a.off, cap, V1, ?_, ?_, fun k hk => ?_⟩⟩
      · simp only [List.length_map, List.length_range]; rw [hcs, ← ha]
      · simp only [List.length_map, List.length_range]; omega
      · simp only [List.length_map, List.length_range] at hk
        obtain ⟨e0, e1, _, _⟩ := hx k (by omega)
        rw [ha, add_plain] at e0 e1
        obtain ⟨g0, g1⟩ := hZ k (by omega)
        rw [g0] at e0
        have hg : ((List.range len).map Z)[k]?.getD (0, []) = Z k := by simp [hk]
        rw [hg]
        exact ⟨e0, e1, g1⟩
end

end Go.Proofs.Ytagmmgcdebgfnaa

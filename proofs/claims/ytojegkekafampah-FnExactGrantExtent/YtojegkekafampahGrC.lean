
/- GrantExtent, the program's: withExtent. -/
import Derived.Test.YtojegkekafampahGrB
namespace Go.Proofs.Ytojegkekafampah
open Go.RowKit
set_option maxRecDepth 100000

theorem append_one' (wr : World) (base : Nat) (v : Value) (es : List E3) (p y z : Int) (h : ERow wr base v es) (hb : base ≤ wr.heap.size) (hn : es.length ≤ 1000000) :
    ∃ v' X, (Builtin.append_ #[34, 34] 34 #[v, .slice (some ⟨wr.heap.size, 0, none⟩) 1 1]).run Try.prog (wr.alloc (.cells #[.int .i64 p, .int .i64 y, .int .i64 z] 70)) = .ok v' X ∧ ERow X base v' (es ++ [(p, y, z)]) ∧ Below base wr X ∧ (∀ b, v'.ownBlock = some b → v.ownBlock = some b ∨ wr.heap.size < b) ∧ (∀ b, b < wr.heap.size → v.ownBlock ≠ some b → X.heap[b]? = wr.heap[b]?) := by
  have hrow2 : ERow (wr.alloc (.cells #[.int .i64 p, .int .i64 y, .int .i64 z] 70)) base v es := h.keep fun b hb => (later1 _ _).block b (h.lt b hb).2
  have hbx := Bx.new wr [.int .i64 p, .int .i64 y, .int .i64 z] 70
  obtain ⟨v', X, hr, ho, hB, hk, hg, a', c', rfl⟩ := append_exts (wr.alloc (.cells #[.int .i64 p, .int .i64 y, .int .i64 z] 70)) 34 base v es [(p, y, z)] hrow2 (by simp; omega) (some ⟨wr.heap.size, 0, none⟩) 1 (by simp; omega) (fun k hk => ⟨wr.heap.size, 0, rfl, by
    have : k = 0 := by simp at hk; omega
    subst this
    exact ⟨hbx 0 _ rfl, hbx 1 _ rfl, hbx 2 _ rfl⟩⟩)
  refine ⟨_, X, hr, ho, ((later1 wr _).mono hb).trans hB, fun b hb => ?_, fun b hb hne => ?_⟩
  · rcases hg b hb with e | e
    · exact Or.inl e
    · exact Or.inr (by simp at e; omega)
  · rw [hk b (by simp; omega) hne]
    exact (later1 wr _).block b hb
theorem ERow.made (w : World) (n base : Nat) (hb : base ≤ w.heap.size) (hn : n ≤ 1000000) : ERow (w.alloc (.cells (madeCells #[.int .i64 0, .int .i64 0, .int .i64 0] (n * 3)) 70)) base (.slice (some ⟨w.heap.size, 0, none⟩) 0 n) [] :=
  ⟨by simp [exCells], Or.inr ⟨w.heap.size, n, _, rfl, hb, Go.Deep.blk_alloc_new _ _, Nat.zero_le _, by unfold maxLen; omega, by simp [size_madeCells], by simp [exCells]⟩⟩
theorem run_make_room (n : Nat) (hn : n ≤ 1000000) (w : World) : (Instr.makeSlice 34 (.int .i64 0) (.int .i64 (n : Int))).run Try.prog w = .ok (.slice (some ⟨w.heap.size, 0, none⟩) 0 n) (w.alloc (.cells (madeCells #[.int .i64 0, .int .i64 0, .int .i64 0] (n * 3)) 70)) := by
  obtain ⟨i, hi, h1, h2, h3⟩ := Try.infoExt'
  have hr := run_make (P := Try.prog) w 34 70 i _ Try.underlying34 hi h1 .i64 .i64 0 n (by omega) (by omega) (by rw [h3]; omega) (by omega)
  simp only [Int.toNat_natCast, h2, show (0 : Int).toNat = 0 from rfl] at hr
  exact hr

/-- The three appends of withExtent, behind one another. -/
theorem three_apps (W : World) (base n j : Nat) (es : List E3) (gx gy gz : Int) (_hb : base ≤ W.heap.size) (hn : es.length = n) (hj : j ≤ n) (h8 : n ≤ 8) (A1 A2 : Option Addr) (C1 C2 : Nat) (h1 : AtE W A1 j (es.take j)) (h2 : AtE W A2 (n - j) (es.drop j)) :
    ∃ v1 X1 v2 X2 v3 X3 a c, (Builtin.append_ #[34, 34] 34 #[.slice (some ⟨W.heap.size, 0, none⟩) 0 (n + 1), .slice A1 j C1]).run Try.prog (W.alloc (.cells (madeCells #[.int .i64 0, .int .i64 0, .int .i64 0] ((n + 1) * 3)) 70)) = .ok v1 X1 ∧
      (Builtin.append_ #[34, 34] 34 #[v1, .slice (some ⟨X1.heap.size, 0, none⟩) 1 1]).run Try.prog (X1.alloc (.cells #[.int .i64 gx, .int .i64 gy, .int .i64 gz] 70)) = .ok v2 X2 ∧
      (Builtin.append_ #[34, 34] 34 #[v2, .slice A2 (n - j) C2]).run Try.prog X2 = .ok v3 X3 ∧ v3 = .slice a (n + 1) c ∧
      (∀ b i, b < W.heap.size → X1.cell? ⟨b, i, none⟩ = W.cell? ⟨b, i, none⟩) ∧ (∀ b i, b < W.heap.size → X2.cell? ⟨b, i, none⟩ = W.cell? ⟨b, i, none⟩) ∧ W.heap.size < X1.heap.size ∧ W.heap.size < X2.heap.size ∧ Below W.heap.size W X3 ∧ ExtsO X3 v3 (es.take j ++ (gx, gy, gz) :: es.drop j) (fun b => W.heap.size ≤ b ∧ b < X3.heap.size) := by
  have l1 : (es.take j).length = j := by rw [List.length_take]; omega
  have l2 : (es.drop j).length = n - j := by rw [List.length_drop]; omega
  have hr0 := ERow.made W (n + 1) W.heap.size (Nat.le_refl _) (by omega)
  have hA1 : AtE (W.alloc (.cells (madeCells #[.int .i64 0, .int .i64 0, .int .i64 0] ((n + 1) * 3)) 70)) A1 (es.take j).length (es.take j) := by rw [l1]; exact h1.later (later1 _ _)
  obtain ⟨v1, X1, hr1, ho1, hB1, _, _, a1, c1, e1⟩ := append_exts _ 34 W.heap.size _ [] (es.take j) hr0 (by simp) A1 C1 (by simp; omega) hA1
  simp only [List.nil_append] at ho1
  have hW1 : Below W.heap.size W X1 := (later1 _ _).trans hB1
  have s1 : W.heap.size < X1.heap.size := by have := hB1.size; simp at this; omega
  obtain ⟨v2, X2, hr2, ho2, hB2, _, _⟩ := append_one' X1 W.heap.size v1 (es.take j) gx gy gz ho1 hW1.size (by omega)
  have hW2 : Below W.heap.size W X2 := hW1.trans hB2
  have s2 : W.heap.size < X2.heap.size := Nat.lt_of_lt_of_le s1 hB2.size
  have hA2 : AtE X2 A2 (es.drop j).length (es.drop j) := by rw [l2]; exact h2.later hW2
  obtain ⟨v3, X3, hr3, ho3, hB3, _, _, a3, c3, e3⟩ := append_exts X2 34 W.heap.size v2 (es.take j ++ [(gx, gy, gz)]) (es.drop j) ho2 hW2.size A2 C2 (by simp [l1, l2]; omega) hA2
  rw [l1] at hr1
  rw [l2] at hr3
  refine ⟨v1, X1, v2, X2, v3, X3, a3, c3, hr1, hr2, hr3, ?_, fun b i hb => hW1.cell (p := ⟨b, i, none⟩) hb, fun b i hb => hW2.cell (p := ⟨b, i, none⟩) hb, s1, s2, hW2.trans hB3, ?_⟩
  · rw [e3]
    simp only [List.length_append, List.length_cons, List.length_nil, l1, l2]
    congr 1
    omega
  · have := ho3.exts
    rw [List.append_assoc] at this
    exact this.mono fun b hb => ⟨hb.2.1, hb.2.2⟩

set_option maxHeartbeats 600000 in
theorem withExt_walk (w : World) (aE : Option Addr) (nE cE : Nat) (es : List E3) (gx gy gz : Int) (hnE : es.length = nE) (hE : AtE w aE nE es) (h8 : nE ≤ 8) (hcap : nE ≤ cE) :
    Calls Try.prog 51 #[.slice aE nE cE, .agg #[.int .i64 gx, .int .i64 gy, .int .i64 gz]] w fun e w' => ∃ a n c, e = .returned (.slice a n c) ∧ Below w.heap.size w w' ∧ ExtsO w' (.slice a n c) (es.take (insAt es gx) ++ (gx, gy, gz) :: es.drop (insAt es gx)) (fresh w w') := by
  have HN : Hid (es.length = nE) := hnE
  have HE : Hid (AtE w aE nE es) := hE
  clear hnE hE
  go_enter Try.func51, Try.ntmps51
  go_wp2
  go_loopw [5] (fun i wr => ∃ j : Nat, j ≤ nE ∧ i = .int .i64 j ∧ Below w.heap.size w wr ∧ Bx wr w.heap.size [.int .i64 gx, .int .i64 gy, .int .i64 gz] ∧ ∀ i : Nat, i < j → (extAt es i).1 < gx) (fun i _ => nE - (intOf i).toNat)
  case atStart => exact ⟨0, Nat.zero_le _, rfl, later1 _ _, Bx.new w [.int .i64 gx, .int .i64 gy, .int .i64 gz] _, fun i hi => by omega⟩
  case round =>
    obtain ⟨j, hj, rfl, hbl, hbx, hall⟩ := hrel
    have HA : Hid (∀ i : Nat, i < j → (extAt es i).1 < gx) := hall
    have HBL : Hid (Below w.heap.size w wr) := hbl
    have HBX : Hid (Bx wr w.heap.size [.int .i64 gx, .int .i64 gy, .int .i64 gz]) := hbx
    have g0 := hbx 0 _ rfl
    clear hall hbl hbx
    by_cases hlt : j < nE
    · obtain ⟨b, off, rfl, c0, c1, c2⟩ := HE.out j hlt
      replace c0 := cell_later HBL.out c0
      have HX : Hid ((extAt es j).1 = (es[j]?.getD (0, 0, 0)).1) := rfl
      generalize (es[j]?.getD (0, 0, 0)).1 = p at *
      clear c1 c2
      have hjn : (j : Int) < (nE : Int) := by omega
      have hj0 : (0 : Int) ≤ (j : Int) := by omega
      by_cases hp : p < gx
      · go_wp2_with fail
        go_quiet (fail)
        go_wp2
        go_roundw
        case rel =>
          refine ⟨j + 1, by omega, by go_num, below_drewN HBL.out nq, fun i v e => HBX.out i v e, fun i hi => ?_⟩
          by_cases e : i = j
          · subst e; rw [HX.out]; exact hp
          · exact HA.out i (by omega)
        case measure => simp [intOf]; omega
      · have hd : decide (p < gx) = false := by simpa using hp
        have HI : Hid (insAt es gx = j) := insAt_of HA.out (by rw [HN.out]; omega) (Or.inr (by rw [HX.out]; exact hp))
        go_wp2_with fail
        go_quiet (fail)
        have F1 : Below w.heap.size w (wr.drewN nq) := below_drewN HBL.out nq
        have F2 : Bx (wr.drewN nq) w.heap.size [.int .i64 gx, .int .i64 gy, .int .i64 gz] := fun i v e => HBX.out i v e
        clear g0 HBL HBX c0
        generalize wr.drewN nq = Wq at *
        have HF1 : Hid (Below w.heap.size w Wq) := F1
        have hzq : w.heap.size < Wq.heap.size := F2.lt
        obtain ⟨A1, C1, hs1, hat1⟩ := slice_take (some ⟨b, off, none⟩) nE cE j (by omega)
        obtain ⟨A2, C2, hs2, hat2⟩ := slice_drop (some ⟨b, off, none⟩) nE cE j (by omega) hcap
        obtain ⟨v1, X1, v2, X2, v3, X3, a, c, hr1, hr2, hr3, rfl, hc1, hc2, z1, z2, hB3, hE3⟩ := three_apps Wq (w.heap.size + 1) nE j es gx gy gz (by omega) HN.out (by omega) h8 A1 A2 C1 C2 (hat1 Wq es (by omega) (HE.out.later F1)) (hat2 Wq es (HE.out.later F1))
        have hmk : ∀ W : World, (Instr.makeSlice 34 (.int .i64 0) (.int .i64 ((nE : Int) + 1))).run Try.prog W = .ok (.slice (some ⟨W.heap.size, 0, none⟩) 0 (nE + 1)) (W.alloc (.cells (madeCells #[.int .i64 0, .int .i64 0, .int .i64 0] ((nE + 1) * 3)) 70)) := fun W => run_make_room (nE + 1) (by omega) W
        have q0 := (hc1 w.heap.size 0 hzq).trans (F2 0 _ rfl)
        have q1 := (hc1 w.heap.size 1 hzq).trans (F2 1 _ rfl)
        have q2 := (hc1 w.heap.size 2 hzq).trans (F2 2 _ rfl)
        have HR1 : Hid (_ = _) := hr1
        have HR2 : Hid (_ = _) := hr2
        have HR3 : Hid (_ = _) := hr3
        have HB3 : Hid (Below Wq.heap.size Wq X3) := hB3
        have HE3 : Hid (ExtsO X3 (.slice a (nE + 1) c) (es.take j ++ (gx, gy, gz) :: es.drop j) (fun b => Wq.heap.size ≤ b ∧ b < X3.heap.size)) := hE3
        clear hr1 hr2 hr3 hB3 hE3 hc1 hc2 hat1 hat2 F1 F2
        go_wp2_with (at_builtin; first | (refine wpList_append_run rfl _ _ 34 rfl _ _ rfl rfl _ _ HR1.out ?_; clear HR1) | (refine wpList_append_run rfl _ _ 34 rfl _ _ rfl rfl _ _ HR2.out ?_; clear HR2) | (refine wpList_append_run rfl _ _ 34 rfl _ _ rfl rfl _ _ HR3.out ?_; clear HR3))
        go_ret
        refine ⟨_, _, _, rfl, HF1.out.trans (HB3.out.mono HF1.out.size), ?_⟩
        rw [HI.out]
        exact HE3.out.mono fun b hb => ⟨by have := HF1.out.size; omega, hb.2⟩
    · have e : j = nE := by omega
      have hd : decide ((j : Int) < (nE : Int)) = false := by simp; omega
      have hd2 : decide (j < nE) = false := by simp; omega
      have HI : Hid (insAt es gx = j) := insAt_of HA.out (by rw [HN.out]; omega) (Or.inl (by rw [HN.out]; exact e))
      clear hlt e
      go_wp2_with fail
      go_quiet (fail)
      clear hd hd2
      have F1 : Below w.heap.size w (wr.drewN nq) := below_drewN HBL.out nq
      have F2 : Bx (wr.drewN nq) w.heap.size [.int .i64 gx, .int .i64 gy, .int .i64 gz] := fun i v e => HBX.out i v e
      clear g0 HBL HBX
      generalize wr.drewN nq = Wq at *
      have HF1 : Hid (Below w.heap.size w Wq) := F1
      have hzq : w.heap.size < Wq.heap.size := F2.lt
      obtain ⟨A1, C1, hs1, hat1⟩ := slice_take aE nE cE j (by omega)
      obtain ⟨A2, C2, hs2, hat2⟩ := slice_drop aE nE cE j (by omega) hcap
      obtain ⟨v1, X1, v2, X2, v3, X3, a, c, hr1, hr2, hr3, rfl, hc1, hc2, z1, z2, hB3, hE3⟩ := three_apps Wq (w.heap.size + 1) nE j es gx gy gz (by omega) HN.out (by omega) h8 A1 A2 C1 C2 (hat1 Wq es (by omega) (HE.out.later F1)) (hat2 Wq es (HE.out.later F1))
      have hmk : ∀ W : World, (Instr.makeSlice 34 (.int .i64 0) (.int .i64 ((nE : Int) + 1))).run Try.prog W = .ok (.slice (some ⟨W.heap.size, 0, none⟩) 0 (nE + 1)) (W.alloc (.cells (madeCells #[.int .i64 0, .int .i64 0, .int .i64 0] ((nE + 1) * 3)) 70)) := fun W => run_make_room (nE + 1) (by omega) W
      have q0 := (hc1 w.heap.size 0 hzq).trans (F2 0 _ rfl)
      have q1 := (hc1 w.heap.size 1 hzq).trans (F2 1 _ rfl)
      have q2 := (hc1 w.heap.size 2 hzq).trans (F2 2 _ rfl)
      have HR1 : Hid (_ = _) := hr1
      have HR2 : Hid (_ = _) := hr2
      have HR3 : Hid (_ = _) := hr3
      have HB3 : Hid (Below Wq.heap.size Wq X3) := hB3
      have HE3 : Hid (ExtsO X3 (.slice a (nE + 1) c) (es.take j ++ (gx, gy, gz) :: es.drop j) (fun b => Wq.heap.size ≤ b ∧ b < X3.heap.size)) := hE3
      clear hr1 hr2 hr3 hB3 hE3 hc1 hc2 hat1 hat2 F1 F2
      go_wp2_with (at_builtin; first | (refine wpList_append_run rfl _ _ 34 rfl _ _ rfl rfl _ _ HR1.out ?_; clear HR1) | (refine wpList_append_run rfl _ _ 34 rfl _ _ rfl rfl _ _ HR2.out ?_; clear HR2) | (refine wpList_append_run rfl _ _ 34 rfl _ _ rfl rfl _ _ HR3.out ?_; clear HR3))
      go_ret
      refine ⟨_, _, _, rfl, HF1.out.trans (HB3.out.mono HF1.out.size), ?_⟩
      rw [HI.out]
      exact HE3.out.mono fun b hb => ⟨by have := HF1.out.size; omega, hb.2⟩
end Go.Proofs.Ytojegkekafampah

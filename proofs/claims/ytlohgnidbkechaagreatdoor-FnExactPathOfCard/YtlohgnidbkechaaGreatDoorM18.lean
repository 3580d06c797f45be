/- PathsOf, of the program. Rows told by the list of their values. Where a path that is told leads; PathOf of the program. IsWithin, of the specification. PathsOf, of the specification. PathsOf, of the specification. -/
import Derived.Maps.AppendAt
import Derived.Test.YtlohgnidbkechaaGreatDoorM17
import Derived.Test.YtlohgnidbkechaaGreatDoorM14
import Derived.Test.YtlohgnidbkechaaGreatDoorM15
import Derived.Test.YtlohgnidbkechaaGreatDoorM03
import Derived.Test.YtlohgnidbkechaaGreatDoorM16
import Derived.Test.YtlohgnidbkechaaGreatDoorM10
namespace Go.Proofs.YtlohgnidbkechaaGreatDoor
open Go.RowKit Go.Shelf
set_option maxRecDepth 100000
attribute [local go_sem] Oper.semAt_some

theorem wdT_keepB {w w' : World} {n₀ : Nat} {v : Value} {xs : List (List UInt8)} (h : WdT w n₀ v xs) (e : ∀ g, v.ownBlock = some g → w'.heap[g]? = w.heap[g]?) : WdT w' n₀ v xs := by
  obtain ⟨hl, h1 | ⟨g, cap, cur, rfl, h2, h3, h4⟩⟩ := h
  · exact ⟨hl, Or.inl h1⟩
  · exact ⟨hl, Or.inr ⟨g, cap, cur, rfl, h2, (e g rfl).trans h3, h4⟩⟩
/-- A text is appended: what changes is the list's own block alone, and the list lies there or in a new one. -/
theorem wdT_pushAt (w : World) (n₀ : Nat) (v : Value) (xs : List (List UInt8)) (y : List UInt8) (h : WdT w n₀ v xs) (hn₀ : n₀ ≤ w.heap.size) (hn : xs.length ≤ 1048577) :
    ∃ v' X, (Builtin.append_ #[62, 62] 62 #[v, .slice (some ⟨w.heap.size, 0, none⟩) 1 1]).run Tryz.prog (w.alloc (.cells #[.string (mkB y)] 9)) = .ok v' X ∧ WdT X n₀ v' (xs ++ [y]) ∧ w.grownBy X v.ownBlock ∧ ∀ g, v'.ownBlock = some g → v.ownBlock = some g ∨ w.heap.size ≤ g := by
  obtain ⟨i0, hi, hz0, hz1, hz2⟩ := info_parts Tryz.infoStr
  obtain ⟨v', X, hr, hown, hgrow, _, hat⟩ := run_append_own_at (P := Tryz.prog) (w.alloc (.cells #[strV y] 9)) n₀ 62 62 9 i0 (.string ⟨#[]⟩) 1 16 Tryz.underlying62 hi hz0 hz1 hz2 rfl (by decide) v xs.length (xs.map strV) (ownsRow_later h (later1 _ _)) ⟨w.heap.size, 0, none⟩ 1 1 [strV y] rfl (cell_one_new _ _ _) (by simp [Value.oneCell', strV]) (by unfold maxLen; omega) (by omega) (by simp; omega)
  refine ⟨v', X, hr, ?_, ⟨hgrow.os, hgrow.tape, hgrow.output, by have := hgrow.size; simp at this; omega, fun k hk hne => (hgrow.block k (by simp; omega) hne).trans ((later1 w _).block k hk)⟩, fun g hg => ?_⟩
  · unfold WdT
    rw [List.length_append, List.map_append]
    exact hown
  · rcases hat with e | e
    · rw [e] at hg; exact Or.inl hg
    · rw [e] at hg
      simp at hg
      exact Or.inr (by omega)
theorem wdT_ownF {w : World} {n₀ : Nat} {v : Value} {xs : List (List UInt8)} {F : Nat → Prop} (h : WdT w n₀ v xs) (hl : xs.length ≤ 1048577) (hF : ∀ g, v.ownBlock = some g → F g) : StrsO w v xs (fun b => n₀ ≤ b ∧ b < w.heap.size ∧ F b) := by
  obtain ⟨a, c, rfl⟩ := h.shape
  rcases ownT_row h with h0 | ⟨g, rfl, h1, h2, h3⟩
  · have : xs = [] := List.length_eq_zero_iff.1 h0
    subst this
    exact Or.inl ⟨rfl, a, c, rfl⟩
  · exact Or.inr ⟨g, c, ⟨h1, h2, hF g rfl⟩, rfl, hl, h3⟩
/-- How the paths stand between two rounds: the box P, the list. -/
def PthI (P : Nat) (T : List (List UInt8) → List (List UInt8)) (pre : List (List UInt8)) (F : Nat → Prop) (X : World) : Prop :=
  ∃ v, Boxed X P 62 v ∧ WdT X (P + 1) v (T pre) ∧ (T pre).length ≤ 60 ∧ F P ∧ (∀ g, v.ownBlock = some g → F g) ∧ ∀ b, F b → P ≤ b ∧ b < X.heap.size
theorem PthI.stab (P : Nat) (T : List (List UInt8) → List (List UInt8)) : Stab (PthI P T) := fun _ _ _ _ ⟨v, h1, h2, h3, h4, h5, h6⟩ hc =>
  ⟨v, (hc.block P (h6 P h4).2 (fun h => h h4)).trans h1, wdT_keepB h2 (fun g hg => hc.block g (h6 g (h5 g hg)).2 (fun h => h (h5 g hg))), h3, h4, h5, fun b hb => ⟨(h6 b hb).1, Nat.lt_of_lt_of_le (h6 b hb).2 hc.size⟩⟩
theorem PthI.lts (P : Nat) (T : List (List UInt8) → List (List UInt8)) : Lts (PthI P T) := fun _ _ _ ⟨_, _, _, _, _, _, h6⟩ b hb => (h6 b hb).2
/-- What a builtin append is known to come to, at its place in a walk of a round. -/
theorem wpListIn_append_run {F : Fence} {n : Nat} {P : Program} {w : World} {ops : Array Oper} {rest : List Oper} {o : Oper} {a : Act} {Q : Exit → Act → World → Prop} (hgd : o.guard = none) (s x : Operand) (t : TypeId)
    (hop : o.op = .call { callee := .builtin .append, args := #[s, x], argTypes := #[t, t] }) (v y : Value) (hs : a.eval s = v) (hx : a.eval x = y) (v' : Value) (w' : World)
    (hr : (Builtin.append_ #[t, t] o.type #[v, y]).run P w = .ok v' w') (h : wpListIn F n P ops Q rest (a.put o.dst v') w') : wpListIn F n P ops Q (o :: rest) a w := by
  refine wpListIn_plain hgd fun K hK => ?_
  unfold Oper.wpIn
  refine ⟨?_, ?_⟩
  · simp [Oper.about, hop, resolve, Target.leads, Sem.run_pure]
  · rw [Oper.semAt_plain F _ _ (by rw [hop]; intro c hc'; cases hc')]
    simp [execOp, hop, resolve, invoke, builtin, hs, hx, hr, Result.andThen]
    exact hK _ _ h
set_option maxRecDepth 100000 in
set_option maxHeartbeats 6400000 in
theorem implPathsU (w : World) (a1 : Option Addr) (n1 c1 : Nat) (a2 : Option Addr) (n2 c2 : Nat) (d : FD) (h : FsR w (.slice a1 n1 c1) (.slice a2 n2 c2) d) (hs : sizeFs d ≤ 1048576) :
    Calls Tryz.prog 38 #[.agg #[.slice a1 n1 c1, .slice a2 n2 c2]] w (AnsNR w (pathsR d)) := by
  have HB0 : Hid (Below w.heap.size w ((w.alloc (.cells #[.slice a1 n1 c1, .slice a2 n2 c2] 32)).alloc (.cells #[.int .i64 0, .slice none 0 0] 68))) := later2 _ _ _
  have HX : Hid (Bx ((w.alloc (.cells #[.slice a1 n1 c1, .slice a2 n2 c2] 32)).alloc (.cells #[.int .i64 0, .slice none 0 0] 68)) w.heap.size [.slice a1 n1 c1, .slice a2 n2 c2]) := (Bx.new w [.slice a1 n1 c1, .slice a2 n2 c2] _).later (later1 _ _)
  have HRB : Hid (OwnRow ((w.alloc (.cells #[.slice a1 n1 c1, .slice a2 n2 c2] 32)).alloc (.cells #[.int .i64 0, .slice none 0 0] 68)) (w.heap.size + 1) 2 (fun i => if i = 0 then .int .i64 0 else .slice none 0 0)) := by
    have := OwnRow.newS (w.alloc (.cells #[.slice a1 n1 c1, .slice a2 n2 c2] 32)) (.int .i64 0) (.slice none 0 0) 68
    rw [World.size_alloc] at this
    exact this
  have HF : Hid (∀ W, Below w.heap.size w W → Calls Tryz.prog 30 #[.agg #[.slice a1 n1 c1, .slice a2 n2 c2]] W fun e w' => e = .returned (.int .i64 (fsF d)) ∧ Below W.heap.size W w') := fun W hW => implFsU W _ _ _ _ _ _ d (h.later hW) hs
  refine (callsIn_wide (n := 0)).1 ?_
  refine callsIn_of_wp_marks Tryz.func38 rfl trivial ?_ rfl
  simp only [Tryz.ntmps38, List.size_toArray, List.length_cons, List.length_nil, Nat.reduceAdd, Nat.reduceSub, Array.replicate_succ, Array.replicate_zero, List.push_toArray, List.append_toArray, List.nil_append, List.cons_append]
  by_cases hf : fsF d = 0
  rotate_left
  · have HRR : Hid (pathsR d = (fsF d, [])) := by unfold Hid pathsR; rw [if_neg hf]
    rw [HRR.out]
    have hb : (fsF d != 0) = true := by simpa using hf
    clear hf HRR h hs
    generalize fsF d = r at *
    gi_wp2
    generalize (((w.alloc (.cells #[.slice a1 n1 c1, .slice a2 n2 c2] 32)).alloc (.cells #[.int .i64 0, .slice none 0 0] 68))) = W0 at *
    refine ⟨trivial, rfl, callsIn_wide.2 ((HF.out _ HB0.out).mono ?_)⟩
    rintro e w1 ⟨rfl, hb1⟩
    have HB1 : Hid (Below w.heap.size w w1) := HB0.out.trans (hb1.mono HB0.out.size)
    have hrow := HRB.out.later hb1
    have t0 := hrow.cell (i := 0) (by omega)
    have t1 := hrow.cell (i := 1) (by omega)
    have s0 := hrow.frozen 0
    have s1 := hrow.frozen 1
    simp at t0 t1
    clear hb1 hrow
    gi_wp2
    exact ⟨.agg #[.int .i64 r, .slice none 0 0], by simp [results, Tryz.results38, go_sem, t0, t1], AnsNR.none' r HB1.out (by omega) _ _⟩
  · have hok := fsE_ok (fsF_E hf)
    have HRR : Hid (pathsR d = (0, (belL d.1 6 [] 0).take 60)) := by unfold Hid pathsR; rw [if_pos hf]
    rw [HRR.out]
    rw [hf] at HF
    obtain ⟨_, _, e1, -, hAI⟩ := h.1.open'
    simp only [Value.slice.injEq] at e1
    obtain ⟨rfl, rfl, rfl⟩ := e1
    have HAI : Hid (AtI w a1 d.1.length d.1) := hAI
    have HOK : Hid (FsOk d) := hok
    clear hf HRR h hs hok hAI
    generalize hn : d.1.length = n1 at *
    have HN : Hid (d.1.length = n1) := hn
    clear hn
    gi_wp2
    generalize (((w.alloc (.cells #[.slice a1 n1 c1, .slice a2 n2 c2] 32)).alloc (.cells #[.int .i64 0, .slice none 0 0] 68))) = W0 at *
    refine ⟨trivial, rfl, callsIn_wide.2 ((HF.out _ HB0.out).mono ?_)⟩
    rintro e w1 ⟨rfl, hb1⟩
    have HB1 : Hid (Below w.heap.size w w1) := HB0.out.trans (hb1.mono HB0.out.size)
    have HR1 : Hid (OwnRow w1 (w.heap.size + 1) 2 (fun i => if i = 0 then .int .i64 0 else .slice none 0 0)) := HRB.out.later hb1
    have hlw : w.heap.size + 1 < w1.heap.size := HR1.out.lt
    have x0 := (HX.out.later hb1) 0 _ rfl
    have hlw0 : w.heap.size < w1.heap.size := by omega
    clear hb1 HX HRB HB0 HF W0
    gi_wp2
    refine ⟨trivial, rfl, callsIn_wide.2 ((pathsBelow_any (w1.alloc (.cells #[.slice none 0 0] 62)) a1 n1 c1 0 0 (mkB [])).mono ?_)⟩
    rintro e w3 ⟨rfl, hb3, hs3, g1, g2, g3, g4⟩
    rw [World.size_alloc] at hb3 hs3 g1 g2 g3 g4
    rw [World.size_alloc]
    have HB2 : Hid (Below w1.heap.size w1 (w1.alloc (.cells #[.slice none 0 0] 62))) := later1 _ _
    have HB13 : Hid (Below w1.heap.size w1 w3) := HB2.out.trans (hb3.mono (by omega))
    have HB3 : Hid (Below w.heap.size w w3) := HB1.out.trans (HB13.out.mono HB1.out.size)
    have HP3 : Hid (Boxed w3 w1.heap.size 62 (.slice none 0 0)) := (hb3.block _ (by omega)).trans (Boxed.new w1 62 (.slice none 0 0))
    have HR3 : Hid (OwnRow w3 (w.heap.size + 1) 2 (fun i => if i = 0 then .int .i64 0 else .slice none 0 0)) := HR1.out.later HB13.out
    have HS3 : Hid (w3.heap.size = w1.heap.size + 1 + 4) := hs3
    have HG1 : Hid (_ = _) := g1
    have HG2 : Hid (_ = _) := g2
    have HG3 : Hid (_ = _) := g3
    have HG4 : Hid (_ = _) := g4
    clear hb3 hs3 g1 g2 g3 g4 x0
    gi_wp2
    refine wpIn_range_tells (gf := 99) (lb := #[.pointer (some ⟨w1.heap.size + 1 + 3, 0, none⟩), .pointer (some ⟨w1.heap.size + 1, 0, none⟩), .pointer (some ⟨w1.heap.size + 1 + 1, 0, none⟩), .pointer (some ⟨w1.heap.size + 1 + 2, 0, none⟩)]) rfl (enters_of Tryz.func99 (by kernel_rfl) rfl) (encs := encP) (xs := belL d.1 6 [] 0) (fun _ => rfl) (fun b => b = w1.heap.size) ?seq
      (PthI w1.heap.size (fun pre => pre)) (fun c pre G X => (c = .exit 0 ∧ 60 ≤ pre.length) ∧ PthI w1.heap.size (fun pre => pre.take 60) pre G X)
      (PthI.stab _ _) (PthI.lts _ _) (fun c s G X X' h hc => ⟨h.1, PthI.stab _ _ _ _ _ _ h.2 hc⟩) (fun c s G X h => PthI.lts _ _ _ _ _ h.2)
      ⟨_, HP3.out, WdT.nil _ _, by simp, rfl, fun g hg => by simp [Value.ownBlock] at hg, fun b hb => ⟨by omega, by have := HS3.out; omega⟩⟩
      (fun x => { tmps := #[.agg #[.slice a1 n1 c1, .slice a2 n2 c2], .pointer (some ⟨w.heap.size, 0, none⟩), .pointer (some ⟨w.heap.size + 1, 0, none⟩), .int .i64 0, .pointer (some ⟨w1.heap.size, 0, none⟩), .string (mkB x), .agg #[.slice a1 n1 c1, .slice a2 n2 c2], .int .i64 0, .int .i64 0, .bool false, undef, undef, .pointer (some ⟨w.heap.size, 0, none⟩), .slice a1 n1 c1, .func (.func 99) #[] #[.pointer (some ⟨w1.heap.size + 1 + 3, 0, none⟩), .pointer (some ⟨w1.heap.size + 1, 0, none⟩), .pointer (some ⟨w1.heap.size + 1 + 1, 0, none⟩), .pointer (some ⟨w1.heap.size + 1 + 2, 0, none⟩)], .string (mkB x), undef, undef, undef, undef, undef, undef, undef, undef, undef], defers := [] }) ?assign ?body ?done ?stop
    case seq =>
      intro X F1 hbX hsX hF1
      have hs3 := HS3.out
      have hno : ∀ b, w1.heap.size < b → b < w1.heap.size + 5 → ¬ F1 b := fun b h1 h2 h => by
        rcases (hF1 b).1 h with e | e | e <;> omega
      refine below1_tells w a1 n1 c1 d.1 HN.out HOK.out.rng HOK.out.ins (fun i => by rw [← entsOf_len]; exact HOK.out.six i) HAI.out 6 (by omega) 0 [] (by rw [← HN.out]; exact HOK.out.pos) (by simp) X F1 _ _ _ _ (HB3.out.trans (hbX.mono HB3.out.size)) (fun b hb => ?_) (cell_later hbX HG1.out) (cell_later hbX HG2.out) (cell_later hbX HG3.out) (cell_later hbX HG4.out) (hno _ (by omega) (by omega)) (hno _ (by omega) (by omega)) (hno _ (by omega) (by omega)) (hno _ (by omega) (by omega)) (by omega) (by omega) (by omega) (by omega)
      rcases (hF1 b).1 hb with e | e | e <;> omega
    case assign =>
      intro l x X K hK
      dsimp only [encP]
      gi_wp2
      simpa using hK
    case body =>
      rintro l' pre x F2 X ⟨v, q1, q2, q3, q4, q5, q6⟩ hc5 hn5 hsX hpx
      obtain ⟨av, cv, rfl⟩ := q2.shape
      have t4 := q1.cell
      have f4 := q1.frozen
      have l4 : w1.heap.size < X.heap.size := q1.lt
      have HQ : Hid (PthI w1.heap.size (fun pre => pre) pre F2 X) := ⟨_, q1, q2, q3, q4, q5, q6⟩
      by_cases h60 : pre.length = 60
      · have HT : Hid (PthI w1.heap.size (fun pre => pre.take 60) (pre ++ [x]) F2 X) := ⟨_, q1, by simpa [h60] using q2, by simp; omega, q4, q5, q6⟩
        have HLL : Hid (60 ≤ (pre ++ [x]).length) := by unfold Hid; simp; omega
        clear q1 q2 q3 q4 q5 q6 HQ hc5 hn5 hpx
        rw [h60] at t4
        gi_wp2
        exact ⟨F2, Chg.refl _ _, NewF.refl _ _, ⟨rfl, HLL.out⟩, HT.out⟩
      · have hd : ((pre.length : Int) == 60) = false := by simp; omega
        obtain ⟨v', X2, hr, hw', hg, hat⟩ := wdT_pushAt X (w1.heap.size + 1) (.slice av pre.length cv) pre x q2 (by omega) (by simp at q3; omega)
        obtain ⟨av', cv', hv'⟩ := hw'.shape
        have hrow := World.ownsRow.lt q2
        have hne : some w1.heap.size ≠ (Value.slice av pre.length cv).ownBlock := fun e => by have := (hrow _ e.symm).1; omega
        have hB2 : Boxed X2 w1.heap.size 62 (.slice av pre.length cv) := q1.kept hg hne
        have t5 := hB2.cell
        have f5 := hB2.frozen
        have hs2 := hg.size
        have HC2 : Hid (Chg F2 X X2) := ⟨hg.os, hg.tape, hg.output, hg.size, fun b hb hf => hg.block b hb (fun e => hf (q5 b e.symm))⟩
        have hrow' := World.ownsRow.lt hw'
        have HWD : Hid (WdT (X2.setCell ⟨w1.heap.size, 0, none⟩ v') (w1.heap.size + 1) v' (pre ++ [x])) := wdT_keepB hw' fun g hg => Below.heap_setCell _ _ _ _ (by have := (hrow' g hg).1; show g ≠ w1.heap.size; omega)
        have HFIN : Hid (∃ F', Chg F2 X (X2.setCell ⟨w1.heap.size, 0, none⟩ v') ∧ NewF F2 F' X.heap.size ∧ PthI w1.heap.size (fun pre => pre) (pre ++ [x]) F' (X2.setCell ⟨w1.heap.size, 0, none⟩ v')) := by
          refine ⟨fun b => F2 b ∨ v'.ownBlock = some b, HC2.out.set q4 0 v', fun b hb => ?_, _, hB2.set v', HWD.out, by simp at q3 ⊢; omega, Or.inl q4, fun g hg => Or.inr hg, fun b hb => ?_⟩
          · rcases hb with e | e
            · exact Or.inl e
            · rcases hat b e with e | e
              · exact Or.inl (q5 b e)
              · exact Or.inr e
          · simp only [World.size_setCell]
            rcases hb with e | e
            · have := q6 b e; omega
            · have := hrow' b e; omega
        clear q1 q2 q3 q4 q5 q6 HQ hc5 hn5 hpx hw' hg hat hrow hrow' hB2 hne HWD HC2
        have HRN : Hid (_ = _) := hr
        clear hr
        subst hv'
        gi_wp2_with (first | refine wpListIn_append_run rfl _ _ 62 rfl _ _ rfl rfl _ _ HRN.out ?_ | fail)
        have h9 := HFIN.out
        simp only [List.length_append, List.length_cons, List.length_nil, Nat.zero_add] at h9
        exact h9
    case done =>
      intro F2 X hI hc5 hn5 hnD hD
      have HI : Hid (PthI w1.heap.size (fun pre => pre) (belL d.1 6 [] 0) F2 X) := hI
      have HCC : Hid (Chg (fun b => b = w1.heap.size) w3 X) := hc5
      have HE : Hid ((belL d.1 6 [] 0).take 60 = belL d.1 6 [] 0) := by
        obtain ⟨_, _, _, h3, _⟩ := hI
        exact List.take_of_length_le h3
      clear hI hc5 hn5
      generalize belL d.1 6 [] 0 = ys at *
      obtain ⟨v, q1, q2, q3, q4, q5, q6⟩ := HI.out
      obtain ⟨av, cv, rfl⟩ := q2.shape
      have HWN : Hid (Below w.heap.size w X) := HB3.out.trans (HCC.out.below HB3.out.size (fun b hb => by subst hb; omega))
      have hrow : OwnRow X (w.heap.size + 1) 2 (fun i => if i = 0 then .int .i64 0 else .slice none 0 0) := HR3.out.block (HCC.out.block _ (by have := HS3.out; omega) (by omega))
      have t0 := hrow.cell (i := 0) (by omega)
      have t1 := hrow.cell (i := 1) (by omega)
      have s0 := hrow.frozen 0
      have s1 := hrow.frozen 1
      simp at t0 t1
      have t4 := q1.cell
      have l4 : w1.heap.size < X.heap.size := q1.lt
      have l5 : w.heap.size + 1 < X.heap.size := hrow.lt
      have HST : Hid (StrsO X (.slice av (ys).length cv) (ys) (fun b => w.heap.size ≤ b ∧ b < X.heap.size ∧ b ≠ w.heap.size + 1 ∧ b ≠ w3.heap.size)) := (wdT_ownF q2 (by omega) q5).mono fun b hb => ⟨by omega, hb.2.1, by omega, fun e => hnD (e ▸ hb.2.2)⟩
      have HROW : Hid (OwnRow X (w.heap.size + 1) 2 (fun i => if i = 0 then .int .i64 0 else .slice none 0 0)) := hrow
      have HD3 : Hid (w3.heap.size ≠ w.heap.size + 1) := by have := HS3.out; unfold Hid; omega
      have HDW : Hid (X.heap[w3.heap.size]? = some (.deferred (some []))) := hD
      clear q1 q2 q3 q4 q5 q6 hrow hD hnD
      generalize (ys).length = ln at *
      gi_wp2
      refine leaves_marks [w3.heap.size] _ (by simp) (fun D hDm => ?_) (fun W' hc' => ?_)
      · obtain rfl : D = w3.heap.size := by simpa using hDm
        rw [Below.heap_setCell _ _ _ _ HD3.out, Below.heap_setCell _ _ _ _ HD3.out]; exact HDW.out
      · have hm : ¬ (w.heap.size + 1) ∈ [w3.heap.size] := by simpa using HD3.out.symm
        have p0 := chg_cellP hc' (((HROW.out.set 0 _).set 1 _).cell (i := 0) (by omega)) hm
        have p1 := chg_cellP hc' (((HROW.out.set 0 _).set 1 _).cell (i := 1) (by omega)) hm
        simp at p0 p1
        have hs' := hc'.size
        simp only [World.size_setCell] at hs'
        have hs3 := HS3.out
        refine ⟨.agg #[.int .i64 0, .slice av ln cv], by simp [results, Tryz.results38, go_sem, p0, p1], ⟨av, ln, cv, rfl, ((HWN.out.setCell (p := ⟨w.heap.size + 1, 0, none⟩) (by show w.heap.size ≤ w.heap.size + 1; omega) _).setCell (p := ⟨w.heap.size + 1, 1, none⟩) (by show w.heap.size ≤ w.heap.size + 1; omega) _).trans (hc'.below (by simp only [World.size_setCell]; omega) (fun b hb => Nat.le_of_lt (by
          have h9 : b = w3.heap.size := by simpa using hb
          omega))), ?_⟩⟩
        show StrsO W' _ (List.take 60 ys) _
        rw [HE.out]
        refine (StrsO.chg (HST.out.keep fun b hb _ => ?_) hc' (fun b hb hm2 => hb.2.2.2 (by simpa using hm2))).mono fun b hb => ⟨hb.1, by omega⟩
        rw [Below.heap_setCell _ _ _ _ hb.2.2.1, Below.heap_setCell _ _ _ _ hb.2.2.1]
    case stop =>
      rintro c pre F2 X hpx ⟨⟨rfl, h60⟩, hI⟩ hc5 hn5 hnD hD
      have HCC : Hid (Chg (fun b => b = w1.heap.size) w3 X) := hc5
      have HI0 : Hid (PthI w1.heap.size (fun pre => pre.take 60) pre F2 X) := hI
      have HE : Hid ((belL d.1 6 [] 0).take 60 = pre.take 60) := by
        obtain ⟨r, hr⟩ := hpx
        unfold Hid
        rw [← hr, List.take_append_of_le_length h60]
      have HI : Hid (PthI w1.heap.size (fun pre => pre) (pre.take 60) F2 X) := HI0.out
      clear hI hc5 hn5 hpx h60 HI0
      generalize pre.take 60 = ys at *
      obtain ⟨v, q1, q2, q3, q4, q5, q6⟩ := HI.out
      obtain ⟨av, cv, rfl⟩ := q2.shape
      have HWN : Hid (Below w.heap.size w X) := HB3.out.trans (HCC.out.below HB3.out.size (fun b hb => by subst hb; omega))
      have hrow : OwnRow X (w.heap.size + 1) 2 (fun i => if i = 0 then .int .i64 0 else .slice none 0 0) := HR3.out.block (HCC.out.block _ (by have := HS3.out; omega) (by omega))
      have t0 := hrow.cell (i := 0) (by omega)
      have t1 := hrow.cell (i := 1) (by omega)
      have s0 := hrow.frozen 0
      have s1 := hrow.frozen 1
      simp at t0 t1
      have t4 := q1.cell
      have l4 : w1.heap.size < X.heap.size := q1.lt
      have l5 : w.heap.size + 1 < X.heap.size := hrow.lt
      have HST : Hid (StrsO X (.slice av (ys).length cv) (ys) (fun b => w.heap.size ≤ b ∧ b < X.heap.size ∧ b ≠ w.heap.size + 1 ∧ b ≠ w3.heap.size)) := (wdT_ownF q2 (by omega) q5).mono fun b hb => ⟨by omega, hb.2.1, by omega, fun e => hnD (e ▸ hb.2.2)⟩
      have HROW : Hid (OwnRow X (w.heap.size + 1) 2 (fun i => if i = 0 then .int .i64 0 else .slice none 0 0)) := hrow
      have HD3 : Hid (w3.heap.size ≠ w.heap.size + 1) := by have := HS3.out; unfold Hid; omega
      have HDW : Hid (X.heap[w3.heap.size]? = some (.deferred (some []))) := hD
      clear q1 q2 q3 q4 q5 q6 hrow hD hnD
      generalize (ys).length = ln at *
      gi_wp2
      refine leaves_marks [w3.heap.size] _ (by simp) (fun D hDm => ?_) (fun W' hc' => ?_)
      · obtain rfl : D = w3.heap.size := by simpa using hDm
        rw [Below.heap_setCell _ _ _ _ HD3.out, Below.heap_setCell _ _ _ _ HD3.out]; exact HDW.out
      · have hm : ¬ (w.heap.size + 1) ∈ [w3.heap.size] := by simpa using HD3.out.symm
        have p0 := chg_cellP hc' (((HROW.out.set 0 _).set 1 _).cell (i := 0) (by omega)) hm
        have p1 := chg_cellP hc' (((HROW.out.set 0 _).set 1 _).cell (i := 1) (by omega)) hm
        simp at p0 p1
        have hs' := hc'.size
        simp only [World.size_setCell] at hs'
        have hs3 := HS3.out
        refine ⟨.agg #[.int .i64 0, .slice av ln cv], by simp [results, Tryz.results38, go_sem, p0, p1], ⟨av, ln, cv, rfl, ((HWN.out.setCell (p := ⟨w.heap.size + 1, 0, none⟩) (by show w.heap.size ≤ w.heap.size + 1; omega) _).setCell (p := ⟨w.heap.size + 1, 1, none⟩) (by show w.heap.size ≤ w.heap.size + 1; omega) _).trans (hc'.below (by simp only [World.size_setCell]; omega) (fun b hb => Nat.le_of_lt (by
          have h9 : b = w3.heap.size := by simpa using hb
          omega))), ?_⟩⟩
        show StrsO W' _ (List.take 60 (belL d.1 6 [] 0)) _
        rw [HE.out]
        refine (StrsO.chg (HST.out.keep fun b hb _ => ?_) hc' (fun b hb hm2 => hb.2.2.2 (by simpa using hm2))).mono fun b hb => ⟨hb.1, by omega⟩
        rw [Below.heap_setCell _ _ _ _ hb.2.2.1, Below.heap_setCell _ _ _ _ hb.2.2.1]
end Go.Proofs.YtlohgnidbkechaaGreatDoor

namespace Go.Proofs.YtlohgnidbkechaaGreatDoor
open Go.RowKit
set_option maxRecDepth 100000

theorem rowVL (w : World) (vs : List Value) (t : TypeId) : OwnRow (w.alloc (.cells vs.toArray t)) w.heap.size vs.length (fun i => vs[i]?.getD (.int .i64 0)) := by
  refine ⟨_, t, Go.Deep.blk_alloc_new _ _, by simp, fun i hi => ?_⟩
  simp [hi]

def cel (vs : List Value) (i : Nat) : Value := vs[i]?.getD (.int .i64 0)
theorem newCel (w : World) (vs : List Value) (t : TypeId) : OwnRow (w.alloc (.cells vs.toArray t)) w.heap.size vs.length (cel vs) := rowVL w vs t
end Go.Proofs.YtlohgnidbkechaaGreatDoor

namespace Go.Proofs.YtlohgnidbkechaaGreatDoor
open Go.RowKit
set_option maxRecDepth 100000

theorem field_nrs (z : Int) (a : Option Addr) (n c : Nat) (w : World) : (Instr.field 68 (.agg #[.int .i64 z, .slice a n c]) 1).run Tryz.prog w = .ok (.slice a n c) w := by kernel_rfl
theorem field_irs (x y : Int) (w : World) : (Instr.field 102 (.agg #[.int .i64 x, .int .i64 y]) 1).run Tryz.prog w = .ok (.int .i64 y) w := by kernel_rfl
set_option maxHeartbeats 3200000 in
theorem leadsTo_any (w : World) (a1 : Option Addr) (n1 c1 : Nat) (a2 : Option Addr) (n2 c2 : Nat) (d : FD) (p : List UInt8) (h : FsR w (.slice a1 n1 c1) (.slice a2 n2 c2) d) (hf : fsF d = 0) (hgl : Gl w) (hp : p ∈ toldL d) :
    Calls Tryz.prog 40 #[.agg #[.slice a1 n1 c1, .slice a2 n2 c2], .string (mkB p)] w fun e w' => e = .returned (.int .i64 (leadW d p).2) ∧ Below w.heap.size w w' := by
  have hok := fsE_ok (fsF_zero hf)
  obtain ⟨hp0, hsp, hp30⟩ := told_ok hok.ins hp
  have HS : Hid (∀ W, Calls Tryz.prog 68 #[.string (mkB p)] W fun e w' => ∃ a c, e = .returned (.agg #[.int .i64 0, .slice a (cutB (p.drop 1)).length c]) ∧ Below W.heap.size W w' ∧ AtT w' a (cutB (p.drop 1)).length (cutB (p.drop 1))) := fun W => by
    have := implSplit_any W p (by omega)
    rw [hp0, hsp] at this
    refine this.mono ?_
    rintro e w' ⟨a, c, h1, h2⟩
    unfold Spl at h2
    rw [hsp] at h2
    exact ⟨a, c, h1, h2.1, h2.2.1⟩
  have HW : Hid (∀ W aN cN, Below w.heap.size w W → AtT W aN (cutB (p.drop 1)).length (cutB (p.drop 1)) → Calls Tryz.prog 67 #[.agg #[.slice a1 n1 c1, .slice a2 n2 c2], .slice aN (cutB (p.drop 1)).length cN] W fun e w' => e = .returned (.agg #[.int .i64 (leadW d p).1, .int .i64 (leadW d p).2]) ∧ Below W.heap.size W w') := fun W aN cN hW hat => by
    have h2 := h.later hW
    obtain ⟨_, _, e1, _, hAt⟩ := h2.1.open'
    simp only [Value.slice.injEq] at e1
    obtain ⟨rfl, rfl, rfl⟩ := e1
    exact walkNames_any W _ _ c1 _ a2 n2 c2 rfl aN _ cN (cutB (p.drop 1)) rfl (by have := cutB_len (p.drop 1); rw [List.length_drop] at this; omega) d.1 rfl hok.ten hok.pos hok.rng (ents_six hok) (hgl.later hW) hat hAt
  have HX : Hid (Bx (w.alloc (.cells #[.slice a1 n1 c1, .slice a2 n2 c2] 32)) w.heap.size [.slice a1 n1 c1, .slice a2 n2 c2]) := Bx.new w [.slice a1 n1 c1, .slice a2 n2 c2] _
  have x0 := HX.out 0 _ rfl
  have x1 := HX.out 1 _ rfl
  have hf1 := field_nrs
  have hf2 := field_irs
  clear h hf hgl hp hok hp0 hsp hp30
  generalize (leadW d p).1 = lc at *
  generalize (leadW d p).2 = lv at *
  generalize (cutB (p.drop 1)).length = N at *
  generalize mkB p = s at *
  go_enter Tryz.func40, Tryz.ntmps40
  go_wp2_with fail
  go_region_with (first
    | (go_at_call 68; refine (HS.out _).mono ?_; rintro e w1 ⟨a, c, rfl, hb, hat⟩
       have HB1 : Hid (Below w.heap.size w w1) := (later1 w _).drew.trans (hb.mono (by simp))
       have HAT : Hid (AtT w1 a N _) := hat
       have y0 := (HX.out.later ((Below.refl _ _).drew.trans hb)) 0 _ rfl
       have y1 := (HX.out.later ((Below.refl _ _).drew.trans hb)) 1 _ rfl
       clear hb hat)
    | (go_at_call 67; refine (HW.out _ _ _ HB1.out HAT.out).mono ?_; rintro e w2 ⟨rfl, hb⟩
       have HB2 : Hid (Below w.heap.size w w2) := HB1.out.trans (hb.mono HB1.out.size)
       clear hb))
  all_goals
    go_wp2
    go_ret
    exact ⟨rfl, HB2.out⟩

def pathT (d : FD) (x : Int) : Int × ByteArray := ((pathR d x).1, mkB (pathR d x).2)
theorem told_mem (d : FD) (k : Nat) (_hk : k < (toldL d).length) : (toldL d)[k]?.getD [] ∈ toldL d := by
  rw [List.getElem?_eq_getElem _hk]; exact List.getElem_mem _hk

set_option maxHeartbeats 6400000 in
theorem implPathU (w : World) (a1 : Option Addr) (n1 c1 : Nat) (a2 : Option Addr) (n2 c2 : Nat) (d : FD) (x : Int) (h : FsR w (.slice a1 n1 c1) (.slice a2 n2 c2) d) (hs : sizeFs d ≤ 1048576) (hgl : Gl w) :
    Calls Tryz.prog 14 #[.agg #[.slice a1 n1 c1, .slice a2 n2 c2], .int .i64 x] w fun e w' => e = .returned (.agg #[.int .i64 (pathT d x).1, .string (pathT d x).2]) ∧ Below w.heap.size w w' := by
  have HF : Hid (∀ W, Below w.heap.size w W → Calls Tryz.prog 38 #[.agg #[.slice a1 n1 c1, .slice a2 n2 c2]] W (AnsNR W (pathsR d))) := fun W hW => implPathsU W _ _ _ _ _ _ d (h.later hW) hs
  have HPA : Hid (fsF d = 0 → pathsR d = (0, toldL d)) := fun hf => by unfold pathsR; rw [if_pos hf]; rfl
  have HPC : Hid (¬ fsF d = 0 → pathsR d = (fsF d, [])) := fun hf => by unfold pathsR; rw [if_neg hf]
  have HQ : Hid (∀ W, Below w.heap.size w W → Calls Tryz.prog 39 #[.agg #[.slice a1 n1 c1, .slice a2 n2 c2], .int .i64 x] W fun e w' => e = .returned (.bool (decide (0 ≤ x ∧ x < (n1 : Int)))) ∧ Below W.heap.size W w') := fun W _ => isInode_any W _ _ _ _ _ _ _
  have hn1 : n1 = d.1.length := by obtain ⟨_, _, e1, _, _⟩ := h.1.open'; simp only [Value.slice.injEq] at e1; exact e1.2.1
  have HLT : Hid (fsF d = 0 → ∀ W, Below w.heap.size w W → ∀ k, k < (toldL d).length → Calls Tryz.prog 40 #[.agg #[.slice a1 n1 c1, .slice a2 n2 c2], .string (mkB ((toldL d)[k]?.getD []))] W fun e w' => e = .returned (.int .i64 (leadW d ((toldL d)[k]?.getD [])).2) ∧ Below W.heap.size W w') := fun hf W hW k hk => leadsTo_any W _ _ _ _ _ _ d _ (h.later hW) hf (hgl.later hW) (told_mem d k hk)
  have HL60 : Hid ((toldL d).length ≤ 60) := by unfold Hid toldL; rw [List.length_take]; omega
  have HRC : Hid (¬ fsF d = 0 → pathT d x = (fsF d, ⟨#[]⟩)) := fun hf => by unfold pathT pathR; rw [if_neg hf]; rfl
  have HRQ : Hid (fsF d = 0 → ¬ (0 ≤ x ∧ x < (n1 : Int)) → pathT d x = (3, ⟨#[]⟩)) := fun hf h1 => by unfold pathT pathR pathQ; rw [if_pos hf, if_neg (by rw [← hn1]; exact h1)]; rfl
  have HRT : Hid (fsF d = 0 → (0 ≤ x ∧ x < (n1 : Int)) → x = 0 → pathT d x = (0, ⟨#[47]⟩)) := fun hf h1 h2 => by unfold pathT pathR pathQ; rw [if_pos hf, if_pos (by rw [← hn1]; exact h1), if_pos h2]; rfl
  have HRH : Hid (fsF d = 0 → (0 ≤ x ∧ x < (n1 : Int)) → ¬ x = 0 → ∀ j, j < (toldL d).length → (∀ i, i < j → ¬ (leadW d ((toldL d)[i]?.getD [])).2 = x) → (leadW d ((toldL d)[j]?.getD [])).2 = x → pathT d x = (0, mkB ((toldL d)[j]?.getD []))) := fun hf h1 h2 j hj h3 h4 => by
    unfold pathT pathR pathQ
    rw [if_pos hf, if_pos (by rw [← hn1]; exact h1), if_neg h2, findP_hit (toldL d) j hj (fun i hi => by rw [leadB_two _ _ _ h2]; exact decide_eq_false (h3 i hi)) (by rw [leadB_two _ _ _ h2]; exact decide_eq_true h4)]
  have HRM : Hid (fsF d = 0 → (0 ≤ x ∧ x < (n1 : Int)) → ¬ x = 0 → (∀ i, i < (toldL d).length → ¬ (leadW d ((toldL d)[i]?.getD [])).2 = x) → pathT d x = (4, ⟨#[]⟩)) := fun hf h1 h2 h3 => by
    unfold pathT pathR pathQ
    rw [if_pos hf, if_pos (by rw [← hn1]; exact h1), if_neg h2, findP_miss (toldL d) (fun i hi => by rw [leadB_two _ _ _ h2]; exact decide_eq_false (h3 i hi))]
    rfl
  clear h hs hgl
  generalize pathT d x = RES at *
  generalize pathsR d = PR at *
  generalize hld : (fun p => (leadW d p).2) = LD at *
  have HLD : Hid (∀ p, (leadW d p).2 = LD p) := fun p => by rw [← hld]
  simp only [HLD.out] at HLT HRH HRM
  clear hld HLD
  generalize toldL d = ps at *
  generalize fsF d = r at *
  clear hn1
  have HB0 : Hid (Below w.heap.size w ((w.alloc (.cells #[.slice a1 n1 c1, .slice a2 n2 c2] 32)).alloc (.cells #[.int .i64 0, .string ⟨#[]⟩] 28))) := later2 _ _ _
  have HX0 : Hid (Bx ((w.alloc (.cells #[.slice a1 n1 c1, .slice a2 n2 c2] 32)).alloc (.cells #[.int .i64 0, .string ⟨#[]⟩] 28)) (w.heap.size) [.slice a1 n1 c1, .slice a2 n2 c2]) := (Bx.new w [.slice a1 n1 c1, .slice a2 n2 c2] _).later (later1 _ _)
  have HR0 : Hid (OwnRow ((w.alloc (.cells #[.slice a1 n1 c1, .slice a2 n2 c2] 32)).alloc (.cells #[.int .i64 0, .string ⟨#[]⟩] 28)) (w.heap.size + 1) 2 (cel [.int .i64 0, .string ⟨#[]⟩])) := (show OwnRow ((w.alloc (.cells #[.slice a1 n1 c1, .slice a2 n2 c2] 32)).alloc (.cells #[.int .i64 0, .string ⟨#[]⟩] 28)) (w.heap.size + 1) 2 (cel [.int .i64 0, .string ⟨#[]⟩]) from by have := newCel (w.alloc (.cells #[.slice a1 n1 c1, .slice a2 n2 c2] 32)) [.int .i64 0, .string ⟨#[]⟩] 28; rw [World.size_alloc] at this; exact this)
  go_enter Tryz.func14, Tryz.ntmps14
  have xHX0 := HX0.out 0 _ rfl
  have xHX1 := HX0.out 1 _ rfl
  go_wp2_with fail
  clear xHX0 xHX1
  by_cases hf : r = 0
  · skip
    have HPE : Hid (PR = (0, ps)) := HPA.out hf
    rw [HPE.out] at HF
    refine (HF.out _ HB0.out).mono ?_
    rintro e w1 ⟨av, nv, cv, rfl, hb, ho⟩
    obtain ⟨_, _, ev, _, hat⟩ := ho.reads
    simp only [Value.slice.injEq] at ev
    obtain ⟨rfl, rfl, rfl⟩ := ev
    have HAT : Hid (AtT w1 av ps.length ps) := hat
    clear ho hat
    have HB1 : Hid (Below w.heap.size w w1) := HB0.out.trans (hb.mono HB0.out.size)
    have HX1 : Hid (Bx w1 (w.heap.size) [.slice a1 n1 c1, .slice a2 n2 c2]) := HX0.out.later hb
    have HR1 : Hid (OwnRow w1 (w.heap.size + 1) 2 (cel [.int .i64 0, .string ⟨#[]⟩])) := HR0.out.later hb
    clear hb
    have hb := later1 w1 (.cells #[.int .i64 0, .slice av ps.length cv] 68)
    have HN1 : Hid (AtT w1 av ps.length ps) := HAT.out
    clear HAT
    have HB2 : Hid (Below w.heap.size w (w1.alloc (.cells #[.int .i64 0, .slice av ps.length cv] 68))) := HB1.out.trans (hb.mono HB1.out.size)
    have HX2 : Hid (Bx (w1.alloc (.cells #[.int .i64 0, .slice av ps.length cv] 68)) (w.heap.size) [.slice a1 n1 c1, .slice a2 n2 c2]) := HX1.out.later hb
    have HR2 : Hid (OwnRow (w1.alloc (.cells #[.int .i64 0, .slice av ps.length cv] 68)) (w.heap.size + 1) 2 (cel [.int .i64 0, .string ⟨#[]⟩])) := HR1.out.later hb
    have HN2 : Hid (AtT (w1.alloc (.cells #[.int .i64 0, .slice av ps.length cv] 68)) av ps.length ps) := HN1.out.later hb
    clear hb
    have HT2 : Hid (Bx (w1.alloc (.cells #[.int .i64 0, .slice av ps.length cv] 68)) w1.heap.size [.int .i64 0, .slice av ps.length cv]) := Bx.new w1 [.int .i64 0, .slice av ps.length cv] _
    have hlw1 := HR1.out.lt
    have xHX0 := HX2.out 0 _ rfl
    have xHX1 := HX2.out 1 _ rfl
    have xHT0 := HT2.out 0 _ rfl
    go_wp2_with fail
    clear xHX0 xHX1 xHT0
    generalize hW2 : (w1.alloc (.cells #[.int .i64 0, .slice av ps.length cv] 68)) = w2 at *
    clear hW2
    have hw12 : w1.heap.size < w2.heap.size := HT2.out.lt
    refine (HQ.out _ HB2.out).mono ?_
    rintro e w3 ⟨rfl, hb⟩
    have HB3 : Hid (Below w.heap.size w w3) := HB2.out.trans (hb.mono HB2.out.size)
    have HX3 : Hid (Bx w3 (w.heap.size) [.slice a1 n1 c1, .slice a2 n2 c2]) := HX2.out.later hb
    have HR3 : Hid (OwnRow w3 (w.heap.size + 1) 2 (cel [.int .i64 0, .string ⟨#[]⟩])) := HR2.out.later hb
    have HN3 : Hid (AtT w3 av ps.length ps) := HN2.out.later hb
    have HT3 : Hid (Bx w3 w1.heap.size [.int .i64 0, .slice av ps.length cv]) := HT2.out.later hb
    clear hb
    by_cases hq : 0 ≤ x ∧ x < (n1 : Int)
    · skip
      have hqb : decide (0 ≤ x ∧ x < (n1 : Int)) = true := by simpa using hq
      by_cases h0 : x = 0
      · skip
        have h0b : (x == 0) = true := by simpa using h0
        have HE : Hid (RES = (0, ⟨#[47]⟩)) := HRT.out hf hq h0
        have hrr := HR3.out
        have t0 : w3.cell? ⟨w.heap.size + 1, 0, none⟩ = some (.int .i64 0) := hrr.cell (i := 0) (by omega)
        have t1 : w3.cell? ⟨w.heap.size + 1, 1, none⟩ = some (.string ⟨#[]⟩) := hrr.cell (i := 1) (by omega)
        have f0 := hrr.frozen 0
        have f1 := hrr.frozen 1
        have hlr := hrr.lt
        clear hrr
        rw [hqb]
        clear hq h0 hqb
        go_wp2
        exact bodyPost_ret (v := .agg #[.int .i64 0, .string ⟨#[47]⟩]) (by simp [results, Tryz.results14, go_sem, t0, t1]) rfl (⟨by rw [HE.out], ((HB3.out).setCell (by first | omega | (simp <;> omega)) _).setCell (by first | omega | (simp <;> omega)) _⟩)
      · skip
        have h0b : (x == 0) = false := by simpa using h0
        have HH : Hid (∀ j, j < ps.length → (∀ i, i < j → ¬ LD (ps[i]?.getD []) = x) → LD (ps[j]?.getD []) = x → RES = (0, mkB (ps[j]?.getD []))) := HRH.out hf hq h0
        have HM : Hid ((∀ i, i < ps.length → ¬ LD (ps[i]?.getD []) = x) → RES = (4, ⟨#[]⟩)) := HRM.out hf hq h0
        have HLL : Hid (∀ W, Below w.heap.size w W → ∀ k, k < ps.length → Calls Tryz.prog 40 #[.agg #[.slice a1 n1 c1, .slice a2 n2 c2], .string (mkB (ps[k]?.getD []))] W fun e w' => e = .returned (.int .i64 (LD (ps[k]?.getD []))) ∧ Below W.heap.size W w') := HLT.out hf
        have hl60 := HL60.out
        rw [hqb]
        clear hq h0 HRH HRM HLT HRT HRQ HRC HPA HPC HF HQ HPE hqb
        obtain ⟨N, hN⟩ : ∃ N, ps.length = N := ⟨_, rfl⟩
        rw [hN] at HH HM HLL HN3 HT3 hl60 ⊢
        have xHT1 := HT3.out 1 _ rfl
        clear hN
        go_wp2
        go_loopw [27] (fun i wr => ∃ j : Nat, j ≤ N ∧ i = .int .i64 j ∧ Below w3.heap.size w3 wr ∧ ∀ i, i < j → ¬ LD (ps[i]?.getD []) = x) (fun i _ => N - (intOf i).toNat)
        case atStart => exact ⟨0, Nat.zero_le _, rfl, Below.refl _ _, fun i hi => by omega⟩
        case round =>
          obtain ⟨j, hj, rfl, hb, hz⟩ := hrel
          have HBL : Hid (Below w3.heap.size w3 wr) := hb
          have HZ : Hid (∀ i, i < j → ¬ LD (ps[i]?.getD []) = x) := hz
          clear hz xHT1
          have HB4 : Hid (Below w.heap.size w wr) := HB3.out.trans (hb.mono HB3.out.size)
          have HX4 : Hid (Bx wr (w.heap.size) [.slice a1 n1 c1, .slice a2 n2 c2]) := HX3.out.later hb
          have HR4 : Hid (OwnRow wr (w.heap.size + 1) 2 (cel [.int .i64 0, .string ⟨#[]⟩])) := HR3.out.later hb
          have HN4 : Hid (AtT wr av N ps) := HN3.out.later hb
          have HT4 : Hid (Bx wr w1.heap.size [.int .i64 0, .slice av N cv]) := HT3.out.later hb
          clear hb
          by_cases hlt : j < N
          · skip
            obtain ⟨b1, o1, rfl, k0⟩ := HN4.out j hlt
            replace k0 : wr.cell? ⟨b1, o1 + j, none⟩ = some (.string (mkB (ps[j]?.getD []))) := k0
            have HC := HLL.out wr HB4.out j hlt
            have HC' : Hid (Calls Tryz.prog 40 _ wr _) := HC
            have HHJ : Hid (LD (ps[j]?.getD []) = x → RES = (0, mkB (ps[j]?.getD []))) := HH.out j hlt HZ.out
            have HZN : Hid (¬ LD (ps[j]?.getD []) = x → ∀ i, i < j + 1 → ¬ LD (ps[i]?.getD []) = x) := fun hn i hi => by
              by_cases e : i = j
              · subst e; exact hn
              · exact HZ.out i (by omega)
            clear HC HZ
            generalize LD (ps[j]?.getD []) = lv at *
            generalize mkB (ps[j]?.getD []) = s at *
            have xHX0 := HX4.out 0 _ rfl
            have xHX1 := HX4.out 1 _ rfl
            go_wp2_with fail
            clear xHX0 xHX1
            refine HC'.out.mono ?_
            rintro e w5 ⟨rfl, hb⟩
            have HBR : Hid (Below w3.heap.size w3 w5) := HBL.out.trans (hb.mono HBL.out.size)
            have HB5 : Hid (Below w.heap.size w w5) := HB4.out.trans (hb.mono HB4.out.size)
            have HX5 : Hid (Bx w5 (w.heap.size) [.slice a1 n1 c1, .slice a2 n2 c2]) := HX4.out.later hb
            have HR5 : Hid (OwnRow w5 (w.heap.size + 1) 2 (cel [.int .i64 0, .string ⟨#[]⟩])) := HR4.out.later hb
            have HN5 : Hid (AtT w5 (some ⟨b1, o1, none⟩) N ps) := HN4.out.later hb
            have HT5 : Hid (Bx w5 w1.heap.size [.int .i64 0, .slice (some ⟨b1, o1, none⟩) N cv]) := HT4.out.later hb
            clear hb
            by_cases hl : lv = x
            · skip
              have hlb : (lv == x) = true := by simpa using hl
              have HE : Hid (RES = (0, s)) := HHJ.out hl
              have hrr := HR5.out
              have t0 : w5.cell? ⟨w.heap.size + 1, 0, none⟩ = some (.int .i64 0) := hrr.cell (i := 0) (by omega)
              have t1 : w5.cell? ⟨w.heap.size + 1, 1, none⟩ = some (.string ⟨#[]⟩) := hrr.cell (i := 1) (by omega)
              have f0 := hrr.frozen 0
              have f1 := hrr.frozen 1
              have hlr := hrr.lt
              clear hrr
              clear hl
              go_wp2
              exact bodyPost_ret (v := .agg #[.int .i64 0, .string s]) (by simp [results, Tryz.results14, go_sem, t0, t1]) rfl (⟨by rw [HE.out], ((HB5.out).setCell (by first | omega | (simp <;> omega)) _).setCell (by first | omega | (simp <;> omega)) _⟩)
            · skip
              have hlb : (lv == x) = false := by simpa using hl
              have HZ2 : Hid _ := HZN.out hl
              clear hl
              go_wp2
              go_roundw
              case rel => exact ⟨j + 1, by omega, by go_num, HBR.out, HZ2.out⟩
              case measure => simp [intOf]; omega
          · skip
            have HE : Hid (RES = (4, ⟨#[]⟩)) := HM.out fun i hi => HZ.out i (by omega)
            have hrr := HR4.out
            have t0 : wr.cell? ⟨w.heap.size + 1, 0, none⟩ = some (.int .i64 0) := hrr.cell (i := 0) (by omega)
            have t1 : wr.cell? ⟨w.heap.size + 1, 1, none⟩ = some (.string ⟨#[]⟩) := hrr.cell (i := 1) (by omega)
            have f0 := hrr.frozen 0
            have f1 := hrr.frozen 1
            have hlr := hrr.lt
            clear hrr
            go_wp2
            exact bodyPost_ret (v := .agg #[.int .i64 4, .string ⟨#[]⟩]) (by simp [results, Tryz.results14, go_sem, t0, t1]) rfl (⟨by rw [HE.out], ((HB4.out).setCell (by first | omega | (simp <;> omega)) _).setCell (by first | omega | (simp <;> omega)) _⟩)
    · skip
      have hqb : decide (0 ≤ x ∧ x < (n1 : Int)) = false := by simpa using hq
      have HE : Hid (RES = (3, ⟨#[]⟩)) := HRQ.out hf hq
      rw [hqb]
      clear hq hqb
      have hrr := HR3.out
      have t0 : w3.cell? ⟨w.heap.size + 1, 0, none⟩ = some (.int .i64 0) := hrr.cell (i := 0) (by omega)
      have t1 : w3.cell? ⟨w.heap.size + 1, 1, none⟩ = some (.string ⟨#[]⟩) := hrr.cell (i := 1) (by omega)
      have f0 := hrr.frozen 0
      have f1 := hrr.frozen 1
      have hlr := hrr.lt
      clear hrr
      go_wp2
      exact bodyPost_ret (v := .agg #[.int .i64 3, .string ⟨#[]⟩]) (by simp [results, Tryz.results14, go_sem, t0, t1]) rfl (⟨by rw [HE.out], ((HB3.out).setCell (by first | omega | (simp <;> omega)) _).setCell (by first | omega | (simp <;> omega)) _⟩)
  · skip
    have hbb : (r != 0) = true := by simpa using hf
    have HE : Hid (RES = (r, ⟨#[]⟩)) := HRC.out hf
    have HPE : Hid (PR = (r, [])) := HPC.out hf
    rw [HPE.out] at HF
    refine (HF.out _ HB0.out).mono ?_
    rintro e w1 ⟨av, nv, cv, rfl, hb, -⟩
    have HB1 : Hid (Below w.heap.size w w1) := HB0.out.trans (hb.mono HB0.out.size)
    have HX1 : Hid (Bx w1 (w.heap.size) [.slice a1 n1 c1, .slice a2 n2 c2]) := HX0.out.later hb
    have HR1 : Hid (OwnRow w1 (w.heap.size + 1) 2 (cel [.int .i64 0, .string ⟨#[]⟩])) := HR0.out.later hb
    clear hb
    have hrr := HR1.out
    have t0 : w1.cell? ⟨w.heap.size + 1, 0, none⟩ = some (.int .i64 0) := hrr.cell (i := 0) (by omega)
    have t1 : w1.cell? ⟨w.heap.size + 1, 1, none⟩ = some (.string ⟨#[]⟩) := hrr.cell (i := 1) (by omega)
    have f0 := hrr.frozen 0
    have f1 := hrr.frozen 1
    have hlr := hrr.lt
    clear hrr
    go_wp2
    exact bodyPost_ret (v := .agg #[.int .i64 r, .string ⟨#[]⟩]) (by simp [results, Tryz.results14, go_sem, t0, t1, hlr]) rfl (⟨by rw [HE.out], (((HB1.out).setCell (by first | omega | (simp <;> omega)) _).setCell (by first | omega | (simp <;> omega)) _).alloc (by have := (HB1.out).size; simpa using this) _⟩)

end Go.Proofs.YtlohgnidbkechaaGreatDoor

namespace Go.Proofs.YtlohgnidbkechaaGreatDoor
open Go.RowKit
set_option maxRecDepth 100000

theorem any_drop {l : List Int} {k : Nat} {a : Int} {p : Int → Bool} (h : l[k]? = some a) : (l.drop k).any p = (p a || (l.drop (k + 1)).any p) := by
  obtain ⟨hk, e⟩ := List.getElem?_eq_some_iff.1 h
  rw [List.drop_eq_getElem_cons hk, e]; rfl
end Go.Proofs.YtlohgnidbkechaaGreatDoor

namespace Go.Proofs.YtlohgnidbkechaaGreatDoor
open Go.RowKit
set_option maxRecDepth 100000

set_option maxHeartbeats 6400000 in
theorem l9Below_any (b : Nat) (d : FD) (b0 o0 cI : Nat) (aD : Option Addr) (cD : Nat) (hok : FsOk d) :
    ∀ (k : Nat), k ≤ 6 → ∀ (t : Nat) (ah : List UInt8), t < d.1.length → ah.length + 5 * k ≤ 30 → ∀ (w : World), FsX w b 0 d (some ⟨b0, o0, none⟩) cI aD cD →
      Calls Tryz.prog 64 #[.pointer (some ⟨b, 0, none⟩), .int .i64 (t : Int), .string (mkB ah), .int .i64 (k : Int)] w fun e w' => ∃ v, e = .returned v ∧ v ≠ .slice none 0 0 ∧ Below w.heap.size w w' ∧ WdT w' w.heap.size v (belL d.1 k ah t) := by
  intro k
  induction k with
  | zero =>
    intro _ t ah ht _ w _
    have hg : decide ((0 : Int) < ((0 : Nat) : Int)) = false := by simp
    have HW : Hid (WdT (w.alloc (.cells #[] 9)) w.heap.size (.slice (some ⟨w.heap.size, 0, none⟩) 0 0) []) := World.ownsRow_lit w #[] 0 (Nat.le_refl _) (by simp) rfl
    have HL : Hid (belL d.1 0 ah t = []) := rfl
    rw [HL.out]
    go_enter Tryz.func64, Tryz.ntmps64
    go_wp2_with fail
    refine wp_loop_rounds 1 ?_
    rw [rounds_succ]
    go_wp2
    go_ret
    exact ⟨_, rfl, by simp, later1 _ _, HW.out⟩
  | succ k ih =>
    intro hk6 t ah ht hah w hx
    have HIH : Hid (∀ (W : World) (u : Nat) (p : List UInt8), Below w.heap.size w W → u < d.1.length → p.length + 5 * k ≤ 30 → Calls Tryz.prog 64 #[.pointer (some ⟨b, 0, none⟩), .int .i64 (u : Int), .string (mkB p), .int .i64 (k : Int)] W fun e w' => ∃ v, e = .returned v ∧ v ≠ .slice none 0 0 ∧ Below W.heap.size W w' ∧ WdT w' W.heap.size v (belL d.1 k p u)) := fun W u p hW hu hp => ih (by omega) u p hu hp W (hx.later hW)
    have HX : Hid (FsX w b 0 d (some ⟨b0, o0, none⟩) cI aD cD) := hx
    have HR : Hid (belL d.1 (k + 1) ah t = belK d.1 k ah t (d.1[t]?.getD id0).2.2.2.2.length) := (belK_all d.1 k ah t).symm
    rw [HR.out]
    have f0 := hx.c0
    obtain ⟨_, _, e1, -, hAt⟩ := hx.ins.open'
    simp only [Value.slice.injEq] at e1
    obtain ⟨rfl, -, rfl⟩ := e1
    have HAT : Hid (∀ W, Below w.heap.size w W → AtI W (some ⟨b0, o0, none⟩) d.1.length d.1) := fun W hW => AtI.later hAt hW
    obtain ⟨_, _, e2, hIt⟩ := hAt t ht
    simp only [Option.some.injEq, Addr.mk.injEq, and_true] at e2
    obtain ⟨rfl, rfl⟩ := e2
    obtain ⟨aB, cB, aE, cE, -, -, -, -, c4, h5⟩ := hIt
    obtain ⟨_, _, e3, -, -, hEt⟩ := h5.2.2.open'
    simp only [Value.slice.injEq] at e3
    obtain ⟨rfl, -, rfl⟩ := e3
    have HF0 : Hid (w.cell? ⟨b, 0, none⟩ = some (.slice (some ⟨b0, o0, none⟩) d.1.length cI)) := f0
    have HC4 : Hid (_ = _) := c4
    have HEN : Hid (∀ W, Below w.heap.size w W → AtN W aE (d.1[t]?.getD id0).2.2.2.2.length (d.1[t]?.getD id0).2.2.2.2) := fun W hW => AtN.later hEt hW
    have HRNG : Hid (∀ q, q < (d.1[t]?.getD id0).2.2.2.2.length → ∃ u : Nat, ((d.1[t]?.getD id0).2.2.2.2[q]?.getD en0).2 = (u : Int) ∧ u < d.1.length) := fun q hq => rng_nat hok.rng ht hq
    have h6 : ∀ i : Nat, (d.1[i]?.getD id0).2.2.2.2.length ≤ 6 := fun i => by have := hok.six i; rw [entsOf_len] at this; exact this
    have HFOUR : Hid (∀ q, q < (d.1[t]?.getD id0).2.2.2.2.length → ((d.1[t]?.getD id0).2.2.2.2[q]?.getD en0).1.toList.length ≤ 4) := fun q hq => ents_four hok.ins ht hq
    have HSUC : Hid (∀ q, q < (d.1[t]?.getD id0).2.2.2.2.length → ∀ y : Nat, ((d.1[t]?.getD id0).2.2.2.2[q]?.getD en0).2 = (y : Int) → belK d.1 k ah t (q + 1) = belK d.1 k ah t q ++ [ah ++ 47 :: ((d.1[t]?.getD id0).2.2.2.2[q]?.getD en0).1.toList] ++ belL d.1 k (ah ++ 47 :: ((d.1[t]?.getD id0).2.2.2.2[q]?.getD en0).1.toList) y) := fun q hq y hy => by
      rw [belK_succ hq, hy, Int.toNat_natCast, List.append_assoc]; rfl
    have HLEN : Hid (∀ q, (belK d.1 k ah t q).length ≤ 55986) := fun q => Nat.le_trans (belK_len h6 k ah t q) (belN_le hk6)
    have HZ : Hid (belK d.1 k ah t 0 = []) := belK_zero _ _ _ _
    have HNONE : Hid (∀ (u : Nat) (p : List UInt8), u < d.1.length → ¬ kindAt d.1 u = 2 → belL d.1 k p u = []) := fun u p hu hk => belL_none (ents_none hok.ins hu hk)
    have HLL : Hid (∀ (u : Nat) (p : List UInt8), (belL d.1 k p u).length ≤ 55986) := fun u p => Nat.le_trans (belL_len h6 k p u) (belN_le (by omega))
    have hE6 := h6 t
    have hten := hok.ten
    obtain ⟨K, hK⟩ : ∃ K, k + 1 = K := ⟨_, rfl⟩
    rw [hK]
    have hKm : (K : Int) - 1 = (k : Int) := by omega
    have hKp : decide (0 < (K : Int)) = true := decide_eq_true (by omega)
    have hK6 : (K : Int) ≤ 6 := by omega
    have htI : (t : Int) < ((d.1.length : Nat) : Int) := by omega
    have hah30 : ah.length ≤ 30 := by omega
    have HAH : Hid (ah.length + 5 * (k + 1) ≤ 30) := hah
    have HW0 : Hid (WdT (w.alloc (.cells #[] 9)) w.heap.size (.slice (some ⟨w.heap.size, 0, none⟩) 0 0) []) := World.ownsRow_lit w #[] 0 (Nat.le_refl _) (by simp) rfl
    clear ih hx hAt h5 hEt hok hK h6 HX hah hk6
    generalize (d.1[t]?.getD id0).2.2.2.2 = es at *
    generalize hnn : es.length = nE at *
    clear hnn
    have hs47 : (⟨#[47]⟩ : ByteArray) = mkB [47] := rfl
    go_enter Tryz.func64, Tryz.ntmps64
    go_wp2_with fail
    go_loopw [9, 10] (fun o i wr => ∃ q : Nat, q ≤ nE ∧ i = .int .i64 q ∧ o ≠ .slice none 0 0 ∧ Below w.heap.size w wr ∧ WdT wr w.heap.size o (belK d.1 k ah t q)) (fun _ i _ => nE - (intOf i).toNat)
    case atStart => exact ⟨0, Nat.zero_le _, rfl, by simp, later1 _ _, by rw [HZ.out]; exact HW0.out⟩
    case round =>
      obtain ⟨q, hq, rfl, hnn, hbl, hwd⟩ := hrel
      have HBL : Hid (Below w.heap.size w wr) := hbl
      have x0 := cell_later hbl HF0.out
      have x4 := cell_later hbl HC4.out
      have HWD : Hid (WdT wr w.heap.size _ (belK d.1 k ah t q)) := hwd
      have HNN : Hid (_ ≠ Value.slice none 0 0) := hnn
      obtain ⟨g, cg, rfl, hgg, hgl⟩ := hwd.some hnn
      have hlq := HLEN.out q
      clear hbl hwd hnn
      by_cases hlt : q < nE
      · obtain ⟨b1, o1, rfl, d0, d1⟩ := HEN.out wr HBL.out q hlt
        obtain ⟨u, hu, hul⟩ := HRNG.out q hlt
        have h4 := HFOUR.out q hlt
        have HS := HSUC.out q hlt u hu
        rw [hu] at d1
        have HMB : Hid (mkB (es[q]?.getD en0).1.toList = (es[q]?.getD en0).1) := mkB_of _
        rw [← HMB.out] at d0
        generalize (es[q]?.getD en0).1.toList = nm at *
        clear HMB hu
        obtain ⟨p, hp⟩ : ∃ p, ah ++ 47 :: nm = p := ⟨_, rfl⟩
        rw [hp] at HS
        have HSS : Hid (belK d.1 k ah t (q + 1) = belK d.1 k ah t q ++ [p] ++ belL d.1 k p u) := HS
        have hpl : p.length + 5 * k ≤ 30 := by rw [← hp]; have := HAH.out; simp; omega
        have z1 : (9223372036854775807 < (mkB ah).size + (mkB [47]).size) = False := by rw [mkB_size, mkB_size]; simp; omega
        have z2 : (9223372036854775807 < (mkB ah ++ mkB [47]).size + (mkB nm).size) = False := by rw [mkB_app, mkB_size, mkB_size]; simp; omega
        have z3 : (9223372036854775807 < (mkB ah).size + (mkB [47]).size + (mkB nm).size) = False := by rw [mkB_size, mkB_size, mkB_size]; simp; omega
        have hE : mkB ah ++ mkB [47] ++ mkB nm = mkB p := by rw [← hp, mkB_app, mkB_app, List.append_assoc]; rfl
        -- the box of the entry
        obtain ⟨W0, hW0⟩ : ∃ W0, W0 = wr.alloc (.cells #[.string (mkB nm), .int .i64 (u : Int)] 97) := ⟨_, rfl⟩
        have HBW : Hid (Below w.heap.size w W0) := by unfold Hid; rw [hW0]; exact HBL.out.trans ((later1 _ _).mono HBL.out.size)
        have HWD0 : Hid (WdT W0 w.heap.size (.slice (some ⟨g, 0, none⟩) (belK d.1 k ah t q).length cg) (belK d.1 k ah t q)) := by unfold Hid; rw [hW0]; exact HWD.out.later (later1 _ _)
        have hB0 : Bx W0 wr.heap.size [.string (mkB nm), .int .i64 (u : Int)] := by rw [hW0]; exact Bx.new wr [.string (mkB nm), .int .i64 (u : Int)] _
        have hsz0 : W0.heap.size = wr.heap.size + 1 := by rw [hW0]; simp
        obtain ⟨v', X, hr, hwx, hbx, hvx, hkp⟩ := WdT.push' W0 w.heap.size _ _ p HWD0.out HBW.out.size (by omega) (by simp)
        obtain ⟨g2, c2, rfl, hg2, hg2l⟩ := hwx.some hvx
        have hkX : X.heap[wr.heap.size]? = W0.heap[wr.heap.size]? := hkp _ (by omega) (by simp [Value.ownBlock]; omega)
        have e1 : X.cell? ⟨wr.heap.size, 1, none⟩ = some (.int .i64 (u : Int)) := (World.cell?_of_block (w := W0) hkX).trans (hB0 1 _ rfl)
        rw [hsz0] at hr
        have HRN : Hid (_ = _) := hr
        have HWX : Hid (WdT X w.heap.size (.slice (some ⟨g2, 0, none⟩) (belK d.1 k ah t q ++ [p]).length c2) (belK d.1 k ah t q ++ [p])) := hwx
        have HBX : Hid (Below w.heap.size w X) := HBW.out.trans hbx
        have hlX : (belK d.1 k ah t q ++ [p]).length ≤ 55987 := by simp; omega
        have y0 := cell_later HBX.out HF0.out
        obtain ⟨_, _, e2, hIu⟩ := HAT.out X HBX.out u hul
        simp only [Option.some.injEq, Addr.mk.injEq, and_true] at e2
        obtain ⟨rfl, rfl⟩ := e2
        obtain ⟨_, _, _, _, k0, -⟩ := hIu
        have HK : Hid (kindAt d.1 u = (d.1[u]?.getD id0).1) := rfl
        have HNO := HNONE.out u p hul
        have hll := HLL.out u p
        have hulI : (u : Int) < ((d.1.length : Nat) : Int) := by omega
        subst hW0
        clear hr hwx hbx HS hkp hkX hB0 hsz0 HWD HWD0 HBW HSUC HFOUR HRNG h4
        rw [HK.out] at HNO
        generalize (d.1[u]?.getD id0).1 = kd at *
        generalize d.1.length = n at *
        have HLXX : Hid ((belK d.1 k ah t q ++ [p]).length ≤ 55987) := hlX
        generalize hlxe : (belK d.1 k ah t q ++ [p]).length = lx at HRN HWX hlX
        clear hlxe
        by_cases hkd : kd = 2
        · have hkb : (kd == 2) = true := by simpa using hkd
          have HCALL : Hid (∀ W, Below w.heap.size w W → Calls Tryz.prog 64 #[.pointer (some ⟨b, 0, none⟩), .int .i64 (u : Int), .string (mkB p), .int .i64 (k : Int)] W fun e w' => ∃ v, e = .returned v ∧ v ≠ .slice none 0 0 ∧ Below W.heap.size W w' ∧ WdT w' W.heap.size v (belL d.1 k p u)) := fun W hW => HIH.out W u p hW hul hpl
          clear hkd HNO HK
          go_wp2_with (first | (at_builtin; refine wpList_append_run rfl _ _ 62 rfl _ _ rfl rfl _ _ HRN.out ?_) | fail)
          go_quiet (fail)
          go_wp2_with fail
          refine (HCALL.out _ (by first | exact HBX.out | exact below_drewN HBX.out _)).mono ?_
          rintro e w2 ⟨v, rfl, hv, hb2, hw2⟩
          obtain ⟨g3, c3, rfl, hg3, hg3l⟩ := hw2.some hv
          have HB2 : Hid (Below w.heap.size w w2) := by
            have h0 : Below w.heap.size w (X.drewN nq) := below_drewN HBX.out _
            exact h0.trans (hb2.mono h0.size)
          have HWX2 : Hid (WdT w2 w.heap.size (.slice (some ⟨g2, 0, none⟩) lx c2) (belK d.1 k ah t q ++ [p])) := (HWX.out.later (below_drewN (Below.refl _ _) nq)).later hb2
          obtain ⟨_, hat⟩ := ownsRow_at hw2
          have HLX := HLXX.out
          obtain ⟨v3, X3, hr3, hw3, hbx3, hv3, -⟩ := WdT.pushL w2 w.heap.size _ _ (belL d.1 k p u) ⟨g3, 0, none⟩ (belL d.1 k p u).length c3 HWX2.out HB2.out.size rfl hat (by omega)
          rw [← HSS.out] at hw3
          have HR3 : Hid (_ = _) := hr3
          have HW3 : Hid (WdT X3 w.heap.size v3 (belK d.1 k ah t (q + 1))) := hw3
          have HB3 : Hid (Below w.heap.size w X3) := HB2.out.trans hbx3
          have HV3 : Hid (v3 ≠ .slice none 0 0) := hv3 (by simp)
          clear hr3 hw3 hbx3 hv3 hat hw2 hb2 hv HLX
          generalize (belL d.1 k p u).length = lb at *
          go_wp2_with (first | (at_builtin; refine wpList_append_run rfl _ _ 62 rfl _ _ rfl rfl _ _ HR3.out ?_) | fail)
          go_roundw
          case rel => exact ⟨q + 1, by omega, by go_num, HV3.out, HB3.out, HW3.out⟩
          case measure => simp [intOf]; omega
        · have hkb : (kd == 2) = false := by simpa using hkd
          have HN := HNO hkd
          have HE1 : Hid (belK d.1 k ah t (q + 1) = belK d.1 k ah t q ++ [p]) := by unfold Hid; rw [HSS.out, HN, List.append_nil]
          have HV2 : Hid (Value.slice (some ⟨g2, 0, none⟩) lx c2 ≠ .slice none 0 0) := by unfold Hid; simp
          clear hkd HNO HK HN HSS
          go_wp2_with (first | (at_builtin; refine wpList_append_run rfl _ _ 62 rfl _ _ rfl rfl _ _ HRN.out ?_) | fail)
          go_quiet (fail)
          go_wp2
          go_roundw
          case rel => exact ⟨q + 1, by omega, by go_num, HV2.out, below_drewN HBX.out _, by rw [HE1.out]; exact HWX.out.later (below_drewN (Below.refl _ _) nq)⟩
          case measure => simp [intOf]; omega
      · go_wp2
        go_ret
        obtain rfl : q = nE := by omega
        exact ⟨_, rfl, HNN.out, HBL.out, HWD.out⟩
end Go.Proofs.YtlohgnidbkechaaGreatDoor

namespace Go.Proofs.YtlohgnidbkechaaGreatDoor
open Go.RowKit Go.Shelf
set_option maxRecDepth 100000
attribute [local go_sem] Oper.semAt_some

theorem slice_takeO (g n c j : Nat) (hj : j ≤ c) (hc : 0 < c) (W : World) : (Instr.slice 62 (.slice (some ⟨g, 0, none⟩) n c) none (some (.int .i64 (j : Int))) none).run Tryz.prog W = .ok (.slice (some ⟨g, 0, none⟩) j c) W := by
  obtain ⟨i, hi, _⟩ := info_parts Tryz.infoStr
  have hc0 : ¬ c = 0 := by omega
  simp [Instr.slice, Instr.sliceBounds, Instr.sliceBound, asIntOf, run_underlying Tryz.underlying62, sizeOf, typeInfo, hi, hj, Addr.add]
theorem OwnRow.few {w : World} {b n m : Nat} {f : Nat → Value} (h : OwnRow w b n f) (hm : m ≤ n) : OwnRow w b m f := by
  obtain ⟨c, t, h1, h2, h3⟩ := h
  exact ⟨c, t, h1, by omega, fun i hi => h3 i (by omega)⟩
theorem l9Paths_any (w : World) (b : Nat) (d : FD) (b0 o0 cI : Nat) (aD : Option Addr) (cD : Nat) (hok : FsOk d) (hx : FsX w b 0 d (some ⟨b0, o0, none⟩) cI aD cD) :
    Calls Tryz.prog 35 #[.pointer (some ⟨b, 0, none⟩)] w fun e w' => ∃ a n c, e = .returned (.slice a n c) ∧ Below w.heap.size w w' ∧ StrsO w' (.slice a n c) ((belL d.1 6 [] 0).take 60) (fun g => w.heap.size ≤ g ∧ g < w'.heap.size) := by
  have HC : Hid (Calls Tryz.prog 64 #[.pointer (some ⟨b, 0, none⟩), .int .i64 0, .string ⟨#[]⟩, .int .i64 6] w fun e w' => ∃ v, e = .returned v ∧ v ≠ .slice none 0 0 ∧ Below w.heap.size w w' ∧ WdT w' w.heap.size v (belL d.1 6 [] 0)) := l9Below_any b d b0 o0 cI aD cD hok 6 (by omega) 0 [] hok.pos (by simp) w hx
  clear hx hok
  generalize belL d.1 6 [] 0 = xs at *
  go_enter Tryz.func35, Tryz.ntmps35
  go_wp2_with fail
  refine HC.out.mono ?_
  rintro e w1 ⟨v, rfl, hv, hb, hw⟩
  obtain ⟨g, c, rfl, hg1, hg2⟩ := hw.some hv
  have hcap := ownsRow_cap hw
  have HW : Hid (WdT w1 w.heap.size (.slice (some ⟨g, 0, none⟩) xs.length c) xs) := hw
  have HB : Hid (Below w.heap.size w w1) := hb
  have HL : Hid (xs.length = xs.length) := rfl
  clear hw hb hv
  generalize hn : xs.length = n at *
  have HN : Hid (xs.length = n) := hn
  clear hn HL
  by_cases h60 : 60 < n
  · have hd : decide ((60 : Int) < (n : Int)) = true := decide_eq_true (by omega)
    have hd2 : decide ((n : Int) > (60 : Int)) = true := decide_eq_true (by omega)
    have hr : ∀ W, (Instr.slice 62 (.slice (some ⟨g, 0, none⟩) n c) none (some (.int .i64 60)) none).run Tryz.prog W = .ok (.slice (some ⟨g, 0, none⟩) 60 c) W := slice_takeO g n c 60 (by omega) (by omega)
    go_wp2
    go_ret
    refine ⟨_, _, _, rfl, HB.out, ?_⟩
    rcases ownT_row HW.out with h0 | ⟨g', e', h1, h2, h3⟩
    · omega
    · cases e'
      refine Or.inr ⟨g, c, ⟨h1, h2⟩, ?_, ?_, ?_⟩
      · rw [List.length_take, HN.out, Nat.min_eq_left (by omega)]
      · rw [List.length_take]; omega
      · rw [List.length_take, HN.out, Nat.min_eq_left (by omega)]
        exact (h3.few (by omega)).congr fun i hi => by rw [List.getElem?_take, if_pos hi]
  · have hd : decide ((60 : Int) < (n : Int)) = false := decide_eq_false (by omega)
    have hd2 : decide ((n : Int) > (60 : Int)) = false := decide_eq_false (by omega)
    go_wp2
    go_ret
    refine ⟨_, _, _, rfl, HB.out, ?_⟩
    rw [List.take_of_length_le (by rw [HN.out]; omega)]
    exact HW.out.own (by rw [HN.out]; omega)
end Go.Proofs.YtlohgnidbkechaaGreatDoor

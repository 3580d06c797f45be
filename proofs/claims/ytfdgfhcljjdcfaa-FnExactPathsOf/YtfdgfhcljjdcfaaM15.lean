/- PathsOf, of the program: the iterator that ranges over itself. Texts that grow by a list of texts. PathsOf, of the program. IsWithin, of the specification. -/
import Derived.Test.YtfdgfhcljjdcfaaM14
import Derived.Test.YtfdgfhcljjdcfaaM13
import Derived.Maps.AppendAt
import Derived.Test.YtfdgfhcljjdcfaaM09
namespace Go.Proofs.Ytfdgfhcljjdcfaa
open Go.RowKit Go.Shelf
set_option maxRecDepth 100000
attribute [local go_sem] Oper.semAt_some

theorem pathsBelow_any (w : World) (aL : Option Addr) (nL cL : Nat) (t k : Int) (s : ByteArray) : Calls Try.prog 20 #[.slice aL nL cL, .int .i64 t, .string s, .int .i64 k] w fun e w' => e = .returned (.func (.func 39) #[] #[.pointer (some ⟨w.heap.size + 3, 0, none⟩), .pointer (some ⟨w.heap.size, 0, none⟩), .pointer (some ⟨w.heap.size + 1, 0, none⟩), .pointer (some ⟨w.heap.size + 2, 0, none⟩)]) ∧ Below w.heap.size w w' ∧ w'.heap.size = w.heap.size + 4 ∧ w'.cell? ⟨w.heap.size + 3, 0, none⟩ = some (.int .i64 k) ∧ w'.cell? ⟨w.heap.size, 0, none⟩ = some (.slice aL nL cL) ∧ w'.cell? ⟨w.heap.size + 1, 0, none⟩ = some (.int .i64 t) ∧ w'.cell? ⟨w.heap.size + 2, 0, none⟩ = some (.string s) := by
  go_enter Try.func20, Try.ntmps20
  go_wp2
  go_ret
  refine ⟨rfl, ((((Below.refl _ w).alloc (Nat.le_refl _) _).alloc (by simp) _).alloc (by simp; omega) _).alloc (by simp; omega) _, by simp, ?_, ?_, ?_, ?_⟩ <;> simp [go_sem]
theorem chg_cellP {F : Nat → Prop} {w w' : World} (h : Chg F w w') {b o : Nat} {v : Value} (hv : w.cell? ⟨b, o, none⟩ = some v) (hf : ¬ F b) : w'.cell? ⟨b, o, none⟩ = some v := (h.cell (a := ⟨b, o, none⟩) (World.block_lt_of_cell? _ _ hv) hf).trans hv
/-- A path as it is told. -/
abbrev encP (s : List UInt8) : Array Value := #[.string (mkB s)]
set_option maxRecDepth 100000 in
set_option maxHeartbeats 6400000 in
theorem below1_tells (w0 : World) (aL : Option Addr) (nL cL : Nat) (ds : List ID) (hdn : ds.length = nL) (hr : inRange ds) (hins : insF ds = 0) (h6 : ∀ i : Nat, (ds[i]?.getD id0).2.2.2.2.length ≤ 6) (hAI : AtI w0 aL nL ds) :
    ∀ (k : Nat), k ≤ 6 → ∀ (t : Nat) (ah : List UInt8), t < nL → ah.length + 5 * k ≤ 30 → ∀ (W : World) (F0 : Nat → Prop) (Bd Bl Ba Bp : Nat), Below w0.heap.size w0 W → (∀ b, F0 b → w0.heap.size ≤ b) →
      W.cell? ⟨Bd, 0, none⟩ = some (.int .i64 ((6 - k : Nat) : Int)) → W.cell? ⟨Bl, 0, none⟩ = some (.slice aL nL cL) → W.cell? ⟨Ba, 0, none⟩ = some (.int .i64 (t : Int)) → W.cell? ⟨Bp, 0, none⟩ = some (.string (mkB ah)) →
      ¬ F0 Bd → ¬ F0 Bl → ¬ F0 Ba → ¬ F0 Bp → Bd < W.heap.size → Bl < W.heap.size → Ba < W.heap.size → Bp < W.heap.size →
      TellsP Try.prog 39 #[.pointer (some ⟨Bd, 0, none⟩), .pointer (some ⟨Bl, 0, none⟩), .pointer (some ⟨Ba, 0, none⟩), .pointer (some ⟨Bp, 0, none⟩)] encP (belL ds k ah t) F0 W := by
  intro k
  induction k with
  | zero =>
    intro _ t ah ht _ W F0 Bd Bl Ba Bp hbW hF0 cd cl ca cp nd nl na np ld ll la lp l J Jx hJ hJl hJx hJxl h0 hY
    refine callsIn_of_wp_marks Try.func39 rfl trivial ?_ rfl
    simp only [Try.ntmps39, List.size_toArray, List.length_cons, List.length_nil, Nat.reduceAdd, Nat.reduceSub, Array.replicate_succ, Array.replicate_zero, List.push_toArray, List.append_toArray, List.nil_append, List.cons_append]
    have HJ0 : Hid (∀ W', Below W.heap.size W W' → J [] F0 W') := fun W' hb => hJ _ _ _ _ h0 (Chg.of_below hb)
    have HCG : Hid (∀ W', Below W.heap.size W W' → Chg F0 W W') := fun W' hb => Chg.of_below hb
    have HL : Hid (belL ds 0 ah t = []) := rfl
    rw [HL.out]
    clear hY hJ hJl hJx hJxl h0 hAI
    gi_wp2
    exact ⟨_, results_none rfl _ _ _, ⟨_, rfl⟩, F0, HCG.out _ (later1 _ _), NewF.refl _ _, Or.inl (HJ0.out _ (later1 _ _))⟩
  | succ k ih =>
    intro hk6 t ah ht hah W F0 Bd Bl Ba Bp hbW hF0 cd cl ca cp nd nl na np ld ll la lp l J Jx hJ hJl hJx hJxl h0 hY
    refine callsIn_of_wp_marks Try.func39 rfl trivial ?_ rfl
    simp only [Try.ntmps39, List.size_toArray, List.length_cons, List.length_nil, Nat.reduceAdd, Nat.reduceSub, Array.replicate_succ, Array.replicate_zero, List.push_toArray, List.append_toArray, List.nil_append, List.cons_append]
    obtain ⟨D6, hD6⟩ : ∃ D6 : Nat, 6 - (k + 1) = D6 := ⟨_, rfl⟩
    rw [hD6] at cd
    have hd6 : ((D6 : Int) == 6) = false := by simp; omega
    have hd7 : (D6 : Int) + 1 = ((6 - k : Nat) : Int) := by omega
    have HAI : Hid (AtI w0 aL nL ds) := hAI
    obtain ⟨b0, o0, rfl, hIt⟩ := hAI t ht
    obtain ⟨aB, cB, aE, cE, -, -, -, -, c4, h5⟩ := hIt
    obtain ⟨_, _, e3, -, -, hEt⟩ := h5.2.2.open'
    simp only [Value.slice.injEq] at e3
    obtain ⟨rfl, -, rfl⟩ := e3
    have HC4 : Hid (_ = _) := c4
    have c4W := cell_later hbW c4
    have hb0 : b0 < W.heap.size := lt_of_cell c4W
    have HEN : Hid (AtN w0 aE (ds[t]?.getD id0).2.2.2.2.length (ds[t]?.getD id0).2.2.2.2) := hEt
    have HY : Hid (∀ pre x F W1, J pre F W1 → Chg F0 W W1 → NewF F0 F W.heap.size → (pre ++ [x]) <+: belL ds (k + 1) ah t → YieldAt Fence.wide 0 Try.prog l (encP x) W1 fun e W' => ∃ F', Chg F W1 W' ∧ NewF F F' W1.heap.size ∧ ((e = .returned (.bool true) ∧ J (pre ++ [x]) F' W') ∨ (e = .returned (.bool false) ∧ Jx (pre ++ [x]) F' W'))) := hY
    have HIH : Hid (∀ (u : Nat) (p : List UInt8), u < nL → p.length + 5 * k ≤ 30 → ∀ (W : World) (F0 : Nat → Prop) (Bd Bl Ba Bp : Nat), Below w0.heap.size w0 W → (∀ b, F0 b → w0.heap.size ≤ b) →
      W.cell? ⟨Bd, 0, none⟩ = some (.int .i64 ((6 - k : Nat) : Int)) → W.cell? ⟨Bl, 0, none⟩ = some (.slice (some ⟨b0, o0, none⟩) nL cL) → W.cell? ⟨Ba, 0, none⟩ = some (.int .i64 (u : Int)) → W.cell? ⟨Bp, 0, none⟩ = some (.string (mkB p)) →
      ¬ F0 Bd → ¬ F0 Bl → ¬ F0 Ba → ¬ F0 Bp → Bd < W.heap.size → Bl < W.heap.size → Ba < W.heap.size → Bp < W.heap.size →
      TellsP Try.prog 39 #[.pointer (some ⟨Bd, 0, none⟩), .pointer (some ⟨Bl, 0, none⟩), .pointer (some ⟨Ba, 0, none⟩), .pointer (some ⟨Bp, 0, none⟩)] encP (belL ds k p u) F0 W) := ih (by omega)
    have HJ : Hid (Stab J) := hJ
    have HJL : Hid (Lts J) := hJl
    have HJX : Hid (Stab Jx) := hJx
    have HJXL : Hid (Lts Jx) := hJxl
    have HBW : Hid (Below w0.heap.size w0 W) := hbW
    have HF0 : Hid (∀ b, F0 b → w0.heap.size ≤ b) := hF0
    have htI : (t : Int) < (nL : Int) := by omega
    have HRNG : Hid (∀ q, q < (ds[t]?.getD id0).2.2.2.2.length → ∃ u : Nat, ((ds[t]?.getD id0).2.2.2.2[q]?.getD en0).2 = (u : Int) ∧ u < nL) := fun q hq => by rw [← hdn]; exact rng_nat hr (by rw [hdn]; exact ht) hq
    have HFOUR : Hid (∀ q, q < (ds[t]?.getD id0).2.2.2.2.length → ((ds[t]?.getD id0).2.2.2.2[q]?.getD en0).1.toList.length ≤ 4) := fun q hq => ents_four hins (by rw [hdn]; exact ht) hq
    have HSUC : Hid (∀ q, q < (ds[t]?.getD id0).2.2.2.2.length → ∀ y : Nat, ((ds[t]?.getD id0).2.2.2.2[q]?.getD en0).2 = (y : Int) → belK ds k ah t (q + 1) = belK ds k ah t q ++ [ah ++ 47 :: ((ds[t]?.getD id0).2.2.2.2[q]?.getD en0).1.toList] ++ belL ds k (ah ++ 47 :: ((ds[t]?.getD id0).2.2.2.2[q]?.getD en0).1.toList) y) := fun q hq y hy => by
      rw [belK_succ hq, hy, Int.toNat_natCast, List.append_assoc]; rfl
    have HPRE : Hid (∀ q, belK ds k ah t q <+: belL ds (k + 1) ah t) := fun q => belK_pre
    have HALL : Hid (belK ds k ah t (ds[t]?.getD id0).2.2.2.2.length = belL ds (k + 1) ah t) := belK_all ds k ah t
    have HAH : Hid (ah.length + 5 * (k + 1) ≤ 30) := hah
    have HZ : Hid (belK ds k ah t 0 = []) := belK_zero _ _ _ _
    have HCELLS : Hid (∀ wr, Chg F0 W wr → wr.cell? ⟨Bd, 0, none⟩ = some (.int .i64 (D6 : Int)) ∧ wr.cell? ⟨Bl, 0, none⟩ = some (.slice (some ⟨b0, o0, none⟩) nL cL) ∧ wr.cell? ⟨Bp, 0, none⟩ = some (.string (mkB ah))) := fun wr hc => ⟨(hc.cell ld nd).trans cd, (hc.cell ll nl).trans cl, (hc.cell lp np).trans cp⟩
    have hE6 := h6 t
    have HJ0 : Hid (J [] F0 W) := h0
    clear hY ih h5 hEt hAI c4 hJ hJl hJx hJxl hbW hF0 h6 hins hr h0 hah
    generalize (ds[t]?.getD id0).2.2.2.2 = es at *
    generalize hnn : es.length = nE at *
    clear hnn
    gi_wp2
    generalize hW0 : World.alloc W (Obj.cells #[Value.func (Fn.yield l) #[] #[]] 70) = W0
    have hs0 : W0.heap.size = W.heap.size + 1 := by rw [← hW0]; simp
    have hb00 : Below W.heap.size W W0 := by rw [← hW0]; exact later1 _ _
    have hy0 : W0.cell? ⟨W.heap.size, 0, none⟩ = some (.func (.yield l) #[] #[]) := by rw [← hW0]; simp [go_sem]
    have hF0l : ∀ b, F0 b → b < W.heap.size := HJL.out _ _ _ HJ0.out
    clear c4W cd cl ca cp
    refine wpIn_loop (fun a wr => ∃ (q : Nat) (F : Nat → Prop) (ms : List Nat) (x7 x8 x9 x19 x20 x21 x22 x23 x24 x25 x26 x27 x28 x29 x30 x31 x32 x33 x34 x35 x36 x37 x38 x39 x40 x41 x42 x43 : Value), a = { tmps := #[.func (.yield l) #[] #[], .pointer (some ⟨Bd, 0, none⟩), .pointer (some ⟨Bl, 0, none⟩), .pointer (some ⟨Ba, 0, none⟩), .pointer (some ⟨Bp, 0, none⟩), .pointer (some ⟨W.heap.size, 0, none⟩), undef, x7, x8, x9, .int .i64 (D6 : Int), .bool false, .slice (some ⟨b0, o0, none⟩) nL cL, .int .i64 (t : Int), .pointer (some ⟨b0, o0 + t * 5, none⟩), .pointer (some ⟨b0, o0 + t * 5 + 4, none⟩), .slice aE nE cE, .int .i64 (nE : Int), .int .i64 (q : Int), x19, x20, x21, x22, x23, x24, x25, x26, x27, x28, x29, x30, x31, x32, x33, x34, x35, x36, x37, x38, x39, x40, x41, x42, x43], defers := ms.map markOf } ∧ q ≤ nE ∧ J (belK ds k ah t q) F wr ∧ Chg F0 W wr ∧ NewF F0 F (W.heap.size + 1) ∧ W.heap.size + 1 ≤ wr.heap.size ∧ wr.cell? ⟨W.heap.size, 0, none⟩ = some (.func (.yield l) #[] #[]) ∧ ms.Nodup ∧ (∀ D ∈ ms, W.heap.size < D ∧ D < wr.heap.size ∧ ¬ F D ∧ wr.heap[D]? = some (.deferred (some [])))) (fun a _ => nE - (intOf (a.tmps.getD 18 undef)).toNat)
      ⟨0, F0, [], _, _, _, _, _, _, _, _, _, _, _, _, _, _, _, _, _, _, _, _, _, _, _, _, _, _, _, _, rfl, Nat.zero_le _, by rw [HZ.out]; exact HJ.out _ _ _ _ HJ0.out (Chg.of_below hb00), Chg.of_below hb00, NewF.refl _ _, by omega, hy0, List.nodup_nil, fun D hD => by cases hD⟩ ?_
    clear hy0 hb00 hs0 hW0 W0
    rintro a wr ⟨q, F, ms, x7, x8, x9, x19, x20, x21, x22, x23, x24, x25, x26, x27, x28, x29, x30, x31, x32, x33, x34, x35, x36, x37, x38, x39, x40, x41, x42, x43, rfl, hq, hJq, hc, hnf, hsz, hyc, hnd, hms⟩
    have HJQ : Hid (J (belK ds k ah t q) F wr) := hJq
    have HCW : Hid (Chg F0 W wr) := hc
    have HNF : Hid (NewF F0 F (W.heap.size + 1)) := hnf
    have HSZ : Hid (W.heap.size + 1 ≤ wr.heap.size) := hsz
    have HYC : Hid (wr.cell? ⟨W.heap.size, 0, none⟩ = some (.func (.yield l) #[] #[])) := hyc
    have HND : Hid (ms.Nodup) := hnd
    have HMS : Hid (∀ D ∈ ms, W.heap.size < D ∧ D < wr.heap.size ∧ ¬ F D ∧ wr.heap[D]? = some (.deferred (some []))) := hms
    have HFL : Hid (∀ b, F b → b < wr.heap.size) := HJL.out _ _ _ hJq
    have HBWR : Hid (Below w0.heap.size w0 wr) := HBW.out.trans (hc.below HBW.out.size HF0.out)
    clear hJq hc hnf hsz hnd hms hyc
    by_cases hlt : q < nE
    rotate_left
    · obtain rfl : q = nE := by omega
      rw [HALL.out] at HJQ
      have hx1 : decide ((q : Int) < (q : Int)) = false := by simp
      gi_wp2
      refine leaves_marks ms wr HND.out (fun D hD => (HMS.out D hD).2.2.2) (fun W' hc' => ⟨_, results_none rfl _ _ _, ⟨_, rfl⟩, F, ?_, ?_, Or.inl (HJ.out _ _ _ _ HJQ.out (hc'.mono fun b hb => (HMS.out b hb).2.2.1))⟩)
      · exact ⟨hc'.os.trans HCW.out.os, hc'.tape.trans HCW.out.tape, hc'.output.trans HCW.out.output, Nat.le_trans HCW.out.size hc'.size, fun b hb hf => (hc'.block b (by have := HSZ.out; omega) (fun hm => by have := (HMS.out b hm).1; omega)).trans (HCW.out.block b hb hf)⟩
      · exact fun b hb => by rcases HNF.out b hb with e | e
                             · exact Or.inl e
                             · exact Or.inr (by omega)
    · obtain ⟨b1, o1, rfl, d0, d1⟩ := HEN.out q hlt
      obtain ⟨u, hu, hul⟩ := HRNG.out q hlt
      have h4 := HFOUR.out q hlt
      have HS := HSUC.out q hlt u hu
      rw [hu] at d1
      have HMB : Hid (mkB (es[q]?.getD en0).1.toList = (es[q]?.getD en0).1) := mkB_of _
      rw [← HMB.out] at d0
      generalize (es[q]?.getD en0).1.toList = nm at *
      clear HMB hu
      obtain ⟨p, hp⟩ : ∃ p, ah ++ 47 :: nm = p := ⟨_, rfl⟩
      rw [hp] at HS
      have HSS : Hid (belK ds k ah t (q + 1) = belK ds k ah t q ++ [p] ++ belL ds k p u) := HS
      have hpl : p.length + 5 * k ≤ 30 := by rw [← hp]; have := HAH.out; simp; omega
      have hah30 : ah.length ≤ 30 := by have := HAH.out; omega
      have z1 : (9223372036854775807 < (mkB ah).size + (mkB [47]).size) = False := by rw [mkB_size, mkB_size]; simp; omega
      have z2 : (9223372036854775807 < (mkB ah ++ mkB [47]).size + (mkB nm).size) = False := by rw [mkB_app, mkB_size, mkB_size]; simp; omega
      have z3 : (9223372036854775807 < (mkB ah).size + (mkB [47]).size + (mkB nm).size) = False := by rw [mkB_size, mkB_size, mkB_size]; simp; omega
      have hE : mkB ah ++ mkB [47] ++ mkB nm = mkB p := by rw [← hp, mkB_app, mkB_app, List.append_assoc]; rfl
      have hs47 : (⟨#[47]⟩ : ByteArray) = mkB [47] := rfl
      have e0 := cell_later HBWR.out d0
      have e1 := cell_later HBWR.out d1
      obtain ⟨q1, q2, q3⟩ := HCELLS.out wr HCW.out
      have hyc := HYC.out
      have l1 : b1 < wr.heap.size := lt_of_cell e0
      have l2 : Bd < wr.heap.size := lt_of_cell q1
      have l3 : Bl < wr.heap.size := lt_of_cell q2
      have l4 : Bp < wr.heap.size := lt_of_cell q3
      have l5 : W.heap.size < wr.heap.size := lt_of_cell hyc
      obtain ⟨V, hV⟩ : ∃ V, V = wr.alloc (.cells #[.string (mkB nm), .int .i64 (u : Int)] 72) := ⟨_, rfl⟩
      have hVb : Below wr.heap.size wr V := by rw [hV]; exact later1 _ _
      have hVs : V.heap.size = wr.heap.size + 1 := by rw [hV]; simp
      have hVe : V.cell? ⟨wr.heap.size, 1, none⟩ = some (.int .i64 (u : Int)) := by rw [hV]; simp [go_sem]
      have hVn : V.cell? ⟨wr.heap.size, 0, none⟩ = some (.string (mkB nm)) := by rw [hV]; simp [go_sem]
      have hJV : J (belK ds k ah t q) F V := HJ.out _ _ _ _ HJQ.out (Chg.of_below hVb)
      have hcV : Chg F0 W V := HCW.out.trans (Chg.of_below hVb)
      have hpre1 : (belK ds k ah t q ++ [p]) <+: belL ds (k + 1) ah t := by
        refine List.IsPrefix.trans ⟨belL ds k p u, HSS.out.symm⟩ (HPRE.out (q + 1))
      have hnfW : NewF F0 F W.heap.size := fun b hb => by
        rcases HNF.out b hb with e | e
        · exact Or.inl e
        · exact Or.inr (by omega)
      obtain ⟨fn, tmps, assign, body, hy, hR⟩ := HY.out (belK ds k ah t q) p F V hJV hcV hnfW hpre1
      dsimp only [encP] at hy
      have HRR : Hid (RoundIn Fence.wide 0 Try.prog l fn tmps assign body V _) := hR
      have HVB : Hid (Below wr.heap.size wr V) := hVb
      have HVE : Hid (V.cell? ⟨wr.heap.size, 1, none⟩ = some (.int .i64 (u : Int))) := hVe
      have HCV : Hid (Chg F0 W V) := hcV
      have HVS : Hid (V.heap.size = wr.heap.size + 1) := hVs
      clear hR hVb hVs hVe hVn hJV hcV HS HSUC HFOUR HRNG h4 hnfW
      subst hV
      gi_wp2
      refine ⟨rfl, HRR.out.mono ?_⟩
      rintro e W3 ⟨F', hcF, hnF, hend⟩
      have hnfW : NewF F0 F W.heap.size := fun b hb => by
        rcases HNF.out b hb with e | e
        · exact Or.inl e
        · exact Or.inr (by omega)
      have HCW3 : Hid (Chg F0 W W3) := HCV.out.step hnfW hcF
      have HNF3 : Hid (NewF F0 F' (W.heap.size + 1)) := HNF.out.trans hnF (by rw [HVS.out]; have := HSZ.out; omega)
      have HMS3 : Hid (∀ D ∈ ms, W.heap.size < D ∧ D < W3.heap.size ∧ ¬ F' D ∧ W3.heap[D]? = some (.deferred (some []))) := fun D hD => by
        obtain ⟨m1, m2, m3, m4⟩ := HMS.out D hD
        refine ⟨m1, ?_, fun h => ?_, ?_⟩
        · have h1 := hcF.size
          have h2 := HVB.out.size
          omega
        · rcases hnF D h with h1 | h1
          · exact m3 h1
          · rw [HVS.out] at h1; omega
        · exact (hcF.block D (by rw [HVS.out]; omega) m3).trans ((HVB.out.block D m2).trans m4)
      have HPRE1 : Hid ((belK ds k ah t q ++ [p]) <+: belL ds (k + 1) ah t) := hpre1
      have HSZ3 : Hid (wr.heap.size + 1 ≤ W3.heap.size) := by have h1 := hcF.size; rw [HVS.out] at h1; exact h1
      have Y3 : W3.cell? ⟨W.heap.size, 0, none⟩ = some (.func (.yield l) #[] #[]) := by
        refine chg_cellP hcF (cell_later HVB.out hyc) (fun h => ?_)
        rcases HNF.out _ h with h1 | h1
        · have := hF0l _ h1; omega
        · omega
      have E3 : W3.cell? ⟨wr.heap.size, 1, none⟩ = some (.int .i64 (u : Int)) := by
        refine chg_cellP hcF HVE.out (fun h => ?_)
        have := HFL.out _ h; omega
      obtain ⟨r1, r2, r3⟩ := HCELLS.out W3 HCW3.out
      have HHY : Hid (wr.cell? ⟨W.heap.size, 0, none⟩ = some (.func (.yield l) #[] #[])) := hyc
      clear hcF hnF hnfW hpre1 hyc hy q1 q2 q3 e0 e1 HRR HVE HVB HCV HVS l1 l2 l3 l4 l5 d0 d1 HYC
      have HEND : Hid _ := hend
      clear hend
      rcases HEND.out with ⟨rfl, hJ3⟩ | ⟨rfl, hJx3⟩
      rotate_left
      · have HX3 : Hid (Jx (belK ds k ah t q ++ [p]) F' W3) := hJx3
        clear hJx3 HEND
        gi_wp2
        refine leaves_marks ms W3 HND.out (fun D hD => (HMS3.out D hD).2.2.2) (fun W' hc' => ⟨_, results_none rfl _ _ _, ⟨_, rfl⟩, F', ?_, ?_, Or.inr ⟨_, HPRE1.out, HJX.out _ _ _ _ HX3.out (hc'.mono fun b hb => (HMS3.out b hb).2.2.1)⟩⟩)
        · exact ⟨hc'.os.trans HCW3.out.os, hc'.tape.trans HCW3.out.tape, hc'.output.trans HCW3.out.output, Nat.le_trans HCW3.out.size hc'.size, fun b hb hf => (hc'.block b (by have := HSZ.out; have := HSZ3.out; omega) (fun hm => by have := (HMS3.out b hm).1; omega)).trans (HCW3.out.block b hb hf)⟩
        · exact fun b hb => by rcases HNF3.out b hb with e | e
                               · exact Or.inl e
                               · exact Or.inr (by omega)
      · have HJ3 : Hid (J (belK ds k ah t q ++ [p]) F' W3) := hJ3
        clear hJ3 HEND HJQ HCW HMS HNF
        have l1 : W.heap.size < W3.heap.size := lt_of_cell Y3
        have l2 : Bd < W3.heap.size := lt_of_cell r1
        have l3 : Bl < W3.heap.size := lt_of_cell r2
        have l4 : wr.heap.size < W3.heap.size := lt_of_cell E3
        gi_wp2
        refine ⟨trivial, rfl, callsIn_wide.2 ((pathsBelow_any W3 (some ⟨b0, o0, none⟩) nL cL u ((6 - k : Nat) : Int) (mkB p)).mono ?_)⟩
        rintro e W4 ⟨rfl, hb4, hs4, g1, g2, g3, g4⟩
        have HB4 : Hid (Below W3.heap.size W3 W4) := hb4
        have HS4 : Hid (W4.heap.size = W3.heap.size + 4) := hs4
        have HG1 : Hid (_ = _) := g1
        have HG2 : Hid (_ = _) := g2
        have HG3 : Hid (_ = _) := g3
        have HG4 : Hid (_ = _) := g4
        have HY3 : Hid (_ = _) := Y3
        clear hb4 hs4 g1 g2 g3 g4 r1 r2 r3 E3 Y3 l2 l3 l4
        gi_wp2
        have hFl3 : ∀ b, F' b → b < W3.heap.size := HJL.out _ _ _ HJ3.out
        have HFL3 : Hid (∀ b, F' b → b < W3.heap.size) := hFl3
        have hJ4 : J (belK ds k ah t q ++ [p]) F' W4 := HJ.out _ _ _ _ HJ3.out (Chg.of_below HB4.out)
        have HB3 : Hid (Below w0.heap.size w0 W3) := HBW.out.trans (HCW3.out.below HBW.out.size HF0.out)
        have HB04 : Hid (Below w0.heap.size w0 W4) := HB3.out.trans (HB4.out.mono HB3.out.size)
        have HNY : Hid (¬ F' W.heap.size) := fun h => by
          rcases HNF3.out _ h with h1 | h1
          · have := hF0l _ h1; omega
          · omega
        have HF3 : Hid (∀ b, F' b → w0.heap.size ≤ b) := fun b hb => by
          rcases HNF3.out _ hb with h1 | h1
          · exact HF0.out _ h1
          · have := HBW.out.size; omega
        have HY4 : Hid (W4.cell? ⟨W.heap.size, 0, none⟩ = some (.func (.yield l) #[] #[])) := cell_later HB4.out HY3.out
        have HC4W : Hid (Chg F0 W W4) := HCW3.out.trans (Chg.of_below HB4.out)
        have HN4 : Hid (NewF F0 F' W.heap.size) := fun b hb => by
          rcases HNF3.out b hb with e | e
          · exact Or.inl e
          · exact Or.inr (by omega)
        clear hFl3 HJ3
        refine wpIn_range_tells (gf := 39) (lb := #[.pointer (some ⟨W3.heap.size + 3, 0, none⟩), .pointer (some ⟨W3.heap.size, 0, none⟩), .pointer (some ⟨W3.heap.size + 1, 0, none⟩), .pointer (some ⟨W3.heap.size + 2, 0, none⟩)]) rfl (enters_of Try.func39 (by kernel_rfl) rfl) (encs := encP) (xs := belL ds k p u) (fun _ => rfl) F' ?seq
          (fun pre G X => J (belK ds k ah t q ++ [p] ++ pre) G X) (fun c pre G X => c = .ret ∧ Jx (belK ds k ah t q ++ [p] ++ pre) G X)
          (fun s G X X' h hc => HJ.out _ _ _ _ h hc) (fun s G X h => HJL.out _ _ _ h) (fun c s G X X' h hc => ⟨h.1, HJX.out _ _ _ _ h.2 hc⟩) (fun c s G X h => HJXL.out _ _ _ h.2) (by rw [List.append_nil]; exact hJ4)
          (fun x => { tmps := #[.func (.yield l) #[] #[], .pointer (some ⟨Bd, 0, none⟩), .pointer (some ⟨Bl, 0, none⟩), .pointer (some ⟨Ba, 0, none⟩), .pointer (some ⟨Bp, 0, none⟩), .pointer (some ⟨W.heap.size, 0, none⟩), undef, .pointer (some ⟨wr.heap.size, 0, none⟩), .string (mkB p), .string (mkB x), .int .i64 (D6 : Int), .bool false, .slice (some ⟨b0, o0, none⟩) nL cL, .int .i64 (t : Int), .pointer (some ⟨b0, o0 + t * 5, none⟩), .pointer (some ⟨b0, o0 + t * 5 + 4, none⟩), .slice (some ⟨b1, o1, none⟩) nE cE, .int .i64 (nE : Int), .int .i64 (q : Int), .bool true, .pointer (some ⟨b1, o1 + q * 2, none⟩), .agg #[.string (mkB nm), .int .i64 (u : Int)], .string (mkB ah), .string (mkB ah ++ mkB [47]), .pointer (some ⟨wr.heap.size, 0, none⟩), .string (mkB nm), .string (mkB p), .func (.yield l) #[] #[], .string (mkB p), .bool true, .bool false, .slice (some ⟨b0, o0, none⟩) nL cL, .pointer (some ⟨wr.heap.size, 1, none⟩), .int .i64 (u : Int), .string (mkB p), .int .i64 (D6 : Int), .int .i64 ((6 - k : Nat) : Int), .func (.func 39) #[] #[.pointer (some ⟨W3.heap.size + 3, 0, none⟩), .pointer (some ⟨W3.heap.size, 0, none⟩), .pointer (some ⟨W3.heap.size + 1, 0, none⟩), .pointer (some ⟨W3.heap.size + 2, 0, none⟩)], .string (mkB x), x39, x40, x41, x42, x43], defers := [] }) ?assign ?body ?done ?stop
        case seq =>
          intro X F1 hbX hsX hF1
          have hs4 := HS4.out
          have hno : ∀ b, W3.heap.size ≤ b → b < W3.heap.size + 4 → ¬ F1 b := fun b h1 h2 h => by
            rcases (hF1 b).1 h with e | e | e
            · have := HFL3.out b e; omega
            · omega
            · omega
          refine HIH.out u p hul hpl X F1 _ _ _ _ (HB04.out.trans (hbX.mono HB04.out.size)) (fun b hb => ?_) (cell_later hbX HG1.out) (cell_later hbX HG2.out) (cell_later hbX HG3.out) (cell_later hbX HG4.out) (hno _ (by omega) (by omega)) (hno _ (by omega) (by omega)) (hno _ (by omega) (by omega)) (hno _ (by omega) (by omega)) (by omega) (by omega) (by omega) (by omega)
          rcases (hF1 b).1 hb with e | e | e
          · exact HF3.out b e
          · have := HB04.out.size; omega
          · have := HB04.out.size; omega
        case assign =>
          intro l x X K hK
          dsimp only [encP]
          gi_wp2
          simpa using hK
        case body =>
          intro l' pre x F2 X hJ5 hc5 hn5 hsX hpx
          have hy5 : X.cell? ⟨W.heap.size, 0, none⟩ = some (.func (.yield l) #[] #[]) := chg_cellP hc5 HY4.out HNY.out
          have hcX : Chg F0 W X := HC4W.out.step HN4.out hc5
          have hnX : NewF F0 F2 W.heap.size := HN4.out.trans hn5 HC4W.out.size
          have hpx2 : (belK ds k ah t q ++ [p] ++ pre ++ [x]) <+: belL ds (k + 1) ah t := by
            refine List.IsPrefix.trans ?_ (HPRE.out (q + 1))
            rw [HSS.out, List.append_assoc (belK ds k ah t q ++ [p]) pre [x]]
            exact (List.prefix_append_right_inj _).2 hpx
          obtain ⟨fn2, tmps2, assign2, body2, hy, hR⟩ := HY.out (belK ds k ah t q ++ [p] ++ pre) x F2 X hJ5 hcX hnX hpx2
          dsimp only [encP] at hy
          have HRR : Hid (RoundIn Fence.wide 0 Try.prog l fn2 tmps2 assign2 body2 X _) := hR
          clear hR hcX hnX hpx2 hJ5 hc5 hn5 hJ4
          have l9 : W.heap.size < X.heap.size := lt_of_cell hy5
          gi_wp2
          refine ⟨rfl, RoundIn.wide (HRR.out.mono ?_)⟩
          rintro e X2 ⟨F3, c3, n3, h3⟩
          have HE3 : Hid (Chg F2 X X2 ∧ NewF F2 F3 X.heap.size) := ⟨c3, n3⟩
          clear c3 n3
          rcases h3 with ⟨rfl, h3⟩ | ⟨rfl, h3⟩
          · have H3 : Hid _ := h3
            clear h3
            gi_wp2
            exact ⟨F3, HE3.out.1, HE3.out.2, by
              show J (belK ds k ah t q ++ [p] ++ (pre ++ [x])) F3 X2
              rw [← List.append_assoc]; exact H3.out⟩
          · have H3 : Hid _ := h3
            clear h3
            gi_wp2
            exact ⟨F3, HE3.out.1, HE3.out.2, rfl, by
              show Jx (belK ds k ah t q ++ [p] ++ (pre ++ [x])) F3 X2
              rw [← List.append_assoc]; exact H3.out⟩
        case done =>
          intro F2 X hJ5 hc5 hn5 hnD hD
          have HD : Hid (_ = _) := hD
          have HJ5 : Hid (J (belK ds k ah t (q + 1)) F2 X) := by rw [HSS.out]; exact hJ5
          have HC5 : Hid (Chg F' W4 X) := hc5
          have HN5 : Hid (NewF F' F2 W4.heap.size) := hn5
          have HNDD : Hid (¬ F2 W4.heap.size) := hnD
          clear hJ5 hc5 hn5 hnD hD hJ4
          gi_wp2
          have hs3 := HB4.out.size
          have hs5 := HC5.out.size
          have HX : Hid (Chg F0 W X) := HC4W.out.step HN4.out HC5.out
          have HMS5 : Hid (∀ D ∈ W4.heap.size :: ms, W.heap.size < D ∧ D < X.heap.size ∧ ¬ F2 D ∧ X.heap[D]? = some (.deferred (some []))) := fun D hD => by
            rcases List.mem_cons.1 hD with rfl | hD
            · exact ⟨by omega, (Array.getElem?_eq_some_iff.1 HD.out).1, HNDD.out, HD.out⟩
            · obtain ⟨m1, m2, m3, m4⟩ := HMS3.out D hD
              refine ⟨m1, by omega, fun h => ?_, (HC5.out.block D (by omega) m3).trans ((HB4.out.block D m2).trans m4)⟩
              rcases HN5.out D h with h1 | h1
              · exact m3 h1
              · omega
          have HND5 : Hid ((W4.heap.size :: ms).Nodup) := List.nodup_cons.2 ⟨fun h => by have := (HMS3.out _ h).2.1; omega, HND.out⟩
          have HNF5 : Hid (NewF F0 F2 (W.heap.size + 1)) := HNF3.out.trans HN5.out (by omega)
          refine ⟨⟨q + 1, F2, W4.heap.size :: ms, _, _, _, _, _, _, _, _, _, _, _, _, _, _, _, _, _, _, _, _, _, _, _, _, _, _, _, _, rfl, hlt, HJ5.out, HX.out, HNF5.out, by omega, chg_cellP HC5.out HY4.out HNY.out, HND5.out, HMS5.out⟩, ?_⟩
          show nE - ((q : Int) + 1).toNat < nE - (q : Int).toNat
          omega
        case stop =>
          rintro c pre F2 X hpx ⟨rfl, hJ5⟩ hc5 hn5 hnD hD
          have HD : Hid (_ = _) := hD
          have HJ5 : Hid (Jx (belK ds k ah t q ++ [p] ++ pre) F2 X) := hJ5
          have HC5 : Hid (Chg F' W4 X) := hc5
          have HN5 : Hid (NewF F' F2 W4.heap.size) := hn5
          have HNDD : Hid (¬ F2 W4.heap.size) := hnD
          clear hJ5 hc5 hn5 hnD hD hJ4
          gi_wp2
          have hs3 := HB4.out.size
          have hs5 := HC5.out.size
          have HX : Hid (Chg F0 W X) := HC4W.out.step HN4.out HC5.out
          have HMS5 : Hid (∀ D ∈ W4.heap.size :: ms, W.heap.size < D ∧ D < X.heap.size ∧ ¬ F2 D ∧ X.heap[D]? = some (.deferred (some []))) := fun D hD => by
            rcases List.mem_cons.1 hD with rfl | hD
            · exact ⟨by omega, (Array.getElem?_eq_some_iff.1 HD.out).1, HNDD.out, HD.out⟩
            · obtain ⟨m1, m2, m3, m4⟩ := HMS3.out D hD
              refine ⟨m1, by omega, fun h => ?_, (HC5.out.block D (by omega) m3).trans ((HB4.out.block D m2).trans m4)⟩
              rcases HN5.out D h with h1 | h1
              · exact m3 h1
              · omega
          have HND5 : Hid ((W4.heap.size :: ms).Nodup) := List.nodup_cons.2 ⟨fun h => by have := (HMS3.out _ h).2.1; omega, HND.out⟩
          have HNF5 : Hid (NewF F0 F2 (W.heap.size + 1)) := HNF3.out.trans HN5.out (by omega)
          refine leaves_marks (W4.heap.size :: ms) X HND5.out (fun D hD => (HMS5.out D hD).2.2.2) (fun W' hc' => ⟨_, results_none rfl _ _ _, ⟨_, rfl⟩, F2, ?_, ?_, Or.inr ⟨_, ?_, HJX.out _ _ _ _ HJ5.out (hc'.mono fun b hb => (HMS5.out b hb).2.2.1)⟩⟩)
          · exact ⟨hc'.os.trans HX.out.os, hc'.tape.trans HX.out.tape, hc'.output.trans HX.out.output, Nat.le_trans HX.out.size hc'.size, fun b hb hf => (hc'.block b (by omega) (fun hm => by have := (HMS5.out b hm).1; omega)).trans (HX.out.block b hb hf)⟩
          · exact fun b hb => by rcases HNF5.out b hb with e | e
                                 · exact Or.inl e
                                 · exact Or.inr (by omega)
          · refine List.IsPrefix.trans ?_ (HPRE.out (q + 1))
            rw [HSS.out]
            exact (List.prefix_append_right_inj _).2 hpx
end Go.Proofs.Ytfdgfhcljjdcfaa

namespace Go.Proofs.Ytfdgfhcljjdcfaa
open Go.RowKit
set_option maxRecDepth 100000

/-- Texts that grow by a list of texts. -/
theorem WdT.pushL (w : World) (n₀ : Nat) (v : Value) (xs ys : List (List UInt8)) (a : Addr) (m c : Nat) (h : WdT w n₀ v xs) (hn₀ : n₀ ≤ w.heap.size) (hm : ys.length = m) (hy : AtT w (some a) m ys) (hn : xs.length + m ≤ 1048577) :
    ∃ v' X, (Builtin.append_ #[27, 27] 27 #[v, .slice (some a) m c]).run Try.prog w = .ok v' X ∧ WdT X n₀ v' (xs ++ ys) ∧ Below n₀ w X ∧ (v ≠ .slice none 0 0 → v' ≠ .slice none 0 0) ∧ (∀ b, b < w.heap.size → some b ≠ v.ownBlock → X.heap[b]? = w.heap[b]?) := by
  subst hm
  obtain ⟨i0, hi, hz0, hz1, hz2⟩ := info_parts Try.infoStr
  obtain ⟨v', X, hr, hown, hgrow, hnil⟩ := run_append_own (P := Try.prog) w n₀ 27 27 9 i0 (.string ⟨#[]⟩) 1 16 Try.underlying27 hi hz0 hz1 hz2 rfl (by decide) v xs.length (xs.map strV) h a ys.length c (ys.map strV) (by simp) (fun j u hj => by
      rw [List.getElem?_map] at hj
      cases hq : ys[j]? with
      | none => rw [hq] at hj; cases hj
      | some y =>
        rw [hq] at hj
        obtain ⟨hlt, _⟩ := List.getElem?_eq_some_iff.1 hq
        obtain ⟨b, off, e, hc⟩ := hy j hlt
        cases e
        rw [hq] at hc
        cases hj
        rw [show (⟨b, off, none⟩ : Addr).add j = ⟨b, off + j, none⟩ by unfold Addr.add; split <;> simp_all]; exact hc) (fun u hu => by
      obtain ⟨y, _, rfl⟩ := List.mem_map.1 hu
      rfl) (by unfold maxLen; omega) (by omega) hn₀
  refine ⟨v', X, hr, by unfold WdT; rw [List.length_append, List.map_append]; exact hown, below_grown hgrow hn₀ (fun k hk => ?_), fun hv hv' => ?_, fun b hb hne => hgrow.block b hb hne⟩
  · rcases h.2 with ⟨rfl, _⟩ | ⟨g, cap, cur, rfl, hb, _⟩
    · simp [Value.ownBlock] at hk
    · simp [Value.ownBlock] at hk; omega
  · exact hv (hnil.1 hv').1
theorem WdT.push' (w : World) (n₀ : Nat) (v : Value) (xs : List (List UInt8)) (y : List UInt8) (h : WdT w n₀ v xs) (hn₀ : n₀ ≤ w.heap.size) (hn : xs.length ≤ 1048576) (hv : v ≠ .slice none 0 0) :
    ∃ v' X, (Builtin.append_ #[27, 27] 27 #[v, .slice (some ⟨w.heap.size, 0, none⟩) 1 1]).run Try.prog (w.alloc (.cells #[.string (mkB y)] 9)) = .ok v' X ∧ WdT X n₀ v' (xs ++ [y]) ∧ Below n₀ w X ∧ v' ≠ .slice none 0 0 ∧ (∀ b, b < w.heap.size → some b ≠ v.ownBlock → X.heap[b]? = w.heap[b]?) := by
  obtain ⟨v', X, h1, h2, h3, h4, h5⟩ := WdT.pushL (w.alloc (.cells #[.string (mkB y)] 9)) n₀ v xs [y] ⟨w.heap.size, 0, none⟩ 1 1 (h.later (later1 _ _)) (by simp; omega) rfl (fun k hk => ⟨w.heap.size, 0, rfl, by
    obtain rfl : k = 0 := by omega
    simp [go_sem]⟩) (by omega)
  exact ⟨v', X, h1, h2, ((later1 w _).mono hn₀).trans h3, h4 hv, fun b hb hne => (h5 b (by simp; omega) hne).trans ((later1 w _).block b hb)⟩
theorem WdT.some {w : World} {n₀ : Nat} {v : Value} {xs : List (List UInt8)} (h : WdT w n₀ v xs) (hv : v ≠ .slice none 0 0) : ∃ g c, v = .slice (some ⟨g, 0, none⟩) xs.length c ∧ n₀ ≤ g ∧ g < w.heap.size := by
  rcases h.2 with ⟨rfl, _⟩ | ⟨g, cap, cur, rfl, hb, hh, _⟩
  · exact absurd rfl hv
  · exact ⟨g, cap, rfl, hb, (Array.getElem?_eq_some_iff.1 hh).1⟩
end Go.Proofs.Ytfdgfhcljjdcfaa

namespace Go.Proofs.Ytfdgfhcljjdcfaa
open Go.RowKit Go.Shelf
set_option maxRecDepth 100000
attribute [local go_sem] Oper.semAt_some

theorem wdT_keepB {w w' : World} {n₀ : Nat} {v : Value} {xs : List (List UInt8)} (h : WdT w n₀ v xs) (e : ∀ g, v.ownBlock = some g → w'.heap[g]? = w.heap[g]?) : WdT w' n₀ v xs := by
  obtain ⟨hl, h1 | ⟨g, cap, cur, rfl, h2, h3, h4⟩⟩ := h
  · exact ⟨hl, Or.inl h1⟩
  · exact ⟨hl, Or.inr ⟨g, cap, cur, rfl, h2, (e g rfl).trans h3, h4⟩⟩
/-- A text is appended: what changes is the list's own block alone, and the list lies there or in a new one. -/
theorem wdT_pushAt (w : World) (n₀ : Nat) (v : Value) (xs : List (List UInt8)) (y : List UInt8) (h : WdT w n₀ v xs) (hn₀ : n₀ ≤ w.heap.size) (hn : xs.length ≤ 1048577) :
    ∃ v' X, (Builtin.append_ #[27, 27] 27 #[v, .slice (some ⟨w.heap.size, 0, none⟩) 1 1]).run Try.prog (w.alloc (.cells #[.string (mkB y)] 9)) = .ok v' X ∧ WdT X n₀ v' (xs ++ [y]) ∧ w.grownBy X v.ownBlock ∧ ∀ g, v'.ownBlock = some g → v.ownBlock = some g ∨ w.heap.size ≤ g := by
  obtain ⟨i0, hi, hz0, hz1, hz2⟩ := info_parts Try.infoStr
  obtain ⟨v', X, hr, hown, hgrow, _, hat⟩ := run_append_own_at (P := Try.prog) (w.alloc (.cells #[strV y] 9)) n₀ 27 27 9 i0 (.string ⟨#[]⟩) 1 16 Try.underlying27 hi hz0 hz1 hz2 rfl (by decide) v xs.length (xs.map strV) (ownsRow_later h (later1 _ _)) ⟨w.heap.size, 0, none⟩ 1 1 [strV y] rfl (cell_one_new _ _ _) (by simp [Value.oneCell', strV]) (by unfold maxLen; omega) (by omega) (by simp; omega)
  refine ⟨v', X, hr, ?_, ⟨hgrow.os, hgrow.tape, hgrow.output, by have := hgrow.size; simp at this; omega, fun k hk hne => (hgrow.block k (by simp; omega) hne).trans ((later1 w _).block k hk)⟩, fun g hg => ?_⟩
  · unfold WdT
    rw [List.length_append, List.map_append]
    exact hown
  · rcases hat with e | e
    · rw [e] at hg; exact Or.inl hg
    · rw [e] at hg
      simp at hg
      exact Or.inr (by omega)
theorem wdT_ownF {w : World} {n₀ : Nat} {v : Value} {xs : List (List UInt8)} {F : Nat → Prop} (h : WdT w n₀ v xs) (hl : xs.length ≤ 1048577) (hF : ∀ g, v.ownBlock = some g → F g) : StrsO w v xs (fun b => n₀ ≤ b ∧ b < w.heap.size ∧ F b) := by
  obtain ⟨a, c, rfl⟩ := h.shape
  rcases ownT_row h with h0 | ⟨g, rfl, h1, h2, h3⟩
  · have : xs = [] := List.length_eq_zero_iff.1 h0
    subst this
    exact Or.inl ⟨rfl, a, c, rfl⟩
  · exact Or.inr ⟨g, c, ⟨h1, h2, hF g rfl⟩, rfl, hl, h3⟩
/-- How the paths stand between two rounds: the box P, the list. -/
def PthI (P : Nat) (T : List (List UInt8) → List (List UInt8)) (pre : List (List UInt8)) (F : Nat → Prop) (X : World) : Prop :=
  ∃ v, Boxed X P 27 v ∧ WdT X (P + 1) v (T pre) ∧ (T pre).length ≤ 60 ∧ F P ∧ (∀ g, v.ownBlock = some g → F g) ∧ ∀ b, F b → P ≤ b ∧ b < X.heap.size
theorem PthI.stab (P : Nat) (T : List (List UInt8) → List (List UInt8)) : Stab (PthI P T) := fun _ _ _ _ ⟨v, h1, h2, h3, h4, h5, h6⟩ hc =>
  ⟨v, (hc.block P (h6 P h4).2 (fun h => h h4)).trans h1, wdT_keepB h2 (fun g hg => hc.block g (h6 g (h5 g hg)).2 (fun h => h (h5 g hg))), h3, h4, h5, fun b hb => ⟨(h6 b hb).1, Nat.lt_of_lt_of_le (h6 b hb).2 hc.size⟩⟩
theorem PthI.lts (P : Nat) (T : List (List UInt8) → List (List UInt8)) : Lts (PthI P T) := fun _ _ _ ⟨_, _, _, _, _, _, h6⟩ b hb => (h6 b hb).2
/-- What a builtin append is known to come to, at its place in a walk of a round. -/
theorem wpListIn_append_run {F : Fence} {n : Nat} {P : Program} {w : World} {ops : Array Oper} {rest : List Oper} {o : Oper} {a : Act} {Q : Exit → Act → World → Prop} (hgd : o.guard = none) (s x : Operand) (t : TypeId)
    (hop : o.op = .call { callee := .builtin .append, args := #[s, x], argTypes := #[t, t] }) (v y : Value) (hs : a.eval s = v) (hx : a.eval x = y) (v' : Value) (w' : World)
    (hr : (Builtin.append_ #[t, t] o.type #[v, y]).run P w = .ok v' w') (h : wpListIn F n P ops Q rest (a.put o.dst v') w') : wpListIn F n P ops Q (o :: rest) a w := by
  refine wpListIn_plain hgd fun K hK => ?_
  unfold Oper.wpIn
  refine ⟨?_, ?_⟩
  · simp [Oper.about, hop, resolve, Target.leads, Sem.run_pure]
  · rw [Oper.semAt_plain F _ _ (by rw [hop]; intro c hc'; cases hc')]
    simp [execOp, hop, resolve, invoke, builtin, hs, hx, hr, Result.andThen]
    exact hK _ _ h
set_option maxRecDepth 100000 in
set_option maxHeartbeats 6400000 in
theorem implPathsU (w : World) (a1 : Option Addr) (n1 c1 : Nat) (a2 : Option Addr) (n2 c2 : Nat) (d : FD) (h : FsR w (.slice a1 n1 c1) (.slice a2 n2 c2) d) (hs : sizeFs d ≤ 1048576) :
    Calls Try.prog 7 #[.agg #[.slice a1 n1 c1, .slice a2 n2 c2]] w (AnsNR w (pathsR d)) := by
  have HB0 : Hid (Below w.heap.size w ((w.alloc (.cells #[.slice a1 n1 c1, .slice a2 n2 c2] 33)).alloc (.cells #[.int .i64 0, .slice none 0 0] 29))) := later2 _ _ _
  have HX : Hid (Bx ((w.alloc (.cells #[.slice a1 n1 c1, .slice a2 n2 c2] 33)).alloc (.cells #[.int .i64 0, .slice none 0 0] 29)) w.heap.size [.slice a1 n1 c1, .slice a2 n2 c2]) := (Bx.new w [.slice a1 n1 c1, .slice a2 n2 c2] _).later (later1 _ _)
  have HRB : Hid (OwnRow ((w.alloc (.cells #[.slice a1 n1 c1, .slice a2 n2 c2] 33)).alloc (.cells #[.int .i64 0, .slice none 0 0] 29)) (w.heap.size + 1) 2 (fun i => if i = 0 then .int .i64 0 else .slice none 0 0)) := by
    have := OwnRow.newS (w.alloc (.cells #[.slice a1 n1 c1, .slice a2 n2 c2] 33)) (.int .i64 0) (.slice none 0 0) 29
    rw [World.size_alloc] at this
    exact this
  have HF : Hid (∀ W, Below w.heap.size w W → Calls Try.prog 19 #[.agg #[.slice a1 n1 c1, .slice a2 n2 c2]] W fun e w' => e = .returned (.int .i64 (fsF d)) ∧ Below W.heap.size W w') := fun W hW => implFsU W _ _ _ _ _ _ d (h.later hW) hs
  refine (callsIn_wide (n := 0)).1 ?_
  refine callsIn_of_wp_marks Try.func7 rfl trivial ?_ rfl
  simp only [Try.ntmps7, List.size_toArray, List.length_cons, List.length_nil, Nat.reduceAdd, Nat.reduceSub, Array.replicate_succ, Array.replicate_zero, List.push_toArray, List.append_toArray, List.nil_append, List.cons_append]
  by_cases hf : fsF d = 0
  rotate_left
  · have HRR : Hid (pathsR d = (fsF d, [])) := by unfold Hid pathsR; rw [if_neg hf]
    rw [HRR.out]
    have hb : (fsF d != 0) = true := by simpa using hf
    clear hf HRR h hs
    generalize fsF d = r at *
    gi_wp2
    generalize (((w.alloc (.cells #[.slice a1 n1 c1, .slice a2 n2 c2] 33)).alloc (.cells #[.int .i64 0, .slice none 0 0] 29))) = W0 at *
    refine ⟨trivial, rfl, callsIn_wide.2 ((HF.out _ HB0.out).mono ?_)⟩
    rintro e w1 ⟨rfl, hb1⟩
    have HB1 : Hid (Below w.heap.size w w1) := HB0.out.trans (hb1.mono HB0.out.size)
    have hrow := HRB.out.later hb1
    have t0 := hrow.cell (i := 0) (by omega)
    have t1 := hrow.cell (i := 1) (by omega)
    have s0 := hrow.frozen 0
    have s1 := hrow.frozen 1
    simp at t0 t1
    clear hb1 hrow
    gi_wp2
    exact ⟨.agg #[.int .i64 r, .slice none 0 0], by simp [results, Try.results7, go_sem, t0, t1], AnsNR.none' r HB1.out (by omega) _ _⟩
  · have hok := fsE_ok (fsF_E hf)
    have HRR : Hid (pathsR d = (0, (belL d.1 6 [] 0).take 60)) := by unfold Hid pathsR; rw [if_pos hf]
    rw [HRR.out]
    rw [hf] at HF
    obtain ⟨_, _, e1, -, hAI⟩ := h.1.open'
    simp only [Value.slice.injEq] at e1
    obtain ⟨rfl, rfl, rfl⟩ := e1
    have HAI : Hid (AtI w a1 d.1.length d.1) := hAI
    have HOK : Hid (FsOk d) := hok
    clear hf HRR h hs hok hAI
    generalize hn : d.1.length = n1 at *
    have HN : Hid (d.1.length = n1) := hn
    clear hn
    gi_wp2
    generalize (((w.alloc (.cells #[.slice a1 n1 c1, .slice a2 n2 c2] 33)).alloc (.cells #[.int .i64 0, .slice none 0 0] 29))) = W0 at *
    refine ⟨trivial, rfl, callsIn_wide.2 ((HF.out _ HB0.out).mono ?_)⟩
    rintro e w1 ⟨rfl, hb1⟩
    have HB1 : Hid (Below w.heap.size w w1) := HB0.out.trans (hb1.mono HB0.out.size)
    have HR1 : Hid (OwnRow w1 (w.heap.size + 1) 2 (fun i => if i = 0 then .int .i64 0 else .slice none 0 0)) := HRB.out.later hb1
    have hlw : w.heap.size + 1 < w1.heap.size := HR1.out.lt
    have x0 := (HX.out.later hb1) 0 _ rfl
    have hlw0 : w.heap.size < w1.heap.size := by omega
    clear hb1 HX HRB HB0 HF W0
    gi_wp2
    refine ⟨trivial, rfl, callsIn_wide.2 ((pathsBelow_any (w1.alloc (.cells #[.slice none 0 0] 27)) a1 n1 c1 0 0 (mkB [])).mono ?_)⟩
    rintro e w3 ⟨rfl, hb3, hs3, g1, g2, g3, g4⟩
    rw [World.size_alloc] at hb3 hs3 g1 g2 g3 g4
    rw [World.size_alloc]
    have HB2 : Hid (Below w1.heap.size w1 (w1.alloc (.cells #[.slice none 0 0] 27))) := later1 _ _
    have HB13 : Hid (Below w1.heap.size w1 w3) := HB2.out.trans (hb3.mono (by omega))
    have HB3 : Hid (Below w.heap.size w w3) := HB1.out.trans (HB13.out.mono HB1.out.size)
    have HP3 : Hid (Boxed w3 w1.heap.size 27 (.slice none 0 0)) := (hb3.block _ (by omega)).trans (Boxed.new w1 27 (.slice none 0 0))
    have HR3 : Hid (OwnRow w3 (w.heap.size + 1) 2 (fun i => if i = 0 then .int .i64 0 else .slice none 0 0)) := HR1.out.later HB13.out
    have HS3 : Hid (w3.heap.size = w1.heap.size + 1 + 4) := hs3
    have HG1 : Hid (_ = _) := g1
    have HG2 : Hid (_ = _) := g2
    have HG3 : Hid (_ = _) := g3
    have HG4 : Hid (_ = _) := g4
    clear hb3 hs3 g1 g2 g3 g4 x0
    gi_wp2
    refine wpIn_range_tells (gf := 39) (lb := #[.pointer (some ⟨w1.heap.size + 1 + 3, 0, none⟩), .pointer (some ⟨w1.heap.size + 1, 0, none⟩), .pointer (some ⟨w1.heap.size + 1 + 1, 0, none⟩), .pointer (some ⟨w1.heap.size + 1 + 2, 0, none⟩)]) rfl (enters_of Try.func39 (by kernel_rfl) rfl) (encs := encP) (xs := belL d.1 6 [] 0) (fun _ => rfl) (fun b => b = w1.heap.size) ?seq
      (PthI w1.heap.size (fun pre => pre)) (fun c pre G X => (c = .exit 0 ∧ 60 ≤ pre.length) ∧ PthI w1.heap.size (fun pre => pre.take 60) pre G X)
      (PthI.stab _ _) (PthI.lts _ _) (fun c s G X X' h hc => ⟨h.1, PthI.stab _ _ _ _ _ _ h.2 hc⟩) (fun c s G X h => PthI.lts _ _ _ _ _ h.2)
      ⟨_, HP3.out, WdT.nil _ _, by simp, rfl, fun g hg => by simp [Value.ownBlock] at hg, fun b hb => ⟨by omega, by have := HS3.out; omega⟩⟩
      (fun x => { tmps := #[.agg #[.slice a1 n1 c1, .slice a2 n2 c2], .pointer (some ⟨w.heap.size, 0, none⟩), .pointer (some ⟨w.heap.size + 1, 0, none⟩), .int .i64 0, .pointer (some ⟨w1.heap.size, 0, none⟩), .string (mkB x), .agg #[.slice a1 n1 c1, .slice a2 n2 c2], .int .i64 0, .int .i64 0, .bool false, undef, undef, .pointer (some ⟨w.heap.size, 0, none⟩), .slice a1 n1 c1, .func (.func 39) #[] #[.pointer (some ⟨w1.heap.size + 1 + 3, 0, none⟩), .pointer (some ⟨w1.heap.size + 1, 0, none⟩), .pointer (some ⟨w1.heap.size + 1 + 1, 0, none⟩), .pointer (some ⟨w1.heap.size + 1 + 2, 0, none⟩)], .string (mkB x), undef, undef, undef, undef, undef, undef, undef, undef, undef], defers := [] }) ?assign ?body ?done ?stop
    case seq =>
      intro X F1 hbX hsX hF1
      have hs3 := HS3.out
      have hno : ∀ b, w1.heap.size < b → b < w1.heap.size + 5 → ¬ F1 b := fun b h1 h2 h => by
        rcases (hF1 b).1 h with e | e | e <;> omega
      refine below1_tells w a1 n1 c1 d.1 HN.out HOK.out.rng HOK.out.ins (fun i => by rw [← entsOf_len]; exact HOK.out.six i) HAI.out 6 (by omega) 0 [] (by rw [← HN.out]; exact HOK.out.pos) (by simp) X F1 _ _ _ _ (HB3.out.trans (hbX.mono HB3.out.size)) (fun b hb => ?_) (cell_later hbX HG1.out) (cell_later hbX HG2.out) (cell_later hbX HG3.out) (cell_later hbX HG4.out) (hno _ (by omega) (by omega)) (hno _ (by omega) (by omega)) (hno _ (by omega) (by omega)) (hno _ (by omega) (by omega)) (by omega) (by omega) (by omega) (by omega)
      rcases (hF1 b).1 hb with e | e | e <;> omega
    case assign =>
      intro l x X K hK
      dsimp only [encP]
      gi_wp2
      simpa using hK
    case body =>
      rintro l' pre x F2 X ⟨v, q1, q2, q3, q4, q5, q6⟩ hc5 hn5 hsX hpx
      obtain ⟨av, cv, rfl⟩ := q2.shape
      have t4 := q1.cell
      have f4 := q1.frozen
      have l4 : w1.heap.size < X.heap.size := q1.lt
      have HQ : Hid (PthI w1.heap.size (fun pre => pre) pre F2 X) := ⟨_, q1, q2, q3, q4, q5, q6⟩
      by_cases h60 : pre.length = 60
      · have HT : Hid (PthI w1.heap.size (fun pre => pre.take 60) (pre ++ [x]) F2 X) := ⟨_, q1, by simpa [h60] using q2, by simp; omega, q4, q5, q6⟩
        have HLL : Hid (60 ≤ (pre ++ [x]).length) := by unfold Hid; simp; omega
        clear q1 q2 q3 q4 q5 q6 HQ hc5 hn5 hpx
        rw [h60] at t4
        gi_wp2
        exact ⟨F2, Chg.refl _ _, NewF.refl _ _, ⟨rfl, HLL.out⟩, HT.out⟩
      · have hd : ((pre.length : Int) == 60) = false := by simp; omega
        obtain ⟨v', X2, hr, hw', hg, hat⟩ := wdT_pushAt X (w1.heap.size + 1) (.slice av pre.length cv) pre x q2 (by omega) (by simp at q3; omega)
        obtain ⟨av', cv', hv'⟩ := hw'.shape
        have hrow := World.ownsRow.lt q2
        have hne : some w1.heap.size ≠ (Value.slice av pre.length cv).ownBlock := fun e => by have := (hrow _ e.symm).1; omega
        have hB2 : Boxed X2 w1.heap.size 27 (.slice av pre.length cv) := q1.kept hg hne
        have t5 := hB2.cell
        have f5 := hB2.frozen
        have hs2 := hg.size
        have HC2 : Hid (Chg F2 X X2) := ⟨hg.os, hg.tape, hg.output, hg.size, fun b hb hf => hg.block b hb (fun e => hf (q5 b e.symm))⟩
        have hrow' := World.ownsRow.lt hw'
        have HWD : Hid (WdT (X2.setCell ⟨w1.heap.size, 0, none⟩ v') (w1.heap.size + 1) v' (pre ++ [x])) := wdT_keepB hw' fun g hg => Below.heap_setCell _ _ _ _ (by have := (hrow' g hg).1; show g ≠ w1.heap.size; omega)
        have HFIN : Hid (∃ F', Chg F2 X (X2.setCell ⟨w1.heap.size, 0, none⟩ v') ∧ NewF F2 F' X.heap.size ∧ PthI w1.heap.size (fun pre => pre) (pre ++ [x]) F' (X2.setCell ⟨w1.heap.size, 0, none⟩ v')) := by
          refine ⟨fun b => F2 b ∨ v'.ownBlock = some b, HC2.out.set q4 0 v', fun b hb => ?_, _, hB2.set v', HWD.out, by simp at q3 ⊢; omega, Or.inl q4, fun g hg => Or.inr hg, fun b hb => ?_⟩
          · rcases hb with e | e
            · exact Or.inl e
            · rcases hat b e with e | e
              · exact Or.inl (q5 b e)
              · exact Or.inr e
          · simp only [World.size_setCell]
            rcases hb with e | e
            · have := q6 b e; omega
            · have := hrow' b e; omega
        clear q1 q2 q3 q4 q5 q6 HQ hc5 hn5 hpx hw' hg hat hrow hrow' hB2 hne HWD HC2
        have HRN : Hid (_ = _) := hr
        clear hr
        subst hv'
        gi_wp2_with (first | refine wpListIn_append_run rfl _ _ 27 rfl _ _ rfl rfl _ _ HRN.out ?_ | fail)
        have h9 := HFIN.out
        simp only [List.length_append, List.length_cons, List.length_nil, Nat.zero_add] at h9
        exact h9
    case done =>
      intro F2 X hI hc5 hn5 hnD hD
      have HI : Hid (PthI w1.heap.size (fun pre => pre) (belL d.1 6 [] 0) F2 X) := hI
      have HCC : Hid (Chg (fun b => b = w1.heap.size) w3 X) := hc5
      have HE : Hid ((belL d.1 6 [] 0).take 60 = belL d.1 6 [] 0) := by
        obtain ⟨_, _, _, h3, _⟩ := hI
        exact List.take_of_length_le h3
      clear hI hc5 hn5
      generalize belL d.1 6 [] 0 = ys at *
      obtain ⟨v, q1, q2, q3, q4, q5, q6⟩ := HI.out
      obtain ⟨av, cv, rfl⟩ := q2.shape
      have HWN : Hid (Below w.heap.size w X) := HB3.out.trans (HCC.out.below HB3.out.size (fun b hb => by subst hb; omega))
      have hrow : OwnRow X (w.heap.size + 1) 2 (fun i => if i = 0 then .int .i64 0 else .slice none 0 0) := HR3.out.block (HCC.out.block _ (by have := HS3.out; omega) (by omega))
      have t0 := hrow.cell (i := 0) (by omega)
      have t1 := hrow.cell (i := 1) (by omega)
      have s0 := hrow.frozen 0
      have s1 := hrow.frozen 1
      simp at t0 t1
      have t4 := q1.cell
      have l4 : w1.heap.size < X.heap.size := q1.lt
      have l5 : w.heap.size + 1 < X.heap.size := hrow.lt
      have HST : Hid (StrsO X (.slice av (ys).length cv) (ys) (fun b => w.heap.size ≤ b ∧ b < X.heap.size ∧ b ≠ w.heap.size + 1 ∧ b ≠ w3.heap.size)) := (wdT_ownF q2 (by omega) q5).mono fun b hb => ⟨by omega, hb.2.1, by omega, fun e => hnD (e ▸ hb.2.2)⟩
      have HROW : Hid (OwnRow X (w.heap.size + 1) 2 (fun i => if i = 0 then .int .i64 0 else .slice none 0 0)) := hrow
      have HD3 : Hid (w3.heap.size ≠ w.heap.size + 1) := by have := HS3.out; unfold Hid; omega
      have HDW : Hid (X.heap[w3.heap.size]? = some (.deferred (some []))) := hD
      clear q1 q2 q3 q4 q5 q6 hrow hD hnD
      generalize (ys).length = ln at *
      gi_wp2
      refine leaves_marks [w3.heap.size] _ (by simp) (fun D hDm => ?_) (fun W' hc' => ?_)
      · obtain rfl : D = w3.heap.size := by simpa using hDm
        rw [Below.heap_setCell _ _ _ _ HD3.out, Below.heap_setCell _ _ _ _ HD3.out]; exact HDW.out
      · have hm : ¬ (w.heap.size + 1) ∈ [w3.heap.size] := by simpa using HD3.out.symm
        have p0 := chg_cellP hc' (((HROW.out.set 0 _).set 1 _).cell (i := 0) (by omega)) hm
        have p1 := chg_cellP hc' (((HROW.out.set 0 _).set 1 _).cell (i := 1) (by omega)) hm
        simp at p0 p1
        have hs' := hc'.size
        simp only [World.size_setCell] at hs'
        have hs3 := HS3.out
        refine ⟨.agg #[.int .i64 0, .slice av ln cv], by simp [results, Try.results7, go_sem, p0, p1], ⟨av, ln, cv, rfl, ((HWN.out.setCell (p := ⟨w.heap.size + 1, 0, none⟩) (by show w.heap.size ≤ w.heap.size + 1; omega) _).setCell (p := ⟨w.heap.size + 1, 1, none⟩) (by show w.heap.size ≤ w.heap.size + 1; omega) _).trans (hc'.below (by simp only [World.size_setCell]; omega) (fun b hb => Nat.le_of_lt (by
          have h9 : b = w3.heap.size := by simpa using hb
          omega))), ?_⟩⟩
        show StrsO W' _ (List.take 60 ys) _
        rw [HE.out]
        refine (StrsO.chg (HST.out.keep fun b hb _ => ?_) hc' (fun b hb hm2 => hb.2.2.2 (by simpa using hm2))).mono fun b hb => ⟨hb.1, by omega⟩
        rw [Below.heap_setCell _ _ _ _ hb.2.2.1, Below.heap_setCell _ _ _ _ hb.2.2.1]
    case stop =>
      rintro c pre F2 X hpx ⟨⟨rfl, h60⟩, hI⟩ hc5 hn5 hnD hD
      have HCC : Hid (Chg (fun b => b = w1.heap.size) w3 X) := hc5
      have HI0 : Hid (PthI w1.heap.size (fun pre => pre.take 60) pre F2 X) := hI
      have HE : Hid ((belL d.1 6 [] 0).take 60 = pre.take 60) := by
        obtain ⟨r, hr⟩ := hpx
        unfold Hid
        rw [← hr, List.take_append_of_le_length h60]
      have HI : Hid (PthI w1.heap.size (fun pre => pre) (pre.take 60) F2 X) := HI0.out
      clear hI hc5 hn5 hpx h60 HI0
      generalize pre.take 60 = ys at *
      obtain ⟨v, q1, q2, q3, q4, q5, q6⟩ := HI.out
      obtain ⟨av, cv, rfl⟩ := q2.shape
      have HWN : Hid (Below w.heap.size w X) := HB3.out.trans (HCC.out.below HB3.out.size (fun b hb => by subst hb; omega))
      have hrow : OwnRow X (w.heap.size + 1) 2 (fun i => if i = 0 then .int .i64 0 else .slice none 0 0) := HR3.out.block (HCC.out.block _ (by have := HS3.out; omega) (by omega))
      have t0 := hrow.cell (i := 0) (by omega)
      have t1 := hrow.cell (i := 1) (by omega)
      have s0 := hrow.frozen 0
      have s1 := hrow.frozen 1
      simp at t0 t1
      have t4 := q1.cell
      have l4 : w1.heap.size < X.heap.size := q1.lt
      have l5 : w.heap.size + 1 < X.heap.size := hrow.lt
      have HST : Hid (StrsO X (.slice av (ys).length cv) (ys) (fun b => w.heap.size ≤ b ∧ b < X.heap.size ∧ b ≠ w.heap.size + 1 ∧ b ≠ w3.heap.size)) := (wdT_ownF q2 (by omega) q5).mono fun b hb => ⟨by omega, hb.2.1, by omega, fun e => hnD (e ▸ hb.2.2)⟩
      have HROW : Hid (OwnRow X (w.heap.size + 1) 2 (fun i => if i = 0 then .int .i64 0 else .slice none 0 0)) := hrow
      have HD3 : Hid (w3.heap.size ≠ w.heap.size + 1) := by have := HS3.out; unfold Hid; omega
      have HDW : Hid (X.heap[w3.heap.size]? = some (.deferred (some []))) := hD
      clear q1 q2 q3 q4 q5 q6 hrow hD hnD
      generalize (ys).length = ln at *
      gi_wp2
      refine leaves_marks [w3.heap.size] _ (by simp) (fun D hDm => ?_) (fun W' hc' => ?_)
      · obtain rfl : D = w3.heap.size := by simpa using hDm
        rw [Below.heap_setCell _ _ _ _ HD3.out, Below.heap_setCell _ _ _ _ HD3.out]; exact HDW.out
      · have hm : ¬ (w.heap.size + 1) ∈ [w3.heap.size] := by simpa using HD3.out.symm
        have p0 := chg_cellP hc' (((HROW.out.set 0 _).set 1 _).cell (i := 0) (by omega)) hm
        have p1 := chg_cellP hc' (((HROW.out.set 0 _).set 1 _).cell (i := 1) (by omega)) hm
        simp at p0 p1
        have hs' := hc'.size
        simp only [World.size_setCell] at hs'
        have hs3 := HS3.out
        refine ⟨.agg #[.int .i64 0, .slice av ln cv], by simp [results, Try.results7, go_sem, p0, p1], ⟨av, ln, cv, rfl, ((HWN.out.setCell (p := ⟨w.heap.size + 1, 0, none⟩) (by show w.heap.size ≤ w.heap.size + 1; omega) _).setCell (p := ⟨w.heap.size + 1, 1, none⟩) (by show w.heap.size ≤ w.heap.size + 1; omega) _).trans (hc'.below (by simp only [World.size_setCell]; omega) (fun b hb => Nat.le_of_lt (by
          have h9 : b = w3.heap.size := by simpa using hb
          omega))), ?_⟩⟩
        show StrsO W' _ (List.take 60 (belL d.1 6 [] 0)) _
        rw [HE.out]
        refine (StrsO.chg (HST.out.keep fun b hb _ => ?_) hc' (fun b hb hm2 => hb.2.2.2 (by simpa using hm2))).mono fun b hb => ⟨hb.1, by omega⟩
        rw [Below.heap_setCell _ _ _ _ hb.2.2.1, Below.heap_setCell _ _ _ _ hb.2.2.1]
end Go.Proofs.Ytfdgfhcljjdcfaa

namespace Go.Proofs.Ytfdgfhcljjdcfaa
open Go.RowKit
set_option maxRecDepth 100000

theorem any_drop {l : List Int} {k : Nat} {a : Int} {p : Int → Bool} (h : l[k]? = some a) : (l.drop k).any p = (p a || (l.drop (k + 1)).any p) := by
  obtain ⟨hk, e⟩ := List.getElem?_eq_some_iff.1 h
  rw [List.drop_eq_getElem_cons hk, e]; rfl
end Go.Proofs.Ytfdgfhcljjdcfaa

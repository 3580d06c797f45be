
/- SplitPath, the program's. -/
import Derived.RangeFuncWrites
import Derived.RangeFuncBox
import Derived.Maps.AppendAt
import Derived.Test.YtcmkfapgpolglaaPthA
import Derived.Test.YtcmkfapgpolglaaOwn
namespace Go.Proofs.Ytcmkfapgpolglaa
open Go.RowKit Go.Shelf
set_option maxRecDepth 100000
attribute [local go_sem] Oper.semAt_some

theorem Try.infoStr : (Try.prog.info? 9).map (fun i => (i.zero, i.size, i.bytes)) = some (some (.string ⟨#[]⟩), 1, 16) := by kernel_rfl
/-- The cells of a list of texts. -/
def strV (l : List UInt8) : Value := .string (mkB l)
theorem clone_any (w : World) (l : List UInt8) (hl : l.length ≤ 1048576) : Calls Try.prog 84 #[.string (mkB l)] w fun e w' => e = .returned (.string (mkB l)) ∧ Below w.heap.size w w' := by
  go_enter Try.func84, Try.ntmps84
  go_wp2_with fail
  refine (Try.stringslite_Clone (mkB l) _ (by rw [mkB_size]; omega)).mono ?_
  rintro e w1 ⟨rfl, hb1⟩
  go_wp2
  go_ret
  exact ⟨rfl, hb1⟩
/-- The names that SplitPath answers. -/
def splitL (l : List UInt8) : List (List UInt8) := if pathF l = 0 then namesL l else []

theorem ownsRow_later {B : Nat} {e : TypeId} {k : Nat} {v : Value} {n : Nat} {xs : List Value} {w w' : World} (h : w.ownsRow B e k v n xs) (hb : Below w.heap.size w w') : w'.ownsRow B e k v n xs :=
  h.kept (row := none) ⟨hb.os, hb.tape, hb.output, hb.size, fun j hj _ => hb.block j hj⟩ (by cases hv : v.ownBlock <;> simp)
theorem ownsRow_shape {w : World} {B : Nat} {e : TypeId} {k : Nat} {v : Value} {n : Nat} {xs : List Value} (h : w.ownsRow B e k v n xs) : ∃ a c, v = .slice a n c := by
  rcases h.2 with ⟨rfl, rfl⟩ | ⟨g, cap, cur, rfl, _⟩
  · exact ⟨_, _, rfl⟩
  · exact ⟨_, _, rfl⟩
theorem ownsRow_base {w : World} {B B' : Nat} {e : TypeId} {k : Nat} {v : Value} {n : Nat} {xs : List Value} (h : w.ownsRow B e k v n xs) (hb : B' ≤ B) : w.ownsRow B' e k v n xs := by
  obtain ⟨hl, h | ⟨g, cap, cur, h1, h2, r⟩⟩ := h
  · exact ⟨hl, Or.inl h⟩
  · exact ⟨hl, Or.inr ⟨g, cap, cur, h1, Nat.le_trans hb h2, r⟩⟩
theorem ownsRow_store {w : World} {B : Nat} {e : TypeId} {k : Nat} {v : Value} {n : Nat} {xs : List Value} (h : w.ownsRow B e k v n xs) {p : Addr} (hp : p.block < B) (u : Value) : (w.setCell p u).ownsRow B e k v n xs := by
  obtain ⟨hl, h | ⟨g, cap, cur, h1, h2, h3, r⟩⟩ := h
  · exact ⟨hl, Or.inl h⟩
  · exact ⟨hl, Or.inr ⟨g, cap, cur, h1, h2, (Below.heap_setCell _ _ _ _ (by omega)).trans h3, r⟩⟩
theorem keeps_later {w w' : World} (hb : Below w.heap.size w w') : KeepsOthers w w' := ⟨hb.size, fun j _ hj _ => (hb.block j (Array.getElem?_eq_some_iff.1 hj).1).trans hj⟩
theorem OwnRow.newS (w : World) (x y : Value) (t : TypeId) : OwnRow (w.alloc (.cells #[x, y] t)) w.heap.size 2 (fun i => if i = 0 then x else y) := by
  refine ⟨_, t, World.alloc_heap_new w _, by simp, fun i hi => ?_⟩
  have : i = 0 ∨ i = 1 := by omega
  rcases this with rfl | rfl <;> simp

/-- One text more behind a row: what the program's append comes to, behind a call that made memory of its own. -/
theorem append_str (W w2 : World) (n₀ B : Nat) (v : Value) (n : Nat) (xs : List Value) (y : List UInt8) (hxn : xs.length = n) (hv : Boxed W B 64 v) (hrow : W.ownsRow n₀ 9 1 v n xs) (hn₀ : n₀ ≤ W.heap.size) (hB : n₀ ≤ B) (hb2 : Below W.heap.size W w2) (hn : n ≤ 1048577) :
    ∃ g c X, (Builtin.append_ #[64, 64] 64 #[v, .slice (some ⟨w2.heap.size, 0, none⟩) 1 1]).run Try.prog (w2.alloc (.cells #[strV y] 9)) = .ok (.slice (some ⟨g, 0, none⟩) (n + 1) c) X ∧ X.cell? ⟨B, 0, none⟩ = some v ∧ X.frozen? ⟨B, 0, none⟩ = false ∧
      Boxed (X.setCell ⟨B, 0, none⟩ (.slice (some ⟨g, 0, none⟩) (n + 1) c)) B 64 (.slice (some ⟨g, 0, none⟩) (n + 1) c) ∧ (X.setCell ⟨B, 0, none⟩ (.slice (some ⟨g, 0, none⟩) (n + 1) c)).ownsRow n₀ 9 1 (.slice (some ⟨g, 0, none⟩) (n + 1) c) (n + 1) (xs ++ [strV y]) ∧
      KeepsOthers W (X.setCell ⟨B, 0, none⟩ (.slice (some ⟨g, 0, none⟩) (n + 1) c)) ∧ Below n₀ W (X.setCell ⟨B, 0, none⟩ (.slice (some ⟨g, 0, none⟩) (n + 1) c)) := by
  subst hxn
  obtain ⟨i0, hi, hz0, hz1, hz2⟩ := info_parts Try.infoStr
  have hv2 : Boxed w2 B 64 v := (hb2.block B hv.lt).trans hv
  have hrow2 := ownsRow_later hrow hb2
  have hs2 := hb2.size
  obtain ⟨v', X, hr, hown, hgrow, _⟩ := run_append_own (P := Try.prog) (w2.alloc (.cells #[strV y] 9)) n₀ 64 64 9 i0 (.string ⟨#[]⟩) 1 16 Try.underlying64 hi hz0 hz1 hz2 rfl (by decide) v xs.length xs (ownsRow_later hrow2 (later1 _ _)) ⟨w2.heap.size, 0, none⟩ 1 1 [strV y] rfl (cell_one_new _ _ _) (by simp [Value.oneCell', strV]) (by unfold maxLen; omega) (by omega) (by simp; omega)
  obtain ⟨g, c, rfl⟩ := ownsRow_succ hown
  obtain ⟨h1, h2, h3, h4, h5⟩ := hv2.appended (by decide) hrow2 (by omega) hB hown hgrow
  exact ⟨g, c, X, hr, h1.cell, h1.frozen, h2, h3, (keeps_later hb2).trans h4, (hb2.mono hn₀).trans h5⟩

/-- What a builtin append is known to come to, inside a region of a round that draws its order. -/
theorem stepIn_append_run {F : Fence} {n : Nat} {P : Program} {w : World} {ops : Array Oper} {o : Oper} {a : Act} {K : Act → World → Prop} {Q : Exit → Act → World → Prop} {E : Prop} (hgd : o.guard = none) (s x : Operand) (t : TypeId)
    (hop : o.op = .call { callee := .builtin .append, args := #[s, x], argTypes := #[t, t] }) (v y : Value) (hs : a.eval s = v) (hx : a.eval x = y) (v' : Value) (w' : World)
    (hr : (Builtin.append_ #[t, t] o.type #[v, y]).run P w = .ok v' w') (h : K (a.put o.dst v') w') : if Region.wanted o (yielded ops a.tmps) = true then Oper.wpIn F n P o a w K Q else E := by
  have hw : Region.wanted o (yielded ops a.tmps) = true := by simp [Region.wanted, hgd]
  rw [if_pos hw]
  unfold Oper.wpIn
  refine ⟨?_, ?_⟩
  · simp [Oper.about, hop, resolve, Target.leads, Sem.run_pure]
  · rw [Oper.semAt_plain F _ _ (by rw [hop]; intro c hc'; cases hc')]
    simp [execOp, hop, resolve, invoke, builtin, hs, hx, hr, Result.andThen]
    exact h

set_option maxRecDepth 100000 in
set_option maxHeartbeats 2000000 in
theorem implSplit_bad (w : World) (p : List UInt8) (hp : p.length ≤ 1048576) (h0 : ¬ pathF p = 0) :
    Calls Try.prog 31 #[.string (mkB p)] w fun e w' => e = .returned (.agg #[.int .i64 (pathF p), .slice none 0 0]) ∧ Below w.heap.size w w' := by
  generalize hf : pathF p = f at *
  have HF : Hid (pathF p = f) := hf
  have hne : (f != 0) = true := by simpa using h0
  clear hf h0
  go_enter Try.func31, Try.ntmps31
  go_wp2_with fail
  refine (pathFault_any _ p hp).mono ?_
  rw [HF.out]
  rintro e w1 ⟨rfl, hb1⟩
  have HW1 : Hid (Below w.heap.size w w1) := (later1 _ _).trans (hb1.mono (by simp))
  have HR := (OwnRow.newS w (.int .i64 0) (.slice none 0 0) 66).block (hb1.block w.heap.size (by simp))
  have t0 := HR.cell (i := 0) (by omega)
  have t1 := HR.cell (i := 1) (by omega)
  have s0 := HR.frozen 0
  have s1 := HR.frozen 1
  simp at t0 t1
  clear hb1 HR
  go_wp2
  exact bodyPost_ret (v := .agg #[.int .i64 f, .slice none 0 0]) (by simp [results, Try.results31, go_sem, t0, t1]) rfl ⟨rfl, (HW1.out.setCell (by simp) _).setCell (by simp) _⟩

set_option maxRecDepth 100000 in
set_option maxHeartbeats 2000000 in
theorem implSplit_ok (w : World) (p : List UInt8) (hp : p.length ≤ 1048576) (h0 : pathF p = 0) :
    Calls Try.prog 31 #[.string (mkB p)] w fun e w' => ∃ a c, e = .returned (.agg #[.int .i64 0, .slice a (namesL p).length c]) ∧ Below w.heap.size w w' ∧ w'.ownsRow w.heap.size 9 1 (.slice a (namesL p).length c) (namesL p).length ((namesL p).map strV) := by
  have HF : Hid (pathF p = 0) := h0
  have hlen := namesL_len p
  clear h0
  refine (callsIn_wide (n := 6)).1 ?_
  refine callsIn_of_wp_marks Try.func31 rfl trivial ?_ rfl
  simp only [Try.ntmps31, List.size_toArray, List.length_cons, List.length_nil, Nat.reduceAdd, Nat.reduceSub, Array.replicate_succ, Array.replicate_zero, List.push_toArray, List.append_toArray, List.nil_append, List.cons_append]
  gi_wp2
  refine ⟨trivial, (callsIn_wide.2 (pathFault_any _ p hp)).mono ?_⟩
  rw [HF.out]
  rintro e w1 ⟨rfl, hb1⟩
  have HW1 : Hid (Below w.heap.size w w1) := (later1 _ _).trans (hb1.mono (by simp))
  have HR1 : Hid (OwnRow w1 w.heap.size 2 (fun i => if i = 0 then .int .i64 0 else .slice none 0 0)) := (OwnRow.newS w (.int .i64 0) (.slice none 0 0) 66).block (hb1.block w.heap.size (by simp))
  clear hb1
  gi_wp2
  refine ⟨trivial, (callsIn_wide.2 (namesOf_any _ p)).mono ?_⟩
  rintro e w2 ⟨rfl, rfl⟩
  gi_wp2
  have bO := Boxed.new w1 64 (.slice none 0 0)
  have hB0 : Below w1.heap.size w1 ((w1.alloc (.cells #[.slice none 0 0] 64)).alloc (.cells #[.string (mkB p)] 9)) := later2 _ _ _
  have hcs : ((w1.alloc (.cells #[.slice none 0 0] 64)).alloc (.cells #[.string (mkB p)] 9)).cell? ⟨w1.heap.size + 1, 0, none⟩ = some (.string (mkB p)) := by
    have := (cell_new_l (w1.alloc (.cells #[.slice none 0 0] 64)) (.string (mkB p)) 9).1
    rwa [World.size_alloc] at this
  refine wpIn_rangeFunc_ownF rfl (by omega) (gf := 111) (lb := #[.pointer (some ⟨w1.heap.size + 1, 0, none⟩)]) rfl trivial (enters_of Try.func111 (by kernel_rfl) rfl)
    (names_stops 5 (by omega) (w1.heap.size + 1) w1.heap.size p hp _ (by simp) hcs) belowK_t (belowK_b (by simp; omega)) (Below.refl _ _) (fun _ => rfl)
    (fun pre W => (∃ v, Boxed W w1.heap.size 64 v ∧ W.ownsRow w1.heap.size 9 1 v pre.length ((txt pre).map strV) ∧ True) ∧ Below w1.heap.size w1 W)
    (fun _ _ _ => False)
    (OwnFrom.and (Own.from (holdsRow_own w1.heap.size w1.heap.size 64 9 1 (fun pre => pre.length) (fun pre => (txt pre).map strV) (fun _ _ => True)) _) (ownFrom_below (Nat.le_refl _) (by simp; omega)))
    (fun _ _ _ _ _ hs _ _ => hs)
    ⟨⟨_, bO.alloc _, World.ownsRow_nil _ _ _ _, trivial⟩, hB0⟩
    (fun x => { tmps := #[.string (mkB p), undef, .pointer (some ⟨w.heap.size, 0, none⟩), .int .i64 0, .pointer (some ⟨w1.heap.size, 0, none⟩), .string (mkB x.1), .string (mkB p), .int .i64 0, .int .i64 0, .bool false, undef, undef, .string (mkB p), .func (.func 111) #[] #[.pointer (some ⟨w1.heap.size + 1, 0, none⟩)], .string (mkB x.1), undef, undef, undef, undef, undef, undef, undef], defers := [] }) ?assign ?body ?done ?stop
  case assign =>
    intro l x W K hK
    gi_wp2
    exact hK
  case body =>
    rintro l pre x W ⟨⟨v, hv, hrow, _⟩, hB⟩ hlt
    obtain ⟨aV, cV, rfl⟩ := ownsRow_shape hrow
    have hc := hv.cell
    have hxl := x.2
    have HML : Hid (((txt pre).map strV).length = pre.length) := by unfold Hid; simp [txt]
    have hmx : Try.prog.follows Departure.mixedOrders = true := by kernel_rfl
    have HSN : Hid (txt (pre ++ [x]) = txt pre ++ [x.1]) := by unfold Hid; simp [txt]
    have HROW : Hid (W.ownsRow w1.heap.size 9 1 (.slice aV pre.length cV) pre.length ((txt pre).map strV)) := hrow
    have HV : Hid (Boxed W w1.heap.size 64 (.slice aV pre.length cV)) := hv
    have HB : Hid (Below w1.heap.size w1 W) := hB
    clear hrow hv hB
    gi_wp2
    refine wpIn_region_any hmx ?_
    change wpAnyIn _ _ _ _ _ _ _ _ _ (World.drew _)
    refine wpAnyIn_ready (rs := [0, 1]) (by kernel_rfl) (by simp) ?_
    refine AllReadyIn.cons rfl (fun K hK => ?_) ?_
    · go_simp
      refine hK _ _ ?_
      clear hK K
      refine wpAnyIn_ready (rs := [1]) (by kernel_rfl) (by simp) ?_
      refine AllReadyIn.cons rfl (fun K hK => ?_) ?_
      · go_simp
        refine hK _ _ ?_
        clear hK K
        refine wpAnyIn_ready (rs := [2]) (by kernel_rfl) (by simp) ?_
        refine AllReadyIn.cons rfl (fun K hK => ?_) ?_
        · go_simp
          refine ⟨trivial, ?_⟩
          refine (CallsIn.inRound l (callsIn_wide.2 (clone_any _ x.1 hxl))).mono ?_
          rintro e w3 ⟨rfl, hb3'⟩
          have hb3 : Below W.heap.size W w3 := (Below.refl _ _).drew.trans hb3'
          have hc3 := cell_later hb3 hc
          have hzB : w1.heap.size < w3.heap.size := Nat.lt_of_lt_of_le HV.out.lt hb3.size
          obtain ⟨g, c, X, hap, hX0, hX1, hX2, hX3, hX4, hX5⟩ := append_str W w3 w1.heap.size w1.heap.size _ pre.length _ x.1 HML.out HV.out HROW.out HB.out.size (Nat.le_refl _) hb3 (by omega)
          have HAP : Hid (_ = _) := hap
          clear hap hb3'
          refine hK _ _ ?_
          clear hK K
          refine wpAnyIn_ready (rs := [3]) (by kernel_rfl) (by simp) ?_
          refine AllReadyIn.cons rfl (fun K hK => ?_) ?_
          · go_simp
            refine hK _ _ ?_
            clear hK K
            refine wpAnyIn_ready (rs := [4]) (by kernel_rfl) (by simp) ?_
            refine AllReadyIn.cons rfl (fun K hK => ?_) ?_
            · refine stepIn_append_run rfl _ _ 64 rfl _ _ rfl rfl _ _ HAP.out ?_
              refine hK _ _ ?_
              clear hK K
              refine wpAnyIn_ready (rs := [5]) (by kernel_rfl) (by simp) ?_
              refine AllReadyIn.cons rfl (fun K hK => ?_) ?_
              · go_simp
                refine hK _ _ ?_
                clear hK K
                refine wpAnyIn_done (by kernel_rfl) ?_ _
                exact ⟨hX4, hX5, ⟨_, hX2, by rw [HSN.out, List.map_append, List.length_append]; exact hX3, trivial⟩, HB.out.trans hX5⟩
              exact AllReadyIn.nil
            exact AllReadyIn.nil
          exact AllReadyIn.nil
        exact AllReadyIn.nil
      exact AllReadyIn.nil
    refine AllReadyIn.cons rfl (fun K hK => ?_) ?_
    · go_simp
      refine hK _ _ ?_
      clear hK K
      refine wpAnyIn_ready (rs := [0, 2]) (by kernel_rfl) (by simp) ?_
      refine AllReadyIn.cons rfl (fun K hK => ?_) ?_
      · go_simp
        refine hK _ _ ?_
        clear hK K
        refine wpAnyIn_ready (rs := [2]) (by kernel_rfl) (by simp) ?_
        refine AllReadyIn.cons rfl (fun K hK => ?_) ?_
        · go_simp
          refine ⟨trivial, ?_⟩
          refine (CallsIn.inRound l (callsIn_wide.2 (clone_any _ x.1 hxl))).mono ?_
          rintro e w3 ⟨rfl, hb3'⟩
          have hb3 : Below W.heap.size W w3 := (Below.refl _ _).drew.trans hb3'
          have hc3 := cell_later hb3 hc
          have hzB : w1.heap.size < w3.heap.size := Nat.lt_of_lt_of_le HV.out.lt hb3.size
          obtain ⟨g, c, X, hap, hX0, hX1, hX2, hX3, hX4, hX5⟩ := append_str W w3 w1.heap.size w1.heap.size _ pre.length _ x.1 HML.out HV.out HROW.out HB.out.size (Nat.le_refl _) hb3 (by omega)
          have HAP : Hid (_ = _) := hap
          clear hap hb3'
          refine hK _ _ ?_
          clear hK K
          refine wpAnyIn_ready (rs := [3]) (by kernel_rfl) (by simp) ?_
          refine AllReadyIn.cons rfl (fun K hK => ?_) ?_
          · go_simp
            refine hK _ _ ?_
            clear hK K
            refine wpAnyIn_ready (rs := [4]) (by kernel_rfl) (by simp) ?_
            refine AllReadyIn.cons rfl (fun K hK => ?_) ?_
            · refine stepIn_append_run rfl _ _ 64 rfl _ _ rfl rfl _ _ HAP.out ?_
              refine hK _ _ ?_
              clear hK K
              refine wpAnyIn_ready (rs := [5]) (by kernel_rfl) (by simp) ?_
              refine AllReadyIn.cons rfl (fun K hK => ?_) ?_
              · go_simp
                refine hK _ _ ?_
                clear hK K
                refine wpAnyIn_done (by kernel_rfl) ?_ _
                exact ⟨hX4, hX5, ⟨_, hX2, by rw [HSN.out, List.map_append, List.length_append]; exact hX3, trivial⟩, HB.out.trans hX5⟩
              exact AllReadyIn.nil
            exact AllReadyIn.nil
          exact AllReadyIn.nil
        exact AllReadyIn.nil
      refine AllReadyIn.cons rfl (fun K hK => ?_) ?_
      · go_simp
        refine ⟨trivial, ?_⟩
        refine (CallsIn.inRound l (callsIn_wide.2 (clone_any _ x.1 hxl))).mono ?_
        rintro e w3 ⟨rfl, hb3'⟩
        have hb3 : Below W.heap.size W w3 := (Below.refl _ _).drew.trans hb3'
        have hc3 := cell_later hb3 hc
        have hzB : w1.heap.size < w3.heap.size := Nat.lt_of_lt_of_le HV.out.lt hb3.size
        obtain ⟨g, c, X, hap, hX0, hX1, hX2, hX3, hX4, hX5⟩ := append_str W w3 w1.heap.size w1.heap.size _ pre.length _ x.1 HML.out HV.out HROW.out HB.out.size (Nat.le_refl _) hb3 (by omega)
        have HAP : Hid (_ = _) := hap
        clear hap hb3'
        refine hK _ _ ?_
        clear hK K
        refine wpAnyIn_ready (rs := [0, 3]) (by kernel_rfl) (by simp) ?_
        refine AllReadyIn.cons rfl (fun K hK => ?_) ?_
        · go_simp
          refine hK _ _ ?_
          clear hK K
          refine wpAnyIn_ready (rs := [3]) (by kernel_rfl) (by simp) ?_
          refine AllReadyIn.cons rfl (fun K hK => ?_) ?_
          · go_simp
            refine hK _ _ ?_
            clear hK K
            refine wpAnyIn_ready (rs := [4]) (by kernel_rfl) (by simp) ?_
            refine AllReadyIn.cons rfl (fun K hK => ?_) ?_
            · refine stepIn_append_run rfl _ _ 64 rfl _ _ rfl rfl _ _ HAP.out ?_
              refine hK _ _ ?_
              clear hK K
              refine wpAnyIn_ready (rs := [5]) (by kernel_rfl) (by simp) ?_
              refine AllReadyIn.cons rfl (fun K hK => ?_) ?_
              · go_simp
                refine hK _ _ ?_
                clear hK K
                refine wpAnyIn_done (by kernel_rfl) ?_ _
                exact ⟨hX4, hX5, ⟨_, hX2, by rw [HSN.out, List.map_append, List.length_append]; exact hX3, trivial⟩, HB.out.trans hX5⟩
              exact AllReadyIn.nil
            exact AllReadyIn.nil
          exact AllReadyIn.nil
        refine AllReadyIn.cons rfl (fun K hK => ?_) ?_
        · go_simp
          refine hK _ _ ?_
          clear hK K
          refine wpAnyIn_ready (rs := [0]) (by kernel_rfl) (by simp) ?_
          refine AllReadyIn.cons rfl (fun K hK => ?_) ?_
          · go_simp
            refine hK _ _ ?_
            clear hK K
            refine wpAnyIn_ready (rs := [4]) (by kernel_rfl) (by simp) ?_
            refine AllReadyIn.cons rfl (fun K hK => ?_) ?_
            · refine stepIn_append_run rfl _ _ 64 rfl _ _ rfl rfl _ _ HAP.out ?_
              refine hK _ _ ?_
              clear hK K
              refine wpAnyIn_ready (rs := [5]) (by kernel_rfl) (by simp) ?_
              refine AllReadyIn.cons rfl (fun K hK => ?_) ?_
              · go_simp
                refine hK _ _ ?_
                clear hK K
                refine wpAnyIn_done (by kernel_rfl) ?_ _
                exact ⟨hX4, hX5, ⟨_, hX2, by rw [HSN.out, List.map_append, List.length_append]; exact hX3, trivial⟩, HB.out.trans hX5⟩
              exact AllReadyIn.nil
            exact AllReadyIn.nil
          exact AllReadyIn.nil
        exact AllReadyIn.nil
      exact AllReadyIn.nil
    exact AllReadyIn.nil
  case done =>
    rintro D ys W hD hys ⟨⟨v, hv, hrow, _⟩, hB⟩ hK
    obtain ⟨aV, cV, rfl⟩ := ownsRow_shape hrow
    have HYL : Hid (ys.length = (namesL p).length) := by unfold Hid; rw [← hys]; simp
    have HYS : Hid (txt ys = namesL p) := hys
    have hc := hv.cell
    have HR := HR1.out.block (hB.block w.heap.size HR1.out.lt)
    have t0 := HR.cell (i := 0) (by omega)
    have t1 := HR.cell (i := 1) (by omega)
    have s0 := HR.frozen 0
    have s1 := HR.frozen 1
    simp at t0 t1
    have hne : w.heap.size ≠ w1.heap.size := by have := HR1.out.lt; omega
    have hlt1 : w.heap.size < w1.heap.size := HR1.out.lt
    clear hys
    gi_wp2
    have hK' := ((KeepsOthers.setCell W ⟨w.heap.size, 0, none⟩ (.int .i64 0)).trans (KeepsOthers.setCell _ ⟨w.heap.size, 1, none⟩ (.slice aV ys.length cV))).same D _ hK rfl
    refine ⟨by simp, .inl ⟨_, _, rfl, run_takeDeferred hK', ?_⟩⟩
    have HS := (HR.set 0 (.int .i64 0)).set 1 (.slice aV ys.length cV)
    have e0 := HS.cell (i := 0) (by omega)
    have e1 := HS.cell (i := 1) (by omega)
    simp at e0 e1
    have c0 := cell_kept e0 (grownBy_putObj' _ D (.deferred none)) (fun r e => by cases e; exact ⟨_, hK', rfl⟩)
    have c1 := cell_kept e1 (grownBy_putObj' _ D (.deferred none)) (fun r e => by cases e; exact ⟨_, hK', rfl⟩)
    refine ⟨.agg #[.int .i64 0, .slice aV ys.length cV], by simp [results, Try.results31, go_sem, c0, c1], aV, cV, by rw [HYL.out], ?_, ?_⟩
    · have h1 : Below w.heap.size w W := HW1.out.trans (hB.mono HW1.out.size)
      exact ((h1.setCell (p := ⟨w.heap.size, 0, none⟩) (Nat.le_refl _) _).setCell (p := ⟨w.heap.size, 1, none⟩) (Nat.le_refl _) _).trans (belowK_b (w := w) (Nat.le_refl _) _ D _ _ (by simp at hD; have := HW1.out.size; omega) hK' rfl rfl)
    · have h2 : (W.setCell ⟨w.heap.size, 0, none⟩ (.int .i64 0)).ownsRow w1.heap.size 9 1 (.slice aV ys.length cV) ys.length ((txt ys).map strV) := ownsRow_store hrow hlt1 _
      have h3 := ownsRow_store h2 (p := ⟨w.heap.size, 1, none⟩) hlt1 (.slice aV ys.length cV)
      have h4 := ownsRow_putObj h3 (.deferred none) hK' rfl
      rw [← HYL.out, ← HYS.out]
      exact ownsRow_base h4 (Nat.le_of_lt hlt1)
  case stop =>
    rintro D c pre W _ _ h _
    exact h.elim
end Go.Proofs.Ytcmkfapgpolglaa

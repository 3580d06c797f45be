/- The walks of DiskFault, the specification's and the program's. What 'append' comes to, as laws for the walk, and the specification's copying of a list. The walks of the specification's look at a block. The walks of the specification's KernFault. Answers with a kern: how they read, what they own, and the walks of the laws' functions over them. -/
import Derived.Test.YtomcejofhfngkaaM01
import Derived.Test.YtomcejofhfngkaaM03
import Derived.OwnWalk
import Derived.Deep.RegionLaw
import Derived.Deep.RegionHeld3
namespace Go.Proofs.Ytomcejofhfngkaa
open Go.RowKit
set_option maxRecDepth 100000

theorem l1Fault_any {w : World} {bd : Nat} {vB vC : Value} {bs : List (List Int)} {ps : List (Int × List Int)} (h0 : w.cell? ⟨bd, 0, none⟩ = some vB) (h1 : w.cell? ⟨bd, 1, none⟩ = some vC) (hB : IntsS w vB bs) (hP : Puts w vC ps) :
    Calls Try.prog 43 #[.pointer (some ⟨bd, 0, none⟩)] w fun e w' => e = .returned (.int .i64 (faultF bs ps)) ∧ ∃ m, w' = w.drewN m := by
  obtain ⟨aB, cB, rfl, _, aS⟩ := hB.open'
  obtain ⟨aC, cC, rfl, _, aP⟩ := hP.open'
  by_cases h : 60 < bs.length ∨ 200 < ps.length
  · exact (l1Fault_many w bd aB aC _ cB _ cC h0 h1 h).mono fun e w' ⟨he, hw⟩ => ⟨he.trans (ret_int (faultF_many h).symm), 0, hw⟩
  · exact l1Fault_walk w bd aB aC _ cB _ cC bs ps rfl rfl h0 h1 (by omega) (by omega) aS aP

theorem specFault_any (w : World) (vB vC : Value) (bs : List (List Int)) (ps : List (Int × List Int)) (hB : IntsS w vB bs) (hP : Puts w vC ps) :
    Calls Try.prog 36 #[.agg #[vB, vC]] w fun e w' => e = .returned (.int .i64 (faultF bs ps)) ∧ Below w.heap.size w w' := by
  have HB : Hid (IntsS w vB bs) := hB
  have HP : Hid (Puts w vC ps) := hP
  clear hB hP
  go_enter Try.func36, Try.ntmps36
  go_wp2_with fail
  refine (l1Fault_any (by rw [new_cell]; rfl) (by rw [new_cell]; rfl) (HB.out.later (later1 _ _)) (HP.out.later (later1 _ _))).mono ?_
  rintro e w' ⟨rfl, m, rfl⟩
  go_wp2
  go_ret
  exact ⟨rfl, below_drewN (later1 _ _) m⟩

theorem isPlace_any (w : World) (a : Option Addr) (n cap : Nat) (vC : Value) (x : Int) :
    Calls Try.prog 89 #[.agg #[.slice a n cap, vC], .int .i64 x] w fun e w' => e = .returned (.bool (placeB n x)) ∧ Below w.heap.size w w' := by
  by_cases h1 : 0 ≤ x
  · by_cases h2 : x < (n : Int)
    · have e1 : placeB n x = true := by simp [placeB, h1, h2]
      rw [e1]
      go_enter Try.func89, Try.ntmps89
      go_wp2
      go_ret
      exact ⟨rfl, later1 _ _⟩
    · have e1 : placeB n x = false := by simp [placeB, h2]
      rw [e1]
      go_enter Try.func89, Try.ntmps89
      go_wp2
      go_ret
      exact ⟨rfl, later1 _ _⟩
  · have e1 : placeB n x = false := by simp [placeB, h1]
    have hd : decide (0 ≤ x) = false := by simpa using h1
    rw [e1]
    go_enter Try.func89, Try.ntmps89
    go_wp2
    go_ret
    exact ⟨rfl, later1 _ _⟩

theorem putFault_any (w : World) (a : Option Addr) (n cap : Nat) (vC : Value) (x : Int) (ua : Option Addr) (un uc : Nat) (ws : List Int) (hw : Ints w (.slice ua un uc) ws) :
    Calls Try.prog 82 #[.agg #[.slice a n cap, vC], .agg #[.int .i64 x, .slice ua un uc]] w fun e w' => e = .returned (.int .i64 (putF n (x, ws))) ∧ Below w.heap.size w w' := by
  have HW : Hid (Ints w (.slice ua un uc) ws) := hw
  clear hw
  cases hp : placeB n x
  · have HP : Hid (placeB n x = false) := hp
    have e1 : putF n (x, ws) = 3 := by simp [putF, hp]
    rw [e1]
    clear hp e1
    go_enter Try.func82, Try.ntmps82
    go_wp2_with fail
    refine (isPlace_any _ _ _ _ _ _).mono ?_
    rw [HP.out]
    rintro e w1 ⟨rfl, hb⟩
    have HB : Hid (Below w.heap.size w w1) := (later2 _ _ _).trans (hb.mono (by simp; omega))
    clear hb
    go_wp2
    go_ret
    exact ⟨rfl, HB.out⟩
  · have HP : Hid (placeB n x = true) := hp
    have e1 : putF n (x, ws) = wordsF ws := by simp [putF, hp]
    rw [e1]
    clear hp e1
    go_enter Try.func82, Try.ntmps82
    go_wp2_with fail
    refine (isPlace_any _ _ _ _ _ _).mono ?_
    rw [HP.out]
    rintro e w1 ⟨rfl, hb⟩
    have c1 : w1.cell? ⟨w.heap.size + 1, 1, none⟩ = some (.slice ua un uc) := by
      rw [hb.cell (by simp)]
      simp
    have HB : Hid (Below w.heap.size w w1) := (later2 _ _ _).trans (hb.mono (by simp; omega))
    clear hb
    go_wp2_with fail
    refine (words_any (HW.out.later HB.out)).mono ?_
    rintro e w2 ⟨rfl, rfl⟩
    go_wp2
    go_ret
    exact ⟨rfl, HB.out⟩

theorem fault_many (w : World) (aB aC : Option Addr) (nB cB nC cC : Nat) (h : 60 < nB ∨ 200 < nC) :
    Calls Try.prog 37 #[.agg #[.slice aB nB cB, .slice aC nC cC]] w fun e w' => e = .returned (.int .i64 2) ∧ Below w.heap.size w w' := by
  by_cases g : 60 < nB
  · have g' : (60 : Int) < (nB : Int) := by omega
    clear h
    go_enter Try.func37, Try.ntmps37
    go_wp2
    go_ret
    exact ⟨rfl, later1 _ _⟩
  · have hd : decide ((60 : Int) < (nB : Int)) = false := by simp; omega
    have g' : (200 : Int) < (nC : Int) := by omega
    clear h
    go_enter Try.func37, Try.ntmps37
    go_wp2
    go_ret
    exact ⟨rfl, later1 _ _⟩

set_option maxHeartbeats 1600000 in
theorem fault_walk (w : World) (aB aC : Option Addr) (nB cB nC cC : Nat) (bs : List (List Int)) (ps : List (Int × List Int)) (hbl : bs.length = nB) (hpl : ps.length = nC)
    (g1 : nB ≤ 60) (g2 : nC ≤ 200) (hB : AtS w aB nB bs) (hP : AtP w aC nC ps) :
    Calls Try.prog 37 #[.agg #[.slice aB nB cB, .slice aC nC cC]] w fun e w' => e = .returned (.int .i64 (faultF bs ps)) ∧ Below w.heap.size w w' := by
  have HBL : Hid (bs.length = nB) := hbl
  have HPL : Hid (ps.length = nC) := hpl
  have HB : Hid (AtS w aB nB bs) := hB
  have HP : Hid (AtP w aC nC ps) := hP
  have HM : Hid (¬ (60 < bs.length ∨ 200 < ps.length)) := by unfold Hid; omega
  clear hbl hpl hB hP
  have hd : decide ((60 : Int) < (nB : Int)) = false := by simp; omega
  have hd2 : decide ((200 : Int) < (nC : Int)) = false := by simp; omega
  go_enter Try.func37, Try.ntmps37
  go_wp2
  go_loop [22] (fun i => ∃ j : Nat, j ≤ nB ∧ i = .int .i64 j ∧ ∀ i : Nat, i < j → wordsF (bs[i]?.getD []) = 0) (fun i => nB - (intOf i).toNat)
  case atStart => exact ⟨0, Nat.zero_le _, rfl, fun i hi => by omega⟩
  case round =>
    obtain ⟨j, hj, rfl, hall⟩ := hrel
    have HA : Hid (∀ i : Nat, i < j → wordsF (bs[i]?.getD []) = 0) := hall
    clear hall
    by_cases hlt : j < nB
    · obtain ⟨b, off, ua, ucap, e, c1, i1⟩ := HB.out j hlt
      clear HB
      have HI : Hid (Ints w (.slice ua (bs[j]?.getD []).length ucap) (bs[j]?.getD [])) := i1
      replace c1 := cell_later (later1 w (Obj.cells #[.slice aB nB cB, .slice aC nC cC] 30)) c1
      subst e
      clear i1
      generalize hc : wordsF (bs[j]?.getD []) = c
      have HC : Hid (wordsF (bs[j]?.getD []) = c) := hc
      clear hc
      by_cases hz : c = 0
      · subst hz
        go_wp2_with fail
        refine (words_any (HI.out.later (later1 _ _))).mono ?_
        rw [HC.out]
        rintro e w' ⟨rfl, rfl⟩
        go_wp2
        go_round
        case rel =>
          refine ⟨j + 1, by omega, by go_num, fun i hi => ?_⟩
          by_cases e : i = j
          · subst e; exact HC.out
          · exact HA.out i (by omega)
        case measure => simp [intOf]; omega
      · have hne : (c != 0) = true := by simpa using hz
        go_wp2_with fail
        refine (words_any (HI.out.later (later1 _ _))).mono ?_
        rw [HC.out]
        rintro e w' ⟨rfl, rfl⟩
        go_wp2
        go_ret
        exact ⟨ret_int (by rw [faultF_block HM.out (by rw [HBL.out]; exact hlt) HA.out (by rw [HC.out]; exact hz), HC.out]), later1 _ _⟩
    · have HA' : Hid (∀ i : Nat, i < bs.length → wordsF (bs[i]?.getD []) = 0) := fun i hi => HA.out i (by rw [HBL.out] at hi; omega)
      clear HA HB
      go_wp2
      go_loopw [35] (fun i wr => ∃ j : Nat, j ≤ nC ∧ i = .int .i64 j ∧ Below w.heap.size w wr ∧ wr.cell? ⟨w.heap.size, 0, none⟩ = some (.slice aB nB cB) ∧ wr.cell? ⟨w.heap.size, 1, none⟩ = some (.slice aC nC cC) ∧ ∀ i : Nat, i < j → putF bs.length (ps[i]?.getD (0, [])) = 0) (fun i _ => nC - (intOf i).toNat)
      case atStart => exact ⟨0, Nat.zero_le _, rfl, later1 _ _, by rw [new_cell]; rfl, by rw [new_cell]; rfl, fun i hi => by omega⟩
      case round =>
        obtain ⟨k, hk, rfl, hbl, p0, p1, hall⟩ := hrel
        have HA : Hid (∀ i : Nat, i < k → putF bs.length (ps[i]?.getD (0, [])) = 0) := hall
        clear hall
        by_cases hlt2 : k < nC
        · obtain ⟨b, off, ua, ucap, e, c1, c2, i1⟩ := HP.out k hlt2
          clear HP
          replace c1 := cell_later hbl c1
          replace c2 := cell_later hbl c2
          have HI : Hid (Ints wr (.slice ua (ps[k]?.getD (0, [])).2.length ucap) (ps[k]?.getD (0, [])).2) := i1.later hbl
          have HBEL : Hid (Below w.heap.size w wr) := hbl
          have hsz : w.heap.size < wr.heap.size := World.block_lt_of_cell? _ _ p0
          clear i1 hbl
          subst e
          generalize hc : putF nB (ps[k]?.getD (0, [])) = c
          have HC : Hid (putF nB ((ps[k]?.getD (0, [])).1, (ps[k]?.getD (0, [])).2) = c) := hc
          clear hc
          by_cases hz : c = 0
          · subst hz
            go_wp2_with fail
            refine (putFault_any _ _ _ _ _ _ _ _ _ (ps[k]?.getD (0, [])).2 (HI.out.later (later1 _ _))).mono ?_
            rw [HC.out]
            rintro e w1 ⟨rfl, hb1⟩
            have HB1 : Hid (Below wr.heap.size wr w1) := (later1 _ _).trans (hb1.mono (by simp))
            clear hb1
            go_wp2
            go_roundw
            case rel =>
              refine ⟨k + 1, by omega, by go_num, HBEL.out.trans (HB1.out.mono HBEL.out.size), cell_later HB1.out p0, cell_later HB1.out p1, fun i hi => ?_⟩
              by_cases e : i = k
              · subst e; rw [HBL.out]; exact HC.out
              · exact HA.out i (by omega)
            case measure => simp [intOf]; omega
          · have hne : (c != 0) = true := by simpa using hz
            go_wp2_with fail
            refine (putFault_any _ _ _ _ _ _ _ _ _ (ps[k]?.getD (0, [])).2 (HI.out.later (later1 _ _))).mono ?_
            rw [HC.out]
            rintro e w1 ⟨rfl, hb1⟩
            have HB1 : Hid (Below wr.heap.size wr w1) := (later1 _ _).trans (hb1.mono (by simp))
            clear hb1
            go_wp2
            go_ret
            have hF : putF bs.length (ps[k]?.getD (0, [])) = c := by rw [HBL.out]; exact HC.out
            exact ⟨ret_int (by rw [faultF_put HM.out HA'.out (by rw [HPL.out]; exact hlt2) HA.out (by rw [hF]; exact hz), hF]), HBEL.out.trans (HB1.out.mono HBEL.out.size)⟩
        · go_wp2
          go_ret
          exact ⟨ret_int (by rw [faultF_ok HM.out HA'.out (fun i hi => HA.out i (by rw [HPL.out] at hi; omega))]), hbl⟩

theorem fault_any (w : World) (vB vC : Value) (bs : List (List Int)) (ps : List (Int × List Int)) (hB : IntsS w vB bs) (hP : Puts w vC ps) :
    Calls Try.prog 37 #[.agg #[vB, vC]] w fun e w' => e = .returned (.int .i64 (faultF bs ps)) ∧ Below w.heap.size w w' := by
  obtain ⟨aB, cB, rfl, _, aS⟩ := hB.open'
  obtain ⟨aC, cC, rfl, _, aP⟩ := hP.open'
  by_cases h : 60 < bs.length ∨ 200 < ps.length
  · exact (fault_many w aB aC _ cB _ cC h).mono fun e w' ⟨he, hw⟩ => ⟨he.trans (ret_int (faultF_many h).symm), hw⟩
  · exact fault_walk w aB aC _ cB _ cC bs ps rfl rfl (by omega) (by omega) aS aP
end Go.Proofs.Ytomcejofhfngkaa

namespace Go.Proofs.Ytomcejofhfngkaa
open Go.RowKit
set_option maxRecDepth 100000

section
variable {P : Program} {w : World}
/-- An append whose run is known, at its place in a walk. -/
theorem wpList_append_run {ops : Array Oper} {rest : List Oper} {o : Oper} {a : Act} {Q : Exit → Act → World → Prop} (hgd : o.guard = none) (s x : Operand) (t : TypeId)
    (ho : o.op = .call { callee := .builtin .append, args := #[s, x], argTypes := #[t, t] }) (v y : Value) (hs : a.eval s = v) (hx : a.eval x = y) (v' : Value) (w' : World)
    (hr : (Builtin.append_ #[t, t] o.type #[v, y]).run P w = .ok v' w') (h : wpList P ops Q rest (a.put o.dst v') w') : wpList P ops Q (o :: rest) a w := by
  refine wpList_plain hgd fun K hK => ?_
  unfold Oper.wp execOp
  simp only [ho, resolve, invoke, builtin, Sem.run_bind, Sem.run_pure, Result.andThen_ok, List.map_toArray, List.map_cons, List.map_nil, hs, hx, hr]
  exact hK _ _ h
/-- The same inside a region that draws its order. -/
theorem step_append_run {ops : Array Oper} {o : Oper} {a : Act} {K : Act → World → Prop} {Q : Exit → Act → World → Prop} {E : Prop} (hgd : o.guard = none) (s x : Operand) (t : TypeId)
    (ho : o.op = .call { callee := .builtin .append, args := #[s, x], argTypes := #[t, t] }) (v y : Value) (hs : a.eval s = v) (hx : a.eval x = y) (v' : Value) (w' : World)
    (hr : (Builtin.append_ #[t, t] o.type #[v, y]).run P w = .ok v' w') (h : K (a.put o.dst v') w') : if Region.wanted o (yielded ops a.tmps) = true then Oper.wp P o a w K Q else E := by
  have hw : Region.wanted o (yielded ops a.tmps) = true := by simp [Region.wanted, hgd]
  rw [if_pos hw]
  unfold Oper.wp execOp
  simp only [ho, resolve, invoke, builtin, Sem.run_bind, Sem.run_pure, Result.andThen_ok, List.map_toArray, List.map_cons, List.map_nil, hs, hx, hr]
  exact h
end

theorem below_grown {w w' : World} {B : Nat} {row : Option Nat} (h : w.grownBy w' row) (hB : B ≤ w.heap.size) (hr : ∀ k, row = some k → B ≤ k) : Below B w w' := (Below.refl _ _).grown h hB hr

/-- A row of one cell an element that the call owns. -/
theorem ownsRow_row {w : World} {base n : Nat} {e : TypeId} {v : Value} {xs : List Value} (h : w.ownsRow base e 1 v n xs) (h0 : 0 < n) : ∃ g cap, v = .slice (some ⟨g, 0, none⟩) n cap ∧ base ≤ g ∧ g < w.heap.size ∧ n ≤ maxLen ∧ OwnRow w g n (fun i => xs[i]?.getD undef) := by
  obtain ⟨hl, h | ⟨g, cap, cur, rfl, hb, hh, hnc, hcm, hcs, htake⟩⟩ := h
  · omega
  · refine ⟨g, cap, rfl, hb, (Array.getElem?_eq_some_iff.1 hh).1, by omega, cur, e, hh, by omega, fun i hi => ?_⟩
    rw [Nat.mul_one] at htake
    have h1 : xs[i]? = cur[i]? := by rw [← htake, List.getElem?_take, if_pos hi, Array.getElem?_toList]
    show cur[i]? = some (xs[i]?.getD undef)
    have h2 : i < cur.size := by omega
    rw [h1, Array.getElem?_eq_getElem h2]; rfl

theorem add_plain' (b off k : Nat) : (⟨b, off, none⟩ : Addr).add k = ⟨b, off + k, none⟩ := by
  by_cases h : k = 0
  · subst h; simp [Addr.add]
  · simp [Addr.add, h]

theorem Try.infoInt' : ∃ i, Try.prog.info? 2 = some i ∧ i.zero = some (.int .i64 0) ∧ i.size = 1 ∧ i.bytes = 8 := by
  obtain ⟨i, hi, h⟩ := Option.map_eq_some_iff.1 Try.infoInt
  simp only [Prod.mk.injEq] at h
  exact ⟨i, hi, h.1, h.2.1, h.2.2⟩

theorem append_empty (w : World) (ty : TypeId) (a : Option Addr) (n cap : Nat) (zs : List Int) (hz : zs.length = n) (hn : n ≤ 1048576) (hc : At1 w a n (fun k => .int .i64 (zs[k]?.getD 0))) :
    ∃ v' X, (Builtin.append_ #[26, 26] ty #[.slice (some ⟨w.heap.size, 0, none⟩) 0 0, .slice a n cap]).run Try.prog (w.alloc (.cells #[] 2)) = .ok v' X ∧
      Below w.heap.size w X ∧ IntsO X v' zs (fresh w X) ∧ w.heap.size < X.heap.size ∧ ∃ a' c', v' = .slice a' n c' := by
  obtain ⟨i, hi, h1, h2, h3⟩ := Try.infoInt'
  have hown : (w.alloc (.cells #[] 2)).ownsRow w.heap.size 2 1 (.slice (some ⟨w.heap.size, 0, none⟩) 0 0) 0 [] := World.ownsRow_lit w #[] 0 (Nat.le_refl _) (by simp) rfl
  by_cases ha : a = none
  · subst ha
    have h0 : n = 0 := by
      by_cases h : n = 0
      · exact h
      · obtain ⟨_, _, e, _⟩ := hc 0 (by omega); cases e
    subst h0
    have hzs : zs = [] := List.eq_nil_of_length_eq_zero hz
    subst hzs
    refine ⟨.slice (some ⟨w.heap.size, 0, none⟩) 0 0, w.alloc (.cells #[] 2), ?_, later1 _ _, Or.inl ⟨rfl, _, _, rfl⟩, by simp, _, _, rfl⟩
    simp [Builtin.append_, run_underlying Try.underlying26, sizeOf, typeInfo, hi, Builtin.lenOf, Builtin.firstCells, storeCells]
  · obtain ⟨ad, rfl⟩ := Option.ne_none_iff_exists'.1 ha
    obtain ⟨v', X, hr, ho, hg, _⟩ := run_append_own (P := Try.prog) (w.alloc (.cells #[] 2)) w.heap.size 26 ty 2 i (.int .i64 0) 1 8 Try.underlying26 hi h1 h2 h3 rfl (by decide) _ 0 [] hown ad n cap (zs.map fun z => Value.int .i64 z)
      (by simp [hz]) (fun j u hu => by
        rw [List.getElem?_map, Option.map_eq_some_iff] at hu
        obtain ⟨z, hz1, rfl⟩ := hu
        have hj : j < n := by rw [← hz]; exact (List.getElem?_eq_some_iff.1 hz1).1
        obtain ⟨b, off, e, h⟩ := hc j hj
        simp only [Option.some.injEq] at e
        rw [e, add_plain']
        replace h : w.cell? ⟨b, off + j, none⟩ = some (.int .i64 (zs[j]?.getD 0)) := h
        rw [hz1, Option.getD_some] at h
        exact cell_later (later1 _ _) h) (fun u hu => by
        obtain ⟨z, _, rfl⟩ := List.mem_map.1 hu
        rfl) (by unfold maxLen; omega) (by omega) (by simp)
    have hB : Below w.heap.size w X := (later1 _ _).trans (below_grown hg (by simp) (fun k hk => by simp [Value.ownBlock] at hk; omega))
    simp only [Nat.zero_add, List.nil_append] at ho
    refine ⟨v', X, hr, hB, ?_, by have := hg.size; simp at this; omega, ?_⟩
    · by_cases h0 : n = 0
      · subst h0
        have hzs : zs = [] := List.eq_nil_of_length_eq_zero hz
        refine Or.inl ⟨hzs, ?_⟩
        rcases ho.2 with ⟨rfl, _⟩ | ⟨g, c, cur, rfl, _⟩
        · exact ⟨_, _, rfl⟩
        · exact ⟨_, _, rfl⟩
      · obtain ⟨g, c, rfl, hg1, hg2, hm, hrow⟩ := ownsRow_row ho (by omega)
        refine Or.inr ⟨g, c, ⟨hg1, hg2⟩, by rw [hz], by rw [hz]; exact hm, ?_⟩
        rw [hz]
        exact hrow.congr fun i hi => by
          have : i < zs.length := by omega
          simp [this]
    · rcases ho.2 with ⟨rfl, rfl⟩ | ⟨g, c, cur, rfl, _⟩
      · exact ⟨_, _, rfl⟩
      · exact ⟨_, _, rfl⟩

set_option maxHeartbeats 400000 in
theorem l1Ints_more {w : World} {v : Value} {zs : List Int} (h : Ints w v zs) (hn : zs.length ≤ 1048576) :
    Calls Try.prog 47 #[v] w fun e w' => ∃ a c, e = .returned (.slice a zs.length c) ∧ Below w.heap.size w w' ∧ IntsO w' (.slice a zs.length c) zs (fresh w w') ∧ w.heap.size < w'.heap.size := by
  obtain ⟨a, cap, rfl, hm, hc⟩ := h.open'
  clear h
  obtain ⟨v', X, hr, hbX, hoX, hsX, a', c', rfl⟩ := append_empty w 26 a zs.length cap zs rfl hn hc
  have HR : Hid (_ = _) := hr
  have HB : Hid (Below w.heap.size w X) := hbX
  have HO : Hid (IntsO X (.slice a' zs.length c') zs (fresh w X)) := hoX
  clear hbX hoX hc hr
  go_enter Try.func47, Try.ntmps47
  go_wp2_with (at_builtin; refine wpList_append_run rfl _ _ 26 rfl _ _ rfl rfl _ _ HR.out ?_)
  go_ret
  exact ⟨a', c', rfl, HB.out, HO.out, hsX⟩
theorem l1Ints_any {w : World} {v : Value} {zs : List Int} (h : Ints w v zs) (hn : zs.length ≤ 1048576) :
    Calls Try.prog 47 #[v] w fun e w' => ∃ a c, e = .returned (.slice a zs.length c) ∧ Below w.heap.size w w' ∧ IntsO w' (.slice a zs.length c) zs (fresh w w') :=
  (l1Ints_more h hn).mono fun _ _ ⟨a, c, h1, h2, h3, _⟩ => ⟨a, c, h1, h2, h3⟩
end Go.Proofs.Ytomcejofhfngkaa

namespace Go.Proofs.Ytomcejofhfngkaa
open Go.RowKit
set_option maxRecDepth 100000

theorem l1Place_any (w : World) (bd : Nat) (a : Option Addr) (n cap : Nat) (x : Int) (hn : n ≤ maxLen) (h0 : w.cell? ⟨bd, 0, none⟩ = some (.slice a n cap)) :
    Calls Try.prog 44 #[.pointer (some ⟨bd, 0, none⟩), .int .i64 x] w fun e w' => e = .returned (.bool (placeB n x)) ∧ w' = w := by
  unfold maxLen at hn
  go_enter Try.func44, Try.ntmps44
  go_wp2_with fail
  refine (l1In_is (place_l1 n x)).mono ?_
  rintro e w' ⟨rfl, rfl⟩
  go_wp2
  go_ret
  exact ⟨rfl, rfl⟩

/-- An answer that is a code and a list. -/
def AnsInts (w : World) (code : Int) (zs : List Int) (e : Ending) (w' : World) : Prop :=
  ∃ a n c, e = .returned (.agg #[.int .i64 code, .slice a n c]) ∧ Below w.heap.size w w' ∧ IntsO w' (.slice a n c) zs (fresh w w')
theorem ansInts_bad {w w' : World} (hb : Below w.heap.size w w') (code : Int) : AnsInts w code [] (.returned (.agg #[.int .i64 code, .slice none 0 0])) w' := ⟨none, 0, 0, rfl, hb, Or.inl ⟨rfl, none, 0, rfl⟩⟩

def atCode (bs : List (List Int)) (ps : List (Int × List Int)) (x : Int) : Int := placeF bs ps x
def atList (bs : List (List Int)) (ps : List (Int × List Int)) (x : Int) : List Int := if placeF bs ps x = 0 then atF bs ps x else []

theorem faultF_lens {bs : List (List Int)} {ps : List (Int × List Int)} (h : faultF bs ps = 0) : bs.length ≤ 60 ∧ ps.length ≤ 200 := by
  by_cases g : 60 < bs.length ∨ 200 < ps.length
  · rw [faultF_many g] at h; omega
  · omega

end Go.Proofs.Ytomcejofhfngkaa

namespace Go.Proofs.Ytomcejofhfngkaa
open Go.RowKit
set_option maxRecDepth 100000

theorem l2Right_any (w : World) (x y z : Int) (n : Nat) (hn : n ≤ 60) :
    Calls Try.prog 103 #[.agg #[.int .i64 x, .int .i64 y, .int .i64 z], .int .i64 (n : Int)] w fun e w' => e = .returned (.bool (rightB (x, y, z) n)) ∧ Below w.heap.size w w' := by
  cases h1 : decide (1 ≤ z ∧ z ≤ 9999)
  · have HR : Hid (rightB (x, y, z) n = false) := by unfold Hid rightB; rw [h1]; rfl
    have H1 : Hid (decide (1 ≤ z ∧ z ≤ 9999) = false) := h1
    clear h1
    rw [HR.out]
    go_enter Try.func103, Try.ntmps103
    go_wp2_with fail
    refine (l1In_any _ _ _ _).mono ?_
    rw [H1.out]
    rintro e w' ⟨rfl, rfl⟩
    go_wp2
    go_ret
    exact ⟨rfl, later1 _ _⟩
  · have H1 : Hid (decide (1 ≤ z ∧ z ≤ 9999) = true) := h1
    cases h2 : decide (0 ≤ x ∧ x ≤ (n : Int))
    · have HR : Hid (rightB (x, y, z) n = false) := by unfold Hid rightB; rw [h1, h2]; rfl
      have H2 : Hid (decide (0 ≤ x ∧ x ≤ (n : Int)) = false) := h2
      clear h1 h2
      rw [HR.out]
      go_enter Try.func103, Try.ntmps103
      go_wp2_with fail
      refine (l1In_any _ _ _ _).mono ?_
      rw [H1.out]
      rintro e w' ⟨rfl, rfl⟩
      go_wp2_with fail
      refine (l1In_any _ _ _ _).mono ?_
      rw [H2.out]
      rintro e w' ⟨rfl, rfl⟩
      go_wp2
      go_ret
      exact ⟨rfl, later1 _ _⟩
    · have H2 : Hid (decide (0 ≤ x ∧ x ≤ (n : Int)) = true) := h2
      cases h3 : decide (1 ≤ y ∧ y ≤ (n : Int))
      · have HR : Hid (rightB (x, y, z) n = false) := by unfold Hid rightB; rw [h1, h2, h3]; rfl
        have H3 : Hid (decide (1 ≤ y ∧ y ≤ (n : Int)) = false) := h3
        clear h1 h2 h3
        rw [HR.out]
        go_enter Try.func103, Try.ntmps103
        go_wp2_with fail
        refine (l1In_any _ _ _ _).mono ?_
        rw [H1.out]
        rintro e w' ⟨rfl, rfl⟩
        go_wp2_with fail
        refine (l1In_any _ _ _ _).mono ?_
        rw [H2.out]
        rintro e w' ⟨rfl, rfl⟩
        go_wp2_with fail
        refine (l1In_any _ _ _ _).mono ?_
        rw [H3.out]
        rintro e w' ⟨rfl, rfl⟩
        go_wp2
        go_ret
        exact ⟨rfl, later1 _ _⟩
      · have H3 : Hid (decide (1 ≤ y ∧ y ≤ (n : Int)) = true) := h3
        have HR : Hid (rightB (x, y, z) n = decide (x + y ≤ (n : Int))) := by unfold Hid rightB; rw [h1, h2, h3]; rfl
        have hx : 0 ≤ x ∧ x ≤ 60 := by simp at h2; omega
        have hy : 1 ≤ y ∧ y ≤ 60 := by simp at h3; omega
        have hx0 := hx.1
        have hx1 := hx.2
        have hy0 := hy.1
        have hy1 := hy.2
        clear h1 h2 h3 hx hy
        rw [HR.out]
        go_enter Try.func103, Try.ntmps103
        go_wp2_with fail
        refine (l1In_any _ _ _ _).mono ?_
        rw [H1.out]
        rintro e w' ⟨rfl, rfl⟩
        go_wp2_with fail
        refine (l1In_any _ _ _ _).mono ?_
        rw [H2.out]
        rintro e w' ⟨rfl, rfl⟩
        go_wp2_with fail
        refine (l1In_any _ _ _ _).mono ?_
        rw [H3.out]
        rintro e w' ⟨rfl, rfl⟩
        go_wp2
        go_ret
        exact ⟨rfl, later1 _ _⟩

set_option maxHeartbeats 800000 in
theorem l2Fault_disk (w : World) (bk : Nat) (aB aC aE : Option Addr) (nB cB nC cC nE cE : Nat) (d : KD) (h0 : w.cell? ⟨bk, 0, none⟩ = some (.slice aB nB cB)) (h1 : w.cell? ⟨bk, 1, none⟩ = some (.slice aC nC cC)) (_h2 : w.cell? ⟨bk, 2, none⟩ = some (.slice aE nE cE)) (hD : DiskR w (.slice aB nB cB) (.slice aC nC cC) d.1) (hf : ¬ faultF d.1.1 d.1.2 = 0) :
    Calls Try.prog 74 #[.pointer (some ⟨bk, 0, none⟩)] w fun e w' => e = .returned (.int .i64 (faultF d.1.1 d.1.2)) ∧ Below w.heap.size w w' := by
  have HD : Hid (DiskR w (.slice aB nB cB) (.slice aC nC cC) d.1) := hD
  have X0 : Hid (w.cell? ⟨bk, 0, none⟩ = some (.slice aB nB cB)) := h0
  have X1 : Hid (w.cell? ⟨bk, 1, none⟩ = some (.slice aC nC cC)) := h1
  generalize hc : faultF d.1.1 d.1.2 = c at *
  have HC : Hid (faultF d.1.1 d.1.2 = c) := hc
  have hne : (c != 0) = true := by simpa using hf
  clear hD hf hc
  go_enter Try.func74, Try.ntmps74
  go_wp2_with fail
  refine (l1Fault_any X0.out X1.out HD.out.1 HD.out.2).mono ?_
  rw [HC.out]
  rintro e w1 ⟨rfl, m, rfl⟩
  go_wp2
  go_ret
  exact ⟨rfl, below_drewN (Below.refl _ _) m⟩

set_option maxHeartbeats 800000 in
theorem l2Fault_many (w : World) (bk : Nat) (aB aC aE : Option Addr) (nB cB nC cC nE cE : Nat) (d : KD) (h0 : w.cell? ⟨bk, 0, none⟩ = some (.slice aB nB cB)) (h1 : w.cell? ⟨bk, 1, none⟩ = some (.slice aC nC cC)) (h2 : w.cell? ⟨bk, 2, none⟩ = some (.slice aE nE cE)) (hD : DiskR w (.slice aB nB cB) (.slice aC nC cC) d.1) (hf : faultF d.1.1 d.1.2 = 0) (h8 : 8 < nE) :
    Calls Try.prog 74 #[.pointer (some ⟨bk, 0, none⟩)] w fun e w' => e = .returned (.int .i64 2) ∧ Below w.heap.size w w' := by
  have HD : Hid (DiskR w (.slice aB nB cB) (.slice aC nC cC) d.1) := hD
  have X0 : Hid (w.cell? ⟨bk, 0, none⟩ = some (.slice aB nB cB)) := h0
  have X1 : Hid (w.cell? ⟨bk, 1, none⟩ = some (.slice aC nC cC)) := h1
  have HC : Hid (faultF d.1.1 d.1.2 = 0) := hf
  have h8' : (8 : Int) < (nE : Int) := by omega
  clear hD hf
  go_enter Try.func74, Try.ntmps74
  go_wp2_with fail
  refine (l1Fault_any X0.out X1.out HD.out.1 HD.out.2).mono ?_
  rw [HC.out]
  rintro e w1 ⟨rfl, m, rfl⟩
  go_wp2
  go_ret
  exact ⟨rfl, below_drewN (Below.refl _ _) m⟩

set_option maxHeartbeats 3200000 in
theorem l2Fault_walk (w : World) (bk : Nat) (aB aC aE : Option Addr) (nB cB nC cC nE cE : Nat) (d : KD) (h0 : w.cell? ⟨bk, 0, none⟩ = some (.slice aB nB cB)) (h1 : w.cell? ⟨bk, 1, none⟩ = some (.slice aC nC cC)) (h2 : w.cell? ⟨bk, 2, none⟩ = some (.slice aE nE cE)) (hD : DiskR w (.slice aB nB cB) (.slice aC nC cC) d.1) (hE : AtE w aE nE d.2) (hf : faultF d.1.1 d.1.2 = 0) (h8 : nE ≤ 8) (h60 : nB ≤ 60) :
    Calls Try.prog 74 #[.pointer (some ⟨bk, 0, none⟩)] w fun e w' => e = .returned (.int .i64 (firstNZ (extOne d.2 nB) nE)) ∧ Below w.heap.size w w' := by
  have HD : Hid (DiskR w (.slice aB nB cB) (.slice aC nC cC) d.1) := hD
  have X0 : Hid (w.cell? ⟨bk, 0, none⟩ = some (.slice aB nB cB)) := h0
  have X1 : Hid (w.cell? ⟨bk, 1, none⟩ = some (.slice aC nC cC)) := h1
  have X2 : Hid (w.cell? ⟨bk, 2, none⟩ = some (.slice aE nE cE)) := h2
  have HC : Hid (faultF d.1.1 d.1.2 = 0) := hf
  have HE : Hid (AtE w aE nE d.2) := hE
  have h8' : decide ((8 : Int) < (nE : Int)) = false := by simp; omega
  clear hD hf hE
  go_enter Try.func74, Try.ntmps74
  go_wp2_with fail
  refine (l1Fault_any X0.out X1.out HD.out.1 HD.out.2).mono ?_
  rw [HC.out]
  rintro e w1 ⟨rfl, m, rfl⟩
  go_wp2
  go_loopw [4] (fun i wr => ∃ j : Nat, j ≤ nE ∧ i = .int .i64 j ∧ Below w.heap.size w wr ∧ ∀ i : Nat, i < j → extOne d.2 nB i = 0) (fun i _ => nE - (intOf i).toNat)
  case atStart => exact ⟨0, Nat.zero_le _, rfl, below_drewN (Below.refl _ _) m, fun i hi => by omega⟩
  case round =>
    obtain ⟨j, hj, rfl, hbl, hall⟩ := hrel
    clear h0 h1 h2
    have HA : Hid (∀ i : Nat, i < j → extOne d.2 nB i = 0) := hall
    have HBL : Hid (Below w.heap.size w wr) := hbl
    have x0 := cell_later hbl X0.out
    have x1 := cell_later hbl X1.out
    have x2 := cell_later hbl X2.out
    clear hall hbl
    by_cases hlt : j < nE
    · obtain ⟨b, off, rfl, c0, c1, c2⟩ := HE.out j hlt
      replace c0 := cell_later HBL.out c0
      replace c1 := cell_later HBL.out c1
      replace c2 := cell_later HBL.out c2
      have HX : Hid (extAt d.2 j = ((d.2[j]?.getD (0, 0, 0)).1, (d.2[j]?.getD (0, 0, 0)).2.1, (d.2[j]?.getD (0, 0, 0)).2.2)) := rfl
      generalize (d.2[j]?.getD (0, 0, 0)).1 = x at *
      generalize (d.2[j]?.getD (0, 0, 0)).2.1 = y at *
      generalize (d.2[j]?.getD (0, 0, 0)).2.2 = z at *
      cases hr : rightB (x, y, z) nB
      · have HR : Hid (rightB (x, y, z) nB = false) := hr
        have HO : Hid (extOne d.2 nB j = 3) := by unfold Hid extOne; rw [HX.out, hr]; rfl
        clear hr
        go_wp2_with fail
        go_region_held3 (fun W => W.cell? ⟨bk, 0, none⟩ = some (.slice aB nB cB) ∧ W.cell? ⟨bk, 2, none⟩ = some (.slice (some ⟨b, off, none⟩) nE cE) ∧ W.cell? ⟨b, off + j * 3, none⟩ = some (.int .i64 x) ∧ W.cell? ⟨b, off + j * 3 + 1, none⟩ = some (.int .i64 y) ∧ W.cell? ⟨b, off + j * 3 + 2, none⟩ = some (.int .i64 z)) (go_keep) (first | (go_at_call 103; refine (l2Right_any _ x y z nB h60).mono ?_; rw [HR.out]; rintro e w2 ⟨rfl, hb2⟩; have HB2 : Hid (Below wr.heap.size wr w2) := (Below.refl _ _).drew.trans hb2; have k0 := cell_later hb2 x0; have k2 := cell_later hb2 x2; have l0 := cell_later hb2 c0; have l1 := cell_later hb2 c1; have l2 := cell_later hb2 c2; clear hb2))
        all_goals
          go_wp2
          go_ret
          exact ⟨ret_int (by rw [firstNZ_at HA.out hlt (by rw [HO.out]; decide), HO.out]), HBL.out.trans (HB2.out.mono HBL.out.size)⟩
      · have HR : Hid (rightB (x, y, z) nB = true) := hr
        have hrr := rightB_iff.1 hr
        clear hr
        by_cases hj0 : j = 0
        · have HO : Hid (extOne d.2 nB j = 0) := by unfold Hid extOne; rw [HX.out, HR.out]; simp [hj0]
          have HJ0 : Hid (j = 0) := hj0
          have hpj : decide ((0 : Int) < (j : Int)) = false := by simp; omega
          have hpj2 : decide (0 < j) = false := by simp; omega
          have hpj3 : ¬ 0 < j := by omega
          clear hrr hj0
          go_wp2_with fail
          go_region_held3 (fun W => W.cell? ⟨bk, 0, none⟩ = some (.slice aB nB cB) ∧ W.cell? ⟨bk, 2, none⟩ = some (.slice (some ⟨b, off, none⟩) nE cE) ∧ W.cell? ⟨b, off + j * 3, none⟩ = some (.int .i64 x) ∧ W.cell? ⟨b, off + j * 3 + 1, none⟩ = some (.int .i64 y) ∧ W.cell? ⟨b, off + j * 3 + 2, none⟩ = some (.int .i64 z)) (go_keep) (first | (go_at_call 103; refine (l2Right_any _ x y z nB h60).mono ?_; rw [HR.out]; rintro e w2 ⟨rfl, hb2⟩; have HB2 : Hid (Below wr.heap.size wr w2) := (Below.refl _ _).drew.trans hb2; have k0 := cell_later hb2 x0; have k2 := cell_later hb2 x2; have l0 := cell_later hb2 c0; have l1 := cell_later hb2 c1; have l2 := cell_later hb2 c2; clear hb2))
          all_goals
            go_wp2_with fail
            go_quiet (fail)
            go_wp2
            go_roundw
            case rel =>
              refine ⟨j + 1, by omega, by go_num, below_drewN (HBL.out.trans (HB2.out.mono HBL.out.size)) _, fun i hi => ?_⟩
              have : i = j := by have := HJ0.out; omega
              subst this; exact HO.out
            case measure => simp [intOf]; omega
        · obtain ⟨p, hjp⟩ : ∃ p, j = p + 1 := ⟨j - 1, by omega⟩
          have HJP : Hid (j = p + 1) := hjp
          have hjm : (j : Int) - 1 = (p : Int) := by omega
          have hj1 : 0 < j := by omega
          have hp8 : p ≤ 8 := by omega
          have hwr : IntKind.i64.wrap (p : Int) = (p : Int) := by rw [IntKind.wrap_i64]; omega
          clear hj0
          obtain ⟨b', off', e', p0, p1, p2⟩ := HE.out p (by omega)
          simp only [Option.some.injEq, Addr.mk.injEq, and_true] at e'
          obtain ⟨rfl, rfl⟩ := e'
          have hp := HA.out p (by omega)
          have hpr : rightB (extAt d.2 p) nB = true := by
            unfold extOne at hp
            by_cases h : rightB (extAt d.2 p) nB = true
            · exact h
            · rw [if_neg h] at hp; omega
          have hq := rightB_iff.1 hpr
          have HY : Hid (extAt d.2 p = ((d.2[p]?.getD (0, 0, 0)).1, (d.2[p]?.getD (0, 0, 0)).2.1, (d.2[p]?.getD (0, 0, 0)).2.2)) := rfl
          rw [HY.out] at hq
          dsimp only at hq
          generalize (d.2[p]?.getD (0, 0, 0)).1 = x' at *
          generalize (d.2[p]?.getD (0, 0, 0)).2.1 = y' at *
          generalize (d.2[p]?.getD (0, 0, 0)).2.2 = z' at *
          have hx'0 : 0 ≤ x' := by omega
          have hx'1 : x' ≤ 60 := by omega
          have hy'0 : 0 ≤ y' := by omega
          have hy'1 : y' ≤ 60 := by omega
          have hpn : p < nE := by omega
          clear hp hpr hq hrr hjp
          have HO : Hid (extOne d.2 nB j = if x < x' + y' then 1 else 0) := by
            unfold Hid extOne
            rw [HX.out, HR.out, if_pos rfl, show j - 1 = p by have := HJP.out; omega, HY.out]
            by_cases h : x < x' + y' <;> simp [h, hj1]
          by_cases hlq : x < x' + y'
          · have hld : decide (x < x' + y') = true := by simpa using hlq
            have HO1 : Hid (extOne d.2 nB j = 1) := by unfold Hid; rw [HO.out, if_pos hlq]
            go_wp2_with fail
            go_region_held3 (fun W => W.cell? ⟨bk, 0, none⟩ = some (.slice aB nB cB) ∧ W.cell? ⟨bk, 2, none⟩ = some (.slice (some ⟨b, off, none⟩) nE cE) ∧ W.cell? ⟨b, off + j * 3, none⟩ = some (.int .i64 x) ∧ W.cell? ⟨b, off + j * 3 + 1, none⟩ = some (.int .i64 y) ∧ W.cell? ⟨b, off + j * 3 + 2, none⟩ = some (.int .i64 z)) (go_keep) (first | (go_at_call 103; refine (l2Right_any _ x y z nB h60).mono ?_; rw [HR.out]; rintro e w2 ⟨rfl, hb2⟩; have HB2 : Hid (Below wr.heap.size wr w2) := (Below.refl _ _).drew.trans hb2; have k0 := cell_later hb2 x0; have k2 := cell_later hb2 x2; have l0 := cell_later hb2 c0; have l1 := cell_later hb2 c1; have l2 := cell_later hb2 c2; have m0 := cell_later (HBL.out.trans (HB2.out.mono HBL.out.size)) p0; have m1 := cell_later (HBL.out.trans (HB2.out.mono HBL.out.size)) p1; clear hb2))
            all_goals
              go_wp2_with fail
              go_quiet (fail)
              go_wp2
              go_ret
              exact ⟨ret_int (by rw [firstNZ_at HA.out hlt (by rw [HO1.out]; decide), HO1.out]), below_drewN (HBL.out.trans (HB2.out.mono HBL.out.size)) _⟩
          · have hld : decide (x < x' + y') = false := by simpa using hlq
            have HO1 : Hid (extOne d.2 nB j = 0) := by unfold Hid; rw [HO.out, if_neg hlq]
            go_wp2_with fail
            go_region_held3 (fun W => W.cell? ⟨bk, 0, none⟩ = some (.slice aB nB cB) ∧ W.cell? ⟨bk, 2, none⟩ = some (.slice (some ⟨b, off, none⟩) nE cE) ∧ W.cell? ⟨b, off + j * 3, none⟩ = some (.int .i64 x) ∧ W.cell? ⟨b, off + j * 3 + 1, none⟩ = some (.int .i64 y) ∧ W.cell? ⟨b, off + j * 3 + 2, none⟩ = some (.int .i64 z)) (go_keep) (first | (go_at_call 103; refine (l2Right_any _ x y z nB h60).mono ?_; rw [HR.out]; rintro e w2 ⟨rfl, hb2⟩; have HB2 : Hid (Below wr.heap.size wr w2) := (Below.refl _ _).drew.trans hb2; have k0 := cell_later hb2 x0; have k2 := cell_later hb2 x2; have l0 := cell_later hb2 c0; have l1 := cell_later hb2 c1; have l2 := cell_later hb2 c2; have m0 := cell_later (HBL.out.trans (HB2.out.mono HBL.out.size)) p0; have m1 := cell_later (HBL.out.trans (HB2.out.mono HBL.out.size)) p1; clear hb2))
            all_goals
              go_wp2_with fail
              go_quiet (fail)
              go_wp2
              go_roundw
              case rel =>
                refine ⟨j + 1, by omega, by go_num, below_drewN (HBL.out.trans (HB2.out.mono HBL.out.size)) _, fun i hi => ?_⟩
                by_cases e : i = j
                · subst e; exact HO1.out
                · exact HA.out i (by omega)
              case measure => simp [intOf]; omega
    · have e : j = nE := by omega
      subst e
      go_wp2
      go_ret
      exact ⟨ret_int (firstNZ_zero HA.out).symm, HBL.out⟩

theorem l2Fault_any {w : World} {bk : Nat} {vB vC vE : Value} {d : KD} (h0 : w.cell? ⟨bk, 0, none⟩ = some vB) (h1 : w.cell? ⟨bk, 1, none⟩ = some vC) (h2 : w.cell? ⟨bk, 2, none⟩ = some vE) (h : KernR w vB vC vE d) :
    Calls Try.prog 74 #[.pointer (some ⟨bk, 0, none⟩)] w fun e w' => e = .returned (.int .i64 (kernF d)) ∧ Below w.heap.size w w' := by
  obtain ⟨a1, c1, rfl, _⟩ := h.1.1.open'
  obtain ⟨a2, c2, rfl, _⟩ := h.1.2.open'
  obtain ⟨a3, c3, rfl, _, hE⟩ := h.2.open'
  by_cases hf : faultF d.1.1 d.1.2 = 0
  · by_cases h8 : 8 < d.2.length
    · rw [kernF_many hf h8]
      exact l2Fault_many w bk _ _ _ _ _ _ _ _ _ d h0 h1 h2 h.1 hf h8
    · rw [kernF_few hf h8]
      exact l2Fault_walk w bk _ _ _ _ _ _ _ _ _ d h0 h1 h2 h.1 hE hf (by omega) (faultF_lens hf).1
  · rw [kernF_disk hf]
    exact l2Fault_disk w bk _ _ _ _ _ _ _ _ _ d h0 h1 h2 h.1 hf

end Go.Proofs.Ytomcejofhfngkaa

namespace Go.Proofs.Ytomcejofhfngkaa
open Go.RowKit
set_option maxRecDepth 100000

abbrev KResD := List Int × KD
def KResR (w : World) (vW vB vC vE : Value) (d : KResD) : Prop := Ints w vW d.1 ∧ KernR w vB vC vE d.2
theorem KResR.later {w w' : World} {vW vB vC vE : Value} {d : KResD} (h : KResR w vW vB vC vE d) (hb : Below w.heap.size w w') : KResR w' vW vB vC vE d := ⟨h.1.later hb, h.2.later hb⟩
def KResU (w : World) (vW vB vC vE : Value) (d : KResD) (F : Nat → Prop) : Prop := ∃ F1 G1 : Nat → Prop, IntsO w vW d.1 F1 ∧ KernU w vB vC vE d.2 G1 ∧ (∀ b, F1 b → ¬ G1 b) ∧ ∀ b, F1 b ∨ G1 b → F b
theorem KResU.reads {w : World} {vW vB vC vE : Value} {d : KResD} {F : Nat → Prop} (h : KResU w vW vB vC vE d F) : KResR w vW vB vC vE d := by
  obtain ⟨_, _, h1, h2, _⟩ := h
  exact ⟨h1.reads, h2.reads⟩
theorem KResU.keep {w w' : World} {vW vB vC vE : Value} {d : KResD} {F : Nat → Prop} (h : KResU w vW vB vC vE d F) (e : ∀ b, F b → b < w.heap.size → w'.heap[b]? = w.heap[b]?) : KResU w' vW vB vC vE d F := by
  obtain ⟨F1, G1, h1, h2, hd, hf⟩ := h
  exact ⟨F1, G1, h1.keep fun b hb => e b (hf b (Or.inl hb)), h2.keep fun b hb => e b (hf b (Or.inr hb)), hd, hf⟩
theorem KResU.later {w w' : World} {vW vB vC vE : Value} {d : KResD} {F : Nat → Prop} (h : KResU w vW vB vC vE d F) (hb : Below w.heap.size w w') : KResU w' vW vB vC vE d F := h.keep fun b _ hlt => hb.block b hlt
theorem KResU.mono {w : World} {vW vB vC vE : Value} {d : KResD} {F G : Nat → Prop} (h : KResU w vW vB vC vE d F) (e : ∀ b, F b → G b) : KResU w vW vB vC vE d G := by
  obtain ⟨F1, G1, h1, h2, hd, hf⟩ := h
  exact ⟨F1, G1, h1, h2, hd, fun b hb => e b (hf b hb)⟩
theorem KResU.chg {w w' : World} {vW vB vC vE : Value} {d : KResD} {F G : Nat → Prop} (h : KResU w vW vB vC vE d F) (hc : Chg G w w') (hd : ∀ b, F b → ¬ G b) : KResU w' vW vB vC vE d F := h.keep fun b hb hlt => hc.block b hlt (hd b hb)

/-- An answer: a code, words and a kern, in new memory of its own. -/
def AnsKR (w : World) (r : Int × KResD) (e : Ending) (w' : World) : Prop := ∃ aW nW cW aB nB cB aC nC cC aE nE cE, e = .returned (.agg #[.int .i64 r.1, .slice aW nW cW, .slice aB nB cB, .slice aC nC cC, .slice aE nE cE]) ∧ Below w.heap.size w w' ∧ KResU w' (.slice aW nW cW) (.slice aB nB cB) (.slice aC nC cC) (.slice aE nE cE) r.2 (fresh w w')
theorem ansK_bad {w w' : World} (hb : Below w.heap.size w w') (c : Int) : AnsKR w (c, [], ([], []), []) (.returned (.agg #[.int .i64 c, .slice none 0 0, .slice none 0 0, .slice none 0 0, .slice none 0 0])) w' :=
  ⟨none, 0, 0, none, 0, 0, none, 0, 0, none, 0, 0, rfl, hb, fun _ => False, fun _ => False, Or.inl ⟨rfl, none, 0, rfl⟩, ⟨fun _ => False, fun _ => False, ⟨fun _ => False, fun _ => False, Or.inl ⟨rfl, none, 0, rfl⟩, Or.inl ⟨rfl, none, 0, rfl⟩, fun _ h => h.elim, fun _ h => h.elim id id⟩, Or.inl ⟨rfl, none, 0, rfl⟩, fun _ h => h.elim, fun _ h => h.elim id id⟩, fun _ h => h.elim, fun _ h => h.elim False.elim False.elim⟩

theorem Bx.new5 (w : World) (a b c d e : Value) (t : TypeId) (i : Nat) (v : Value) (h : [a, b, c, d, e][i]? = some v) : (w.alloc (.cells #[a, b, c, d, e] t)).cell? ⟨w.heap.size, i, none⟩ = some v := Bx.new w [a, b, c, d, e] t i v h

set_option maxHeartbeats 800000 in
theorem eqKernResultU (w : World) (c : Int) (vW vB vC vE vW' vB' vC' vE' : Value) (d : KResD) (h : KResR w vW vB vC vE d) (h' : KResR w vW' vB' vC' vE' d) :
    Calls Try.prog 26 #[.agg #[.int .i64 c, vW, vB, vC, vE], .agg #[.int .i64 c, vW', vB', vC', vE']] w fun e w' => e = .returned (.bool true) ∧ Below w.heap.size w w' := by
  obtain ⟨a0, c0, rfl, _⟩ := h.1.open'
  obtain ⟨a1, c1, rfl, _⟩ := h.2.1.1.open'
  obtain ⟨a2, c2, rfl, _⟩ := h.2.1.2.open'
  obtain ⟨a3, c3, rfl, _⟩ := h.2.2.open'
  obtain ⟨b0, k0, rfl, _⟩ := h'.1.open'
  obtain ⟨b1, k1, rfl, _⟩ := h'.2.1.1.open'
  obtain ⟨b2, k2, rfl, _⟩ := h'.2.1.2.open'
  obtain ⟨b3, k3, rfl, _⟩ := h'.2.2.open'
  have H : Hid (KResR w _ _ _ _ d) := h
  have H' : Hid (KResR w _ _ _ _ d) := h'
  clear h h'
  generalize d.1.length = m0 at *
  generalize d.2.1.1.length = m1 at *
  generalize d.2.1.2.length = m2 at *
  generalize d.2.2.length = m3 at *
  have hcc : (c != c) = false := by simp
  go_enter Try.func26, Try.ntmps26
  go_wp2_with fail
  refine (eqIntsU (H.out.1.later (later2 _ _ _)) (H'.out.1.later (later2 _ _ _))).mono ?_
  rintro e w1 ⟨rfl, hb1⟩
  have HB1 : Hid (Below w.heap.size w w1) := (later2 _ _ _).trans (hb1.mono (by simp; omega))
  have X : Bx w1 w.heap.size [.int .i64 c, .slice a0 m0 c0, .slice a1 m1 c1, .slice a2 m2 c2, .slice a3 m3 c3] := ((Bx.new w [.int .i64 c, .slice a0 m0 c0, .slice a1 m1 c1, .slice a2 m2 c2, .slice a3 m3 c3] 53).later (later1 _ _)).later hb1
  have Y : Bx w1 (w.heap.size + 1) [.int .i64 c, .slice b0 m0 k0, .slice b1 m1 k1, .slice b2 m2 k2, .slice b3 m3 k3] := by
    have h := (Bx.new (w.alloc (.cells #[.int .i64 c, .slice a0 m0 c0, .slice a1 m1 c1, .slice a2 m2 c2, .slice a3 m3 c3] 53)) [.int .i64 c, .slice b0 m0 k0, .slice b1 m1 k1, .slice b2 m2 k2, .slice b3 m3 k3] 53).later hb1
    rw [World.size_alloc] at h
    exact h
  have x2 := X 2 _ rfl
  have x3 := X 3 _ rfl
  have x4 := X 4 _ rfl
  have y2 := Y 2 _ rfl
  have y3 := Y 3 _ rfl
  have y4 := Y 4 _ rfl
  clear hb1 X Y
  go_wp2_with fail
  refine (eqKernU _ _ _ _ _ _ _ d.2 (H.out.2.later HB1.out) (H'.out.2.later HB1.out)).mono ?_
  rintro e w2 ⟨rfl, hb2⟩
  have HB2 : Hid (Below w.heap.size w w2) := HB1.out.trans (hb2.mono HB1.out.size)
  clear hb2
  go_wp2
  go_ret
  exact ⟨rfl, HB2.out⟩

def spanKRes (d : KResD) : Nat := d.1.length + spanKern d.2
def mkKRes (k : Int) (d : KResD) : KResD := (marks k d.1.length, mkKern (k + (d.1.length : Nat)) d.2)
theorem IntsO.bound' {w : World} {v : Value} {zs : List Int} {F : Nat → Prop} (h : IntsO w v zs F) : IntsO w v zs (fun b => F b ∧ b < w.heap.size) := by
  rcases h with h | ⟨b, cap, hF, h1, h2, h3⟩
  · exact Or.inl h
  · exact Or.inr ⟨b, cap, ⟨hF, h3.lt⟩, h1, h2, h3⟩

set_option maxHeartbeats 800000 in
theorem markKernResultU (w : World) (c : Int) (vW vB vC vE : Value) (d : KResD) (F : Nat → Prop) (k : Int) (h : KResU w vW vB vC vE d F) (hk0 : 0 ≤ k) (hk : k + (spanKRes d : Nat) ≤ 4611686018427387904) :
    Calls Try.prog 29 #[.agg #[.int .i64 c, vW, vB, vC, vE], .int .i64 k] w fun e w' => e = .returned (.int .i64 (k + (spanKRes d : Nat))) ∧ KResU w' vW vB vC vE (mkKRes k d) F ∧ Chg F w w' := by
  obtain ⟨a0, c0, rfl, _⟩ := h.reads.1.open'
  obtain ⟨a1, c1, rfl, _⟩ := h.reads.2.1.1.open'
  obtain ⟨a2, c2, rfl, _⟩ := h.reads.2.1.2.open'
  obtain ⟨a3, c3, rfl, _⟩ := h.reads.2.2.open'
  obtain ⟨F1, G1, h1, h2, hd, hf⟩ := h
  generalize hl0 : d.1.length = m0 at h1
  generalize d.2.1.1.length = m1 at h2
  generalize d.2.1.2.length = m2 at h2
  generalize d.2.2.length = m3 at h2
  have H1 : Hid (IntsO w (.slice a0 m0 c0) d.1 F1) := h1
  have H2 : Hid (KernU w (.slice a1 m1 c1) (.slice a2 m2 c2) (.slice a3 m3 c3) d.2 G1) := h2
  have HD : Hid (∀ b, F1 b → ¬ G1 b) := hd
  have HF : Hid (∀ b, F1 b ∨ G1 b → F b) := hf
  have HKD : Hid (mkKRes k d = (marks k d.1.length, mkKern (k + (d.1.length : Nat)) d.2)) := rfl
  clear h1 h2 hd hf hl0
  have hq : k + (d.1.length : Nat) + (spanKern d.2 : Nat) ≤ 4611686018427387904 := by unfold spanKRes at hk; omega
  have HE : Hid (k + ((spanKRes d : Nat) : Int) = k + (d.1.length : Nat) + (spanKern d.2 : Nat)) := by unfold Hid spanKRes; omega
  rw [HE.out, HKD.out]
  clear hk
  have hU0 : (0 : Int) ≤ ((d.1.length : Nat) : Int) := by omega
  go_enter Try.func29, Try.ntmps29
  go_wp2_with fail
  refine (markInts_any k ((H1.out.bound').keep fun b hb hlt => (later1 _ _).block b hlt) hk0 (by omega)).mono ?_
  rintro e w1 ⟨rfl, hm, hc⟩
  have X : Bx w1 w.heap.size [.int .i64 c, .slice a0 m0 c0, .slice a1 m1 c1, .slice a2 m2 c2, .slice a3 m3 c3] := (Bx.new w [.int .i64 c, .slice a0 m0 c0, .slice a1 m1 c1, .slice a2 m2 c2, .slice a3 m3 c3] 53).chg hc (fun h => by have := h.2; omega)
  have x2 := X 2 _ rfl
  have x3 := X 3 _ rfl
  have x4 := X 4 _ rfl
  have HM : Hid (IntsO w1 _ (marks k d.1.length) (fun b => F1 b ∧ b < w.heap.size)) := hm
  have HC : Hid (Chg (fun b => F1 b ∧ b < w.heap.size) (w.alloc (.cells #[.int .i64 c, .slice a0 m0 c0, .slice a1 m1 c1, .slice a2 m2 c2, .slice a3 m3 c3] 53)) w1) := hc
  have H2' : Hid (KernU w1 (.slice a1 m1 c1) (.slice a2 m2 c2) (.slice a3 m3 c3) d.2 (fun b => G1 b ∧ b < w.heap.size)) := H2.out.bound.keep fun b hb hlt => (HC.out.block b (by simp; omega) (fun h => HD.out b h.1 hb.1)).trans ((later1 _ _).block b hlt)
  clear hm hc X
  go_wp2_with fail
  refine (markKernM _ _ _ _ d.2 _ _ H2'.out (by omega) hq).mono ?_
  rintro e w2 ⟨rfl, hm2, hc2⟩
  have HM2 : Hid (KernU w2 (.slice a1 m1 c1) (.slice a2 m2 c2) (.slice a3 m3 c3) (mkKern (k + (d.1.length : Nat)) d.2) (fun b => G1 b ∧ b < w.heap.size)) := hm2
  have HC2 : Hid (Chg (fun b => G1 b ∧ b < w.heap.size) w1 w2) := hc2
  clear hm2 hc2
  go_wp2
  go_ret
  refine ⟨rfl, ⟨fun b => F1 b ∧ b < w.heap.size, fun b => G1 b ∧ b < w.heap.size, HM.out.keep fun b hb hlt => HC2.out.block b hlt (fun h => HD.out b hb.1 h.1), HM2.out, fun b h h' => HD.out b h.1 h'.1, fun b hb => HF.out b (hb.elim (fun h => Or.inl h.1) (fun h => Or.inr h.1))⟩, ?_⟩
  exact (Chg.of_below (later1 _ _)).trans ((HC.out.mono fun b hb => HF.out b (Or.inl hb.1)).trans (HC2.out.mono fun b hb => HF.out b (Or.inr hb.1)))

set_option maxHeartbeats 800000 in
theorem heldKernResultU (w : World) (c : Int) (vW vB vC vE : Value) (d : KResD) (F : Nat → Prop) (k : Int) (h : KResU w vW vB vC vE (mkKRes k d) F) (hk0 : 0 ≤ k) (hk : k + (spanKRes d : Nat) ≤ 4611686018427387904) :
    Calls Try.prog 30 #[.agg #[.int .i64 c, vW, vB, vC, vE], .int .i64 k] w fun e w' => e = .returned (.int .i64 (k + (spanKRes d : Nat))) ∧ Below w.heap.size w w' := by
  obtain ⟨a0, c0, rfl, _⟩ := h.reads.1.open'
  obtain ⟨a1, c1, rfl, _⟩ := h.reads.2.1.1.open'
  obtain ⟨a2, c2, rfl, _⟩ := h.reads.2.1.2.open'
  obtain ⟨a3, c3, rfl, _⟩ := h.reads.2.2.open'
  have H1 : Hid (Ints w _ (marks k d.1.length)) := h.reads.1
  have H2 : Hid (KernR w _ _ _ (mkKern (k + (d.1.length : Nat)) d.2)) := h.reads.2
  clear h
  have hq : k + (d.1.length : Nat) + (spanKern d.2 : Nat) ≤ 4611686018427387904 := by unfold spanKRes at hk; omega
  have HE : Hid (k + ((spanKRes d : Nat) : Int) = k + (d.1.length : Nat) + (spanKern d.2 : Nat)) := by unfold Hid spanKRes; omega
  rw [HE.out]
  clear hk
  generalize (mkKRes k d).1.length = m0 at *
  generalize (mkKRes k d).2.1.1.length = m1 at *
  generalize (mkKRes k d).2.1.2.length = m2 at *
  generalize (mkKRes k d).2.2.length = m3 at *
  have l1 : ¬ (k + ((d.1.length : Nat) : Int) < 0) := by omega
  have l2 : ¬ (k + ((d.1.length : Nat) : Int) + (spanKern d.2 : Nat) < 0) := by omega
  go_enter Try.func30, Try.ntmps30
  go_wp2_with fail
  refine (heldInts_any k d.1.length (H1.out.later (later1 _ _)) hk0 (by omega)).mono ?_
  rintro e w1 ⟨rfl, rfl⟩
  go_wp2_with fail
  refine (heldKernM _ _ _ _ d.2 _ (H2.out.later (later1 _ _)) (by omega) hq).mono ?_
  rintro e w2 ⟨rfl, hb2⟩
  have HB2 : Hid (Below w.heap.size w w2) := (later1 _ _).trans (hb2.mono (by simp))
  clear hb2
  go_wp2
  go_ret
  exact ⟨rfl, HB2.out⟩

end Go.Proofs.Ytomcejofhfngkaa

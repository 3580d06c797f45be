/- What 'append' comes to, as laws for the walk, and the specification's copying of a list. The specification's cutting of a text at each slash. The specification's l3Names and l3Split. The specification's l3Split. The specification's l3Split, whole. The last name of a path: the specification's side. Joining names to a path: the specification's side. The specification's draws: a chance, a name, a pick. The specification's draws: a path. Lists of texts: marking, holding, comparing. The walks of the comparing functions over slices of integers and of slices. -/
import Derived.Test.YtjbppdkijjfejaaM01
import Derived.OwnWalk
import Derived.Deep.RegionLaw
import Derived.Test.YtjbppdkijjfejaaM00
import Derived.Deep.RegionHeld3
import Derived.Test.YtjbppdkijjfejaaRows
namespace Go.Proofs.Ytjbppdkijjfejaa
open Go.RowKit
set_option maxRecDepth 100000

section
variable {P : Program} {w : World}
/-- An append whose run is known, at its place in a walk. -/
theorem wpList_append_run {ops : Array Oper} {rest : List Oper} {o : Oper} {a : Act} {Q : Exit → Act → World → Prop} (hgd : o.guard = none) (s x : Operand) (t : TypeId)
    (ho : o.op = .call { callee := .builtin .append, args := #[s, x], argTypes := #[t, t] }) (v y : Value) (hs : a.eval s = v) (hx : a.eval x = y) (v' : Value) (w' : World)
    (hr : (Builtin.append_ #[t, t] o.type #[v, y]).run P w = .ok v' w') (h : wpList P ops Q rest (a.put o.dst v') w') : wpList P ops Q (o :: rest) a w := by
  refine wpList_plain hgd fun K hK => ?_
  unfold Oper.wp execOp
  simp only [ho, resolve, invoke, builtin, Sem.run_bind, Sem.run_pure, Result.andThen_ok, List.map_toArray, List.map_cons, List.map_nil, hs, hx, hr]
  exact hK _ _ h
/-- The same inside a region that draws its order. -/
theorem step_append_run {ops : Array Oper} {o : Oper} {a : Act} {K : Act → World → Prop} {Q : Exit → Act → World → Prop} {E : Prop} (hgd : o.guard = none) (s x : Operand) (t : TypeId)
    (ho : o.op = .call { callee := .builtin .append, args := #[s, x], argTypes := #[t, t] }) (v y : Value) (hs : a.eval s = v) (hx : a.eval x = y) (v' : Value) (w' : World)
    (hr : (Builtin.append_ #[t, t] o.type #[v, y]).run P w = .ok v' w') (h : K (a.put o.dst v') w') : if Region.wanted o (yielded ops a.tmps) = true then Oper.wp P o a w K Q else E := by
  have hw : Region.wanted o (yielded ops a.tmps) = true := by simp [Region.wanted, hgd]
  rw [if_pos hw]
  unfold Oper.wp execOp
  simp only [ho, resolve, invoke, builtin, Sem.run_bind, Sem.run_pure, Result.andThen_ok, List.map_toArray, List.map_cons, List.map_nil, hs, hx, hr]
  exact h
end

theorem below_grown {w w' : World} {B : Nat} {row : Option Nat} (h : w.grownBy w' row) (hB : B ≤ w.heap.size) (hr : ∀ k, row = some k → B ≤ k) : Below B w w' := (Below.refl _ _).grown h hB hr

/-- A row of one cell an element that the call owns. -/
theorem ownsRow_row {w : World} {base n : Nat} {e : TypeId} {v : Value} {xs : List Value} (h : w.ownsRow base e 1 v n xs) (h0 : 0 < n) : ∃ g cap, v = .slice (some ⟨g, 0, none⟩) n cap ∧ base ≤ g ∧ g < w.heap.size ∧ n ≤ maxLen ∧ OwnRow w g n (fun i => xs[i]?.getD undef) := by
  obtain ⟨hl, h | ⟨g, cap, cur, rfl, hb, hh, hnc, hcm, hcs, htake⟩⟩ := h
  · omega
  · refine ⟨g, cap, rfl, hb, (Array.getElem?_eq_some_iff.1 hh).1, by omega, cur, e, hh, by omega, fun i hi => ?_⟩
    rw [Nat.mul_one] at htake
    have h1 : xs[i]? = cur[i]? := by rw [← htake, List.getElem?_take, if_pos hi, Array.getElem?_toList]
    show cur[i]? = some (xs[i]?.getD undef)
    have h2 : i < cur.size := by omega
    rw [h1, Array.getElem?_eq_getElem h2]; rfl

theorem add_plain' (b off k : Nat) : (⟨b, off, none⟩ : Addr).add k = ⟨b, off + k, none⟩ := by
  by_cases h : k = 0
  · subst h; simp [Addr.add]
  · simp [Addr.add, h]

theorem Try.infoInt' : ∃ i, Try.prog.info? 2 = some i ∧ i.zero = some (.int .i64 0) ∧ i.size = 1 ∧ i.bytes = 8 := by
  obtain ⟨i, hi, h⟩ := Option.map_eq_some_iff.1 Try.infoInt
  simp only [Prod.mk.injEq] at h
  exact ⟨i, hi, h.1, h.2.1, h.2.2⟩

theorem append_empty (w : World) (ty : TypeId) (a : Option Addr) (n cap : Nat) (zs : List Int) (hz : zs.length = n) (hn : n ≤ 1048576) (hc : At1 w a n (fun k => .int .i64 (zs[k]?.getD 0))) :
    ∃ v' X, (Builtin.append_ #[36, 36] ty #[.slice (some ⟨w.heap.size, 0, none⟩) 0 0, .slice a n cap]).run Try.prog (w.alloc (.cells #[] 2)) = .ok v' X ∧
      Below w.heap.size w X ∧ IntsO X v' zs (fresh w X) ∧ w.heap.size < X.heap.size ∧ ∃ a' c', v' = .slice a' n c' := by
  obtain ⟨i, hi, h1, h2, h3⟩ := Try.infoInt'
  have hown : (w.alloc (.cells #[] 2)).ownsRow w.heap.size 2 1 (.slice (some ⟨w.heap.size, 0, none⟩) 0 0) 0 [] := World.ownsRow_lit w #[] 0 (Nat.le_refl _) (by simp) rfl
  by_cases ha : a = none
  · subst ha
    have h0 : n = 0 := by
      by_cases h : n = 0
      · exact h
      · obtain ⟨_, _, e, _⟩ := hc 0 (by omega); cases e
    subst h0
    have hzs : zs = [] := List.eq_nil_of_length_eq_zero hz
    subst hzs
    refine ⟨.slice (some ⟨w.heap.size, 0, none⟩) 0 0, w.alloc (.cells #[] 2), ?_, later1 _ _, Or.inl ⟨rfl, _, _, rfl⟩, by simp, _, _, rfl⟩
    simp [Builtin.append_, run_underlying Try.underlying36, sizeOf, typeInfo, hi, Builtin.lenOf, Builtin.firstCells, storeCells]
  · obtain ⟨ad, rfl⟩ := Option.ne_none_iff_exists'.1 ha
    obtain ⟨v', X, hr, ho, hg, _⟩ := run_append_own (P := Try.prog) (w.alloc (.cells #[] 2)) w.heap.size 36 ty 2 i (.int .i64 0) 1 8 Try.underlying36 hi h1 h2 h3 rfl (by decide) _ 0 [] hown ad n cap (zs.map fun z => Value.int .i64 z)
      (by simp [hz]) (fun j u hu => by
        rw [List.getElem?_map, Option.map_eq_some_iff] at hu
        obtain ⟨z, hz1, rfl⟩ := hu
        have hj : j < n := by rw [← hz]; exact (List.getElem?_eq_some_iff.1 hz1).1
        obtain ⟨b, off, e, h⟩ := hc j hj
        simp only [Option.some.injEq] at e
        rw [e, add_plain']
        replace h : w.cell? ⟨b, off + j, none⟩ = some (.int .i64 (zs[j]?.getD 0)) := h
        rw [hz1, Option.getD_some] at h
        exact cell_later (later1 _ _) h) (fun u hu => by
        obtain ⟨z, _, rfl⟩ := List.mem_map.1 hu
        rfl) (by unfold maxLen; omega) (by omega) (by simp)
    have hB : Below w.heap.size w X := (later1 _ _).trans (below_grown hg (by simp) (fun k hk => by simp [Value.ownBlock] at hk; omega))
    simp only [Nat.zero_add, List.nil_append] at ho
    refine ⟨v', X, hr, hB, ?_, by have := hg.size; simp at this; omega, ?_⟩
    · by_cases h0 : n = 0
      · subst h0
        have hzs : zs = [] := List.eq_nil_of_length_eq_zero hz
        refine Or.inl ⟨hzs, ?_⟩
        rcases ho.2 with ⟨rfl, _⟩ | ⟨g, c, cur, rfl, _⟩
        · exact ⟨_, _, rfl⟩
        · exact ⟨_, _, rfl⟩
      · obtain ⟨g, c, rfl, hg1, hg2, hm, hrow⟩ := ownsRow_row ho (by omega)
        refine Or.inr ⟨g, c, ⟨hg1, hg2⟩, by rw [hz], by rw [hz]; exact hm, ?_⟩
        rw [hz]
        exact hrow.congr fun i hi => by
          have : i < zs.length := by omega
          simp [this]
    · rcases ho.2 with ⟨rfl, rfl⟩ | ⟨g, c, cur, rfl, _⟩
      · exact ⟨_, _, rfl⟩
      · exact ⟨_, _, rfl⟩

set_option maxHeartbeats 400000 in
theorem l1Ints_more {w : World} {v : Value} {zs : List Int} (h : Ints w v zs) (hn : zs.length ≤ 1048576) :
    Calls Try.prog 129 #[v] w fun e w' => ∃ a c, e = .returned (.slice a zs.length c) ∧ Below w.heap.size w w' ∧ IntsO w' (.slice a zs.length c) zs (fresh w w') ∧ w.heap.size < w'.heap.size := by
  obtain ⟨a, cap, rfl, hm, hc⟩ := h.open'
  clear h
  obtain ⟨v', X, hr, hbX, hoX, hsX, a', c', rfl⟩ := append_empty w 36 a zs.length cap zs rfl hn hc
  have HR : Hid (_ = _) := hr
  have HB : Hid (Below w.heap.size w X) := hbX
  have HO : Hid (IntsO X (.slice a' zs.length c') zs (fresh w X)) := hoX
  clear hbX hoX hc hr
  go_enter Try.func129, Try.ntmps129
  go_wp2_with (at_builtin; refine wpList_append_run rfl _ _ 36 rfl _ _ rfl rfl _ _ HR.out ?_)
  go_ret
  exact ⟨a', c', rfl, HB.out, HO.out, hsX⟩
theorem l1Ints_any {w : World} {v : Value} {zs : List Int} (h : Ints w v zs) (hn : zs.length ≤ 1048576) :
    Calls Try.prog 129 #[v] w fun e w' => ∃ a c, e = .returned (.slice a zs.length c) ∧ Below w.heap.size w w' ∧ IntsO w' (.slice a zs.length c) zs (fresh w w') :=
  (l1Ints_more h hn).mono fun _ _ ⟨a, c, h1, h2, h3, _⟩ => ⟨a, c, h1, h2, h3⟩
end Go.Proofs.Ytjbppdkijjfejaa

namespace Go.Proofs.Ytjbppdkijjfejaa
open Go.RowKit
set_option maxRecDepth 100000

theorem cut_at47 {l : List UInt8} {n : Nat} (h : ∀ k, k < n → l[k]?.getD 0 ≠ 47) (hn : n ≤ l.length) (he : n = l.length ∨ l[n]?.getD 0 = 47) : takeTo l = l.take n ∧ dropTo l = l.drop n := by
  induction l generalizing n with
  | nil => simp at hn; subst hn; exact ⟨rfl, rfl⟩
  | cons b t ih =>
    unfold takeTo dropTo
    cases n with
    | zero =>
      have hb : b = 47 := by rcases he with h | h <;> simp at h; exact h
      simp [hb]
    | succ n =>
      have hb : ¬ b = 47 := by have := h 0 (by omega); simpa using this
      have := ih (n := n) (fun k hk => by have := h (k + 1) (by omega); simpa using this) (by simpa using hn) (by simpa using he)
      unfold takeTo dropTo at this
      rw [List.takeWhile_cons, List.dropWhile_cons, if_pos (by simpa using hb), if_pos (by simpa using hb), this.1, this.2]
      exact ⟨rfl, rfl⟩
theorem run_mid (l : List UInt8) (f k : Nat) (hf : f ≤ k) (hk : k ≤ l.length) (W : World) : (Instr.slice 9 (.string (mkB l)) (some (.int .i64 (f : Int))) (some (.int .i64 (k : Int))) none).run Try.prog W = .ok (.string (mkB ((l.drop f).take (k - f)))) W := by
  have hs := mkB_size l
  have he : (mkB l).extract f k = mkB ((l.drop f).take (k - f)) := by
    have h : ((mkB l).extract f k).data.toList = (l.drop f).take (k - f) := by
      simp only [mkB, ByteArray.data_extract, Array.toList_extract, List.extract_eq_take_drop]
    rw [← mkB_data ((mkB l).extract f k), h]
  simp [Instr.slice, Instr.sliceBounds, Instr.sliceBound, asIntOf, run_underlying Try.underlying9, hs, hk, hf]
  exact he
theorem mkB_get (t : List UInt8) (j : Nat) (h : j < (mkB t).size) : (mkB t)[j] = t[j]?.getD 0 := by
  have h' : j < t.length := by rw [← mkB_size]; exact h
  rw [List.getElem?_eq_getElem h', Option.getD_some]
  show (mkB t).data[j] = _
  simp [mkB]
/-- One text more behind a row. -/
theorem append_strN (w : World) (n₀ : Nat) (v : Value) (n : Nat) (xs : List Value) (y : List UInt8) (hxn : xs.length = n) (hrow : w.ownsRow n₀ 9 1 v n xs) (hn₀ : n₀ ≤ w.heap.size) (hn : n ≤ 1048577) :
    ∃ v' X, (Builtin.append_ #[64, 64] 64 #[v, .slice (some ⟨w.heap.size, 0, none⟩) 1 1]).run Try.prog (w.alloc (.cells #[.string (mkB y)] 9)) = .ok v' X ∧ X.ownsRow n₀ 9 1 v' (n + 1) (xs ++ [strV y]) ∧ Below n₀ w X := by
  subst hxn
  obtain ⟨i0, hi, hz0, hz1, hz2⟩ := info_parts Try.infoStr
  obtain ⟨v', X, hr, hown, hgrow, _⟩ := run_append_own (P := Try.prog) (w.alloc (.cells #[strV y] 9)) n₀ 64 64 9 i0 (.string ⟨#[]⟩) 1 16 Try.underlying64 hi hz0 hz1 hz2 rfl (by decide) v xs.length xs (ownsRow_later hrow (later1 _ _)) ⟨w.heap.size, 0, none⟩ 1 1 [strV y] rfl (cell_one_new _ _ _) (by simp [Value.oneCell', strV]) (by unfold maxLen; omega) (by omega) (by simp; omega)
  refine ⟨v', X, hr, hown, ((later1 w _).mono hn₀).trans (below_grown hgrow (by simp; omega) (fun k hk => ?_))⟩
  rcases hrow.2 with ⟨rfl, _⟩ | ⟨g, cap, cur, rfl, hb, _⟩
  · simp [Value.ownBlock] at hk
  · simp [Value.ownBlock] at hk; omega

/-- How far the cutting is: 'done' pieces, the next one from f on. -/
def CutSt (t : List UInt8) (j f : Nat) (done : List (List UInt8)) : Prop :=
  (j ≤ t.length ∧ f ≤ j ∧ cutB t = done ++ cutB (t.drop f) ∧ (∀ k, f ≤ k → k < j → t[k]?.getD 0 ≠ 47) ∧ done.length ≤ j) ∨ (j = t.length + 1 ∧ done = cutB t)
theorem cut_here {t : List UInt8} {j f : Nat} {done : List (List UInt8)} (hf : f ≤ j) (hj : j ≤ t.length) (h1 : cutB t = done ++ cutB (t.drop f)) (h2 : ∀ k, f ≤ k → k < j → t[k]?.getD 0 ≠ 47) (he : j = t.length ∨ t[j]?.getD 0 = 47) :
    cutB t = (done ++ [(t.drop f).take (j - f)]) ++ restN (t.drop j) := by
  have := cut_at47 (l := t.drop f) (n := j - f) (fun k hk => by rw [List.getElem?_drop]; exact h2 (f + k) (by omega) (by omega)) (by simp; omega) (by
    rcases he with e | e
    · exact Or.inl (by simp; omega)
    · exact Or.inr (by rw [List.getElem?_drop, show f + (j - f) = j by omega]; exact e))
  rw [h1, cut_step (t.drop f), this.1, this.2, List.drop_drop, show f + (j - f) = j by omega, List.append_assoc]
  rfl

set_option maxHeartbeats 1600000 in
theorem l3Cut_any (w : World) (t : List UInt8) (ht : t.length ≤ 1048576) :
    Calls Try.prog 139 #[.string (mkB t), .int .u8 47] w fun e w' => ∃ v, e = .returned v ∧ Below w.heap.size w w' ∧ w'.ownsRow w.heap.size 9 1 v (cutB t).length ((cutB t).map strV) := by
  have hsz := mkB_size t
  go_enter Try.func139, Try.ntmps139
  go_wp2
  go_loopw [5, 6, 7] (fun o fr i wr => ∃ (j f : Nat) (v : Value) (done : List (List UInt8)), o = v ∧ fr = .int .i64 f ∧ i = .int .i64 j ∧ CutSt t j f done ∧ Below w.heap.size w wr ∧ wr.ownsRow w.heap.size 9 1 v done.length (done.map strV)) (fun _ _ i _ => t.length + 1 - (intOf i).toNat)
  case atStart => exact ⟨0, 0, _, [], rfl, rfl, rfl, Or.inl ⟨Nat.zero_le _, Nat.le_refl _, rfl, fun k h1 h2 => by omega, Nat.le_refl _⟩, later1 _ _, World.ownsRow_lit w #[] 0 (Nat.le_refl _) (by simp) rfl⟩
  case round =>
    obtain ⟨j, f, v, done, rfl, rfl, rfl, hst, hbl, hrow⟩ := hrel
    have HBL : Hid (Below w.heap.size w wr) := hbl
    have HROW : Hid (wr.ownsRow w.heap.size 9 1 _ done.length (done.map strV)) := hrow
    obtain ⟨aV, cV, rfl⟩ := ownsRow_shape hrow
    clear hbl hrow
    rcases hst with ⟨hj, hf, h1, h2, hdl⟩ | ⟨rfl, rfl⟩
    · have H1 : Hid (cutB t = done ++ cutB (t.drop f)) := h1
      have H2 : Hid (∀ k, f ≤ k → k < j → t[k]?.getD 0 ≠ 47) := h2
      have hj' : (j : Int) ≤ (t.length : Int) := by omega
      have hs2 := run_mid t f j hf hj
      obtain ⟨v', X, hap, hoX, hBX⟩ := append_strN wr w.heap.size _ done.length _ ((t.drop f).take (j - f)) (by simp) HROW.out HBL.out.size (by omega)
      have HAP : Hid (_ = _) := hap
      have HOX : Hid (X.ownsRow w.heap.size 9 1 v' (done.length + 1) (done.map strV ++ [strV ((t.drop f).take (j - f))])) := hoX
      have HBX : Hid (Below w.heap.size wr X) := hBX
      clear h1 h2 hap hoX hBX
      by_cases hje : j = t.length
      · have HC : Hid (done ++ [(t.drop f).take (j - f)] = cutB t) := by
          unfold Hid
          have := cut_here hf hj H1.out H2.out (Or.inl hje)
          rw [show t.drop j = [] by rw [hje]; simp] at this
          rw [this]; simp [restN]
        have hje' : ((j : Int) == (t.length : Int)) = true := by simp; omega
        generalize (t.drop f).take (j - f) = y at *
        have HJE : Hid (j = t.length) := hje
        clear hje
        go_wp2_with (at_builtin; refine wpList_append_run rfl _ _ 64 rfl _ _ rfl rfl _ _ HAP.out ?_)
        go_roundw
        case rel => exact ⟨j + 1, j + 1, _, done ++ [y], rfl, by go_num, by go_num, Or.inr ⟨by rw [HJE.out], HC.out⟩, HBL.out.trans (HBX.out.mono (Nat.le_refl _)), by rw [List.length_append, List.map_append]; exact HOX.out⟩
        case measure => simp [intOf]; omega
      · have hlt : j < (mkB t).size := by rw [hsz]; omega
        have hg := mkB_get t j hlt
        have hje' : ((j : Int) == (t.length : Int)) = false := by simp; omega
        by_cases hb : t[j]?.getD 0 = 47
        · have hb' : ((mkB t)[j].toNat : Int) = 47 := by rw [hg, hb]; rfl
          have HC : Hid (cutB t = (done ++ [(t.drop f).take (j - f)]) ++ cutB (t.drop (j + 1))) := by
            unfold Hid
            have := cut_here hf hj H1.out H2.out (Or.inr hb)
            rw [this]
            congr 1
            rw [List.drop_eq_getElem_cons (by omega)]
            rfl
          generalize (t.drop f).take (j - f) = y at *
          go_wp2_with (at_builtin; refine wpList_append_run rfl _ _ 64 rfl _ _ rfl rfl _ _ HAP.out ?_)
          go_roundw
          case rel => exact ⟨j + 1, j + 1, _, done ++ [y], rfl, by go_num, by go_num, Or.inl ⟨by omega, Nat.le_refl _, HC.out, fun k h1 h2 => by omega, by simp; omega⟩, HBL.out.trans (HBX.out.mono (Nat.le_refl _)), by rw [List.length_append, List.map_append]; exact HOX.out⟩
          case measure => simp [intOf]; omega
        · have hb' : (((mkB t)[j].toNat : Int) == 47) = false := by
            rw [hg]
            have hne : (t[j]?.getD 0).toNat ≠ 47 := fun e => hb (UInt8.toNat_inj.1 (by rw [e]; rfl))
            simp; omega
          have HB : Hid (t[j]?.getD 0 ≠ 47) := hb
          clear hb HAP HOX HBX hg
          go_wp2
          go_roundw
          case rel => exact ⟨j + 1, f, _, done, rfl, rfl, by go_num, Or.inl ⟨by omega, by omega, H1.out, fun k h1 h2 => by
            by_cases e : k = j
            · subst e; exact HB.out
            · exact H2.out k h1 (by omega), by omega⟩, HBL.out, HROW.out⟩
          case measure => simp [intOf]; omega
    · have hx : decide (((t.length + 1 : Nat) : Int) ≤ (t.length : Int)) = false := by simp; omega
      go_wp2
      go_ret
      exact ⟨_, rfl, HBL.out, HROW.out⟩
end Go.Proofs.Ytjbppdkijjfejaa

namespace Go.Proofs.Ytjbppdkijjfejaa
open Go.RowKit
set_option maxRecDepth 100000

/-- How a list of texts reads. -/
def AtT (w : World) (a : Option Addr) (n : Nat) (xs : List (List UInt8)) : Prop := ∀ k, k < n → ∃ b off, a = some ⟨b, off, none⟩ ∧ w.cell? ⟨b, off + k, none⟩ = some (.string (mkB (xs[k]?.getD [])))
theorem AtT.later {w w' : World} {a : Option Addr} {n : Nat} {xs : List (List UInt8)} (h : AtT w a n xs) (hb : Below w.heap.size w w') : AtT w' a n xs := fun k hk => by
  obtain ⟨b, off, e, c⟩ := h k hk
  exact ⟨b, off, e, cell_later hb c⟩
theorem ownsRow_at {w : World} {B : Nat} {e : TypeId} {a : Option Addr} {n c : Nat} {xs : List (List UInt8)} (h : w.ownsRow B e 1 (.slice a n c) xs.length (xs.map strV)) : n = xs.length ∧ AtT w a n xs := by
  obtain ⟨hl, ⟨h1, h2⟩ | ⟨g, cap, cur, h1, h2, h3, h4, h5, h6, h7⟩⟩ := h
  · simp only [Value.slice.injEq] at h1
    exact ⟨by rw [h1.2.1, h2], fun k hk => by rw [h1.2.1] at hk; omega⟩
  · simp only [Value.slice.injEq] at h1
    refine ⟨h1.2.1, fun k hk => ⟨g, 0, h1.1, ?_⟩⟩
    rw [h1.2.1] at hk
    have h8 : (xs.map strV)[k]? = some (.string (mkB (xs[k]?.getD []))) := by rw [List.getElem?_map, List.getElem?_eq_getElem hk]; rfl
    rw [← h7, List.getElem?_take, if_pos (by omega), Array.getElem?_toList] at h8
    rw [Nat.zero_add]
    simp only [World.cell?, h3]
    exact h8
def namesC (xs : List (List UInt8)) : Int := if 6 < xs.length then 2 else namesF xs
theorem namesF_at {xs : List (List UInt8)} {j : Nat} (h : ∀ i, i < j → nameF (mkB (xs[i]?.getD [])) = 0) (hj : j < xs.length) (hn : ¬ nameF (mkB (xs[j]?.getD [])) = 0) : namesF xs = nameF (mkB (xs[j]?.getD [])) := by
  induction xs generalizing j with
  | nil => simp at hj
  | cons x t ih =>
    cases j with
    | zero => simp at hn ⊢; simp [namesF, hn]
    | succ j =>
      have h0 : nameF (mkB x) = 0 := by simpa using h 0 (by omega)
      simp only [namesF, if_pos h0]
      have := ih (j := j) (fun i hi => by simpa using h (i + 1) (by omega)) (by simpa using hj) (by simpa using hn)
      simpa using this
theorem namesF_zero {xs : List (List UInt8)} (h : ∀ i, i < xs.length → nameF (mkB (xs[i]?.getD [])) = 0) : namesF xs = 0 := by
  induction xs with
  | nil => rfl
  | cons x t ih =>
    have h0 : nameF (mkB x) = 0 := by simpa using h 0 (by simp)
    simp only [namesF, if_pos h0]
    exact ih fun i hi => by simpa using h (i + 1) (by simpa using hi)

set_option maxHeartbeats 1600000 in
theorem l3Names_any (w : World) (a : Option Addr) (n c : Nat) (xs : List (List UInt8)) (hn : xs.length = n) (hn2 : n ≤ 1048577) (hx : ∀ k : Nat, (xs[k]?.getD []).length ≤ 1048576) (hc : AtT w a n xs) :
    Calls Try.prog 140 #[.slice a n c] w fun e w' => e = .returned (.int .i64 (namesC xs)) ∧ w' = w := by
  have HN : Hid (xs.length = n) := hn
  have HX : Hid (∀ k : Nat, (xs[k]?.getD []).length ≤ 1048576) := hx
  have HC : Hid (AtT w a n xs) := hc
  have HNC : Hid (namesC xs = if 6 < n then 2 else namesF xs) := by unfold Hid namesC; rw [hn]
  rw [HNC.out]
  clear hn hx hc HNC
  by_cases h6 : 6 < n
  · rw [if_pos h6]
    have h6' : (6 : Int) < (n : Int) := by omega
    go_enter Try.func140, Try.ntmps140
    go_wp2
    go_ret
    exact ⟨rfl, rfl⟩
  · rw [if_neg h6]
    have h6' : decide ((6 : Int) < (n : Int)) = false := by simp; omega
    have h6'' : decide (6 < n) = false := by simp; omega
    clear h6
    go_enter Try.func140, Try.ntmps140
    go_wp2
    go_loop [3] (fun i => ∃ j : Nat, j ≤ n ∧ i = .int .i64 j ∧ ∀ k, k < j → nameF (mkB (xs[k]?.getD [])) = 0) (fun i => n - (intOf i).toNat)
    case atStart => exact ⟨0, Nat.zero_le _, rfl, fun k hk => by omega⟩
    case round =>
      obtain ⟨j, hj, rfl, hall⟩ := hrel
      have HA : Hid (∀ k, k < j → nameF (mkB (xs[k]?.getD [])) = 0) := hall
      clear hall
      by_cases hlt : j < n
      · obtain ⟨b, off, rfl, c0⟩ := HC.out j hlt
        have hsz : (mkB (xs[j]?.getD [])).size ≤ maxLen := by rw [mkB_size]; have := HX.out j; unfold maxLen; omega
        by_cases hz : nameF (mkB (xs[j]?.getD [])) = 0
        · have HZ : Hid (∀ k : Nat, k < j + 1 → nameF (mkB (xs[k]?.getD [])) = 0) := fun k hk => by
            by_cases e : k = j
            · rw [e]; exact hz
            · exact HA.out k (by omega)
          have HY : Hid (nameF (mkB (xs[j]?.getD [])) = 0) := hz
          have HX2 := HX
          generalize hy : xs[j]?.getD [] = y at c0 hsz HY
          clear hz hy
          go_wp2_with fail
          refine (specName_any _ _ hsz).mono ?_
          rw [HY.out]
          rintro e w1 ⟨rfl, rfl⟩
          go_wp2
          go_round
          case rel => exact ⟨j + 1, by omega, by go_num, HZ.out⟩
          case measure => simp [intOf]; omega
        · have HZ : Hid (namesF xs = nameF (mkB (xs[j]?.getD []))) := namesF_at HA.out (by rw [HN.out]; exact hlt) hz
          have HY : Hid (¬ nameF (mkB (xs[j]?.getD [])) = 0) := hz
          clear HA hz
          generalize hy : xs[j]?.getD [] = y at c0 hsz HY HZ
          clear hy
          go_wp2_with fail
          refine (specName_any _ _ hsz).mono ?_
          generalize nameF (mkB y) = z at HY HZ ⊢
          have hz : (z == 0) = false := by simpa using HY.out
          have hz2 : (z = 0) = False := by simpa using HY.out
          rintro e w1 ⟨rfl, rfl⟩
          go_wp2
          go_ret
          exact ⟨by rw [HZ.out]; rfl, rfl⟩
      · have hje : j = n := by omega
        have HZ : Hid (namesF xs = 0) := namesF_zero fun i hi => HA.out i (by rw [HN.out] at hi; omega)
        have hx' : decide ((j : Int) < (n : Int)) = false := by simp; omega
        have hx2 : decide (j < n) = false := by simp; omega
        clear hje
        go_wp2
        go_ret
        exact ⟨by rw [HZ.out]; rfl, rfl⟩
end Go.Proofs.Ytjbppdkijjfejaa

namespace Go.Proofs.Ytjbppdkijjfejaa
open Go.RowKit
set_option maxRecDepth 100000

theorem sufB_at {l : List UInt8} {m : Nat} (h : l.length = m + 1) : sufB l = (l[m]?.getD 0 == 47) := by
  unfold sufB
  rw [List.getLast?_eq_getElem?, h, Nat.add_sub_cancel, List.getElem?_eq_getElem (by omega)]
  rfl
theorem preB_at {l : List UInt8} (h : 0 < l.length) : preB l = (l[0]?.getD 0 == 47) := by
  cases l with
  | nil => simp at h
  | cons b t => rfl
theorem byte_eq (b : UInt8) : ((b.toNat : Int) == 47) = (b == 47) := by
  by_cases h : b = 47
  · subst h; rfl
  · have hne : b.toNat ≠ 47 := fun e => h (UInt8.toNat_inj.1 (by rw [e]; rfl))
    have h1 : (b == 47) = false := by simpa using h
    rw [h1]
    simp; omega
theorem namesL_cut {p : List UInt8} (h0 : topB p = false) (hp : 0 < p.length) : namesL p = cutB (p.drop 1) := by
  unfold namesL
  rw [if_neg (by simpa [topB] using h0)]
  cases p with
  | nil => simp at hp
  | cons b t => rfl
/-- Where the specification's split sees a fault of the path's form. -/
def formBad (p : List UInt8) : Prop := p.length = 0 ∨ ¬ p[0]?.getD 0 = 47 ∨ p[p.length - 1]?.getD 0 = 47
theorem pathF_form {p : List UInt8} (h30 : ¬ 30 < p.length) (ht : topB p = false) (hb : formBad p) : pathF p = 5 := by
  unfold pathF
  rw [if_neg h30]
  rcases Nat.eq_zero_or_pos p.length with h0 | h0
  · have : p = [] := List.length_eq_zero_iff.1 h0
    subst this; rfl
  · rcases hb with hb | hb | hb
    · omega
    · rw [preB_at h0, if_neg (by simpa using hb)]
    · have hs : sufB p = true := by rw [sufB_at (m := p.length - 1) (by omega), hb]; rfl
      split
      · rw [if_pos ⟨hs, ht⟩]
      · rfl
theorem pathF_good {p : List UInt8} (h30 : ¬ 30 < p.length) (ht : topB p = false) (hb : ¬ formBad p) : pathF p = namesC (cutB (p.drop 1)) := by
  unfold formBad at hb
  have h0 : 0 < p.length := by omega
  have h1 : p[0]?.getD 0 = 47 := by
    by_cases e : p[0]?.getD 0 = 47
    · exact e
    · exact absurd (Or.inr (Or.inl e)) hb
  have h2 : ¬ p[p.length - 1]?.getD 0 = 47 := fun e => hb (Or.inr (Or.inr e))
  unfold pathF namesC
  have hs : sufB p = false := by rw [sufB_at (m := p.length - 1) (by omega)]; simpa using h2
  have hq : preB p = true := by rw [preB_at h0, h1]; rfl
  rw [if_neg h30, if_pos hq, if_neg (by rw [hs]; simp), namesL_cut ht h0]

set_option maxHeartbeats 800000 in
theorem l3Split_form (w : World) (p : List UInt8) (h30 : ¬ 30 < p.length) (ht : topB p = false) (hb : formBad p) :
    Calls Try.prog 96 #[.string (mkB p)] w fun e w' => e = .returned (.tuple #[.slice none 0 0, .int .i64 5]) ∧ w' = w := by
  have hsz := mkB_size p
  have ht' : ((mkB p).toList == [47]) = false := by rw [mkB_toList]; exact ht
  have h30' : decide ((30 : Int) < (p.length : Int)) = false := by simp; omega
  have h30'' : decide (30 < p.length) = false := by simp; omega
  clear ht
  rcases Nat.eq_zero_or_pos p.length with h0 | h0
  · clear hb h30
    go_enter Try.func96, Try.ntmps96
    go_wp2
    go_ret2
    exact ⟨rfl, rfl⟩
  · have h0' : ((p.length : Int) == 0) = false := by rw [beq_eq_false_iff_ne]; omega
    have h0'' : (p.length == 0) = false := by rw [beq_eq_false_iff_ne]; omega
    have h0p : (p = []) = False := by simp; intro e; rw [e] at h0; simp at h0
    have hlt : 0 < (mkB p).size := by rw [hsz]; omega
    have hg := mkB_get p 0 hlt
    by_cases h1 : p[0]?.getD 0 = 47
    · have h2 : p[p.length - 1]?.getD 0 = 47 := by
        rcases hb with h | h | h
        · omega
        · exact absurd h1 h
        · exact h
      have hb0 : (((mkB p)[0].toNat : Int) != 47) = false := by rw [hg, h1]; rfl
      obtain ⟨m, hm⟩ : ∃ m, p.length = m + 1 := ⟨p.length - 1, by omega⟩
      have hlm : m < (mkB p).size := by rw [hsz]; omega
      have hb1 : (((mkB p)[m].toNat : Int) == 47) = true := by
        rw [mkB_get p m hlm, show m = p.length - 1 by omega, h2]; rfl
      have hwm : (p.length : Int) - 1 = (m : Int) := by omega
      have hwr : IntKind.i64.wrap (m : Int) = (m : Int) := by rw [IntKind.wrap_i64]; omega
      clear hb hg h1 h2 hm h30
      go_enter Try.func96, Try.ntmps96
      go_wp2
      go_ret2
      exact ⟨rfl, rfl⟩
    · have hb0 : (((mkB p)[0].toNat : Int) != 47) = true := by rw [bne, byte_eq, hg]; simpa using h1
      clear hb hg h1 h30
      go_enter Try.func96, Try.ntmps96
      go_wp2
      go_ret2
      exact ⟨rfl, rfl⟩
end Go.Proofs.Ytjbppdkijjfejaa

namespace Go.Proofs.Ytjbppdkijjfejaa
open Go.RowKit
set_option maxRecDepth 100000

theorem cutB_mem (t : List UInt8) (k : Nat) : ((cutB t)[k]?.getD []).length ≤ t.length := by
  induction t generalizing k with
  | nil => cases k <;> simp [cutB]
  | cons b l ih =>
    simp only [cutB]
    split
    · cases k with
      | zero => simp
      | succ k => have := ih k; simp at this ⊢; omega
    · cases h : cutB l with
      | nil => cases k <;> simp [cutHead]
      | cons x y =>
        have h1 := ih k
        rw [h] at h1
        cases k with
        | zero => simp [cutHead] at h1 ⊢; omega
        | succ k => simp [cutHead] at h1 ⊢; omega

set_option maxHeartbeats 800000 in
theorem l3Split_many (w : World) (p : List UInt8) (h30 : 30 < p.length) :
    Calls Try.prog 96 #[.string (mkB p)] w fun e w' => e = .returned (.tuple #[.slice none 0 0, .int .i64 2]) ∧ w' = w := by
  have hsz := mkB_size p
  have h30' : (30 : Int) < (p.length : Int) := by omega
  go_enter Try.func96, Try.ntmps96
  go_wp2
  go_ret2
  exact ⟨rfl, rfl⟩

set_option maxHeartbeats 800000 in
theorem l3Split_top (w : World) :
    Calls Try.prog 96 #[.string (mkB [47])] w fun e w' => ∃ a c, e = .returned (.tuple #[.slice a 0 c, .int .i64 0]) ∧ Below w.heap.size w w' ∧ w'.ownsRow w.heap.size 9 1 (.slice a 0 c) 0 [] := by
  have hsz : (mkB [47]).size = 1 := rfl
  have ht' : ((mkB [47]).toList == [47]) = true := by rw [mkB_toList]; rfl
  generalize mkB [47] = s at *
  go_enter Try.func96, Try.ntmps96
  go_wp2
  go_ret2
  exact ⟨_, _, rfl, later1 _ _, World.ownsRow_lit w #[] 0 (Nat.le_refl _) (by simp) rfl⟩

set_option maxHeartbeats 1600000 in
theorem l3Split_good (w : World) (p : List UInt8) (h30 : ¬ 30 < p.length) (ht : topB p = false) (hb : ¬ formBad p) :
    Calls Try.prog 96 #[.string (mkB p)] w fun e w' => Below w.heap.size w w' ∧ ((¬ namesC (cutB (p.drop 1)) = 0 ∧ e = .returned (.tuple #[.slice none 0 0, .int .i64 (namesC (cutB (p.drop 1)))])) ∨ (namesC (cutB (p.drop 1)) = 0 ∧ ∃ a c, e = .returned (.tuple #[.slice a (cutB (p.drop 1)).length c, .int .i64 0]) ∧ w'.ownsRow w.heap.size 9 1 (.slice a (cutB (p.drop 1)).length c) (cutB (p.drop 1)).length ((cutB (p.drop 1)).map strV))) := by
  have hsz := mkB_size p
  have ht' : ((mkB p).toList == [47]) = false := by rw [mkB_toList]; exact ht
  have h30' : decide ((30 : Int) < (p.length : Int)) = false := by simp; omega
  have h30'' : decide (30 < p.length) = false := by simp; omega
  unfold formBad at hb
  have h0 : 0 < p.length := by omega
  have h1 : p[0]?.getD 0 = 47 := by
    by_cases e : p[0]?.getD 0 = 47
    · exact e
    · exact absurd (Or.inr (Or.inl e)) hb
  have h2 : ¬ p[p.length - 1]?.getD 0 = 47 := fun e => hb (Or.inr (Or.inr e))
  have h0' : ((p.length : Int) == 0) = false := by rw [beq_eq_false_iff_ne]; omega
  have h0p : (p = []) = False := by simp; intro e; rw [e] at h0; simp at h0
  have hlt : 0 < (mkB p).size := by rw [hsz]; omega
  have hg := mkB_get p 0 hlt
  have hb0 : (((mkB p)[0].toNat : Int) != 47) = false := by rw [hg, h1]; rfl
  obtain ⟨m, hm⟩ : ∃ m, p.length = m + 1 := ⟨p.length - 1, by omega⟩
  have hlm : m < (mkB p).size := by rw [hsz]; omega
  have hb1 : (((mkB p)[m].toNat : Int) == 47) = false := by
    rw [byte_eq, mkB_get p m hlm, show m = p.length - 1 by omega]; simpa using h2
  have hwm : (p.length : Int) - 1 = (m : Int) := by omega
  have hwr : IntKind.i64.wrap (m : Int) = (m : Int) := by rw [IntKind.wrap_i64]; omega
  have hs1 : ∀ W, (Instr.slice 9 (.string (mkB p)) (some (.int .i64 1)) none none).run Try.prog W = .ok (.string (mkB (p.drop 1))) W := run_from p 1 (by omega)
  have HL : Hid ((p.drop 1).length ≤ 1048576) := by unfold Hid; simp; omega
  have HLC : Hid ((cutB (p.drop 1)).length ≤ 1048577) := by unfold Hid; have := cutB_len (p.drop 1); have := HL.out; omega
  have HLM : Hid (∀ k : Nat, ((cutB (p.drop 1))[k]?.getD []).length ≤ 1048576) := fun k => by have := cutB_mem (p.drop 1) k; have := HL.out; omega
  have HCA := fun W => l3Cut_any W (p.drop 1) HL.out
  have HCB : Hid (∀ W, Calls Try.prog 139 #[.string (mkB (p.drop 1)), .int .u8 47] W fun e w' => ∃ v, e = .returned v ∧ Below W.heap.size W w' ∧ w'.ownsRow W.heap.size 9 1 v (cutB (p.drop 1)).length ((cutB (p.drop 1)).map strV)) := HCA
  clear hb hg h1 h2 hm h30 ht HL HCA
  generalize p.drop 1 = t at *
  generalize cutB t = xs at *
  go_enter Try.func96, Try.ntmps96
  go_wp2_with fail
  refine (HCB.out _).mono ?_
  rintro e w1 ⟨v, rfl, hb1, hrow⟩
  have HW1 : Hid (Below w.heap.size w w1) := hb1
  have HROW : Hid (w1.ownsRow w.heap.size 9 1 v xs.length (xs.map strV)) := hrow
  obtain ⟨aV, cV, rfl⟩ := ownsRow_shape hrow
  have HAT : Hid (AtT w1 aV xs.length xs) := (ownsRow_at hrow).2
  clear hb1 hrow HCB
  go_wp2_with fail
  refine (l3Names_any _ _ _ _ xs rfl HLC.out HLM.out HAT.out).mono ?_
  by_cases hz : namesC xs = 0
  · rw [hz]
    have HZ : Hid (namesC xs = 0) := hz
    clear hz
    rintro e w2 ⟨rfl, rfl⟩
    go_wp2
    go_ret2
    exact ⟨HW1.out, Or.inr ⟨HZ.out, _, _, rfl, HROW.out⟩⟩
  · generalize hq : namesC xs = z at *
    have HQ : Hid (namesC xs = z) := hq
    clear hq
    have HZ : Hid (¬ z = 0) := hz
    have hz1 : (z != 0) = true := by simpa using hz
    clear hz
    rintro e w2 ⟨rfl, rfl⟩
    go_wp2
    go_ret2
    exact ⟨HW1.out, Or.inl ⟨by rw [HQ.out]; exact HZ.out, by rw [HQ.out]; rfl⟩⟩

theorem specSplit_bad (w : World) (p : List UInt8) (h : ¬ pathF p = 0) :
    Calls Try.prog 96 #[.string (mkB p)] w fun e w' => e = .returned (.tuple #[.slice none 0 0, .int .i64 (pathF p)]) ∧ Below w.heap.size w w' := by
  by_cases h30 : 30 < p.length
  · refine (l3Split_many w p h30).mono ?_
    rintro e w' ⟨rfl, rfl⟩
    exact ⟨by unfold pathF; rw [if_pos h30], Below.refl _ _⟩
  · cases ht : topB p
    · by_cases hb : formBad p
      · refine (l3Split_form w p h30 ht hb).mono ?_
        rintro e w' ⟨rfl, rfl⟩
        exact ⟨by rw [pathF_form h30 ht hb], Below.refl _ _⟩
      · refine (l3Split_good w p h30 ht hb).mono ?_
        rw [pathF_good h30 ht hb] at h ⊢
        rintro e w' ⟨h1, ⟨_, rfl⟩ | ⟨h2, _⟩⟩
        · exact ⟨rfl, h1⟩
        · exact absurd h2 h
    · have : p = [47] := by simpa [topB] using ht
      subst this
      exact absurd rfl h
theorem specSplit_ok (w : World) (p : List UInt8) (h : pathF p = 0) :
    Calls Try.prog 96 #[.string (mkB p)] w fun e w' => ∃ a c, e = .returned (.tuple #[.slice a (namesL p).length c, .int .i64 0]) ∧ Below w.heap.size w w' ∧ w'.ownsRow w.heap.size 9 1 (.slice a (namesL p).length c) (namesL p).length ((namesL p).map strV) := by
  by_cases h30 : 30 < p.length
  · unfold pathF at h; rw [if_pos h30] at h; omega
  · cases ht : topB p
    · by_cases hb : formBad p
      · rw [pathF_form h30 ht hb] at h; omega
      · refine (l3Split_good w p h30 ht hb).mono ?_
        have hp : 0 < p.length := by unfold formBad at hb; omega
        rw [pathF_good h30 ht hb] at h
        rw [namesL_cut ht hp]
        rintro e w' ⟨h1, ⟨h2, _⟩ | ⟨_, a, c, rfl, hrow⟩⟩
        · exact absurd h h2
        · exact ⟨a, c, rfl, h1, hrow⟩
    · have : p = [47] := by simpa [topB] using ht
      subst this
      refine (l3Split_top w).mono ?_
      rintro e w' ⟨a, c, rfl, hb, hr⟩
      exact ⟨a, c, rfl, hb, hr⟩
end Go.Proofs.Ytjbppdkijjfejaa

namespace Go.Proofs.Ytjbppdkijjfejaa
open Go.RowKit
set_option maxRecDepth 100000

def lastC (p : List UInt8) : Int := if pathF p = 0 then (if (namesL p).length = 0 then 4 else 0) else pathF p
def lastT (p : List UInt8) : List UInt8 := if pathF p = 0 then (namesL p)[(namesL p).length - 1]?.getD [] else []

theorem ownsRow_cap {w : World} {B : Nat} {e : TypeId} {a : Option Addr} {n m c : Nat} {xs : List Value} (h : w.ownsRow B e 1 (.slice a n c) m xs) : n ≤ c := by
  rcases h.2 with ⟨h1, _⟩ | ⟨g, cap, cur, h1, _, _, h2, _⟩ <;> simp only [Value.slice.injEq] at h1 <;> omega
theorem slice_takeT (a : Option Addr) (n c j : Nat) (hj : j ≤ c) :
    ∃ A C, (∀ W : World, (Instr.slice 64 (.slice a n c) none (some (.int .i64 (j : Int))) none).run Try.prog W = .ok (.slice A j C) W) ∧ ∀ (W : World) (xs : List (List UInt8)), j ≤ n → AtT W a n xs → AtT W A j xs := by
  obtain ⟨i, hi, _⟩ := info_parts Try.infoStr
  refine ⟨if c = 0 then a else a.map (·.add (0 * 1)), c - 0, fun W => ?_, fun W xs hjn h => ?_⟩
  · simp [Instr.slice, Instr.sliceBounds, Instr.sliceBound, asIntOf, run_underlying Try.underlying64, sizeOf, typeInfo, hi, hj]
  · by_cases hc : c = 0
    · intro k hk; omega
    · rw [if_neg hc]
      intro k hk
      obtain ⟨b, off, e, r⟩ := h k (by omega)
      subst e
      exact ⟨b, off, by simp [Addr.add], r⟩

end Go.Proofs.Ytjbppdkijjfejaa

namespace Go.Proofs.Ytjbppdkijjfejaa
open Go.RowKit
set_option maxRecDepth 100000

def joinL (xs : List (List UInt8)) : List UInt8 := xs.flatMap (47 :: ·)
def joinT (xs : List (List UInt8)) : List UInt8 := if joinL xs = [] then [47] else joinL xs
theorem joinL_step {xs : List (List UInt8)} {j : Nat} (h : j < xs.length) : joinL (xs.take (j + 1)) = joinL (xs.take j) ++ (47 :: xs[j]?.getD []) := by
  unfold joinL
  rw [List.take_add_one, List.flatMap_append, List.getElem?_eq_getElem h]
  simp
theorem joinL_len {xs : List (List UInt8)} {j B : Nat} (h : ∀ k : Nat, (xs[k]?.getD []).length ≤ B) (hj : j ≤ xs.length) : (joinL (xs.take j)).length ≤ j * (B + 1) := by
  induction j with
  | zero => simp [joinL]
  | succ j ih =>
    rw [joinL_step (by omega), List.length_append, List.length_cons, Nat.succ_mul]
    have := ih (by omega)
    have := h j
    omega

set_option maxHeartbeats 3200000 in
theorem l3Join_any (w : World) (a : Option Addr) (n c : Nat) (xs : List (List UInt8)) (hl : n ≤ xs.length) (hn : n ≤ 1048577) (hx : ∀ k : Nat, (xs[k]?.getD []).length ≤ 1048576) (hat : AtT w a n xs) :
    Calls Try.prog 151 #[.slice a n c] w fun e w' => e = .returned (.string (mkB (joinT (xs.take n)))) ∧ w' = w := by
  have HAT : Hid (AtT w a n xs) := hat
  have HX : Hid (∀ k : Nat, (xs[k]?.getD []).length ≤ 1048576) := hx
  have HL : Hid (n ≤ xs.length) := hl
  clear hat hx hl
  have hs47 : (⟨#[47]⟩ : ByteArray) = mkB [47] := rfl
  go_enter Try.func151, Try.ntmps151
  go_wp2
  go_loop [3, 4] (fun o i => ∃ j : Nat, j ≤ n ∧ i = .int .i64 j ∧ o = .string (mkB (joinL (xs.take j)))) (fun _ i => n - (intOf i).toNat)
  case atStart => exact ⟨0, Nat.zero_le _, rfl, rfl⟩
  case round =>
    obtain ⟨j, hj, rfl, rfl⟩ := hrel
    by_cases hlt : j < n
    · obtain ⟨b1, o1, rfl, e1⟩ := HAT.out j hlt
      have HS : Hid (joinL (xs.take (j + 1)) = joinL (xs.take j) ++ (47 :: xs[j]?.getD [])) := joinL_step (by have := HL.out; omega)
      have l1 := joinL_len (xs := xs) (j := j) HX.out (by have := HL.out; omega)
      have l2 := HX.out j
      generalize xs[j]?.getD [] = y at e1 l2 HS
      generalize joinL (xs.take j) = o at l1 HS
      have l3 : o.length ≤ 1099513724928 := by
        have : j * (1048576 + 1) ≤ 1048577 * (1048576 + 1) := Nat.mul_le_mul_right _ (by omega)
        omega
      clear l1
      have z1 : (9223372036854775807 < (mkB o).size + (mkB [47]).size) = False := by rw [mkB_size, mkB_size]; simp; omega
      have z2 : (9223372036854775807 < (mkB o ++ mkB [47]).size + (mkB y).size) = False := by rw [mkB_app, mkB_size, mkB_size]; simp; omega
      have z3 : (9223372036854775807 < (mkB o).size + (mkB [47]).size + (mkB y).size) = False := by rw [mkB_size, mkB_size, mkB_size]; simp; omega
      have HE : Hid (mkB o ++ mkB [47] ++ mkB y = mkB (joinL (xs.take (j + 1)))) := by unfold Hid; rw [HS.out, mkB_app, mkB_app, List.append_assoc]; rfl
      go_wp2
      go_round
      case rel => exact ⟨j + 1, by omega, by go_num, by rw [HE.out]⟩
      case measure => simp [intOf]; omega
    · have hjn : j = n := by omega
      subst hjn
      have HT : Hid (joinT (xs.take j) = if joinL (xs.take j) = [] then [47] else joinL (xs.take j)) := rfl
      by_cases h0 : joinL (xs.take j) = []
      · have HR : Hid (joinT (xs.take j) = [47]) := by unfold Hid; rw [HT.out, if_pos h0]
        rw [h0]
        have ht : ((mkB []).toList == []) = true := by rw [mkB_toList]; rfl
        go_wp2
        go_ret
        exact ⟨by rw [HR.out]; rfl, rfl⟩
      · have HR : Hid (joinT (xs.take j) = joinL (xs.take j)) := by unfold Hid; rw [HT.out, if_neg h0]
        generalize hq : joinL (xs.take j) = o at h0 HR HT ⊢
        have ht : ((mkB o).toList == []) = false := by rw [mkB_toList]; simpa using h0
        clear HT h0
        go_wp2
        go_ret
        exact ⟨by rw [HR.out]; rfl, rfl⟩
end Go.Proofs.Ytjbppdkijjfejaa

namespace Go.Proofs.Ytjbppdkijjfejaa
open Go.RowKit
set_option maxRecDepth 100000

/-- A source that a call made since w0, as it stands in w. -/
structure DS (w0 w : World) (sb : Nat) (a : Option Addr) (n c at' : Nat) : Prop where
  src : Src w sb a n c at'
  below : Below w0.heap.size w0 w
  new : w0.heap.size ≤ sb
  len : n ≤ 1048576
  bytes : AtB w0 a n
theorem DS.lt {w0 w : World} {sb : Nat} {a : Option Addr} {n c at' : Nat} (h : DS w0 w sb a n c at') : sb < w.heap.size := OwnRow.lt h.src
theorem DS.chg {w0 w w' : World} {sb : Nat} {a : Option Addr} {n c at' : Nat} {F : Nat → Prop} (h : DS w0 w sb a n c at') (hc : Chg F w w') (hF : ∀ b, F b → w0.heap.size ≤ b) (hn : ¬ F sb) : DS w0 w' sb a n c at' :=
  ⟨OwnRow.block h.src (hc.block sb h.lt hn), h.below.trans (hc.below h.below.size hF), h.new, h.len, h.bytes⟩
theorem DS.later {w0 w w' : World} {sb : Nat} {a : Option Addr} {n c at' : Nat} (h : DS w0 w sb a n c at') (hb : Below w.heap.size w w') : DS w0 w' sb a n c at' :=
  ⟨OwnRow.block h.src (hb.block sb h.lt), h.below.trans (hb.mono h.below.size), h.new, h.len, h.bytes⟩
theorem Chg.drewN {F : Nat → Prop} {w w' : World} (h : Chg F w w') (m : Nat) : Chg F w (w'.drewN m) := h.trans (Chg.of_below (below_drewN (Below.refl _ _) m))
theorem l1Next_ds (w0 w : World) (sb : Nat) (a : Option Addr) (n c at' k : Nat) (h : DS w0 w sb a n c at') (hat : at' ≤ 1000000) (hk0 : 1 ≤ k) (hk : k ≤ 200) :
    Calls Try.prog 54 #[.pointer (some ⟨sb, 0, none⟩), .int .i64 (k : Int)] w fun e w' => ∃ r : Nat, e = .returned (.int .i64 (r : Int)) ∧ r < k ∧ DS w0 w' sb a n c (at' + 1) ∧ Chg (fun b => b = sb) w w' := by
  have hfin : ∀ m, DS w0 ((stepW w sb at').drewN m) sb a n c (at' + 1) ∧ Chg (fun b => b = sb) w ((stepW w sb at').drewN m) := fun m => by
    have hc : Chg (fun b => b = sb) w (stepW w sb at') := Chg.set (F := fun b => b = sb) (Chg.refl _ w) rfl 1 _
    exact ⟨⟨h.src.step, h.below.trans ((hc.drewN m).below h.below.size fun b hb => hb ▸ h.new), h.new, h.len, h.bytes⟩, hc.drewN m⟩
  by_cases h0 : n = 0
  · subst h0
    refine (l1Next_none w sb a c at' k h.src hat hk0 hk).mono ?_
    rintro e w' ⟨r, he, hr, m, rfl⟩
    exact ⟨r, he, hr, hfin m⟩
  · refine (l1Next_some w sb a n c at' k h.src h.len (by omega) (h.bytes.later h.below) (fun b off e => ?_) hat hk0 hk).mono ?_
    · obtain ⟨b', off', e', z, _, hc⟩ := h.bytes 0 (by omega)
      rw [e] at e'
      simp only [Option.some.injEq, Addr.mk.injEq, and_true] at e'
      have := World.block_lt_of_cell? _ _ hc
      have h2 := h.new
      have h3 : b' < w0.heap.size := this
      omega
    · rintro e w' ⟨r, he, hr, m, rfl⟩
      exact ⟨r, he, hr, hfin m⟩

set_option maxHeartbeats 1600000 in
theorem l1Chance_ds (w0 w : World) (sb : Nat) (a : Option Addr) (n c at' k : Nat) (h : DS w0 w sb a n c at') (hat : at' ≤ 1000000) (hk0 : 1 ≤ k) (hk : k ≤ 200) :
    Calls Try.prog 107 #[.pointer (some ⟨sb, 0, none⟩), .int .i64 (k : Int)] w fun e w' => ∃ b : Bool, e = .returned (.bool b) ∧ DS w0 w' sb a n c (at' + 1) ∧ Chg (fun b => b = sb) w w' := by
  have H : Hid (DS w0 w sb a n c at') := h
  clear h
  go_enter Try.func107, Try.ntmps107
  go_wp2_with fail
  refine (l1Next_ds w0 _ sb a n c at' k H.out hat hk0 hk).mono ?_
  rintro e w1 ⟨r, rfl, hr, hd, hc⟩
  have HD : Hid (DS w0 w1 sb a n c (at' + 1)) := hd
  have HC : Hid (Chg (fun b => b = sb) w w1) := hc
  clear hd hc
  go_wp2
  go_ret
  exact ⟨_, rfl, HD.out, HC.out⟩

/-- A list of texts that is written out. -/
def litA (ys : List (List UInt8)) : Array Value := (ys.map strV).toArray
theorem litRow (w : World) (ys : List (List UInt8)) (arr : Array Value) (he : arr = litA ys) (t : TypeId) : OwnRow (w.alloc (.cells arr t)) w.heap.size ys.length (fun i => strV (ys[i]?.getD [])) := by
  subst he
  refine ⟨_, t, Go.Deep.blk_alloc_new _ _, by simp [litA], fun i hi => ?_⟩
  simp [litA, List.getElem?_eq_getElem hi]
def names6 : List (List UInt8) := [[97], [98], [99], [100], [97, 98], [104, 97, 108, 108]]
theorem names6_len (r : Nat) : (names6[r]?.getD []).length ≤ 4 := by
  match r with
  | 0 => decide
  | 1 => decide
  | 2 => decide
  | 3 => decide
  | 4 => decide
  | 5 => decide
  | _ + 6 => simp [names6]

set_option maxHeartbeats 3200000 in
theorem l3Name_ds (w0 w : World) (sb : Nat) (a : Option Addr) (n c at' : Nat) (h : DS w0 w sb a n c at') (hat : at' ≤ 1000000) :
    Calls Try.prog 150 #[.pointer (some ⟨sb, 0, none⟩)] w fun e w' => ∃ y : List UInt8, e = .returned (.string (mkB y)) ∧ y.length ≤ 4 ∧ DS w0 w' sb a n c (at' + 1) ∧ Chg (fun b => b = sb) w w' := by
  have H : Hid (DS w0 w sb a n c at') := h
  have hsb := h.lt
  clear h
  go_enter Try.func150, Try.ntmps150
  go_wp2_with fail
  refine (l1Next_ds w0 _ sb a n c at' 6 (H.out.later (later1 _ _)) hat (by omega) (by omega)).mono ?_
  rintro e w1 ⟨r, rfl, hr, hd, hc⟩
  have hrow : OwnRow w1 w.heap.size 6 (fun i => strV (names6[i]?.getD [])) := (litRow w names6 _ rfl 9).block (hc.block _ (by simp) (by omega))
  have c0 := hrow.cell hr
  unfold strV at c0
  have HD : Hid (DS w0 w1 sb a n c (at' + 1)) := hd
  have HC : Hid (Chg (fun b => b = sb) w w1) := (Chg.of_below (later1 _ _)).trans hc
  have HL : Hid ((names6[r]?.getD []).length ≤ 4) := names6_len r
  generalize names6[r]?.getD [] = y at *
  clear hd hc hrow
  go_wp2
  go_ret
  exact ⟨y, rfl, HL.out, HD.out, HC.out⟩
end Go.Proofs.Ytjbppdkijjfejaa

namespace Go.Proofs.Ytjbppdkijjfejaa
open Go.RowKit
set_option maxRecDepth 100000

theorem ownsRow_chg {w w' : World} {B : Nat} {e : TypeId} {k : Nat} {v : Value} {n : Nat} {xs : List Value} {sb : Nat} (h : w.ownsRow B e k v n xs) (hc : Chg (fun b => b = sb) w w') (hs : sb < B) : w'.ownsRow B e k v n xs := by
  obtain ⟨hl, h | ⟨g, cap, cur, h1, h2, h3, h4⟩⟩ := h
  · exact ⟨hl, Or.inl h⟩
  · exact ⟨hl, Or.inr ⟨g, cap, cur, h1, h2, (hc.block g (Array.getElem?_eq_some_iff.1 h3).1 (by omega)).trans h3, h4⟩⟩

set_option maxHeartbeats 3200000 in
theorem pick6_ds (w0 w : World) (sb : Nat) (a : Option Addr) (n c at' : Nat) (lb : Nat) (h : DS w0 w sb a n c at') (hat : at' ≤ 1000000) (hl : OwnRow w lb 6 (fun i => .int .i64 ([1, 1, 2, 2, 3, 0][i]?.getD 0))) (hne : lb ≠ sb) :
    Calls Try.prog 85 #[.pointer (some ⟨sb, 0, none⟩), .slice (some ⟨lb, 0, none⟩) 6 6] w fun e w' => ∃ r : Nat, e = .returned (.int .i64 (r : Int)) ∧ r ≤ 3 ∧ DS w0 w' sb a n c (at' + 1) ∧ Chg (fun b => b = sb) w w' := by
  have H : Hid (DS w0 w sb a n c at') := h
  have HL : Hid (OwnRow w lb 6 (fun i => .int .i64 ([1, 1, 2, 2, 3, 0][i]?.getD 0))) := hl
  clear h hl
  go_enter Try.func85, Try.ntmps85
  go_wp2_with fail
  refine (l1Next_ds w0 _ sb a n c at' 6 H.out hat (by omega) (by omega)).mono ?_
  rintro e w1 ⟨r, rfl, hr, hd, hc⟩
  have hrow := HL.out.block (hc.block lb HL.out.lt hne)
  have c0 := hrow.cell hr
  have HD : Hid (DS w0 w1 sb a n c (at' + 1)) := hd
  have HC : Hid (Chg (fun b => b = sb) w w1) := hc
  obtain ⟨q, hq, hq3⟩ : ∃ q : Nat, ([1, 1, 2, 2, 3, 0][r]?.getD (0 : Int)) = (q : Int) ∧ q ≤ 3 := by
    match r, hr with
    | 0, _ => exact ⟨1, rfl, by omega⟩
    | 1, _ => exact ⟨1, rfl, by omega⟩
    | 2, _ => exact ⟨2, rfl, by omega⟩
    | 3, _ => exact ⟨2, rfl, by omega⟩
    | 4, _ => exact ⟨3, rfl, by omega⟩
    | 5, _ => exact ⟨0, rfl, by omega⟩
  simp only [hq] at c0
  clear hd hc hrow hq
  go_wp2
  go_ret
  exact ⟨q, rfl, hq3, HD.out, HC.out⟩

set_option maxHeartbeats 3200000 in
theorem l3Path_ds (w0 w : World) (sb : Nat) (a : Option Addr) (n c at' : Nat) (h : DS w0 w sb a n c at') (hat : at' ≤ 1000) :
    Calls Try.prog 132 #[.pointer (some ⟨sb, 0, none⟩)] w fun e w' => ∃ y : List UInt8, e = .returned (.string (mkB y)) ∧ y.length ≤ 1048576 ∧ Below w0.heap.size w0 w' := by
  have H : Hid (DS w0 w sb a n c at') := h
  have hsb := h.lt
  clear h
  go_enter Try.func132, Try.ntmps132
  go_wp2_with fail
  have HLR : Hid (OwnRow ((w.alloc (Obj.cells #[] 9)).alloc (Obj.cells #[.int .i64 1, .int .i64 1, .int .i64 2, .int .i64 2, .int .i64 3, .int .i64 0] 2)) (w.heap.size + 1) 6 (fun i => .int .i64 ([1, 1, 2, 2, 3, 0][i]?.getD 0))) := by
    refine ⟨#[.int .i64 1, .int .i64 1, .int .i64 2, .int .i64 2, .int .i64 3, .int .i64 0], 2, ?_, ?_, fun i hi => ?_⟩
    · have := Go.Deep.blk_alloc_new (w.alloc (Obj.cells #[] 9)) (Obj.cells #[.int .i64 1, .int .i64 1, .int .i64 2, .int .i64 2, .int .i64 3, .int .i64 0] 2)
      rw [World.size_alloc] at this
      exact this
    · simp
    · match i, hi with
      | 0, _ => rfl
      | 1, _ => rfl
      | 2, _ => rfl
      | 3, _ => rfl
      | 4, _ => rfl
      | 5, _ => rfl
  have HOW : Hid (((w.alloc (Obj.cells #[] 9)).alloc (Obj.cells #[.int .i64 1, .int .i64 1, .int .i64 2, .int .i64 2, .int .i64 3, .int .i64 0] 2)).ownsRow w.heap.size 9 1 (.slice (some ⟨w.heap.size, 0, none⟩) 0 0) 0 []) := ownsRow_later (World.ownsRow_lit w #[] 0 (Nat.le_refl _) (by simp) rfl) (later1 _ _)
  refine (pick6_ds w0 _ sb a n c at' (w.heap.size + 1) (H.out.later (later2 _ _ _)) (by omega) HLR.out (by omega)).mono ?_
  rintro e w1 ⟨k, rfl, hk3, hd, hc⟩
  have HD : Hid (DS w0 w1 sb a n c (at' + 1)) := hd
  have HOW1 : Hid (w1.ownsRow w.heap.size 9 1 (.slice (some ⟨w.heap.size, 0, none⟩) 0 0) 0 []) := ownsRow_chg HOW.out hc hsb
  have hw1 : w.heap.size ≤ w1.heap.size := by have := hc.size; simp at this; omega
  clear hd hc HLR HOW H
  generalize hlo : w.heap.size = lo at *
  clear hlo
  go_wp2
  go_loopw [3, 4] (fun o i wr => ∃ (j : Nat) (v : Value) (ys : List (List UInt8)), o = v ∧ i = .int .i64 (j : Int) ∧ j + ys.length = k ∧ (∀ q : Nat, (ys[q]?.getD []).length ≤ 4) ∧ DS w0 wr sb a n c (at' + 1 + ys.length) ∧ lo ≤ wr.heap.size ∧ wr.ownsRow lo 9 1 v ys.length (ys.map strV)) (fun _ i _ => (intOf i).toNat)
  case atStart => exact ⟨k, _, [], rfl, rfl, by simp, fun q => by simp, HD.out, hw1, HOW1.out⟩
  case round =>
    clear HD HOW1
    obtain ⟨j, v, ys, rfl, rfl, hjk, hy4, hd, hlo, hrow⟩ := hrel
    have HD : Hid (DS w0 wr sb a n c (at' + 1 + ys.length)) := hd
    have HRW : Hid (wr.ownsRow lo 9 1 _ ys.length (ys.map strV)) := hrow
    have HY4 : Hid (∀ q : Nat, (ys[q]?.getD []).length ≤ 4) := hy4
    obtain ⟨aV, cV, rfl⟩ := ownsRow_shape hrow
    clear hd hrow hy4
    by_cases h0 : j = 0
    · subst h0
      have HA := ownsRow_at HRW.out
      have HAT : Hid (AtT wr aV ys.length ys) := HA.2
      have HB : Hid (Below w0.heap.size w0 wr) := HD.out.below
      have hyl : ys.length ≤ 3 := by omega
      clear HA
      go_wp2_with fail
      refine (l3Join_any _ aV ys.length cV ys (Nat.le_refl _) (by omega) (fun q => by have := HY4.out q; omega) HAT.out).mono ?_
      have HJL : Hid ((joinT (ys.take ys.length)).length ≤ 1048576) := by
        unfold Hid joinT
        have h1 := joinL_len (j := ys.length) HY4.out (Nat.le_refl _)
        have h2 : ys.length * (4 + 1) ≤ 3 * (4 + 1) := Nat.mul_le_mul_right _ hyl
        split
        · simp
        · omega
      generalize joinT (ys.take ys.length) = y at *
      rintro e w2 ⟨rfl, rfl⟩
      go_wp2
      go_ret
      exact ⟨y, rfl, HJL.out, HB.out⟩
    · have hj : (0 : Int) < (j : Int) := by omega
      go_wp2_with fail
      refine (l3Name_ds w0 _ sb a n c _ HD.out (by omega)).mono ?_
      rintro e w2 ⟨y, rfl, hy, hd2, hc2⟩
      have hrow2 := ownsRow_chg HRW.out hc2 hsb
      have hlo2 : lo ≤ w2.heap.size := Nat.le_trans hlo hc2.size
      obtain ⟨v', X, hap, hoX, hBX⟩ := append_strN w2 lo _ ys.length _ y (by simp) hrow2 hlo2 (by omega)
      have HAP : Hid (_ = _) := hap
      have hnew := hd2.new
      have HDX : Hid (DS w0 X sb a n c (at' + 1 + (ys ++ [y]).length)) := by
        unfold Hid
        rw [List.length_append]
        exact ⟨OwnRow.block hd2.src (hBX.block sb hsb), hd2.below.trans (hBX.mono (by omega)), hd2.new, hd2.len, hd2.bytes⟩
      have HOX : Hid (X.ownsRow lo 9 1 v' (ys ++ [y]).length ((ys ++ [y]).map strV)) := by unfold Hid; rw [List.length_append, List.map_append]; exact hoX
      have HLX : Hid (lo ≤ X.heap.size) := Nat.le_trans hlo2 hBX.size
      have HYX : Hid (∀ q : Nat, ((ys ++ [y])[q]?.getD []).length ≤ 4) := fun q => by
        by_cases hq : q < ys.length
        · rw [List.getElem?_append_left hq]; exact HY4.out q
        · rw [List.getElem?_append_right (by omega)]
          by_cases hq2 : q - ys.length = 0
          · rw [hq2]; simpa using hy
          · rw [List.getElem?_eq_none (by simp; omega)]; simp
      obtain ⟨i, hi⟩ : ∃ i, j = i + 1 := ⟨j - 1, by omega⟩
      subst hi
      clear hap hoX hBX hd2 hc2 hrow2 hnew h0
      go_wp2_with (at_builtin; refine wpList_append_run rfl _ _ 64 rfl _ _ rfl rfl _ _ HAP.out ?_)
      go_roundw
      case rel => exact ⟨i, _, ys ++ [y], rfl, by go_num, by simp; omega, HYX.out, HDX.out, HLX.out, HOX.out⟩
      case measure => simp [intOf]

def bent10 : List (List UInt8) := [[], [97], [47, 97, 47], [47, 47], [47, 65], [47, 97, 98, 99, 100, 101], [47, 97, 47, 98, 47, 99, 47, 100, 47, 97, 47, 98, 47, 99], [47, 97, 32, 98], [47, 104, 97, 108, 108, 47, 104, 97, 108, 108, 47, 104, 97, 108, 108, 47, 104, 97, 108, 108, 47, 104, 97, 108, 108, 47, 104, 97, 108, 108], [47, 104, 97, 108, 108, 47, 104, 97, 108, 108, 47, 104, 97, 108, 108, 47, 104, 97, 108, 108, 47, 104, 97, 108, 108, 47, 104, 97, 108, 108, 115]]
def names8 : List (List UInt8) := [[97], [97, 98, 99, 100], [97, 98, 99, 100, 101], [], [65], [97, 47], [122, 122], [97, 98, 99, 100, 69]]
theorem lit_len {ys : List (List UInt8)} (h : ∀ y ∈ ys, y.length ≤ 1048576) (r : Nat) : (ys[r]?.getD []).length ≤ 1048576 := by
  by_cases hr : r < ys.length
  · rw [List.getElem?_eq_getElem hr]; exact h _ (List.getElem_mem hr)
  · rw [List.getElem?_eq_none (by omega)]; simp

set_option maxHeartbeats 3200000 in
theorem l3Bent_ds (w0 w : World) (sb : Nat) (a : Option Addr) (n c at' : Nat) (h : DS w0 w sb a n c at') (hat : at' ≤ 100) :
    Calls Try.prog 92 #[.pointer (some ⟨sb, 0, none⟩)] w fun e w' => ∃ y : List UInt8, e = .returned (.string (mkB y)) ∧ y.length ≤ 1048576 ∧ Below w0.heap.size w0 w' := by
  have H : Hid (DS w0 w sb a n c at') := h
  clear h
  go_enter Try.func92, Try.ntmps92
  go_wp2_with fail
  refine (l1Chance_ds w0 _ sb a n c at' 4 H.out (by omega) (by omega) (by omega)).mono ?_
  rintro e w1 ⟨b, rfl, hd, hc⟩
  have HD : Hid (DS w0 w1 sb a n c (at' + 1)) := hd
  have hsb := hd.lt
  clear hd hc H
  cases b
  · go_wp2_with fail
    refine (l3Path_ds w0 _ sb a n c _ HD.out (by omega)).mono ?_
    rintro e w2 ⟨y, rfl, hy, hb⟩
    have HB : Hid (Below w0.heap.size w0 w2) := hb
    clear hb
    go_wp2
    go_ret
    exact ⟨y, rfl, hy, HB.out⟩
  · go_wp2_with fail
    refine (l1Next_ds w0 _ sb a n c _ 10 (HD.out.later (later1 _ _)) (by omega) (by omega) (by omega)).mono ?_
    rintro e w2 ⟨r, rfl, hr, hd2, hc2⟩
    have hrow : OwnRow w2 w1.heap.size 10 (fun i => strV (bent10[i]?.getD [])) := (litRow w1 bent10 _ rfl 9).block (hc2.block _ (by simp) (by omega))
    have c0 := hrow.cell hr
    unfold strV at c0
    have HB : Hid (Below w0.heap.size w0 w2) := hd2.below
    have HL : Hid ((bent10[r]?.getD []).length ≤ 1048576) := lit_len (by decide) r
    generalize bent10[r]?.getD [] = y at *
    clear hd2 hc2 hrow HD
    go_wp2
    go_ret
    exact ⟨y, rfl, HL.out, HB.out⟩

theorem source_any (w : World) (a : Option Addr) (n c : Nat) :
    Calls Try.prog 51 #[.slice a n c] w fun e w' => e = .returned (.pointer (some ⟨w.heap.size, 0, none⟩)) ∧ w' = w.alloc (.cells #[.slice a n c, .int .i64 0] 169) := by
  go_enter Try.func51, Try.ntmps51
  go_wp2
  go_ret
  exact ⟨rfl, rfl⟩
theorem DS.start (w : World) (a : Option Addr) (n c : Nat) (hn : n ≤ 1048576) (hb : AtB w a n) : DS w (w.alloc (.cells #[.slice a n c, .int .i64 0] 169)) w.heap.size a n c 0 :=
  ⟨OwnRow.newS w (.slice a n c) (.int .i64 0) 169, later1 _ _, Nat.le_refl _, hn, hb⟩

set_option maxHeartbeats 1600000 in
theorem drawSplit_any (w : World) (a : Option Addr) (n c : Nat) (hn : n ≤ 1048576) (hb : AtB w a n) :
    Calls Try.prog 31 #[.slice a n c] w fun e w' => ∃ y : List UInt8, e = .returned (.string (mkB y)) ∧ y.length ≤ 1048576 ∧ Below w.heap.size w w' := by
  have H : Hid (DS w (w.alloc (.cells #[.slice a n c, .int .i64 0] 169)) w.heap.size a n c 0) := DS.start w a n c hn hb
  clear hb
  go_enter Try.func31, Try.ntmps31
  go_wp2_with fail
  refine (source_any _ a n c).mono ?_
  rintro e w1 ⟨rfl, rfl⟩
  go_wp2_with fail
  refine (l3Bent_ds w _ w.heap.size a n c 0 H.out (by omega)).mono ?_
  rintro e w2 ⟨y, rfl, hy, hb2⟩
  have HB : Hid (Below w.heap.size w w2) := hb2
  clear hb2
  go_wp2
  go_ret
  exact ⟨y, rfl, hy, HB.out⟩

set_option maxHeartbeats 1600000 in
theorem drawName_any (w : World) (a : Option Addr) (n c : Nat) (hn : n ≤ 1048576) (hb : AtB w a n) :
    Calls Try.prog 38 #[.slice a n c] w fun e w' => ∃ y : List UInt8, e = .returned (.string (mkB y)) ∧ y.length ≤ 1048576 ∧ Below w.heap.size w w' := by
  have H : Hid (DS w (w.alloc (.cells #[.slice a n c, .int .i64 0] 169)) w.heap.size a n c 0) := DS.start w a n c hn hb
  clear hb
  go_enter Try.func38, Try.ntmps38
  go_wp2_with fail
  refine (source_any _ a n c).mono ?_
  rintro e w1 ⟨rfl, rfl⟩
  go_wp2_with fail
  refine (l1Next_ds w _ w.heap.size a n c 0 8 (H.out.later (later1 _ _)) (by omega) (by omega) (by omega)).mono ?_
  rintro e w2 ⟨r, rfl, hr, hd2, hc2⟩
  have hrow : OwnRow w2 (w.heap.size + 1) 8 (fun i => strV (names8[i]?.getD [])) := by
    have h1 := litRow (w.alloc (.cells #[.slice a n c, .int .i64 0] 169)) names8 _ rfl 9
    rw [World.size_alloc] at h1
    exact h1.block (hc2.block _ (by simp) (by omega))
  have c0 := hrow.cell hr
  unfold strV at c0
  have HB : Hid (Below w.heap.size w w2) := hd2.below
  have HL : Hid ((names8[r]?.getD []).length ≤ 1048576) := lit_len (by decide) r
  generalize names8[r]?.getD [] = y at *
  clear hd2 hc2 hrow
  go_wp2
  go_ret
  exact ⟨y, rfl, HL.out, HB.out⟩
end Go.Proofs.Ytjbppdkijjfejaa

namespace Go.Proofs.Ytjbppdkijjfejaa
open Go.RowKit
set_option maxRecDepth 100000

def mkT (k : Nat) : Value := .string (mkB (109 :: dg k []))

end Go.Proofs.Ytjbppdkijjfejaa

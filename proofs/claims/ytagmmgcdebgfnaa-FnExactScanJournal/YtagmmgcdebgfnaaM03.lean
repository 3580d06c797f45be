/- The walks of the program's rack: lists that are set one by one. What 'append' comes to, as laws for the walk, and the specification's copying of a list. The walks of the program's drive: a cache of pointers that grows. The walks of DiskFault, the specification's and the program's. The walks of the specification's look at a block. The walks of the program's look at a block. -/
import Derived.Test.YtagmmgcdebgfnaaM02
import Derived.Deep.RegionWith
import Derived.Deep.RegionLaw
import Derived.OwnWalk
import Derived.Deep.AppendLies
namespace Go.Proofs.Ytagmmgcdebgfnaa
open Go.RowKit
set_option maxRecDepth 100000

set_option maxHeartbeats 800000 in
theorem set_any (w : World) (br o g n cap x : Nat) (u : Nat → Value) (v : Value) (zs : List Int) (_hn : n ≤ 60) (hx : x < n) (h0 : w.cell? ⟨br, o, none⟩ = some (.slice (some ⟨g, 0, none⟩) n cap)) (hr : OwnRow w g n u) (hu : ∃ ua un uc, u x = .slice ua un uc) (hi : Ints w v zs) (hl : zs.length ≤ 1048576) :
    Calls Try.prog 107 #[.pointer (some ⟨br, o, none⟩), .int .i64 (x : Int), v] w fun e w' => e = .returned (.tuple #[]) ∧
      ∃ X, w' = X.setCell ⟨g, x, none⟩ (.slice (some ⟨w.heap.size, 0, none⟩) zs.length zs.length) ∧ Below w.heap.size w X ∧ IntsO X (.slice (some ⟨w.heap.size, 0, none⟩) zs.length zs.length) zs (fresh w X) := by
  obtain ⟨ua, un, uc, hux⟩ := hu
  have HI : Hid (Ints w v zs) := hi
  have HR : Hid (OwnRow w g n u) := hr
  have c1 := hr.cell hx
  rw [hux] at c1
  have c2 := hr.frozen x
  have HL : Hid (zs.length ≤ 1048576) := hl
  clear hi hr hl hux
  go_enter Try.func107, Try.ntmps107
  go_wp2_with fail
  go_region_with ((go_at_call 87; refine (copyOf_any ?_ HL.out).mono ?_; exact HI.out; rintro e w1 ⟨rfl, hb1, ho1⟩; have d0 := cell_later hb1 h0; have d1 := cell_later hb1 c1; have d2 := (hb1.frozen (p := ⟨g, x, none⟩) (World.block_lt_of_cell? _ _ c1)).trans c2; have HB1 : Hid (Below w.heap.size w w1) := (Below.refl _ _).drew.trans hb1; have HO1 : Hid (IntsO w1 (.slice (some ⟨w.heap.size, 0, none⟩) zs.length zs.length) zs (fresh w w1)) := ho1; clear hb1 ho1))
  all_goals
    go_wp2
    go_end0
    exact ⟨rfl, w1, rfl, HB1.out, HO1.out⟩

set_option maxHeartbeats 1600000 in
theorem rackOf_walk (w : World) (a : Option Addr) (n cap : Nat) (bs : List (List Int)) (hbl : bs.length = n) (hn : n ≤ 60) (hz : ∀ k, k < n → (bs[k]?.getD []).length ≤ 1048576) (hB : AtS w a n bs) :
    Calls Try.prog 91 #[.slice a n cap] w fun e w' => ∃ g, e = .returned (.agg #[.slice (some ⟨g, 0, none⟩) n n]) ∧ Below w.heap.size w w' ∧ IntsSO w' (.slice (some ⟨g, 0, none⟩) n n) bs (fresh w w') := by
  have HBL : Hid (bs.length = n) := hbl
  have HZ : Hid (∀ k, k < n → (bs[k]?.getD []).length ≤ 1048576) := hz
  have HB : Hid (AtS w a n bs) := hB
  clear hbl hz hB
  go_enter Try.func91, Try.ntmps91
  go_wp2_with fail
  refine (newRack_any _ n hn).mono ?_
  rintro e w1 ⟨g, hg, rfl, hb1, hr1⟩
  simp at hg
  have HB1 : Hid (Below w.heap.size w w1) := (later1 _ _).trans (hb1.mono (by simp))
  have hgl : g < w1.heap.size := hr1.lt
  have HR1 : Hid (OwnRow w1 g n (fun _ => .slice none 0 0)) := hr1
  have t0 := cell_later hb1 (show (w.alloc (Obj.cells #[Value.slice none 0 0] 119)).cell? ⟨w.heap.size, 0, none⟩ = some (.slice none 0 0) by rw [new_cell]; rfl)
  have t1 : w1.frozen? ⟨w.heap.size, 0, none⟩ = false := by rw [hb1.frozen (by simp)]; simp
  have hz1 : w.heap.size < w1.heap.size := World.block_lt_of_cell? _ _ t0
  clear hb1 hr1
  go_wp2_with fail
  go_loopw [11] (fun i wr => ∃ j : Nat, j ≤ n ∧ i = .int .i64 j ∧ Below w.heap.size w wr ∧ wr.cell? ⟨w.heap.size, 0, none⟩ = some (.slice none 0 0) ∧ wr.frozen? ⟨w.heap.size, 0, none⟩ = false ∧ wr.cell? ⟨w1.heap.size, 0, none⟩ = some (.slice (some ⟨g, 0, none⟩) n n) ∧
    ∃ u s, OwnRow wr g n (fun i => if i < j then u i else .slice none 0 0) ∧ (∀ i, i < j → ∃ ua un uc, u i = .slice ua un uc) ∧ Built wr (w1.heap.size + 1) j u (fun i => bs[i]?.getD []) s) (fun i _ => n - (intOf i).toNat)
  case atStart => exact ⟨0, Nat.zero_le _, rfl, HB1.out.trans ((later1 _ _).mono HB1.out.size), cell_later (later1 _ _) t0, by rw [(later1 w1 _).frozen (p := ⟨w.heap.size, 0, none⟩) hz1]; exact t1, by rw [new_cell]; rfl, fun _ => .slice none 0 0, _, (HR1.out.later (later1 _ _)).congr fun i _ => by simp, fun i hi => by omega, Built.nil _ _ (by simp)⟩
  case round =>
    obtain ⟨j, hj, rfl, hbl, q0, q1, q2, u, s, hrow, hsh, hbt⟩ := hrel
    have HBW : Hid (Below w.heap.size w wr) := hbl
    have HROW : Hid (OwnRow wr g n (fun i => if i < j then u i else .slice none 0 0)) := hrow
    have HBT : Hid (Built wr (w1.heap.size + 1) j u (fun i => bs[i]?.getD []) s) := hbt
    have HSH : Hid (∀ i, i < j → ∃ ua un uc, u i = .slice ua un uc) := hsh
    clear hbl hrow hbt hsh t0 t1
    by_cases hlt : j < n
    · obtain ⟨b, off, ua, ucap, e, c1, i1⟩ := HB.out j hlt
      clear HB
      subst e
      replace c1 := cell_later HBW.out c1
      have HI : Hid (Ints wr (.slice ua (bs[j]?.getD []).length ucap) (bs[j]?.getD [])) := i1.later HBW.out
      clear i1
      go_wp2_with fail
      refine (set_any wr w1.heap.size 0 g n n j _ _ (bs[j]?.getD []) hn hlt q2 HROW.out ⟨none, 0, 0, by simp⟩ HI.out (HZ.out j hlt)).mono ?_
      rintro e w2 ⟨rfl, X, rfl, hbX, hoX⟩
      have HX : Hid (Below wr.heap.size wr X) := hbX
      have HO : Hid (IntsO X (.slice (some ⟨wr.heap.size, 0, none⟩) (bs[j]?.getD []).length (bs[j]?.getD []).length) (bs[j]?.getD []) (fresh wr X)) := hoX
      clear hbX hoX
      go_wp2
      go_roundw
      case rel =>
        refine ⟨j + 1, by omega, by go_num, (HBW.out.trans (HX.out.mono HBW.out.size)).setCell (by simp; omega) _, ?_, ?_, ?_, _, _, ((HROW.out.later HX.out).set j _).congr fun i hi => ?_, fun i hi => ?_, (HBT.out.next HX.out HO.out).store (by simp; omega) _⟩
        · rw [World.cell?_of_block (w := X) (Below.heap_setCell _ _ _ _ (by simp; omega))]; exact cell_later HX.out q0
        · rw [World.frozen?_of_block (w := X) (Below.heap_setCell _ _ _ _ (by simp; omega)), HX.out.frozen (World.block_lt_of_cell? _ _ q0)]; exact q1
        · rw [World.cell?_of_block (w := X) (Below.heap_setCell _ _ _ _ (by simp; omega))]; exact cell_later HX.out q2
        · by_cases e : i = j
          · subst e; simp
          · by_cases e2 : i < j
            · simp [e, e2, show i < j + 1 by omega]
            · simp [e, e2, show ¬ i < j + 1 by omega]
        · by_cases e : i = j
          · subst e; exact ⟨_, _, _, by simp; exact ⟨rfl, rfl, rfl⟩⟩
          · obtain ⟨a1, a2, a3, h⟩ := HSH.out i (by omega)
            exact ⟨a1, a2, a3, by simp [e, h]⟩
      case measure => simp [intOf]; omega
    · go_wp2
      have e : j = n := by omega
      subst e
      refine bodyPost_ret (v := .agg #[.slice (some ⟨g, 0, none⟩) j j]) (by simp [results, Try.results91, go_sem, q0]) rfl ⟨g, rfl, HBW.out.setCell (Nat.le_refl _) _, ?_⟩
      have hB' := HBT.out.store (p := ⟨w.heap.size, 0, none⟩) (by simp; omega) (.slice (some ⟨g, 0, none⟩) j j)
      have hR' := (HROW.out.congr (g := u) fun i hi => by simp [hi]).store (p := ⟨w.heap.size, 0, none⟩) (by simp; omega) (.slice (some ⟨g, 0, none⟩) j j)
      exact hB'.ints bs HBL.out (fun _ _ => rfl) (by unfold maxLen; omega) (by omega) hR' _ ⟨by omega, hR'.lt⟩ (fun c h1 h2 => ⟨by omega, h2⟩)
end Go.Proofs.Ytagmmgcdebgfnaa

namespace Go.Proofs.Ytagmmgcdebgfnaa
open Go.RowKit
set_option maxRecDepth 100000

section
variable {P : Program} {w : World}
/-- An append whose run is known, at its place in a walk. -/
theorem wpList_append_run {ops : Array Oper} {rest : List Oper} {o : Oper} {a : Act} {Q : Exit → Act → World → Prop} (hgd : o.guard = none) (s x : Operand) (t : TypeId)
    (ho : o.op = .call { callee := .builtin .append, args := #[s, x], argTypes := #[t, t] }) (v y : Value) (hs : a.eval s = v) (hx : a.eval x = y) (v' : Value) (w' : World)
    (hr : (Builtin.append_ #[t, t] o.type #[v, y]).run P w = .ok v' w') (h : wpList P ops Q rest (a.put o.dst v') w') : wpList P ops Q (o :: rest) a w := by
  refine wpList_plain hgd fun K hK => ?_
  unfold Oper.wp execOp
  simp only [ho, resolve, invoke, builtin, Sem.run_bind, Sem.run_pure, Result.andThen_ok, List.map_toArray, List.map_cons, List.map_nil, hs, hx, hr]
  exact hK _ _ h
/-- The same inside a region that draws its order. -/
theorem step_append_run {ops : Array Oper} {o : Oper} {a : Act} {K : Act → World → Prop} {Q : Exit → Act → World → Prop} {E : Prop} (hgd : o.guard = none) (s x : Operand) (t : TypeId)
    (ho : o.op = .call { callee := .builtin .append, args := #[s, x], argTypes := #[t, t] }) (v y : Value) (hs : a.eval s = v) (hx : a.eval x = y) (v' : Value) (w' : World)
    (hr : (Builtin.append_ #[t, t] o.type #[v, y]).run P w = .ok v' w') (h : K (a.put o.dst v') w') : if Region.wanted o (yielded ops a.tmps) = true then Oper.wp P o a w K Q else E := by
  have hw : Region.wanted o (yielded ops a.tmps) = true := by simp [Region.wanted, hgd]
  rw [if_pos hw]
  unfold Oper.wp execOp
  simp only [ho, resolve, invoke, builtin, Sem.run_bind, Sem.run_pure, Result.andThen_ok, List.map_toArray, List.map_cons, List.map_nil, hs, hx, hr]
  exact h
end

theorem below_grown {w w' : World} {B : Nat} {row : Option Nat} (h : w.grownBy w' row) (hB : B ≤ w.heap.size) (hr : ∀ k, row = some k → B ≤ k) : Below B w w' := (Below.refl _ _).grown h hB hr

/-- A row of one cell an element that the call owns. -/
theorem ownsRow_row {w : World} {base n : Nat} {e : TypeId} {v : Value} {xs : List Value} (h : w.ownsRow base e 1 v n xs) (h0 : 0 < n) : ∃ g cap, v = .slice (some ⟨g, 0, none⟩) n cap ∧ base ≤ g ∧ g < w.heap.size ∧ n ≤ maxLen ∧ OwnRow w g n (fun i => xs[i]?.getD undef) := by
  obtain ⟨hl, h | ⟨g, cap, cur, rfl, hb, hh, hnc, hcm, hcs, htake⟩⟩ := h
  · omega
  · refine ⟨g, cap, rfl, hb, (Array.getElem?_eq_some_iff.1 hh).1, by omega, cur, e, hh, by omega, fun i hi => ?_⟩
    rw [Nat.mul_one] at htake
    have h1 : xs[i]? = cur[i]? := by rw [← htake, List.getElem?_take, if_pos hi, Array.getElem?_toList]
    show cur[i]? = some (xs[i]?.getD undef)
    have h2 : i < cur.size := by omega
    rw [h1, Array.getElem?_eq_getElem h2]; rfl

theorem add_plain' (b off k : Nat) : (⟨b, off, none⟩ : Addr).add k = ⟨b, off + k, none⟩ := by
  by_cases h : k = 0
  · subst h; simp [Addr.add]
  · simp [Addr.add, h]

theorem Try.infoInt' : ∃ i, Try.prog.info? 2 = some i ∧ i.zero = some (.int .i64 0) ∧ i.size = 1 ∧ i.bytes = 8 := by
  obtain ⟨i, hi, h⟩ := Option.map_eq_some_iff.1 Try.infoInt
  simp only [Prod.mk.injEq] at h
  exact ⟨i, hi, h.1, h.2.1, h.2.2⟩

theorem append_empty (w : World) (ty : TypeId) (a : Option Addr) (n cap : Nat) (zs : List Int) (hz : zs.length = n) (hn : n ≤ 1048576) (hc : At1 w a n (fun k => .int .i64 (zs[k]?.getD 0))) :
    ∃ v' X, (Builtin.append_ #[22, 22] ty #[.slice (some ⟨w.heap.size, 0, none⟩) 0 0, .slice a n cap]).run Try.prog (w.alloc (.cells #[] 2)) = .ok v' X ∧
      Below w.heap.size w X ∧ IntsO X v' zs (fresh w X) ∧ w.heap.size < X.heap.size ∧ ∃ a' c', v' = .slice a' n c' := by
  obtain ⟨i, hi, h1, h2, h3⟩ := Try.infoInt'
  have hown : (w.alloc (.cells #[] 2)).ownsRow w.heap.size 2 1 (.slice (some ⟨w.heap.size, 0, none⟩) 0 0) 0 [] := World.ownsRow_lit w #[] 0 (Nat.le_refl _) (by simp) rfl
  by_cases ha : a = none
  · subst ha
    have h0 : n = 0 := by
      by_cases h : n = 0
      · exact h
      · obtain ⟨_, _, e, _⟩ := hc 0 (by omega); cases e
    subst h0
    have hzs : zs = [] := List.eq_nil_of_length_eq_zero hz
    subst hzs
    refine ⟨.slice (some ⟨w.heap.size, 0, none⟩) 0 0, w.alloc (.cells #[] 2), ?_, later1 _ _, Or.inl ⟨rfl, _, _, rfl⟩, by simp, _, _, rfl⟩
    simp [Builtin.append_, run_underlying Try.underlying22, sizeOf, typeInfo, hi, Builtin.lenOf, Builtin.firstCells, storeCells]
  · obtain ⟨ad, rfl⟩ := Option.ne_none_iff_exists'.1 ha
    obtain ⟨v', X, hr, ho, hg, _⟩ := run_append_own (P := Try.prog) (w.alloc (.cells #[] 2)) w.heap.size 22 ty 2 i (.int .i64 0) 1 8 Try.underlying22 hi h1 h2 h3 rfl (by decide) _ 0 [] hown ad n cap (zs.map fun z => Value.int .i64 z)
      (by simp [hz]) (fun j u hu => by
        rw [List.getElem?_map, Option.map_eq_some_iff] at hu
        obtain ⟨z, hz1, rfl⟩ := hu
        have hj : j < n := by rw [← hz]; exact (List.getElem?_eq_some_iff.1 hz1).1
        obtain ⟨b, off, e, h⟩ := hc j hj
        simp only [Option.some.injEq] at e
        rw [e, add_plain']
        replace h : w.cell? ⟨b, off + j, none⟩ = some (.int .i64 (zs[j]?.getD 0)) := h
        rw [hz1, Option.getD_some] at h
        exact cell_later (later1 _ _) h) (fun u hu => by
        obtain ⟨z, _, rfl⟩ := List.mem_map.1 hu
        rfl) (by unfold maxLen; omega) (by omega) (by simp)
    have hB : Below w.heap.size w X := (later1 _ _).trans (below_grown hg (by simp) (fun k hk => by simp [Value.ownBlock] at hk; omega))
    simp only [Nat.zero_add, List.nil_append] at ho
    refine ⟨v', X, hr, hB, ?_, by have := hg.size; simp at this; omega, ?_⟩
    · by_cases h0 : n = 0
      · subst h0
        have hzs : zs = [] := List.eq_nil_of_length_eq_zero hz
        refine Or.inl ⟨hzs, ?_⟩
        rcases ho.2 with ⟨rfl, _⟩ | ⟨g, c, cur, rfl, _⟩
        · exact ⟨_, _, rfl⟩
        · exact ⟨_, _, rfl⟩
      · obtain ⟨g, c, rfl, hg1, hg2, hm, hrow⟩ := ownsRow_row ho (by omega)
        refine Or.inr ⟨g, c, ⟨hg1, hg2⟩, by rw [hz], by rw [hz]; exact hm, ?_⟩
        rw [hz]
        exact hrow.congr fun i hi => by
          have : i < zs.length := by omega
          simp [this]
    · rcases ho.2 with ⟨rfl, rfl⟩ | ⟨g, c, cur, rfl, _⟩
      · exact ⟨_, _, rfl⟩
      · exact ⟨_, _, rfl⟩

set_option maxHeartbeats 400000 in
theorem l1Ints_more {w : World} {v : Value} {zs : List Int} (h : Ints w v zs) (hn : zs.length ≤ 1048576) :
    Calls Try.prog 95 #[v] w fun e w' => ∃ a c, e = .returned (.slice a zs.length c) ∧ Below w.heap.size w w' ∧ IntsO w' (.slice a zs.length c) zs (fresh w w') ∧ w.heap.size < w'.heap.size := by
  obtain ⟨a, cap, rfl, hm, hc⟩ := h.open'
  clear h
  obtain ⟨v', X, hr, hbX, hoX, hsX, a', c', rfl⟩ := append_empty w 22 a zs.length cap zs rfl hn hc
  have HR : Hid (_ = _) := hr
  have HB : Hid (Below w.heap.size w X) := hbX
  have HO : Hid (IntsO X (.slice a' zs.length c') zs (fresh w X)) := hoX
  clear hbX hoX hc hr
  go_enter Try.func95, Try.ntmps95
  go_wp2_with (at_builtin; refine wpList_append_run rfl _ _ 22 rfl _ _ rfl rfl _ _ HR.out ?_)
  go_ret
  exact ⟨a', c', rfl, HB.out, HO.out, hsX⟩
theorem l1Ints_any {w : World} {v : Value} {zs : List Int} (h : Ints w v zs) (hn : zs.length ≤ 1048576) :
    Calls Try.prog 95 #[v] w fun e w' => ∃ a c, e = .returned (.slice a zs.length c) ∧ Below w.heap.size w w' ∧ IntsO w' (.slice a zs.length c) zs (fresh w w') :=
  (l1Ints_more h hn).mono fun _ _ ⟨a, c, h1, h2, h3, _⟩ => ⟨a, c, h1, h2, h3⟩
end Go.Proofs.Ytagmmgcdebgfnaa

namespace Go.Proofs.Ytagmmgcdebgfnaa
open Go.RowKit
set_option maxRecDepth 100000

/-- The cache of a drive: a row of pointers to puts, each with a list of its own. -/
structure Cache (w : World) (base : Nat) (v : Value) (n : Nat) (f : Nat → Int × List Int) (pb k : Nat → Nat) (u : Nat → Value) : Prop where
  own : w.ownsRow base 125 1 v n ((List.range n).map fun i => Value.pointer (some ⟨pb i, 0, none⟩))
  lo : ∀ i, i < n → base ≤ pb i ∧ base ≤ k i ∧ k i < w.heap.size
  ne : ∀ i, i < n → v.ownBlock ≠ some (pb i) ∧ v.ownBlock ≠ some (k i)
  inj : ∀ i j, i < n → j < n → i ≠ j → k i ≠ k j
  box : ∀ i, i < n → OwnRow w (pb i) 2 (fun c => if c = 0 then .int .i64 (f i).1 else u i)
  sh : ∀ i, i < n → ∃ a c, u i = .slice a (f i).2.length c
  at' : ∀ i, i < n → IntsO w (u i) (f i).2 (fun c => c = k i)

theorem Cache.nil (w : World) (base : Nat) (f : Nat → Int × List Int) : Cache w base (.slice none 0 0) 0 f (fun _ => 0) (fun _ => 0) (fun _ => .slice none 0 0) :=
  ⟨World.ownsRow_nil _ _ _ _, fun i hi => by omega, fun i hi => by omega, fun i j hi => by omega, fun i hi => by omega, fun i hi => by omega, fun i hi => by omega⟩
/-- What turns no block from base on leaves the cache. -/
theorem Cache.keep {w w' : World} {base n : Nat} {v : Value} {f : Nat → Int × List Int} {pb k : Nat → Nat} {u : Nat → Value} (h : Cache w base v n f pb k u) (hs : w.heap.size ≤ w'.heap.size) (e : ∀ b, base ≤ b → b < w.heap.size → w'.heap[b]? = w.heap[b]?) : Cache w' base v n f pb k u := by
  refine ⟨?_, fun i hi => ⟨(h.lo i hi).1, (h.lo i hi).2.1, Nat.lt_of_lt_of_le (h.lo i hi).2.2 hs⟩, h.ne, h.inj, fun i hi => (h.box i hi).block (e _ (h.lo i hi).1 (h.box i hi).lt), h.sh, fun i hi => (h.at' i hi).keep fun b hb hlt => e b (by rw [hb]; exact (h.lo i hi).2.1) hlt⟩
  obtain ⟨h1, h2⟩ := h.own
  refine ⟨h1, ?_⟩
  rcases h2 with h2 | ⟨g, cap, cur, hv, hg, hh, r⟩
  · exact Or.inl h2
  · exact Or.inr ⟨g, cap, cur, hv, hg, by rw [e g hg (Array.getElem?_eq_some_iff.1 hh).1]; exact hh, r⟩
theorem Cache.later {w w' : World} {base n : Nat} {v : Value} {f : Nat → Int × List Int} {pb k : Nat → Nat} {u : Nat → Value} (h : Cache w base v n f pb k u) (hb : Below w.heap.size w w') : Cache w' base v n f pb k u :=
  h.keep hb.size fun b _ hlt => hb.block b hlt
theorem Cache.store {w : World} {base n : Nat} {v : Value} {f : Nat → Int × List Int} {pb k : Nat → Nat} {u : Nat → Value} (h : Cache w base v n f pb k u) {p : Addr} (hp : p.block < base) (x : Value) : Cache (w.setCell p x) base v n f pb k u :=
  h.keep (by simp [World.setCell]) fun b hb _ => Below.heap_setCell _ _ _ _ (by omega)
theorem Cache.shape {w : World} {base n : Nat} {v : Value} {f : Nat → Int × List Int} {pb k : Nat → Nat} {u : Nat → Value} (h : Cache w base v n f pb k u) : ∃ a c, v = .slice a n c := by
  rcases h.own.2 with ⟨rfl, rfl⟩ | ⟨g, c, cur, rfl, _⟩
  · exact ⟨_, _, rfl⟩
  · exact ⟨_, _, rfl⟩

theorem Try.infoPtr : (Try.prog.info? 125).map (fun i => (i.zero, i.size, i.bytes)) = some (some (.pointer none), 1, 8) := by kernel_rfl
theorem Try.infoPtr' : ∃ i, Try.prog.info? 125 = some i ∧ i.zero = some (.pointer none) ∧ i.size = 1 ∧ i.bytes = 8 := by
  obtain ⟨i, hi, h⟩ := Option.map_eq_some_iff.1 Try.infoPtr
  simp only [Prod.mk.injEq] at h
  exact ⟨i, hi, h.1, h.2.1, h.2.2⟩

/-- One put more, behind the cache: what 'append' comes to there. -/
theorem cache_append (w w1 : World) (ty : TypeId) (base n : Nat) (v : Value) (f : Nat → Int × List Int) (pb k : Nat → Nat) (u : Nat → Value) (h : Cache w base v n f pb k u) (hb : base ≤ w.heap.size) (hn : n ≤ 100000) (hb1 : Below w.heap.size w w1) (hlt : w.heap.size < w1.heap.size)
    (a : Option Addr) (c : Nat) (hf : IntsO w1 (.slice a (f n).2.length c) (f n).2 (fresh w w1)) :
    ∃ g cap X pb' k' u', (Builtin.append_ #[121, 121] ty #[v, .slice (some ⟨w1.heap.size + 1, 0, none⟩) 1 1]).run Try.prog ((w1.alloc (.cells #[.int .i64 (f n).1, .slice a (f n).2.length c] 100)).alloc (.cells #[.pointer (some ⟨w1.heap.size, 0, none⟩)] 125)) = .ok (.slice (some ⟨g, 0, none⟩) (n + 1) cap) X ∧
      Below base w X ∧ Cache X base (.slice (some ⟨g, 0, none⟩) (n + 1) cap) (n + 1) f pb' k' u' := by
  obtain ⟨i, hi, h1, h2, h3⟩ := Try.infoPtr'
  have hbW : Below w.heap.size w ((w1.alloc (.cells #[.int .i64 (f n).1, .slice a (f n).2.length c] 100)).alloc (.cells #[.pointer (some ⟨w1.heap.size, 0, none⟩)] 125)) := hb1.trans ((later2 _ _ _).mono hb1.size)
  have hW := h.later hbW
  obtain ⟨g, cap, X, hr, ho, hg, hat, hgX⟩ := run_append_lies (P := Try.prog) ((w1.alloc (.cells #[.int .i64 (f n).1, .slice a (f n).2.length c] 100)).alloc (.cells #[.pointer (some ⟨w1.heap.size, 0, none⟩)] 125)) 121 ty base 125 i (.pointer none) 1 8 Try.underlying121 hi h1 h2 h3 rfl (by decide) v n _ hW.own ⟨w1.heap.size + 1, 0, none⟩ 1 1 [.pointer (some ⟨w1.heap.size, 0, none⟩)] rfl
    (fun j x hx => by
      cases j with
      | zero =>
        simp at hx; subst hx
        simp [Addr.add]
      | succ j => simp at hx) (fun x hx => by simp at hx; subst hx; rfl) (by decide) (by unfold maxLen; omega) (by omega) (by have := hb1.size; simp; omega) (w1.heap.size + 2) (by simp)
  have hsz1 := hb1.size
  have hrow : ∀ g, v.ownBlock = some g → g < w.heap.size := fun g hg => (h.own.lt g hg).2
  have hrowb : ∀ g, v.ownBlock = some g → base ≤ g := fun g hg => (h.own.lt g hg).1
  have hXb : ∀ b, b < w1.heap.size + 2 → v.ownBlock ≠ some b → X.heap[b]? = ((w1.alloc (.cells #[.int .i64 (f n).1, .slice a (f n).2.length c] 100)).alloc (.cells #[.pointer (some ⟨w1.heap.size, 0, none⟩)] 125)).heap[b]? := fun b hb' hne => hg.block b (by simp; omega) (fun e => hne e.symm)
  have hXs : w1.heap.size + 2 ≤ X.heap.size := by have := hg.size; simp at this; omega
  have hBX : Below base w X := (hbW.mono hb).trans (below_grown hg (by simp; omega) (fun g hg' => hrowb g hg'))
  obtain ⟨kb, hkb1, hkb2, hkf⟩ : ∃ kb, w.heap.size ≤ kb ∧ kb < w1.heap.size ∧ IntsO w1 (.slice a (f n).2.length c) (f n).2 (fun c => c = kb) := by
    rcases hf with hf | ⟨b, cap, hF, r⟩
    · exact ⟨w.heap.size, Nat.le_refl _, hlt, Or.inl hf⟩
    · exact ⟨b, hF.1, hF.2, Or.inr ⟨b, cap, rfl, r⟩⟩
  -- g is the elder row, or a block behind all others
  have hne : ∀ b, b < w1.heap.size + 2 → v.ownBlock ≠ some b → g ≠ b := by
    intro b hb' hb2 e
    subst e
    rcases hat with h | h
    · exact hb2 h
    · omega
  have hfar : ∀ b, w.heap.size ≤ b → v.ownBlock ≠ some b := fun b hb' e => by have := hrow b e; omega
  have old : ∀ b, b < w.heap.size → v.ownBlock ≠ some b → X.heap[b]? = w.heap[b]? := fun b hb' hne => (hXb b (by omega) hne).trans (hbW.block b hb')
  refine ⟨g, cap, X, fun j => if j = n then w1.heap.size else pb j, fun j => if j = n then kb else k j, fun j => if j = n then .slice a (f n).2.length c else u j, hr, hBX, ⟨?_, fun j hj => ?_, fun j hj => ?_, fun j j' hj hj' e => ?_, fun j hj => ?_, fun j hj => ?_, fun j hj => ?_⟩⟩
  · rw [List.range_succ, List.map_append]
    have e1 : (List.range n).map (fun i => Value.pointer (some ⟨if i = n then w1.heap.size else pb i, 0, none⟩)) = (List.range n).map (fun i => Value.pointer (some ⟨pb i, 0, none⟩)) :=
      List.map_congr_left fun i hi => by simp [show i ≠ n by have := List.mem_range.1 hi; omega]
    rw [e1]
    simpa using ho
  · by_cases e : j = n
    · subst e; simp; omega
    · have := h.lo j (by omega); simp [e]; omega
  · by_cases e : j = n
    · subst e
      simp only [if_true]
      exact ⟨fun e => hne w1.heap.size (by omega) (hfar _ hsz1) (by simpa [Value.ownBlock] using e), fun e => hne kb (by omega) (hfar _ hkb1) (by simpa [Value.ownBlock] using e)⟩
    · have hj' : j < n := by omega
      have hl := h.lo j hj'
      have hb2 := (h.box j hj').lt
      simp only [e, if_false]
      exact ⟨fun e => hne (pb j) (by omega) (h.ne j hj').1 (by simpa [Value.ownBlock] using e), fun e => hne (k j) (by omega) (h.ne j hj').2 (by simpa [Value.ownBlock] using e)⟩
  · by_cases e1 : j = n
    · by_cases e2 : j' = n
      · omega
      · have := (h.lo j' (by omega)).2.2
        simp [e1, e2]; omega
    · by_cases e2 : j' = n
      · have := (h.lo j (by omega)).2.2
        simp [e1, e2]; omega
      · simp [e1, e2]; exact h.inj j j' (by omega) (by omega) e
  · by_cases e : j = n
    · subst e
      simp only [if_true]
      have hb2 := (OwnRow.two w1 (.int .i64 (f j).1) (.slice a (f j).2.length c) 100).later (later1 _ (.cells #[.pointer (some ⟨w1.heap.size, 0, none⟩)] 125))
      exact hb2.block (hXb _ (by omega) (hfar _ (by omega)))
    · have hj' : j < n := by omega
      simp only [e, if_false]
      exact (h.box j hj').block (old _ (h.box j hj').lt (h.ne j hj').1)
  · by_cases e : j = n
    · subst e; exact ⟨a, c, by simp⟩
    · simp only [e, if_false]; exact h.sh j (by omega)
  · by_cases e : j = n
    · subst e
      simp only [if_true]
      exact hkf.keep fun b hb' hlt' => by
        rw [hb', hXb kb (by omega) (hfar _ hkb1)]
        exact (later2 _ _ _).block kb hkb2
    · have hj' : j < n := by omega
      simp only [e, if_false]
      exact (h.at' j hj').keep fun b hb' hlt' => by rw [hb']; exact old _ (h.lo j hj').2.2 (h.ne j hj').2

set_option maxHeartbeats 1600000 in
theorem put_any (w : World) (bd base n : Nat) (vB : Value) (a : Option Addr) (cap : Nat) (f : Nat → Int × List Int) (pb k : Nat → Nat) (u : Nat → Value) (hbd : bd < base) (hb : base ≤ w.heap.size) (hn : n ≤ 100000) (hd : OwnRow w bd 2 (fun c => if c = 0 then vB else .slice a n cap)) (hc : Cache w base (.slice a n cap) n f pb k u)
    (v : Value) (hv : Ints w v (f n).2) (hl : (f n).2.length ≤ 1048576) :
    Calls Try.prog 92 #[.pointer (some ⟨bd, 0, none⟩), .int .i64 (f n).1, v] w fun e w' => e = .returned (.tuple #[]) ∧ ∃ X g c' pb' k' u', w' = X.setCell ⟨bd, 1, none⟩ (.slice (some ⟨g, 0, none⟩) (n + 1) c') ∧ Below base w X ∧ Cache X base (.slice (some ⟨g, 0, none⟩) (n + 1) c') (n + 1) f pb' k' u' := by
  have HV : Hid (Ints w v (f n).2) := hv
  have HL : Hid ((f n).2.length ≤ 1048576) := hl
  have HC : Hid (Cache w base (.slice a n cap) n f pb k u) := hc
  have d0 := hd.cell (i := 1) (by omega)
  have d1 := hd.frozen 1
  simp at d0
  have hlt : bd < w.heap.size := hd.lt
  clear hv hl hc hd
  go_enter Try.func92, Try.ntmps92
  go_wp2_with fail
  go_region_law (first
    | (refine step_append_run rfl _ _ 121 rfl _ _ rfl rfl _ _ HR.out ?_)
    | (go_simp; go_at_call 87; refine (copyOf_more ?_ HL.out).mono ?_; exact HV.out; rintro e w1 ⟨rfl, hb1, ho1, hs1⟩; obtain ⟨g, cap', X, pb', k', u', hr, hBX, hCX⟩ := cache_append w w1 121 base n _ f pb k u HC.out hb hn ((Below.refl _ _).drew.trans hb1) hs1 _ _ ho1; have y1 : ∀ o, (w1.alloc o).cell? ⟨bd, 1, none⟩ = some (.slice a n cap) := fun o => cell_later ((hb1.trans ((later1 w1 o).mono hb1.size))) d0; have y2 : ∀ o o', ((w1.alloc o).alloc o').cell? ⟨bd, 1, none⟩ = some (.slice a n cap) := fun o o' => cell_later ((hb1.trans ((later2 w1 o o').mono hb1.size))) d0; have z0 := cell_later hb1 d0; have z1 := (hb1.frozen (p := ⟨bd, 1, none⟩) hlt).trans d1; have HR : Hid (_ = _) := hr; have HBX : Hid (Below base w X) := hBX; have HCX : Hid (Cache X base (.slice (some ⟨g, 0, none⟩) (n + 1) cap') (n + 1) f pb' k' u') := hCX; have x0 : X.cell? ⟨bd, 1, none⟩ = some (.slice a n cap) := (hBX.cell (p := ⟨bd, 1, none⟩) hbd).trans d0; have x1 : X.frozen? ⟨bd, 1, none⟩ = false := (hBX.frozen (p := ⟨bd, 1, none⟩) hbd).trans d1; clear hr hBX hCX hb1 ho1 hs1))
  all_goals
    go_wp2
    go_end0
    exact ⟨rfl, X, g, cap', pb', k', u', rfl, HBX.out, HCX.out⟩

/-- A drive that was opened: its blocks and its cache in new memory, the cache behind the drive itself. -/
structure Drive (w w' : World) (bd : Nat) (aB : Option Addr) (nB cB : Nat) (aP : Option Addr) (nP cP : Nat) (bs : List (List Int)) (ps : List (Int × List Int)) (pb k : Nat → Nat) (u : Nat → Value) : Prop where
  below : Below w.heap.size w w'
  lo : w.heap.size ≤ bd
  row : OwnRow w' bd 2 (fun c => if c = 0 then .slice aB nB cB else .slice aP nP cP)
  blocks : IntsSO w' (.slice aB nB cB) bs (fun c => w.heap.size ≤ c ∧ c < bd)
  cache : Cache w' (bd + 1) (.slice aP nP cP) nP (fun i => ps[i]?.getD (0, [])) pb k u

set_option maxHeartbeats 1600000 in
theorem openDisk_walk (w : World) (aB aC : Option Addr) (nB cB nC cC : Nat) (bs : List (List Int)) (ps : List (Int × List Int)) (hbl : bs.length = nB) (hpl : ps.length = nC) (g1 : nB ≤ 60) (g2 : nC ≤ 200) (hz : ∀ k, k < nB → (bs[k]?.getD []).length ≤ 1048576) (hzp : ∀ k, k < nC → (ps[k]?.getD (0, [])).2.length ≤ 1048576) (hB : AtS w aB nB bs) (hP : AtP w aC nC ps) :
    Calls Try.prog 63 #[.agg #[.slice aB nB cB, .slice aC nC cC]] w fun e w' => ∃ bd g aP cP pb k u, e = .returned (.pointer (some ⟨bd, 0, none⟩)) ∧ Drive w w' bd (some ⟨g, 0, none⟩) nB nB aP nC cP bs ps pb k u := by
  have HBL : Hid (bs.length = nB) := hbl
  have HPL : Hid (ps.length = nC) := hpl
  have HZ : Hid (∀ k, k < nB → (bs[k]?.getD []).length ≤ 1048576) := hz
  have HZP : Hid (∀ k, k < nC → (ps[k]?.getD (0, [])).2.length ≤ 1048576) := hzp
  have HB : Hid (AtS w aB nB bs) := hB
  have HP : Hid (AtP w aC nC ps) := hP
  clear hbl hpl hz hzp hB hP
  go_enter Try.func63, Try.ntmps63
  go_wp2_with fail
  refine (rackOf_walk _ aB nB cB bs HBL.out g1 HZ.out (HB.out.later (later1 _ _))).mono ?_
  rintro e w1 ⟨g, rfl, hb1, ho1⟩
  have HW1 : Hid (Below w.heap.size w w1) := (later1 _ _).trans (hb1.mono (by simp))
  have HX1 : Hid (Box2 w1 w.heap.size (.slice aB nB cB) (.slice aC nC cC)) := (Box2.new _ _ _ _).later hb1
  have HO1 : Hid (IntsSO w1 (.slice (some ⟨g, 0, none⟩) nB nB) bs (fun c => w.heap.size ≤ c ∧ c < w1.heap.size)) := ho1.mono fun b hb => ⟨by have := hb.1; simp at this; omega, hb.2⟩
  have hz1 : w.heap.size < w1.heap.size := by have := hb1.size; simp at this; omega
  clear hb1 ho1
  obtain ⟨x0, x1⟩ := HX1.out
  go_wp2_with fail
  go_loopw [14] (fun i wr => ∃ j : Nat, j ≤ nC ∧ i = .int .i64 j ∧ Below w.heap.size w wr ∧ w1.heap.size + 1 ≤ wr.heap.size ∧ IntsSO wr (.slice (some ⟨g, 0, none⟩) nB nB) bs (fun c => w.heap.size ≤ c ∧ c < w1.heap.size) ∧
    ∃ aP cP pb k u, OwnRow wr w1.heap.size 2 (fun c => if c = 0 then .slice (some ⟨g, 0, none⟩) nB nB else .slice aP j cP) ∧ Cache wr (w1.heap.size + 1) (.slice aP j cP) j (fun i => ps[i]?.getD (0, [])) pb k u) (fun i _ => nC - (intOf i).toNat)
  case atStart =>
    refine ⟨0, Nat.zero_le _, rfl, HW1.out.trans ((later1 _ _).mono HW1.out.size), by simp, HO1.out.keep fun b hb hlt => (later1 _ _).block b hlt, none, 0, _, _, _, OwnRow.two _ _ _ _, Cache.nil _ _ _⟩
  case round =>
    obtain ⟨j, hj, rfl, hbw, hsz, hio, aP, cP, pb, k, u, hrow, hca⟩ := hrel
    have HBW : Hid (Below w.heap.size w wr) := hbw
    have HIO : Hid (IntsSO wr (.slice (some ⟨g, 0, none⟩) nB nB) bs (fun c => w.heap.size ≤ c ∧ c < w1.heap.size)) := hio
    have HROW : Hid (OwnRow wr w1.heap.size 2 (fun c => if c = 0 then .slice (some ⟨g, 0, none⟩) nB nB else .slice aP j cP)) := hrow
    have HCA : Hid (Cache wr (w1.heap.size + 1) (.slice aP j cP) j (fun i => ps[i]?.getD (0, [])) pb k u) := hca
    clear hbw hio hrow hca x0 x1
    by_cases hlt : j < nC
    · obtain ⟨b, off, ua, ucap, e, c1, c2, i1⟩ := HP.out j hlt
      clear HP
      subst e
      replace c1 := cell_later HBW.out c1
      replace c2 := cell_later HBW.out c2
      have HI : Hid (Ints wr (.slice ua (ps[j]?.getD (0, [])).2.length ucap) (ps[j]?.getD (0, [])).2) := i1.later HBW.out
      clear i1
      go_wp2_with fail
      refine (put_any _ w1.heap.size (w1.heap.size + 1) j _ aP cP (fun i => ps[i]?.getD (0, [])) pb k u (Nat.lt_succ_self _) (by simp; omega) (by omega) (HROW.out.later (later1 _ _)) (HCA.out.later (later1 _ _)) _ (HI.out.later (later1 _ _)) (HZP.out j hlt)).mono ?_
      rintro e w2 ⟨rfl, X, g2, c', pb', k', u', rfl, hbX, hcX⟩
      have HX : Hid (Below (w1.heap.size + 1) wr X) := ((later1 _ _).mono hsz).trans hbX
      have HCX : Hid (Cache X (w1.heap.size + 1) (.slice (some ⟨g2, 0, none⟩) (j + 1) c') (j + 1) (fun i => ps[i]?.getD (0, [])) pb' k' u') := hcX
      clear hbX hcX
      go_wp2
      go_roundw
      case rel =>
        refine ⟨j + 1, by omega, by go_num, (HBW.out.trans (HX.out.mono (by omega))).setCell (by simp; omega) _, ?_, ?_, some ⟨g2, 0, none⟩, c', pb', k', u', ?_, HCX.out.store (by simp) _⟩
        · have := HX.out.size; simp [World.setCell]; omega
        · exact (HIO.out.keep fun b hb hlt => HX.out.block b (by omega)).store (fun b hb => by simp; omega) _
        · refine ((HROW.out.block (HX.out.block _ (by omega))).set 1 _).congr fun c hc => ?_
          have : c = 0 ∨ c = 1 := by omega
          rcases this with rfl | rfl <;> simp
      case measure => simp [intOf]; omega
    · go_wp2
      go_ret
      have e : j = nC := by omega
      subst e
      exact ⟨w1.heap.size, g, aP, cP, pb, k, u, rfl, HBW.out, by omega, HROW.out, HIO.out, HCA.out⟩
end Go.Proofs.Ytagmmgcdebgfnaa

namespace Go.Proofs.Ytagmmgcdebgfnaa
open Go.RowKit
set_option maxRecDepth 100000

theorem l1Fault_any {w : World} {bd : Nat} {vB vC : Value} {bs : List (List Int)} {ps : List (Int × List Int)} (h0 : w.cell? ⟨bd, 0, none⟩ = some vB) (h1 : w.cell? ⟨bd, 1, none⟩ = some vC) (hB : IntsS w vB bs) (hP : Puts w vC ps) :
    Calls Try.prog 58 #[.pointer (some ⟨bd, 0, none⟩)] w fun e w' => e = .returned (.int .i64 (faultF bs ps)) ∧ ∃ m, w' = w.drewN m := by
  obtain ⟨aB, cB, rfl, _, aS⟩ := hB.open'
  obtain ⟨aC, cC, rfl, _, aP⟩ := hP.open'
  by_cases h : 60 < bs.length ∨ 200 < ps.length
  · exact (l1Fault_many w bd aB aC _ cB _ cC h0 h1 h).mono fun e w' ⟨he, hw⟩ => ⟨he.trans (ret_int (faultF_many h).symm), 0, hw⟩
  · exact l1Fault_walk w bd aB aC _ cB _ cC bs ps rfl rfl h0 h1 (by omega) (by omega) aS aP

theorem isPlace_any (w : World) (a : Option Addr) (n cap : Nat) (vC : Value) (x : Int) :
    Calls Try.prog 104 #[.agg #[.slice a n cap, vC], .int .i64 x] w fun e w' => e = .returned (.bool (placeB n x)) ∧ Below w.heap.size w w' := by
  by_cases h1 : 0 ≤ x
  · by_cases h2 : x < (n : Int)
    · have e1 : placeB n x = true := by simp [placeB, h1, h2]
      rw [e1]
      go_enter Try.func104, Try.ntmps104
      go_wp2
      go_ret
      exact ⟨rfl, later1 _ _⟩
    · have e1 : placeB n x = false := by simp [placeB, h2]
      rw [e1]
      go_enter Try.func104, Try.ntmps104
      go_wp2
      go_ret
      exact ⟨rfl, later1 _ _⟩
  · have e1 : placeB n x = false := by simp [placeB, h1]
    have hd : decide (0 ≤ x) = false := by simpa using h1
    rw [e1]
    go_enter Try.func104, Try.ntmps104
    go_wp2
    go_ret
    exact ⟨rfl, later1 _ _⟩

theorem putFault_any (w : World) (a : Option Addr) (n cap : Nat) (vC : Value) (x : Int) (ua : Option Addr) (un uc : Nat) (ws : List Int) (hw : Ints w (.slice ua un uc) ws) :
    Calls Try.prog 105 #[.agg #[.slice a n cap, vC], .agg #[.int .i64 x, .slice ua un uc]] w fun e w' => e = .returned (.int .i64 (putF n (x, ws))) ∧ Below w.heap.size w w' := by
  have HW : Hid (Ints w (.slice ua un uc) ws) := hw
  clear hw
  cases hp : placeB n x
  · have HP : Hid (placeB n x = false) := hp
    have e1 : putF n (x, ws) = 3 := by simp [putF, hp]
    rw [e1]
    clear hp e1
    go_enter Try.func105, Try.ntmps105
    go_wp2_with fail
    refine (isPlace_any _ _ _ _ _ _).mono ?_
    rw [HP.out]
    rintro e w1 ⟨rfl, hb⟩
    have HB : Hid (Below w.heap.size w w1) := (later2 _ _ _).trans (hb.mono (by simp; omega))
    clear hb
    go_wp2
    go_ret
    exact ⟨rfl, HB.out⟩
  · have HP : Hid (placeB n x = true) := hp
    have e1 : putF n (x, ws) = wordsF ws := by simp [putF, hp]
    rw [e1]
    clear hp e1
    go_enter Try.func105, Try.ntmps105
    go_wp2_with fail
    refine (isPlace_any _ _ _ _ _ _).mono ?_
    rw [HP.out]
    rintro e w1 ⟨rfl, hb⟩
    have c1 : w1.cell? ⟨w.heap.size + 1, 1, none⟩ = some (.slice ua un uc) := by
      rw [hb.cell (by simp)]
      simp
    have HB : Hid (Below w.heap.size w w1) := (later2 _ _ _).trans (hb.mono (by simp; omega))
    clear hb
    go_wp2_with fail
    refine (words_any (HW.out.later HB.out)).mono ?_
    rintro e w2 ⟨rfl, rfl⟩
    go_wp2
    go_ret
    exact ⟨rfl, HB.out⟩

theorem fault_many (w : World) (aB aC : Option Addr) (nB cB nC cC : Nat) (h : 60 < nB ∨ 200 < nC) :
    Calls Try.prog 90 #[.agg #[.slice aB nB cB, .slice aC nC cC]] w fun e w' => e = .returned (.int .i64 2) ∧ Below w.heap.size w w' := by
  by_cases g : 60 < nB
  · have g' : (60 : Int) < (nB : Int) := by omega
    clear h
    go_enter Try.func90, Try.ntmps90
    go_wp2
    go_ret
    exact ⟨rfl, later1 _ _⟩
  · have hd : decide ((60 : Int) < (nB : Int)) = false := by simp; omega
    have g' : (200 : Int) < (nC : Int) := by omega
    clear h
    go_enter Try.func90, Try.ntmps90
    go_wp2
    go_ret
    exact ⟨rfl, later1 _ _⟩

set_option maxHeartbeats 1600000 in
theorem fault_walk (w : World) (aB aC : Option Addr) (nB cB nC cC : Nat) (bs : List (List Int)) (ps : List (Int × List Int)) (hbl : bs.length = nB) (hpl : ps.length = nC)
    (g1 : nB ≤ 60) (g2 : nC ≤ 200) (hB : AtS w aB nB bs) (hP : AtP w aC nC ps) :
    Calls Try.prog 90 #[.agg #[.slice aB nB cB, .slice aC nC cC]] w fun e w' => e = .returned (.int .i64 (faultF bs ps)) ∧ Below w.heap.size w w' := by
  have HBL : Hid (bs.length = nB) := hbl
  have HPL : Hid (ps.length = nC) := hpl
  have HB : Hid (AtS w aB nB bs) := hB
  have HP : Hid (AtP w aC nC ps) := hP
  have HM : Hid (¬ (60 < bs.length ∨ 200 < ps.length)) := by unfold Hid; omega
  clear hbl hpl hB hP
  have hd : decide ((60 : Int) < (nB : Int)) = false := by simp; omega
  have hd2 : decide ((200 : Int) < (nC : Int)) = false := by simp; omega
  go_enter Try.func90, Try.ntmps90
  go_wp2
  go_loop [22] (fun i => ∃ j : Nat, j ≤ nB ∧ i = .int .i64 j ∧ ∀ i : Nat, i < j → wordsF (bs[i]?.getD []) = 0) (fun i => nB - (intOf i).toNat)
  case atStart => exact ⟨0, Nat.zero_le _, rfl, fun i hi => by omega⟩
  case round =>
    obtain ⟨j, hj, rfl, hall⟩ := hrel
    have HA : Hid (∀ i : Nat, i < j → wordsF (bs[i]?.getD []) = 0) := hall
    clear hall
    by_cases hlt : j < nB
    · obtain ⟨b, off, ua, ucap, e, c1, i1⟩ := HB.out j hlt
      clear HB
      have HI : Hid (Ints w (.slice ua (bs[j]?.getD []).length ucap) (bs[j]?.getD [])) := i1
      replace c1 := cell_later (later1 w (Obj.cells #[.slice aB nB cB, .slice aC nC cC] 49)) c1
      subst e
      clear i1
      generalize hc : wordsF (bs[j]?.getD []) = c
      have HC : Hid (wordsF (bs[j]?.getD []) = c) := hc
      clear hc
      by_cases hz : c = 0
      · subst hz
        go_wp2_with fail
        refine (words_any (HI.out.later (later1 _ _))).mono ?_
        rw [HC.out]
        rintro e w' ⟨rfl, rfl⟩
        go_wp2
        go_round
        case rel =>
          refine ⟨j + 1, by omega, by go_num, fun i hi => ?_⟩
          by_cases e : i = j
          · subst e; exact HC.out
          · exact HA.out i (by omega)
        case measure => simp [intOf]; omega
      · have hne : (c != 0) = true := by simpa using hz
        go_wp2_with fail
        refine (words_any (HI.out.later (later1 _ _))).mono ?_
        rw [HC.out]
        rintro e w' ⟨rfl, rfl⟩
        go_wp2
        go_ret
        exact ⟨ret_int (by rw [faultF_block HM.out (by rw [HBL.out]; exact hlt) HA.out (by rw [HC.out]; exact hz), HC.out]), later1 _ _⟩
    · have HA' : Hid (∀ i : Nat, i < bs.length → wordsF (bs[i]?.getD []) = 0) := fun i hi => HA.out i (by rw [HBL.out] at hi; omega)
      clear HA HB
      go_wp2
      go_loopw [35] (fun i wr => ∃ j : Nat, j ≤ nC ∧ i = .int .i64 j ∧ Below w.heap.size w wr ∧ wr.cell? ⟨w.heap.size, 0, none⟩ = some (.slice aB nB cB) ∧ wr.cell? ⟨w.heap.size, 1, none⟩ = some (.slice aC nC cC) ∧ ∀ i : Nat, i < j → putF bs.length (ps[i]?.getD (0, [])) = 0) (fun i _ => nC - (intOf i).toNat)
      case atStart => exact ⟨0, Nat.zero_le _, rfl, later1 _ _, by rw [new_cell]; rfl, by rw [new_cell]; rfl, fun i hi => by omega⟩
      case round =>
        obtain ⟨k, hk, rfl, hbl, p0, p1, hall⟩ := hrel
        have HA : Hid (∀ i : Nat, i < k → putF bs.length (ps[i]?.getD (0, [])) = 0) := hall
        clear hall
        by_cases hlt2 : k < nC
        · obtain ⟨b, off, ua, ucap, e, c1, c2, i1⟩ := HP.out k hlt2
          clear HP
          replace c1 := cell_later hbl c1
          replace c2 := cell_later hbl c2
          have HI : Hid (Ints wr (.slice ua (ps[k]?.getD (0, [])).2.length ucap) (ps[k]?.getD (0, [])).2) := i1.later hbl
          have HBEL : Hid (Below w.heap.size w wr) := hbl
          have hsz : w.heap.size < wr.heap.size := World.block_lt_of_cell? _ _ p0
          clear i1 hbl
          subst e
          generalize hc : putF nB (ps[k]?.getD (0, [])) = c
          have HC : Hid (putF nB ((ps[k]?.getD (0, [])).1, (ps[k]?.getD (0, [])).2) = c) := hc
          clear hc
          by_cases hz : c = 0
          · subst hz
            go_wp2_with fail
            refine (putFault_any _ _ _ _ _ _ _ _ _ (ps[k]?.getD (0, [])).2 (HI.out.later (later1 _ _))).mono ?_
            rw [HC.out]
            rintro e w1 ⟨rfl, hb1⟩
            have HB1 : Hid (Below wr.heap.size wr w1) := (later1 _ _).trans (hb1.mono (by simp))
            clear hb1
            go_wp2
            go_roundw
            case rel =>
              refine ⟨k + 1, by omega, by go_num, HBEL.out.trans (HB1.out.mono HBEL.out.size), cell_later HB1.out p0, cell_later HB1.out p1, fun i hi => ?_⟩
              by_cases e : i = k
              · subst e; rw [HBL.out]; exact HC.out
              · exact HA.out i (by omega)
            case measure => simp [intOf]; omega
          · have hne : (c != 0) = true := by simpa using hz
            go_wp2_with fail
            refine (putFault_any _ _ _ _ _ _ _ _ _ (ps[k]?.getD (0, [])).2 (HI.out.later (later1 _ _))).mono ?_
            rw [HC.out]
            rintro e w1 ⟨rfl, hb1⟩
            have HB1 : Hid (Below wr.heap.size wr w1) := (later1 _ _).trans (hb1.mono (by simp))
            clear hb1
            go_wp2
            go_ret
            have hF : putF bs.length (ps[k]?.getD (0, [])) = c := by rw [HBL.out]; exact HC.out
            exact ⟨ret_int (by rw [faultF_put HM.out HA'.out (by rw [HPL.out]; exact hlt2) HA.out (by rw [hF]; exact hz), hF]), HBEL.out.trans (HB1.out.mono HBEL.out.size)⟩
        · go_wp2
          go_ret
          exact ⟨ret_int (by rw [faultF_ok HM.out HA'.out (fun i hi => HA.out i (by rw [HPL.out] at hi; omega))]), hbl⟩

theorem fault_any (w : World) (vB vC : Value) (bs : List (List Int)) (ps : List (Int × List Int)) (hB : IntsS w vB bs) (hP : Puts w vC ps) :
    Calls Try.prog 90 #[.agg #[vB, vC]] w fun e w' => e = .returned (.int .i64 (faultF bs ps)) ∧ Below w.heap.size w w' := by
  obtain ⟨aB, cB, rfl, _, aS⟩ := hB.open'
  obtain ⟨aC, cC, rfl, _, aP⟩ := hP.open'
  by_cases h : 60 < bs.length ∨ 200 < ps.length
  · exact (fault_many w aB aC _ cB _ cC h).mono fun e w' ⟨he, hw⟩ => ⟨he.trans (ret_int (faultF_many h).symm), hw⟩
  · exact fault_walk w aB aC _ cB _ cC bs ps rfl rfl (by omega) (by omega) aS aP
end Go.Proofs.Ytagmmgcdebgfnaa

namespace Go.Proofs.Ytagmmgcdebgfnaa
open Go.RowKit
set_option maxRecDepth 100000

theorem l1Place_any (w : World) (bd : Nat) (a : Option Addr) (n cap : Nat) (x : Int) (hn : n ≤ maxLen) (h0 : w.cell? ⟨bd, 0, none⟩ = some (.slice a n cap)) :
    Calls Try.prog 81 #[.pointer (some ⟨bd, 0, none⟩), .int .i64 x] w fun e w' => e = .returned (.bool (placeB n x)) ∧ w' = w := by
  unfold maxLen at hn
  go_enter Try.func81, Try.ntmps81
  go_wp2_with fail
  refine (l1In_is (place_l1 n x)).mono ?_
  rintro e w' ⟨rfl, rfl⟩
  go_wp2
  go_ret
  exact ⟨rfl, rfl⟩

set_option maxHeartbeats 1600000 in
theorem l1At_walk (w : World) (bd : Nat) (aB aC : Option Addr) (nB cB nC cC : Nat) (bs : List (List Int)) (ps : List (Int × List Int)) (x : Nat) (hxl : x < nB) (_hnB : nB ≤ 60) (hpl : ps.length = nC) (g2 : nC ≤ 200) (h0 : w.cell? ⟨bd, 0, none⟩ = some (.slice aB nB cB)) (h1 : w.cell? ⟨bd, 1, none⟩ = some (.slice aC nC cC))
    (hB : AtS w aB nB bs) (hP : AtP w aC nC ps) :
    Calls Try.prog 59 #[.pointer (some ⟨bd, 0, none⟩), .int .i64 (x : Int)] w fun e w' => ∃ ua un uc, e = .returned (.slice ua un uc) ∧ Ints w (.slice ua un uc) (atF bs ps x) ∧ w' = w := by
  have HPL : Hid (ps.length = nC) := hpl
  have HB : Hid (AtS w aB nB bs) := hB
  have HP : Hid (AtP w aC nC ps) := hP
  clear hpl hB hP
  go_enter Try.func59, Try.ntmps59
  go_wp2
  go_loop [5] (fun i => ∃ k : Nat, k ≤ nC ∧ i = .int .i64 ((k : Int) - 1) ∧ atF bs ps x = atK bs ps x k) (fun i => (intOf i + 1).toNat)
  case atStart => exact ⟨nC, Nat.le_refl _, rfl, by unfold atF; rw [HPL.out]⟩
  case round =>
    obtain ⟨k, hk, rfl, hat⟩ := hrel
    have HA : Hid (atF bs ps x = atK bs ps x k) := hat
    clear hat
    cases k with
    | succ k =>
      have ek : (((k + 1 : Nat) : Int) - 1) = (k : Int) := by omega
      rw [ek]
      clear ek
      obtain ⟨b, off, ua, ucap, e, c1, c2, i1⟩ := HP.out k (by omega)
      clear HP
      subst e
      have HI : Hid (Ints w (.slice ua (ps[k]?.getD (0, [])).2.length ucap) (ps[k]?.getD (0, [])).2) := i1
      clear i1
      have hlt : k < nC := by omega
      by_cases he : (ps[k]?.getD (0, [])).1 = (x : Int)
      · have hb : ((ps[k]?.getD (0, [])).1 == (x : Int)) = true := by simpa using he
        have HE : Hid ((ps[k]?.getD (0, [])).1 = (x : Int)) := he
        clear he
        go_wp2
        go_ret
        exact ⟨_, _, _, rfl, by rw [HA.out, atK_hit HE.out]; exact HI.out, rfl⟩
      · have hb : ((ps[k]?.getD (0, [])).1 == (x : Int)) = false := by simpa using he
        have HE : Hid (¬ (ps[k]?.getD (0, [])).1 = (x : Int)) := he
        clear he
        go_wp2
        go_round
        case rel => exact ⟨k, by omega, rfl, by rw [HA.out, atK_miss HE.out]⟩
        case measure => simp [intOf]
    | zero =>
      obtain ⟨b, off, ua, ucap, e, c1, i1⟩ := HB.out x hxl
      clear HB
      subst e
      have HI : Hid (Ints w (.slice ua (bs[x]?.getD []).length ucap) (bs[x]?.getD [])) := i1
      clear i1
      go_wp2
      go_ret
      exact ⟨_, _, _, rfl, by rw [HA.out]; simpa [atK] using HI.out, rfl⟩

/-- An answer that is a code and a list. -/
def AnsInts (w : World) (code : Int) (zs : List Int) (e : Ending) (w' : World) : Prop :=
  ∃ a n c, e = .returned (.agg #[.int .i64 code, .slice a n c]) ∧ Below w.heap.size w w' ∧ IntsO w' (.slice a n c) zs (fresh w w')
theorem ansInts_bad {w w' : World} (hb : Below w.heap.size w w') (code : Int) : AnsInts w code [] (.returned (.agg #[.int .i64 code, .slice none 0 0])) w' := ⟨none, 0, 0, rfl, hb, Or.inl ⟨rfl, none, 0, rfl⟩⟩

def atCode (bs : List (List Int)) (ps : List (Int × List Int)) (x : Int) : Int := placeF bs ps x
def atList (bs : List (List Int)) (ps : List (Int × List Int)) (x : Int) : List Int := if placeF bs ps x = 0 then atF bs ps x else []

theorem faultF_lens {bs : List (List Int)} {ps : List (Int × List Int)} (h : faultF bs ps = 0) : bs.length ≤ 60 ∧ ps.length ≤ 200 := by
  by_cases g : 60 < bs.length ∨ 200 < ps.length
  · rw [faultF_many g] at h; omega
  · omega

end Go.Proofs.Ytagmmgcdebgfnaa

namespace Go.Proofs.Ytagmmgcdebgfnaa
open Go.RowKit
set_option maxRecDepth 100000

theorem placeF_fault {bs : List (List Int)} {ps : List (Int × List Int)} {x : Int} (h : ¬ faultF bs ps = 0) : placeF bs ps x = faultF bs ps := by simp [placeF, h]
theorem placeF_no {bs : List (List Int)} {ps : List (Int × List Int)} {x : Int} (h : faultF bs ps = 0) (h2 : placeB bs.length x = false) : placeF bs ps x = 3 := by simp [placeF, h, h2]
theorem placeF_ok {bs : List (List Int)} {ps : List (Int × List Int)} {x : Int} (h : faultF bs ps = 0) (h2 : placeB bs.length x = true) : placeF bs ps x = 0 := by simp [placeF, h, h2]

/-- How the cache of a drive is read. -/
def AtC (w : World) (a : Option Addr) (n : Nat) (ps : List (Int × List Int)) : Prop :=
  ∀ i, i < n → ∃ g pb ua uc, a = some ⟨g, 0, none⟩ ∧ w.cell? ⟨g, i, none⟩ = some (.pointer (some ⟨pb, 0, none⟩)) ∧ w.cell? ⟨pb, 0, none⟩ = some (.int .i64 (ps[i]?.getD (0, [])).1) ∧ w.cell? ⟨pb, 1, none⟩ = some (.slice ua (ps[i]?.getD (0, [])).2.length uc) ∧ Ints w (.slice ua (ps[i]?.getD (0, [])).2.length uc) (ps[i]?.getD (0, [])).2
theorem Cache.at {w : World} {base n c : Nat} {a : Option Addr} {ps : List (Int × List Int)} {pb k : Nat → Nat} {u : Nat → Value} (h : Cache w base (.slice a n c) n (fun i => ps[i]?.getD (0, [])) pb k u) : AtC w a n ps := by
  intro i hi
  obtain ⟨g, cap, e, _, _, _, hrow⟩ := ownsRow_row h.own (by omega)
  simp only [Value.slice.injEq, true_and] at e
  obtain ⟨ua, uc, hu⟩ := h.sh i hi
  have hb := h.box i hi
  have b0 := hb.cell (i := 0) (by omega)
  have b1 := hb.cell (i := 1) (by omega)
  simp at b0 b1
  rw [hu] at b1
  have hio := (h.at' i hi).ints
  rw [hu] at hio
  refine ⟨g, pb i, ua, uc, e.1, ?_, b0, b1, hio⟩
  have := hrow.cell hi
  rw [this]
  simp [hi]

set_option maxHeartbeats 800000 in
theorem get_any (w : World) (br o : Nat) (a : Option Addr) (n cap x : Nat) (bs : List (List Int)) (_hn : n ≤ 60) (hx : x < n) (h0 : w.cell? ⟨br, o, none⟩ = some (.slice a n cap)) (hB : AtS w a n bs) (hl : (bs[x]?.getD []).length ≤ 1048576) :
    Calls Try.prog 93 #[.pointer (some ⟨br, o, none⟩), .int .i64 (x : Int)] w fun e w' => e = .returned (.slice (some ⟨w.heap.size, 0, none⟩) (bs[x]?.getD []).length (bs[x]?.getD []).length) ∧ Below w.heap.size w w' ∧ IntsO w' (.slice (some ⟨w.heap.size, 0, none⟩) (bs[x]?.getD []).length (bs[x]?.getD []).length) (bs[x]?.getD []) (fresh w w') := by
  obtain ⟨b, off, ua, ucap, e, c1, i1⟩ := hB x hx
  subst e
  have HI : Hid (Ints w (.slice ua (bs[x]?.getD []).length ucap) (bs[x]?.getD [])) := i1
  have HL : Hid ((bs[x]?.getD []).length ≤ 1048576) := hl
  clear i1 hl hB
  go_enter Try.func93, Try.ntmps93
  go_wp2_with fail
  refine (copyOf_any HI.out HL.out).mono ?_
  rintro e w1 ⟨rfl, hb1, ho1⟩
  have HB1 : Hid (Below w.heap.size w w1) := hb1
  have HO1 : Hid (IntsO w1 _ (bs[x]?.getD []) (fresh w w1)) := ho1
  clear hb1 ho1
  go_wp2
  go_ret
  exact ⟨rfl, HB1.out, HO1.out⟩

set_option maxHeartbeats 1600000 in
theorem read_cap (w : World) (bd : Nat) (aB aP : Option Addr) (nB cB nP cP : Nat) (bs : List (List Int)) (ps : List (Int × List Int)) (x : Nat) (hxl : x < nB) (hnB : nB ≤ 60) (hpl : ps.length = nP) (g2 : nP ≤ 200) (h0 : w.cell? ⟨bd, 0, none⟩ = some (.slice aB nB cB)) (h1 : w.cell? ⟨bd, 1, none⟩ = some (.slice aP nP cP))
    (hB : AtS w aB nB bs) (hP : AtC w aP nP ps) (hz : ∀ k : Nat, (bs[k]?.getD []).length ≤ 1048576) (hzp : ∀ k : Nat, (ps[k]?.getD (0, [])).2.length ≤ 1048576) :
    Calls Try.prog 64 #[.pointer (some ⟨bd, 0, none⟩), .int .i64 (x : Int)] w fun e w' => ∃ a n c, e = .returned (.slice a n c) ∧ Below w.heap.size w w' ∧ IntsO w' (.slice a n c) (atF bs ps x) (fresh w w') ∧ n ≤ c := by
  have HPL : Hid (ps.length = nP) := hpl
  have HB : Hid (AtS w aB nB bs) := hB
  have HP : Hid (AtC w aP nP ps) := hP
  have HZ : Hid (∀ k : Nat, (bs[k]?.getD []).length ≤ 1048576) := hz
  have HZP : Hid (∀ k : Nat, (ps[k]?.getD (0, [])).2.length ≤ 1048576) := hzp
  clear hpl hB hP hz hzp
  go_enter Try.func64, Try.ntmps64
  go_wp2
  go_loop [5] (fun i => ∃ k : Nat, k ≤ nP ∧ i = .int .i64 ((k : Int) - 1) ∧ atF bs ps x = atK bs ps x k) (fun i => (intOf i + 1).toNat)
  case atStart => exact ⟨nP, Nat.le_refl _, rfl, by unfold atF; rw [HPL.out]⟩
  case round =>
    obtain ⟨k, hk, rfl, hat⟩ := hrel
    have HA : Hid (atF bs ps x = atK bs ps x k) := hat
    clear hat
    cases k with
    | succ k =>
      have ek : (((k + 1 : Nat) : Int) - 1) = (k : Int) := by omega
      rw [ek]
      clear ek
      obtain ⟨g, pb, ua, uc, e, c0, c1, c2, i1⟩ := HP.out k (by omega)
      clear HP
      subst e
      have HI : Hid (Ints w (.slice ua (ps[k]?.getD (0, [])).2.length uc) (ps[k]?.getD (0, [])).2) := i1
      clear i1
      have hlt : k < nP := by omega
      by_cases he : (ps[k]?.getD (0, [])).1 = (x : Int)
      · have hb : ((ps[k]?.getD (0, [])).1 == (x : Int)) = true := by simpa using he
        have HE : Hid ((ps[k]?.getD (0, [])).1 = (x : Int)) := he
        clear he
        go_wp2_with fail
        refine (copyOf_any HI.out (HZP.out k)).mono ?_
        rintro e w1 ⟨rfl, hb1, ho1⟩
        have HB1 : Hid (Below w.heap.size w w1) := hb1
        have HO1 : Hid (IntsO w1 _ (ps[k]?.getD (0, [])).2 (fresh w w1)) := ho1
        clear hb1 ho1
        go_wp2
        go_ret
        exact ⟨_, _, _, rfl, HB1.out, by rw [HA.out, atK_hit HE.out]; exact HO1.out, Nat.le_refl _⟩
      · have hb : ((ps[k]?.getD (0, [])).1 == (x : Int)) = false := by simpa using he
        have HE : Hid (¬ (ps[k]?.getD (0, [])).1 = (x : Int)) := he
        clear he
        go_wp2
        go_round
        case rel => exact ⟨k, by omega, rfl, by rw [HA.out, atK_miss HE.out]⟩
        case measure => simp [intOf]
    | zero =>
      go_wp2_with fail
      refine (get_any _ bd 0 aB nB cB x bs hnB hxl h0 HB.out (HZ.out x)).mono ?_
      rintro e w1 ⟨rfl, hb1, ho1⟩
      have HB1 : Hid (Below w.heap.size w w1) := hb1
      have HO1 : Hid (IntsO w1 _ (bs[x]?.getD []) (fresh w w1)) := ho1
      clear hb1 ho1
      go_wp2
      go_ret
      exact ⟨_, _, _, rfl, HB1.out, by rw [HA.out]; simpa [atK] using HO1.out, Nat.le_refl _⟩

theorem read_any (w : World) (bd : Nat) (aB aP : Option Addr) (nB cB nP cP : Nat) (bs : List (List Int)) (ps : List (Int × List Int)) (x : Nat) (hxl : x < nB) (hnB : nB ≤ 60) (hpl : ps.length = nP) (g2 : nP ≤ 200) (h0 : w.cell? ⟨bd, 0, none⟩ = some (.slice aB nB cB)) (h1 : w.cell? ⟨bd, 1, none⟩ = some (.slice aP nP cP))
    (hB : AtS w aB nB bs) (hP : AtC w aP nP ps) (hz : ∀ k : Nat, (bs[k]?.getD []).length ≤ 1048576) (hzp : ∀ k : Nat, (ps[k]?.getD (0, [])).2.length ≤ 1048576) :
    Calls Try.prog 64 #[.pointer (some ⟨bd, 0, none⟩), .int .i64 (x : Int)] w fun e w' => ∃ a n c, e = .returned (.slice a n c) ∧ Below w.heap.size w w' ∧ IntsO w' (.slice a n c) (atF bs ps x) (fresh w w') := (read_cap w bd aB aP nB cB nP cP bs ps x hxl hnB hpl g2 h0 h1 hB hP hz hzp).mono fun _ _ ⟨a, n, c, h1, h2, h3, _⟩ => ⟨a, n, c, h1, h2, h3⟩

theorem atF_len {bs : List (List Int)} {ps : List (Int × List Int)} {x : Int} {M : Nat} (hz : ∀ k : Nat, (bs[k]?.getD []).length ≤ M) (hzp : ∀ k : Nat, (ps[k]?.getD (0, [])).2.length ≤ M) : (atF bs ps x).length ≤ M := by
  unfold atF
  generalize ps.length = n
  induction n with
  | zero => exact hz _
  | succ n ih =>
    by_cases h : (ps[n]?.getD (0, [])).1 = x
    · rw [atK_hit h]; exact hzp n
    · rw [atK_miss h]; exact ih

end Go.Proofs.Ytagmmgcdebgfnaa

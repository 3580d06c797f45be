/- The program's walk: where a way ends (endOf). errors.As at the error of a way that breaks off: Go's own text of errors.As and errors.as is walked. After the kit's worked toy of errors.As, here with a struct in the place of the pointer. The program's walk: where names lead (walkNames). The specification's l3Split. The specification's l3Split, whole. The last name of a path: the specification's side. Whether a path lies below another one: the specification's side. -/
import Derived.Test.YtaibcofendjnnaaGreatDoorM15
import Derived.LaidEql
import Derived.Stop.Asserts
import Derived.RowKitTokens
import Derived.Test.YtaibcofendjnnaaGreatDoorM03
namespace Go.Proofs.YtaibcofendjnnaaGreatDoor
open Go.RowKit Go.Shelf
set_option maxRecDepth 100000
attribute [local go_sem] Oper.semAt_some

theorem walk_any (w : World) (aL : Option Addr) (nL cL : Nat) (aN : Option Addr) (mN cN : Nat) : Calls Tryz.prog 63 #[.slice aL nL cL, .slice aN mN cN] w fun e w' => e = .returned (.func (.func 102) #[] #[.pointer (some ⟨w.heap.size + 1, 0, none⟩), .pointer (some ⟨w.heap.size, 0, none⟩)]) ∧ w' = (w.alloc (.cells #[.slice aL nL cL] 30)).alloc (.cells #[.slice aN mN cN] 42) := by
  go_enter Tryz.func63, Tryz.ntmps63
  go_wp2
  go_ret
  exact ⟨rfl, rfl⟩
theorem walk_stops (n : Nat) (hn : 2 ≤ n) (Bn Bl : Nat) (aN : Option Addr) (mN cN : Nat) (xs : List (List UInt8)) (hmN : xs.length = mN) (hmx : mN ≤ 1048577) (aL : Option Addr) (nL cL : Nat) (ds : List ID) (hdn : ds.length = nL) (h10 : nL ≤ 10) (h0L : 0 < nL) (hr : inRange ds) (h6 : ∀ i : Nat, (ds[i]?.getD id0).2.2.2.2.length ≤ 6) (w0 w : World) (hw : Below w0.heap.size w0 w) (_hBn : Bn < w0.heap.size) (_hBl : Bl < w0.heap.size)
    (hcn : w0.cell? ⟨Bn, 0, none⟩ = some (.slice aN mN cN)) (hcl : w0.cell? ⟨Bl, 0, none⟩ = some (.slice aL nL cL)) (hat : AtT w0 aN mN xs) (hai : AtI w0 aL nL ds) :
    SeqStopsK Fence.wide n Tryz.prog 102 #[.pointer (some ⟨Bn, 0, none⟩), .pointer (some ⟨Bl, 0, none⟩)] encW (Below w0.heap.size) (fun ys => ys = wkT ds xs) (fun pre => pre <+: wkT ds xs) (wkT ds xs).length w := fun l J Jx W hW hJ _ hY h0 =>
  walk1_in n hn l Bn Bl w0.heap.size aN mN cN xs hmN hmx aL nL cL ds hdn h10 h0L hr h6 J Jx hY W hJ (Nat.le_trans hw.size hW.size) (fun W' hb => by
    have h1 : Below w0.heap.size w0 W' := (hw.trans (hW.mono hw.size)).trans hb
    exact ⟨cell_later h1 hcn, cell_later h1 hcl, hat.later h1, hai.later h1⟩) h0
theorem boxed_own {W W' : World} {row : Option Nat} {B : Nat} {t : TypeId} {v : Value} (h : Boxed W B t v) (hg : W.grownBy W' row) (hr : ∀ r, row = some r → ∃ o : Obj, W.heap[r]? = some o ∧ o.isCells = false) : Boxed W' B t v :=
  h.kept hg fun e => by
    obtain ⟨o, ho, hc⟩ := hr B e.symm
    rw [show W.heap[B]? = _ from h] at ho
    cases ho
    cases hc
theorem boxOther {W : World} {B C : Nat} {t : TypeId} {v : Value} (h : Boxed W B t v) (u : Value) (hne : B ≠ C) : Boxed (W.setCell ⟨C, 0, none⟩ u) B t v := (Below.heap_setCell _ _ _ _ hne).trans h
/-- An error that is nil, or a break. -/
def errV : Option (Int × Int) → Value
  | none => .nilIface
  | some p => .iface 105 (.agg #[.int .i64 p.1, .int .i64 p.2])
set_option maxRecDepth 100000 in
set_option maxHeartbeats 4000000 in
theorem endOf_any (w : World) (Bn Bl : Nat) (aN : Option Addr) (mN cN : Nat) (xs : List (List UInt8)) (hmN : xs.length = mN) (hmx : mN ≤ 1048577) (aL : Option Addr) (nL cL : Nat) (ds : List ID) (hdn : ds.length = nL) (h10 : nL ≤ 10) (h0L : 0 < nL) (hr : inRange ds) (h6 : ∀ i : Nat, (ds[i]?.getD id0).2.2.2.2.length ≤ 6) (hBn : Bn < w.heap.size) (hBl : Bl < w.heap.size)
    (hcn : w.cell? ⟨Bn, 0, none⟩ = some (.slice aN mN cN)) (hcl : w.cell? ⟨Bl, 0, none⟩ = some (.slice aL nL cL)) (hat : AtT w aN mN xs) (hai : AtI w aL nL ds) :
    Calls Tryz.prog 62 #[.func (.func 102) #[] #[.pointer (some ⟨Bn, 0, none⟩), .pointer (some ⟨Bl, 0, none⟩)]] w fun e w' => e = .returned (.tuple #[.int .i64 (brk 0 (wkT ds xs)).1, errV (brk 0 (wkT ds xs)).2]) ∧ Below w.heap.size w w' := by
  refine (callsIn_wide (n := 5)).1 ?_
  refine callsIn_of_wp_marks Tryz.func62 rfl trivial ?_ rfl
  simp only [Tryz.ntmps62, List.size_toArray, List.length_cons, List.length_nil, Nat.reduceAdd, Nat.reduceSub, Array.replicate_succ, Array.replicate_zero, List.push_toArray, List.append_toArray, List.nil_append, List.cons_append]
  gi_wp2
  have hb0 : Boxed (((w.alloc (.cells #[.int .i64 0] 2)).alloc (.cells #[.nilIface] 98)).alloc (.cells #[.int .i64 0] 2)) w.heap.size 2 (.int .i64 0) := ((Boxed.new w 2 (.int .i64 0)).alloc _).alloc _
  have hb1 : Boxed (((w.alloc (.cells #[.int .i64 0] 2)).alloc (.cells #[.nilIface] 98)).alloc (.cells #[.int .i64 0] 2)) (w.heap.size + 1) 98 .nilIface := by
    have := (Boxed.new (w.alloc (.cells #[.int .i64 0] 2)) 98 .nilIface).alloc (.cells #[.int .i64 0] 2)
    rw [World.size_alloc] at this
    exact this
  have hb2 : Boxed (((w.alloc (.cells #[.int .i64 0] 2)).alloc (.cells #[.nilIface] 98)).alloc (.cells #[.int .i64 0] 2)) (w.heap.size + 1 + 1) 2 (.int .i64 0) := by
    have := Boxed.new ((w.alloc (.cells #[.int .i64 0] 2)).alloc (.cells #[.nilIface] 98)) 2 (.int .i64 0)
    rw [World.size_alloc, World.size_alloc] at this
    exact this
  have hB0 : Below w.heap.size w (((w.alloc (.cells #[.int .i64 0] 2)).alloc (.cells #[.nilIface] 98)).alloc (.cells #[.int .i64 0] 2)) := (later2 _ _ _).trans ((later1 _ _).mono (by simp; omega))
  refine wpIn_rangeFunc_ownF rfl (by omega) (gf := 102) (lb := #[.pointer (some ⟨Bn, 0, none⟩), .pointer (some ⟨Bl, 0, none⟩)]) rfl trivial (enters_of Tryz.func102 (by kernel_rfl) rfl)
    (walk_stops 4 (by omega) Bn Bl aN mN cN xs hmN hmx aL nL cL ds hdn h10 h0L hr h6 w _ hB0 hBn hBl hcn hcl hat hai) belowK_t (belowK_b (by simp; omega)) (Below.refl _ _) (fun _ => rfl)
    (fun pre W => (∃ v, brk 0 pre = (v, none) ∧ Boxed W w.heap.size 2 (.int .i64 0) ∧ Boxed W (w.heap.size + 1) 98 .nilIface ∧ Boxed W (w.heap.size + 1 + 1) 2 (.int .i64 v)) ∧ Below w.heap.size w W)
    (fun c pre W => (c = .ret ∧ ∃ p : Int × Int, brk 0 pre = (0, some p) ∧ Boxed W w.heap.size 2 (.int .i64 0) ∧ Boxed W (w.heap.size + 1) 98 (errV (some p))) ∧ Below w.heap.size w W)
    (OwnFrom.and (Own.from (fun s A B row hs hg hr => by
      obtain ⟨v, h1, h2, h3, h4⟩ := hs
      exact ⟨v, h1, boxed_own h2 hg hr, boxed_own h3 hg hr, boxed_own h4 hg hr⟩) _) (ownFrom_below (Nat.le_refl _) (by simp; omega)))
    (fun c => OwnFrom.and (Own.from (fun s A B row hs hg hr => by
      obtain ⟨h0, p, h1, h2, h3⟩ := hs
      exact ⟨h0, p, h1, boxed_own h2 hg hr, boxed_own h3 hg hr⟩) _) (ownFrom_below (Nat.le_refl _) (by simp; omega)))
    ⟨⟨0, rfl, hb0, hb1, hb2⟩, hB0⟩
    (fun x => { tmps := #[.func (.func 102) #[] #[.pointer (some ⟨Bn, 0, none⟩), .pointer (some ⟨Bl, 0, none⟩)], undef, .pointer (some ⟨w.heap.size, 0, none⟩), .pointer (some ⟨w.heap.size + 1, 0, none⟩), .pointer (some ⟨w.heap.size + 1 + 1, 0, none⟩), .int .i64 x.1, (encW x).getD 1 undef, .func (.func 102) #[] #[.pointer (some ⟨Bn, 0, none⟩), .pointer (some ⟨Bl, 0, none⟩)], .int .i64 x.1, (encW x).getD 1 undef, undef, undef, undef, undef, undef], defers := [] }) ?assign ?body ?done ?stop
  case assign =>
    rintro l ⟨x, c⟩ W K hK
    cases c
    all_goals
      gi_wp2
      simpa using hK
  case body =>
    rintro l pre ⟨x, c⟩ W ⟨⟨v, hv, q0, q1, q2⟩, hB⟩ hlt
    have HB : Hid (Below w.heap.size w W) := hB
    have N02 : Hid (w.heap.size ≠ w.heap.size + 1 + 1) := by unfold Hid; omega
    have N12 : Hid (w.heap.size + 1 ≠ w.heap.size + 1 + 1) := by unfold Hid; omega
    have N01 : Hid (w.heap.size ≠ w.heap.size + 1) := by unfold Hid; omega
    have N10 : Hid (w.heap.size + 1 ≠ w.heap.size) := by unfold Hid; omega
    have HK1 : Hid (KeepsOthers W (W.setCell ⟨w.heap.size + 1 + 1, 0, none⟩ (.int .i64 x))) := KeepsOthers.setCell _ _ _
    have HB1 : Hid (Below w.heap.size W (W.setCell ⟨w.heap.size + 1 + 1, 0, none⟩ (.int .i64 x))) := (Below.refl w.heap.size W).setCell (p := ⟨w.heap.size + 1 + 1, 0, none⟩) (by show w.heap.size ≤ w.heap.size + 1 + 1; omega) _
    have HQ1 : Hid (Boxed (W.setCell ⟨w.heap.size + 1 + 1, 0, none⟩ (.int .i64 x)) w.heap.size 2 (.int .i64 0) ∧ Boxed (W.setCell ⟨w.heap.size + 1 + 1, 0, none⟩ (.int .i64 x)) (w.heap.size + 1) 98 .nilIface ∧ Boxed (W.setCell ⟨w.heap.size + 1 + 1, 0, none⟩ (.int .i64 x)) (w.heap.size + 1 + 1) 2 (.int .i64 x)) := ⟨boxOther q0 _ N02.out, boxOther q1 _ N12.out, q2.set _⟩
    have HQ2 : Hid (∀ u : Value, KeepsOthers W ((W.setCell ⟨w.heap.size, 0, none⟩ (.int .i64 0)).setCell ⟨w.heap.size + 1, 0, none⟩ u) ∧ Below w.heap.size w ((W.setCell ⟨w.heap.size, 0, none⟩ (.int .i64 0)).setCell ⟨w.heap.size + 1, 0, none⟩ u) ∧ Boxed ((W.setCell ⟨w.heap.size, 0, none⟩ (.int .i64 0)).setCell ⟨w.heap.size + 1, 0, none⟩ u) w.heap.size 2 (.int .i64 0) ∧ Boxed ((W.setCell ⟨w.heap.size, 0, none⟩ (.int .i64 0)).setCell ⟨w.heap.size + 1, 0, none⟩ u) (w.heap.size + 1) 98 u) := fun u => ⟨(KeepsOthers.setCell _ _ _).trans (KeepsOthers.setCell _ _ _), (hB.setCell (p := ⟨w.heap.size, 0, none⟩) (Nat.le_refl _) _).setCell (p := ⟨w.heap.size + 1, 0, none⟩) (by show w.heap.size ≤ w.heap.size + 1; omega) _, boxOther (q0.set _) _ N01.out, (boxOther q1 _ N10.out).set _⟩
    have c0 := q0.cell
    have c1 := q1.cell
    have c2 := q2.cell
    have f0 := q0.frozen
    have f1 := q1.frozen
    have f2 := q2.frozen
    cases c with
    | none =>
      dsimp only [encW]
      gi_wp2
      exact ⟨HK1.out, HB1.out, ⟨x, brk_snoc_ok pre 0 v x hv, HQ1.out⟩, HB.out.trans HB1.out⟩
    | some c =>
      dsimp only [encW]
      gi_wp2
      have h2 := HQ2.out (.iface 105 (.agg #[.int .i64 x, .int .i64 c]))
      exact ⟨h2.1, ⟨rfl, (x, c), brk_snoc_no pre 0 v x c hv, h2.2.2⟩, h2.2.1⟩
  case done =>
    rintro D ys W hD hys ⟨⟨v, hv, q0, q1, q2⟩, hB⟩ hK
    have c0 := q0.cell
    have c1 := q1.cell
    have c2 := q2.cell
    have f0 := q0.frozen
    have f1 := q1.frozen
    have hDs : w.heap.size + 3 ≤ D := by simpa using hD
    have hK2 : ((W.setCell ⟨w.heap.size, 0, none⟩ (.int .i64 v)).setCell ⟨w.heap.size + 1, 0, none⟩ .nilIface).heap[D]? = some (.deferred (some [])) := by
      rw [Below.heap_setCell _ _ _ _ (show D ≠ w.heap.size + 1 by omega), Below.heap_setCell _ _ _ _ (show D ≠ w.heap.size by omega)]; exact hK
    have r0 := (boxOther (q0.set (.int .i64 v)) .nilIface (show w.heap.size ≠ w.heap.size + 1 by omega)).cell
    have r1 := ((boxOther q1 (.int .i64 v) (show w.heap.size + 1 ≠ w.heap.size by omega)).set .nilIface).cell
    have HB2 : Hid (Below w.heap.size w ((W.setCell ⟨w.heap.size, 0, none⟩ (.int .i64 v)).setCell ⟨w.heap.size + 1, 0, none⟩ .nilIface)) := (hB.setCell (p := ⟨w.heap.size, 0, none⟩) (Nat.le_refl _) _).setCell (p := ⟨w.heap.size + 1, 0, none⟩) (by show w.heap.size ≤ w.heap.size + 1; omega) _
    have HEE : Hid (brk 0 (wkT ds xs) = (v, none)) := by unfold Hid; rw [← hys]; exact hv
    clear hys hv hB
    gi_wp2
    generalize ((W.setCell ⟨w.heap.size, 0, none⟩ (.int .i64 v)).setCell ⟨w.heap.size + 1, 0, none⟩ .nilIface) = W2 at *
    have p0 := cell_kept r0 (grownBy_putObj' W2 D (.deferred none)) (fun r e => by cases e; exact ⟨_, hK2, rfl⟩)
    have p1 := cell_kept r1 (grownBy_putObj' W2 D (.deferred none)) (fun r e => by cases e; exact ⟨_, hK2, rfl⟩)
    refine ⟨by simp, .inl ⟨_, _, rfl, run_takeDeferred hK2, ?_⟩⟩
    exact ⟨.tuple #[.int .i64 v, .nilIface], by simp [results, Tryz.results62, go_sem, p0, p1], by rw [HEE.out]; rfl, HB2.out.trans (belowK_b (w := w) (Nat.le_refl _) W2 D _ _ (by omega) hK2 rfl rfl)⟩
  case stop =>
    rintro D c pre W hD hpre ⟨⟨rfl, p, hp, q0, q1⟩, hB⟩ hK
    have hDs : w.heap.size + 3 ≤ D := by simpa using hD
    have r0 := q0.cell
    have r1 := q1.cell
    have HEE : Hid (brk 0 (wkT ds xs) = (0, some p)) := by
      obtain ⟨r, hr2⟩ := hpre
      unfold Hid
      rw [← hr2]
      exact brk_app pre r 0 0 p hp
    obtain ⟨p1, p2⟩ := p
    simp only [errV] at r1
    clear hpre hp
    gi_wp2
    have k0 := cell_kept r0 (grownBy_putObj' W D (.deferred none)) (fun r e => by cases e; exact ⟨_, hK, rfl⟩)
    have k1 := cell_kept r1 (grownBy_putObj' W D (.deferred none)) (fun r e => by cases e; exact ⟨_, hK, rfl⟩)
    refine ⟨by simp, .inl ⟨_, _, rfl, run_takeDeferred hK, ?_⟩⟩
    exact ⟨.tuple #[.int .i64 0, errV (some (p1, p2))], by simp [results, Tryz.results62, go_sem, k0, k1, errV], by rw [HEE.out], hB.trans (belowK_b (w := w) (Nat.le_refl _) W D _ _ (by omega) hK rfl rfl)⟩
end Go.Proofs.YtaibcofendjnnaaGreatDoor

namespace Go.Proofs.YtaibcofendjnnaaGreatDoor
open Go.RowKit Go.Extern.Stop Go.Stop Go.Extern
set_option maxRecDepth 100000

theorem as_nil (t : Value) (w : World) :
    Calls Tryz.prog 64 #[.nilIface, t] w fun e w' => e = .returned (.bool false) ∧ w' = w := by
  go_enter Tryz.func64, Tryz.ntmps64
  go_wp2
  go_ret
  exact ⟨rfl, rfl⟩
theorem Tryz.valueOfP (t : Addr) (w : World) : (ReflectliteValue.unpack (.iface 107 (.pointer (some t)))).run Tryz.prog w
    = .ok (.agg #[.pointer (some ⟨2, 107, none⟩), .pointer (some ⟨w.heap.size, 0, none⟩), .int .u64 150]) (w.alloc (.cells #[.pointer (some t)] 107)) := by kernel_rfl
theorem Tryz.typeP (a : Addr) (w : World) : (ReflectliteValue.methodAny (ReflectliteValue.valueError "reflectlite.Value.Type" 0) (fun t _ _ _ => ReflectliteType.toType t) #[.agg #[.pointer (some ⟨2, 107, none⟩), .pointer (some a), .int .u64 150]]).run Tryz.prog w
    = .ok (.iface 183 (.agg #[.pointer (some ⟨2, 107, none⟩)])) w := by kernel_rfl
theorem Tryz.methodKind (h : Value) (w : World) : (Go.method 345 183 (.agg #[h]) "Kind").run Tryz.prog w = .ok (189, h) w := by kernel_rfl
theorem Tryz.kindP (w : World) : ((ReflectliteType.abiMethod fun t => (fun a : Nat => Value.int IntKind.u8 (a : Int)) <$> Rtype.kind t) #[.pointer (some ⟨2, 107, none⟩)]).run Tryz.prog w = .ok (.int .u8 22) w := by kernel_rfl
theorem Tryz.kindS (w : World) : ((ReflectliteType.abiMethod fun t => (fun a : Nat => Value.int IntKind.u8 (a : Int)) <$> Rtype.kind t) #[.pointer (some ⟨2, 105, none⟩)]).run Tryz.prog w = .ok (.int .u8 25) w := by kernel_rfl
theorem rlm (z : Sem Value) (f : TypeId → Addr → Nat → Nat → Sem Value) (v : Value) :
    ReflectliteValue.method z f #[v] = (do match ← ReflectliteValue.parts v with | none => z | some (t, a, fl) => f t a fl (fl % 32)) := rfl
theorem Tryz.partsP (a : Addr) (w : World) : (ReflectliteValue.parts (.agg #[.pointer (some ⟨2, 107, none⟩), .pointer (some a), .int .u64 150])).run Tryz.prog w = .ok (some (107, a, 150)) w := by kernel_rfl
theorem Tryz.isNilP (a p : Addr) (W : World) (ha : W.cell? a = some (.pointer (some p))) :
    (ReflectliteValue.method (ReflectliteValue.valueError "reflectlite.Value.IsNil" 0) ReflectliteValue.isNil #[.agg #[.pointer (some ⟨2, 107, none⟩), .pointer (some a), .int .u64 150]]).run Tryz.prog W = .ok (.bool false) W := by
  rw [rlm]
  simp only [Sem.run_bind, Tryz.partsP, Result.andThen]
  simp [ReflectliteValue.isNil, loadVar, isAgg, underlying, Tryz.underlying107, ha, Result.andThen]
theorem Tryz.methodElem (h : Value) (w : World) : (Go.method 345 183 (.agg #[h]) "Elem").run Tryz.prog w = .ok (201, .agg #[h]) w := by kernel_rfl
theorem Tryz.methodImplements (h : Value) (w : World) : (Go.method 345 183 (.agg #[h]) "Implements").run Tryz.prog w = .ok (202, .agg #[h]) w := by kernel_rfl
theorem Tryz.methodAssignableTo (h : Value) (w : World) : (Go.method 345 183 (.agg #[h]) "AssignableTo").run Tryz.prog w = .ok (199, .agg #[h]) w := by kernel_rfl
theorem Tryz.elemP (w : World) : (ReflectliteType.method ReflectliteType.elem #[.agg #[.pointer (some ⟨2, 107, none⟩)]]).run Tryz.prog w = .ok (.iface 183 (.agg #[.pointer (some ⟨2, 105, none⟩)])) w := by kernel_rfl
theorem Tryz.implementsS (w : World) : (ReflectliteType.relation "Implements" ReflectliteType.implements_ #[.agg #[.pointer (some ⟨2, 105, none⟩)], .iface 183 (.agg #[.pointer (some ⟨2, 98, none⟩)])]).run Tryz.prog w = .ok (.bool true) w := by kernel_rfl
theorem Tryz.typeOfS (v : Value) (w : World) : (ReflectliteType.typeOf #[.iface 105 v]).run Tryz.prog w = .ok (.iface 183 (.agg #[.pointer (some ⟨2, 105, none⟩)])) w := by kernel_rfl
theorem Tryz.assignableS (w : World) : (ReflectliteType.relation "AssignableTo" ReflectliteType.assignableTo #[.agg #[.pointer (some ⟨2, 105, none⟩)], .iface 183 (.agg #[.pointer (some ⟨2, 105, none⟩)])]).run Tryz.prog w = .ok (.bool true) w := by kernel_rfl
theorem Tryz.valueOfS (x c : Int) (w : World) : (ReflectliteValue.unpack (.iface 105 (.agg #[.int .i64 x, .int .i64 c]))).run Tryz.prog w
    = .ok (.agg #[.pointer (some ⟨2, 105, none⟩), .pointer (some ⟨w.heap.size, 0, none⟩), .int .u64 153]) (w.alloc (.cells #[.int .i64 x, .int .i64 c] 105)) := by kernel_rfl
theorem Tryz.elemOfP (w : World) : (Rtype.elem? 107).run Tryz.prog w = .ok (some 105) w := by kernel_rfl
theorem Tryz.mkS (p : Addr) (w : World) : (ReflectliteValue.mk 105 p ReflectliteValue.flagAddr).run Tryz.prog w = .ok (.agg #[.pointer (some ⟨2, 105, none⟩), .pointer (some p), .int .u64 409]) w := by kernel_rfl
theorem Tryz.elemV (a p : Addr) (W : World) (ha : W.cell? a = some (.pointer (some p))) :
    (ReflectliteValue.method (ReflectliteValue.valueError "reflectlite.Value.Elem" 0) ReflectliteValue.elem #[.agg #[.pointer (some ⟨2, 107, none⟩), .pointer (some a), .int .u64 150]]).run Tryz.prog W
      = .ok (.agg #[.pointer (some ⟨2, 105, none⟩), .pointer (some p), .int .u64 409]) W := by
  rw [rlm]
  simp only [Sem.run_bind, Tryz.partsP, Result.andThen]
  simp [ReflectliteValue.elem, loadVar, isAgg, underlying, Tryz.underlying107, ha, Result.andThen, Tryz.elemOfP, Tryz.mkS]
theorem rls (v x : Value) : ReflectliteValue.set #[v, x] = (do
    let (some (dst, a, fl), some (src, b, _)) := (← ReflectliteValue.parts v, ← ReflectliteValue.parts x)
      | unsupported (.noEntry "extern/(internal/reflectlite.Value).Set.zeroValue")
    if fl / ReflectliteValue.flagAddr % 2 == 0 then unsupported (.noEntry "extern/(internal/reflectlite.Value).Set.unaddressable")
    let val ← loadVar src b
    if ← Rtype.directlyAssignable dst src then storeVar dst a val
    else if ← Rtype.implements dst src then
      if (← Rtype.kind src) == 20 then
        match val with
        | .nilIface => unsupported (.noEntry "extern/reflectlite: a nil value of one interface type handed on as a value of another")
        | _ => storeVar dst a val
      else storeVar dst a (.iface src val)
    else panicString ("reflectlite.Set: value of type " ++ (← Rtype.spelt src) ++ " is not assignable to type " ++ (← Rtype.spelt dst))
    pure (.tuple #[])) := rfl
theorem Tryz.partsSa (a : Addr) (w : World) : (ReflectliteValue.parts (.agg #[.pointer (some ⟨2, 105, none⟩), .pointer (some a), .int .u64 409])).run Tryz.prog w = .ok (some (105, a, 409)) w := by kernel_rfl
theorem Tryz.partsS (a : Addr) (w : World) : (ReflectliteValue.parts (.agg #[.pointer (some ⟨2, 105, none⟩), .pointer (some a), .int .u64 153])).run Tryz.prog w = .ok (some (105, a, 153)) w := by kernel_rfl
theorem Tryz.directS (w : World) : (Rtype.directlyAssignable 105 105).run Tryz.prog w = .ok true w := by kernel_rfl
theorem Tryz.infoBreak : (Tryz.prog.info? 105).map (·.size) = some 2 := by kernel_rfl
/-- (Value).Set: the variable at 'tb' gets what the Value's own variable at 'b' holds. -/
theorem Tryz.setS (tb b : Nat) (x c : Int) (u0 u1 : Value) (W : World) (hb : W.heap[b]? = some (.cells #[.int .i64 x, .int .i64 c] 105 (0, 0))) (ht : W.heap[tb]? = some (.cells #[u0, u1] 105 (0, 0))) :
    (ReflectliteValue.set #[.agg #[.pointer (some ⟨2, 105, none⟩), .pointer (some ⟨tb, 0, none⟩), .int .u64 409], .agg #[.pointer (some ⟨2, 105, none⟩), .pointer (some ⟨b, 0, none⟩), .int .u64 153]]).run Tryz.prog W
      = .ok (.tuple #[]) (W.setRow tb #[.int .i64 x, .int .i64 c]) := by
  have hl := run_loadVar_row (P := Tryz.prog) W b _ 105 #[.int .i64 x, .int .i64 c] (0, 0) _ hb Tryz.underlying105 rfl Tryz.infoBreak
  have hs := run_storeVar_row (P := Tryz.prog) W tb _ 105 #[u0, u1] #[.int .i64 x, .int .i64 c] ht Tryz.infoBreak rfl (by simp [Value.oneCell'])
  rw [rls]
  simp only [Sem.run_bind, Tryz.partsSa, Tryz.partsS, Result.andThen]
  simp [ReflectliteValue.flagAddr, hl, Result.andThen, Tryz.directS, hs]
/-- The package variable errors.errorType is as the program's text lays it. -/
def Gl (w : World) : Prop := w.cell? ⟨0, 0, none⟩ = some (.iface 183 (.agg #[.pointer (some ⟨2, 98, none⟩)]))
theorem Gl.later {w w' : World} (h : Gl w) (hb : Below w.heap.size w w') : Gl w' := cell_later hb h
set_option maxHeartbeats 8000000 in
theorem as_hit (x c : Int) (tb : Nat) (u0 u1 : Value) (w : World) (hg : Gl w) (ht : w.heap[tb]? = some (.cells #[u0, u1] 105 (0, 0))) :
    Calls Tryz.prog 64 #[.iface 105 (.agg #[.int .i64 x, .int .i64 c]), .iface 107 (.pointer (some ⟨tb, 0, none⟩))] w fun ev w' => ev = .returned (.bool true) ∧ w' = ((((w.alloc (.cells #[.pointer (some ⟨tb, 0, none⟩)] 107)).alloc (.cells #[.pointer (some ⟨2, 107, none⟩), .pointer (some ⟨w.heap.size, 0, none⟩), .int .u64 150] 146)).alloc (.cells #[.pointer (some ⟨2, 107, none⟩), .pointer (some ⟨w.heap.size, 0, none⟩), .int .u64 150] 146)).alloc (.cells #[.int .i64 x, .int .i64 c] 105)).setRow tb #[.int .i64 x, .int .i64 c] := by
  have h6 := @run_callFunc_extern Tryz.prog 103 _ (fun args => ReflectliteValue.unpack (args.getD 0 (.tuple #[]))) Tryz.func103 (by kernel_rfl) (by kernel_rfl) (by kernel_rfl) (by kernel_rfl)
  have h7 := @run_callFunc_extern Tryz.prog 104 _ (ReflectliteValue.methodAny (ReflectliteValue.valueError "reflectlite.Value.Type" 0) (fun t _ _ _ => ReflectliteType.toType t)) Tryz.func104 (by kernel_rfl) (by kernel_rfl) (by kernel_rfl) (by kernel_rfl)
  have h8 := @run_callFunc_extern Tryz.prog 105 _ (ReflectliteValue.method (ReflectliteValue.valueError "reflectlite.Value.IsNil" 0) ReflectliteValue.isNil) Tryz.func105 (by kernel_rfl) (by kernel_rfl) (by kernel_rfl) (by kernel_rfl)
  have h27 := @run_callFunc_extern Tryz.prog 189 _ (ReflectliteType.abiMethod fun t => do pure (.int .u8 (← Rtype.kind t))) Tryz.func189 (by kernel_rfl) (by kernel_rfl) (by kernel_rfl) (by kernel_rfl)
  have h37 := @run_callFunc_extern Tryz.prog 201 _ (ReflectliteType.method ReflectliteType.elem) Tryz.func201 (by kernel_rfl) (by kernel_rfl) (by kernel_rfl) (by kernel_rfl)
  have h38 := @run_callFunc_extern Tryz.prog 202 _ (ReflectliteType.relation "Implements" ReflectliteType.implements_) Tryz.func202 (by kernel_rfl) (by kernel_rfl) (by kernel_rfl) (by kernel_rfl)
  have h10 := @run_callFunc_extern Tryz.prog 140 _ ReflectliteType.typeOf Tryz.func140 (by kernel_rfl) (by kernel_rfl) (by kernel_rfl) (by kernel_rfl)
  have h35 := @run_callFunc_extern Tryz.prog 199 _ (ReflectliteType.relation "AssignableTo" ReflectliteType.assignableTo) Tryz.func199 (by kernel_rfl) (by kernel_rfl) (by kernel_rfl) (by kernel_rfl)
  have h11 := @run_callFunc_extern Tryz.prog 141 _ (ReflectliteValue.method (ReflectliteValue.valueError "reflectlite.Value.Elem" 0) ReflectliteValue.elem) Tryz.func141 (by kernel_rfl) (by kernel_rfl) (by kernel_rfl) (by kernel_rfl)
  have h12 := @run_callFunc_extern Tryz.prog 142 _ ReflectliteValue.set Tryz.func142 (by kernel_rfl) (by kernel_rfl) (by kernel_rfl) (by kernel_rfl)
  have tO := Tryz.typeOfS
  have mA := Tryz.methodAssignableTo
  have a25 := Tryz.assignableS
  have v25 := Tryz.valueOfS
  have f6 := Tryz.valueOfP
  have f7 := Tryz.typeP
  have mK := Tryz.methodKind
  have mE := Tryz.methodElem
  have mI := Tryz.methodImplements
  have k27 := Tryz.kindP
  have k25 := Tryz.kindS
  have e27 := Tryz.elemP
  have i25 := Tryz.implementsS
  have hg0 : w.cell? ⟨0, 0, none⟩ = some (.iface 183 (.agg #[.pointer (some ⟨2, 98, none⟩)])) := hg
  have n8 := Tryz.isNilP ⟨w.heap.size, 0, none⟩ ⟨tb, 0, none⟩ ((w.alloc (.cells #[.pointer (some ⟨tb, 0, none⟩)] 107)).alloc (.cells #[.pointer (some ⟨2, 107, none⟩), .pointer (some ⟨w.heap.size, 0, none⟩), .int .u64 150] 146)) (by simp)
  have hlt : 0 < w.heap.size := World.block_lt_of_cell? _ _ hg0
  have hg2 : ((w.alloc (.cells #[.pointer (some ⟨tb, 0, none⟩)] 107)).alloc (.cells #[.pointer (some ⟨2, 107, none⟩), .pointer (some ⟨w.heap.size, 0, none⟩), .int .u64 150] 146)).cell? ⟨0, 0, none⟩ = some (.iface 183 (.agg #[.pointer (some ⟨2, 98, none⟩)])) := cell_later (later2 _ _ _) hg0
  have htl : tb < w.heap.size := (Array.getElem?_eq_some_iff.1 ht).1
  have el := Tryz.elemV ⟨w.heap.size, 0, none⟩ ⟨tb, 0, none⟩ (((w.alloc (.cells #[.pointer (some ⟨tb, 0, none⟩)] 107)).alloc (.cells #[.pointer (some ⟨2, 107, none⟩), .pointer (some ⟨w.heap.size, 0, none⟩), .int .u64 150] 146)).alloc (.cells #[.pointer (some ⟨2, 107, none⟩), .pointer (some ⟨w.heap.size, 0, none⟩), .int .u64 150] 146)) (by rw [World.cell?_alloc_lt _ _ ⟨w.heap.size, 0, none⟩ (by simp; omega)]; simp)
  have hbx : ((((w.alloc (.cells #[.pointer (some ⟨tb, 0, none⟩)] 107)).alloc (.cells #[.pointer (some ⟨2, 107, none⟩), .pointer (some ⟨w.heap.size, 0, none⟩), .int .u64 150] 146)).alloc (.cells #[.pointer (some ⟨2, 107, none⟩), .pointer (some ⟨w.heap.size, 0, none⟩), .int .u64 150] 146)).alloc (.cells #[.int .i64 x, .int .i64 c] 105)).heap[w.heap.size + 1 + 1 + 1]? = some (.cells #[.int .i64 x, .int .i64 c] 105 (0, 0)) := by
    have := World.alloc_heap_new (((w.alloc (.cells #[.pointer (some ⟨tb, 0, none⟩)] 107)).alloc (.cells #[.pointer (some ⟨2, 107, none⟩), .pointer (some ⟨w.heap.size, 0, none⟩), .int .u64 150] 146)).alloc (.cells #[.pointer (some ⟨2, 107, none⟩), .pointer (some ⟨w.heap.size, 0, none⟩), .int .u64 150] 146)) (.cells #[.int .i64 x, .int .i64 c] 105)
    rw [World.size_alloc, World.size_alloc, World.size_alloc] at this
    exact this
  have hb4 : Below w.heap.size w ((((w.alloc (.cells #[.pointer (some ⟨tb, 0, none⟩)] 107)).alloc (.cells #[.pointer (some ⟨2, 107, none⟩), .pointer (some ⟨w.heap.size, 0, none⟩), .int .u64 150] 146)).alloc (.cells #[.pointer (some ⟨2, 107, none⟩), .pointer (some ⟨w.heap.size, 0, none⟩), .int .u64 150] 146)).alloc (.cells #[.int .i64 x, .int .i64 c] 105)) := (later2 _ _ _).trans ((later2 _ _ _).mono (by simp; omega))
  have st := Tryz.setS tb (w.heap.size + 1 + 1 + 1) x c u0 u1 _ hbx ((hb4.block tb htl).trans ht)
  go_enter Tryz.func64, Tryz.ntmps64
  go_wp2
  refine wp_loop_rounds 1 ?_
  rw [rounds_succ]
  go_wp2
  go_ret
  exact ⟨rfl, rfl⟩
end Go.Proofs.YtaibcofendjnnaaGreatDoor

namespace Go.Proofs.YtaibcofendjnnaaGreatDoor
open Go.RowKit
set_option maxRecDepth 100000

/-- IntResult of a code and a place. -/
abbrev intRV (r : Int × Int) : Value := .agg #[.int .i64 r.1, .int .i64 r.2]
theorem as_hit2 (w : World) (x c : Int) (hg : Gl w) :
    Calls Tryz.prog 64 #[.iface 105 (.agg #[.int .i64 x, .int .i64 c]), .iface 107 (.pointer (some ⟨w.heap.size, 0, none⟩))] (w.alloc (.cells #[.int .i64 0, .int .i64 0] 105)) fun ev w' => ev = .returned (.bool true) ∧ Below w.heap.size w w' ∧ w'.cell? ⟨w.heap.size, 1, none⟩ = some (.int .i64 c) := by
  have h0 : (w.alloc (.cells #[.int .i64 0, .int .i64 0] 105)).heap[w.heap.size]? = some (.cells #[.int .i64 0, .int .i64 0] 105 (0, 0)) := World.alloc_heap_new w _
  refine (as_hit x c w.heap.size _ _ _ (hg.later (later1 _ _)) h0).mono ?_
  rintro e w' ⟨rfl, rfl⟩
  have hb1 : Below w.heap.size w (w.alloc (.cells #[.int .i64 0, .int .i64 0] 105)) := later1 _ _
  generalize (w.alloc (.cells #[.int .i64 0, .int .i64 0] 105)) = W at *
  have hlt : w.heap.size < W.heap.size := (Array.getElem?_eq_some_iff.1 h0).1
  have hb4 : ∀ o1 o2 o3 o4 : Obj, Below W.heap.size W ((((W.alloc o1).alloc o2).alloc o3).alloc o4) := fun o1 o2 o3 o4 => (later2 _ _ _).trans ((later2 _ _ _).mono (by simp; omega))
  refine ⟨rfl, below_setRow (hb1.trans ((hb4 _ _ _ _).mono hb1.size)) (Nat.le_refl _) _, ?_⟩
  have h4 := ((hb4 (.cells #[.pointer (some ⟨w.heap.size, 0, none⟩)] 107) (.cells #[.pointer (some ⟨2, 107, none⟩), .pointer (some ⟨W.heap.size, 0, none⟩), .int .u64 150] 146) (.cells #[.pointer (some ⟨2, 107, none⟩), .pointer (some ⟨W.heap.size, 0, none⟩), .int .u64 150] 146) (.cells #[.int .i64 x, .int .i64 c] 105)).block w.heap.size hlt).trans h0
  rw [cell_setRow_same _ _ _ _ _ _ _ h4]; rfl
theorem zeros2 (w : World) (t : TypeId) : OwnRow (w.alloc (.cells #[.int .i64 0, .int .i64 0] t)) w.heap.size 2 (fun _ => .int .i64 0) :=
  ⟨_, t, World.alloc_heap_new w _, by simp, fun i hi => by
    match i, hi with
    | 0, _ => rfl
    | 1, _ => rfl⟩
set_option maxHeartbeats 6400000 in
theorem walkNames_any (w : World) (aL : Option Addr) (nL cL : Nat) (vD : Value) (aD : Option Addr) (nD cD : Nat) (hvD : vD = .slice aD nD cD) (aN : Option Addr) (mN cN : Nat) (xs : List (List UInt8)) (hmN : xs.length = mN) (hmx : mN ≤ 1048577) (ds : List ID) (hdn : ds.length = nL) (h10 : nL ≤ 10) (h0L : 0 < nL) (hr : inRange ds) (h6 : ∀ i : Nat, (ds[i]?.getD id0).2.2.2.2.length ≤ 6) (hgl : Gl w) (hat : AtT w aN mN xs) (hai : AtI w aL nL ds) :
    Calls Tryz.prog 32 #[.agg #[.slice aL nL cL, vD], .slice aN mN cN] w fun e w' => e = .returned (intRV (wkR ds 0 xs)) ∧ Below w.heap.size w w' := by
  subst hvD
  have HR : Hid (wkR ds 0 xs = outB (brk 0 (wkT ds xs))) := by
    unfold Hid
    rw [← brk_end]
    exact (wk_end hr xs 0 (by omega)).symm
  have HB0 : Hid (Below w.heap.size w ((w.alloc (.cells #[.slice aL nL cL, .slice aD nD cD] 32)).alloc (.cells #[.int .i64 0, .int .i64 0] 28))) := later2 _ _ _
  have HX : Hid (Bx ((w.alloc (.cells #[.slice aL nL cL, .slice aD nD cD] 32)).alloc (.cells #[.int .i64 0, .int .i64 0] 28)) w.heap.size [.slice aL nL cL, .slice aD nD cD]) := (Bx.new w [.slice aL nL cL, .slice aD nD cD] _).later (later1 _ _)
  have HRS : Hid (OwnRow ((w.alloc (.cells #[.slice aL nL cL, .slice aD nD cD] 32)).alloc (.cells #[.int .i64 0, .int .i64 0] 28)) (w.heap.size + 1) 2 (fun _ => .int .i64 0)) := by
    have p2 := zeros2 (w.alloc (.cells #[.slice aL nL cL, .slice aD nD cD] 32)) 28
    rw [World.size_alloc] at p2
    exact p2
  have HEN : Hid (∀ W, Below w.heap.size w W → Calls Tryz.prog 62 #[.func (.func 102) #[] #[.pointer (some ⟨W.heap.size + 1, 0, none⟩), .pointer (some ⟨W.heap.size, 0, none⟩)]] ((W.alloc (.cells #[.slice aL nL cL] 30)).alloc (.cells #[.slice aN mN cN] 42)) fun e w' => e = .returned (.tuple #[.int .i64 (brk 0 (wkT ds xs)).1, errV (brk 0 (wkT ds xs)).2]) ∧ Below W.heap.size W w') := fun W hW => by
    have hb2 : Below W.heap.size W ((W.alloc (.cells #[.slice aL nL cL] 30)).alloc (.cells #[.slice aN mN cN] 42)) := later2 _ _ _
    have c0 : ((W.alloc (.cells #[.slice aL nL cL] 30)).alloc (.cells #[.slice aN mN cN] 42)).cell? ⟨W.heap.size, 0, none⟩ = some (.slice aL nL cL) := cell_later (later1 _ _) (by rw [new_cell]; rfl)
    have c1 : ((W.alloc (.cells #[.slice aL nL cL] 30)).alloc (.cells #[.slice aN mN cN] 42)).cell? ⟨W.heap.size + 1, 0, none⟩ = some (.slice aN mN cN) := by
      have := new_cell (W.alloc (.cells #[.slice aL nL cL] 30)) #[.slice aN mN cN] 42 0
      rw [World.size_alloc] at this
      rw [this]; rfl
    refine (endOf_any _ (W.heap.size + 1) W.heap.size aN mN cN xs hmN hmx aL nL cL ds hdn h10 h0L hr h6 (by simp) (by simp; omega) c1 c0 ((hat.later hW).later hb2) ((hai.later hW).later hb2)).mono ?_
    rintro e w' ⟨rfl, hb⟩
    exact ⟨rfl, hb2.trans (hb.mono hb2.size)⟩
  rw [HR.out]
  have HGL : Hid (Gl w) := hgl
  clear hat hai hr h6 hgl HR
  obtain ⟨⟨v, o⟩, hbr⟩ : ∃ q, brk 0 (wkT ds xs) = q := ⟨_, rfl⟩
  rw [hbr] at HEN ⊢
  clear hbr
  cases o with
  | none =>
    dsimp only [errV, outB] at HEN ⊢
    go_enter Tryz.func32, Tryz.ntmps32
    have x0 := HX.out 0 _ rfl
    have x1 := HX.out 1 _ rfl
    go_wp2_with fail
    generalize ((w.alloc (.cells #[.slice aL nL cL, .slice aD nD cD] 32)).alloc (.cells #[.int .i64 0, .int .i64 0] 28)) = W0 at *
    refine (walk_any W0 aL nL cL aN mN cN).mono ?_
    rintro e w1 ⟨rfl, rfl⟩
    go_wp2_with fail
    refine (HEN.out W0 HB0.out).mono ?_
    rintro e w2 ⟨rfl, hb2⟩
    have hrr := HRS.out.later hb2
    have hz2 : w.heap.size + 1 < w2.heap.size := hrr.lt
    have t0 : w2.cell? ⟨w.heap.size + 1, 0, none⟩ = some (.int .i64 0) := hrr.cell (i := 0) (by omega)
    have t1 : w2.cell? ⟨w.heap.size + 1, 1, none⟩ = some (.int .i64 0) := hrr.cell (i := 1) (by omega)
    have s0 := hrr.frozen 0
    have s1 := hrr.frozen 1
    have HB2 : Hid (Below w.heap.size w w2) := HB0.out.trans (hb2.mono HB0.out.size)
    clear hb2 hrr x0 x1
    go_wp2_with fail
    refine (as_nil _ _).mono ?_
    rintro e w3 ⟨rfl, rfl⟩
    go_wp2
    exact bodyPost_ret (v := intRV (0, v)) (by simp [results, Tryz.results32, go_sem, t0, t1, hz2]) rfl ⟨rfl, ((HB2.out.setCell (p := ⟨w.heap.size + 1, 0, none⟩) (by show w.heap.size ≤ w.heap.size + 1; omega) _).setCell (p := ⟨w.heap.size + 1, 1, none⟩) (by show w.heap.size ≤ w.heap.size + 1; omega) _).alloc (by have := HB2.out.size; simpa [World.setCell] using this) _⟩
  | some p =>
    obtain ⟨p1, p2⟩ := p
    dsimp only [errV, outB] at HEN ⊢
    go_enter Tryz.func32, Tryz.ntmps32
    have x0 := HX.out 0 _ rfl
    have x1 := HX.out 1 _ rfl
    go_wp2_with fail
    generalize ((w.alloc (.cells #[.slice aL nL cL, .slice aD nD cD] 32)).alloc (.cells #[.int .i64 0, .int .i64 0] 28)) = W0 at *
    refine (walk_any W0 aL nL cL aN mN cN).mono ?_
    rintro e w1 ⟨rfl, rfl⟩
    go_wp2_with fail
    refine (HEN.out W0 HB0.out).mono ?_
    rintro e w2 ⟨rfl, hb2⟩
    have HR2 : Hid (OwnRow w2 (w.heap.size + 1) 2 (fun _ => .int .i64 0)) := HRS.out.later hb2
    have HB2 : Hid (Below w.heap.size w w2) := HB0.out.trans (hb2.mono HB0.out.size)
    clear hb2 x0 x1
    go_wp2_with fail
    refine (as_hit2 w2 p1 p2 (HGL.out.later HB2.out)).mono ?_
    rintro e w3 ⟨rfl, hb3, hc3⟩
    have hrr := HR2.out.later hb3
    have t0 : w3.cell? ⟨w.heap.size + 1, 0, none⟩ = some (.int .i64 0) := hrr.cell (i := 0) (by omega)
    have t1 : w3.cell? ⟨w.heap.size + 1, 1, none⟩ = some (.int .i64 0) := hrr.cell (i := 1) (by omega)
    have s0 := hrr.frozen 0
    have s1 := hrr.frozen 1
    have HB3 : Hid (Below w.heap.size w w3) := HB2.out.trans (hb3.mono HB2.out.size)
    clear hb3 hrr
    go_wp2
    exact bodyPost_ret (v := intRV (p2, 0)) (by simp [results, Tryz.results32, go_sem, t0, t1]) rfl ⟨rfl, (HB3.out.setCell (p := ⟨w.heap.size + 1, 0, none⟩) (by show w.heap.size ≤ w.heap.size + 1; omega) _).setCell (p := ⟨w.heap.size + 1, 1, none⟩) (by show w.heap.size ≤ w.heap.size + 1; omega) _⟩
end Go.Proofs.YtaibcofendjnnaaGreatDoor

namespace Go.Proofs.YtaibcofendjnnaaGreatDoor
open Go.RowKit
set_option maxRecDepth 100000

theorem sufB_at {l : List UInt8} {m : Nat} (h : l.length = m + 1) : sufB l = (l[m]?.getD 0 == 47) := by
  unfold sufB
  rw [List.getLast?_eq_getElem?, h, Nat.add_sub_cancel, List.getElem?_eq_getElem (by omega)]
  rfl
theorem preB_at {l : List UInt8} (h : 0 < l.length) : preB l = (l[0]?.getD 0 == 47) := by
  cases l with
  | nil => simp at h
  | cons b t => rfl
theorem byte_eq (b : UInt8) : ((b.toNat : Int) == 47) = (b == 47) := by
  by_cases h : b = 47
  · subst h; rfl
  · have hne : b.toNat ≠ 47 := fun e => h (UInt8.toNat_inj.1 (by rw [e]; rfl))
    have h1 : (b == 47) = false := by simpa using h
    rw [h1]
    simp; omega
theorem namesL_cut {p : List UInt8} (h0 : topB p = false) (hp : 0 < p.length) : namesL p = cutB (p.drop 1) := by
  unfold namesL
  rw [if_neg (by simpa [topB] using h0)]
  cases p with
  | nil => simp at hp
  | cons b t => rfl
/-- Where the specification's split sees a fault of the path's form. -/
def formBad (p : List UInt8) : Prop := p.length = 0 ∨ ¬ p[0]?.getD 0 = 47 ∨ p[p.length - 1]?.getD 0 = 47
theorem pathF_form {p : List UInt8} (h30 : ¬ 30 < p.length) (ht : topB p = false) (hb : formBad p) : pathF p = 5 := by
  unfold pathF
  rw [if_neg h30]
  rcases Nat.eq_zero_or_pos p.length with h0 | h0
  · have : p = [] := List.length_eq_zero_iff.1 h0
    subst this; rfl
  · rcases hb with hb | hb | hb
    · omega
    · rw [preB_at h0, if_neg (by simpa using hb)]
    · have hs : sufB p = true := by rw [sufB_at (m := p.length - 1) (by omega), hb]; rfl
      split
      · rw [if_pos ⟨hs, ht⟩]
      · rfl
theorem pathF_good {p : List UInt8} (h30 : ¬ 30 < p.length) (ht : topB p = false) (hb : ¬ formBad p) : pathF p = namesC (cutB (p.drop 1)) := by
  unfold formBad at hb
  have h0 : 0 < p.length := by omega
  have h1 : p[0]?.getD 0 = 47 := by
    by_cases e : p[0]?.getD 0 = 47
    · exact e
    · exact absurd (Or.inr (Or.inl e)) hb
  have h2 : ¬ p[p.length - 1]?.getD 0 = 47 := fun e => hb (Or.inr (Or.inr e))
  unfold pathF namesC
  have hs : sufB p = false := by rw [sufB_at (m := p.length - 1) (by omega)]; simpa using h2
  have hq : preB p = true := by rw [preB_at h0, h1]; rfl
  rw [if_neg h30, if_pos hq, if_neg (by rw [hs]; simp), namesL_cut ht h0]

set_option maxHeartbeats 800000 in
theorem l3Split_form (w : World) (p : List UInt8) (h30 : ¬ 30 < p.length) (ht : topB p = false) (hb : formBad p) :
    Calls Tryz.prog 57 #[.string (mkB p)] w fun e w' => e = .returned (.tuple #[.slice none 0 0, .int .i64 5]) ∧ w' = w := by
  have hsz := mkB_size p
  have ht' : ((mkB p).toList == [47]) = false := by rw [mkB_toList]; exact ht
  have h30' : decide ((30 : Int) < (p.length : Int)) = false := by simp; omega
  have h30'' : decide (30 < p.length) = false := by simp; omega
  clear ht
  rcases Nat.eq_zero_or_pos p.length with h0 | h0
  · clear hb h30
    go_enter Tryz.func57, Tryz.ntmps57
    go_wp2
    go_ret2
    exact ⟨rfl, rfl⟩
  · have h0' : ((p.length : Int) == 0) = false := by rw [beq_eq_false_iff_ne]; omega
    have h0'' : (p.length == 0) = false := by rw [beq_eq_false_iff_ne]; omega
    have h0p : (p = []) = False := by simp; intro e; rw [e] at h0; simp at h0
    have hlt : 0 < (mkB p).size := by rw [hsz]; omega
    have hg := mkB_get p 0 hlt
    by_cases h1 : p[0]?.getD 0 = 47
    · have h2 : p[p.length - 1]?.getD 0 = 47 := by
        rcases hb with h | h | h
        · omega
        · exact absurd h1 h
        · exact h
      have hb0 : (((mkB p)[0].toNat : Int) != 47) = false := by rw [hg, h1]; rfl
      obtain ⟨m, hm⟩ : ∃ m, p.length = m + 1 := ⟨p.length - 1, by omega⟩
      have hlm : m < (mkB p).size := by rw [hsz]; omega
      have hb1 : (((mkB p)[m].toNat : Int) == 47) = true := by
        rw [mkB_get p m hlm, show m = p.length - 1 by omega, h2]; rfl
      have hwm : (p.length : Int) - 1 = (m : Int) := by omega
      have hwr : IntKind.i64.wrap (m : Int) = (m : Int) := by rw [IntKind.wrap_i64]; omega
      clear hb hg h1 h2 hm h30
      go_enter Tryz.func57, Tryz.ntmps57
      go_wp2
      go_ret2
      exact ⟨rfl, rfl⟩
    · have hb0 : (((mkB p)[0].toNat : Int) != 47) = true := by rw [bne, byte_eq, hg]; simpa using h1
      clear hb hg h1 h30
      go_enter Tryz.func57, Tryz.ntmps57
      go_wp2
      go_ret2
      exact ⟨rfl, rfl⟩
end Go.Proofs.YtaibcofendjnnaaGreatDoor

namespace Go.Proofs.YtaibcofendjnnaaGreatDoor
open Go.RowKit
set_option maxRecDepth 100000

theorem cutB_mem (t : List UInt8) (k : Nat) : ((cutB t)[k]?.getD []).length ≤ t.length := by
  induction t generalizing k with
  | nil => cases k <;> simp [cutB]
  | cons b l ih =>
    simp only [cutB]
    split
    · cases k with
      | zero => simp
      | succ k => have := ih k; simp at this ⊢; omega
    · cases h : cutB l with
      | nil => cases k <;> simp [cutHead]
      | cons x y =>
        have h1 := ih k
        rw [h] at h1
        cases k with
        | zero => simp [cutHead] at h1 ⊢; omega
        | succ k => simp [cutHead] at h1 ⊢; omega

set_option maxHeartbeats 800000 in
theorem l3Split_many (w : World) (p : List UInt8) (h30 : 30 < p.length) :
    Calls Tryz.prog 57 #[.string (mkB p)] w fun e w' => e = .returned (.tuple #[.slice none 0 0, .int .i64 2]) ∧ w' = w := by
  have hsz := mkB_size p
  have h30' : (30 : Int) < (p.length : Int) := by omega
  go_enter Tryz.func57, Tryz.ntmps57
  go_wp2
  go_ret2
  exact ⟨rfl, rfl⟩

set_option maxHeartbeats 800000 in
theorem l3Split_top (w : World) :
    Calls Tryz.prog 57 #[.string (mkB [47])] w fun e w' => ∃ a c, e = .returned (.tuple #[.slice a 0 c, .int .i64 0]) ∧ Below w.heap.size w w' ∧ w'.ownsRow w.heap.size 9 1 (.slice a 0 c) 0 [] := by
  have hsz : (mkB [47]).size = 1 := rfl
  have ht' : ((mkB [47]).toList == [47]) = true := by rw [mkB_toList]; rfl
  generalize mkB [47] = s at *
  go_enter Tryz.func57, Tryz.ntmps57
  go_wp2
  go_ret2
  exact ⟨_, _, rfl, later1 _ _, World.ownsRow_lit w #[] 0 (Nat.le_refl _) (by simp) rfl⟩

set_option maxHeartbeats 1600000 in
theorem l3Split_good (w : World) (p : List UInt8) (h30 : ¬ 30 < p.length) (ht : topB p = false) (hb : ¬ formBad p) :
    Calls Tryz.prog 57 #[.string (mkB p)] w fun e w' => Below w.heap.size w w' ∧ ((¬ namesC (cutB (p.drop 1)) = 0 ∧ e = .returned (.tuple #[.slice none 0 0, .int .i64 (namesC (cutB (p.drop 1)))])) ∨ (namesC (cutB (p.drop 1)) = 0 ∧ ∃ a c, e = .returned (.tuple #[.slice a (cutB (p.drop 1)).length c, .int .i64 0]) ∧ w'.ownsRow w.heap.size 9 1 (.slice a (cutB (p.drop 1)).length c) (cutB (p.drop 1)).length ((cutB (p.drop 1)).map strV))) := by
  have hsz := mkB_size p
  have ht' : ((mkB p).toList == [47]) = false := by rw [mkB_toList]; exact ht
  have h30' : decide ((30 : Int) < (p.length : Int)) = false := by simp; omega
  have h30'' : decide (30 < p.length) = false := by simp; omega
  unfold formBad at hb
  have h0 : 0 < p.length := by omega
  have h1 : p[0]?.getD 0 = 47 := by
    by_cases e : p[0]?.getD 0 = 47
    · exact e
    · exact absurd (Or.inr (Or.inl e)) hb
  have h2 : ¬ p[p.length - 1]?.getD 0 = 47 := fun e => hb (Or.inr (Or.inr e))
  have h0' : ((p.length : Int) == 0) = false := by rw [beq_eq_false_iff_ne]; omega
  have h0p : (p = []) = False := by simp; intro e; rw [e] at h0; simp at h0
  have hlt : 0 < (mkB p).size := by rw [hsz]; omega
  have hg := mkB_get p 0 hlt
  have hb0 : (((mkB p)[0].toNat : Int) != 47) = false := by rw [hg, h1]; rfl
  obtain ⟨m, hm⟩ : ∃ m, p.length = m + 1 := ⟨p.length - 1, by omega⟩
  have hlm : m < (mkB p).size := by rw [hsz]; omega
  have hb1 : (((mkB p)[m].toNat : Int) == 47) = false := by
    rw [byte_eq, mkB_get p m hlm, show m = p.length - 1 by omega]; simpa using h2
  have hwm : (p.length : Int) - 1 = (m : Int) := by omega
  have hwr : IntKind.i64.wrap (m : Int) = (m : Int) := by rw [IntKind.wrap_i64]; omega
  have hs1 : ∀ W, (Instr.slice 9 (.string (mkB p)) (some (.int .i64 1)) none none).run Tryz.prog W = .ok (.string (mkB (p.drop 1))) W := run_from p 1 (by omega)
  have HL : Hid ((p.drop 1).length ≤ 1048576) := by unfold Hid; simp; omega
  have HLC : Hid ((cutB (p.drop 1)).length ≤ 1048577) := by unfold Hid; have := cutB_len (p.drop 1); have := HL.out; omega
  have HLM : Hid (∀ k : Nat, ((cutB (p.drop 1))[k]?.getD []).length ≤ 1048576) := fun k => by have := cutB_mem (p.drop 1) k; have := HL.out; omega
  have HCA := fun W => l3Cut_any W (p.drop 1) HL.out
  have HCB : Hid (∀ W, Calls Tryz.prog 95 #[.string (mkB (p.drop 1)), .int .u8 47] W fun e w' => ∃ v, e = .returned v ∧ Below W.heap.size W w' ∧ w'.ownsRow W.heap.size 9 1 v (cutB (p.drop 1)).length ((cutB (p.drop 1)).map strV)) := HCA
  clear hb hg h1 h2 hm h30 ht HL HCA
  generalize p.drop 1 = t at *
  generalize cutB t = xs at *
  go_enter Tryz.func57, Tryz.ntmps57
  go_wp2_with fail
  refine (HCB.out _).mono ?_
  rintro e w1 ⟨v, rfl, hb1, hrow⟩
  have HW1 : Hid (Below w.heap.size w w1) := hb1
  have HROW : Hid (w1.ownsRow w.heap.size 9 1 v xs.length (xs.map strV)) := hrow
  obtain ⟨aV, cV, rfl⟩ := ownsRow_shape hrow
  have HAT : Hid (AtT w1 aV xs.length xs) := (ownsRow_at hrow).2
  clear hb1 hrow HCB
  go_wp2_with fail
  refine (l3Names_any _ _ _ _ xs rfl HLC.out HLM.out HAT.out).mono ?_
  by_cases hz : namesC xs = 0
  · rw [hz]
    have HZ : Hid (namesC xs = 0) := hz
    clear hz
    rintro e w2 ⟨rfl, rfl⟩
    go_wp2
    go_ret2
    exact ⟨HW1.out, Or.inr ⟨HZ.out, _, _, rfl, HROW.out⟩⟩
  · generalize hq : namesC xs = z at *
    have HQ : Hid (namesC xs = z) := hq
    clear hq
    have HZ : Hid (¬ z = 0) := hz
    have hz1 : (z != 0) = true := by simpa using hz
    clear hz
    rintro e w2 ⟨rfl, rfl⟩
    go_wp2
    go_ret2
    exact ⟨HW1.out, Or.inl ⟨by rw [HQ.out]; exact HZ.out, by rw [HQ.out]; rfl⟩⟩

theorem specSplit_bad (w : World) (p : List UInt8) (h : ¬ pathF p = 0) :
    Calls Tryz.prog 57 #[.string (mkB p)] w fun e w' => e = .returned (.tuple #[.slice none 0 0, .int .i64 (pathF p)]) ∧ Below w.heap.size w w' := by
  by_cases h30 : 30 < p.length
  · refine (l3Split_many w p h30).mono ?_
    rintro e w' ⟨rfl, rfl⟩
    exact ⟨by unfold pathF; rw [if_pos h30], Below.refl _ _⟩
  · cases ht : topB p
    · by_cases hb : formBad p
      · refine (l3Split_form w p h30 ht hb).mono ?_
        rintro e w' ⟨rfl, rfl⟩
        exact ⟨by rw [pathF_form h30 ht hb], Below.refl _ _⟩
      · refine (l3Split_good w p h30 ht hb).mono ?_
        rw [pathF_good h30 ht hb] at h ⊢
        rintro e w' ⟨h1, ⟨_, rfl⟩ | ⟨h2, _⟩⟩
        · exact ⟨rfl, h1⟩
        · exact absurd h2 h
    · have : p = [47] := by simpa [topB] using ht
      subst this
      exact absurd rfl h
theorem specSplit_ok (w : World) (p : List UInt8) (h : pathF p = 0) :
    Calls Tryz.prog 57 #[.string (mkB p)] w fun e w' => ∃ a c, e = .returned (.tuple #[.slice a (namesL p).length c, .int .i64 0]) ∧ Below w.heap.size w w' ∧ w'.ownsRow w.heap.size 9 1 (.slice a (namesL p).length c) (namesL p).length ((namesL p).map strV) := by
  by_cases h30 : 30 < p.length
  · unfold pathF at h; rw [if_pos h30] at h; omega
  · cases ht : topB p
    · by_cases hb : formBad p
      · rw [pathF_form h30 ht hb] at h; omega
      · refine (l3Split_good w p h30 ht hb).mono ?_
        have hp : 0 < p.length := by unfold formBad at hb; omega
        rw [pathF_good h30 ht hb] at h
        rw [namesL_cut ht hp]
        rintro e w' ⟨h1, ⟨h2, _⟩ | ⟨_, a, c, rfl, hrow⟩⟩
        · exact absurd h h2
        · exact ⟨a, c, rfl, h1, hrow⟩
    · have : p = [47] := by simpa [topB] using ht
      subst this
      refine (l3Split_top w).mono ?_
      rintro e w' ⟨a, c, rfl, hb, hr⟩
      exact ⟨a, c, rfl, hb, hr⟩
end Go.Proofs.YtaibcofendjnnaaGreatDoor

namespace Go.Proofs.YtaibcofendjnnaaGreatDoor
open Go.RowKit
set_option maxRecDepth 100000

def lastC (p : List UInt8) : Int := if pathF p = 0 then (if (namesL p).length = 0 then 4 else 0) else pathF p
def lastT (p : List UInt8) : List UInt8 := if pathF p = 0 then (namesL p)[(namesL p).length - 1]?.getD [] else []

theorem ownsRow_cap {w : World} {B : Nat} {e : TypeId} {a : Option Addr} {n m c : Nat} {xs : List Value} (h : w.ownsRow B e 1 (.slice a n c) m xs) : n ≤ c := by
  rcases h.2 with ⟨h1, _⟩ | ⟨g, cap, cur, h1, _, _, h2, _⟩ <;> simp only [Value.slice.injEq] at h1 <;> omega
theorem slice_takeT (a : Option Addr) (n c j : Nat) (hj : j ≤ c) :
    ∃ A C, (∀ W : World, (Instr.slice 42 (.slice a n c) none (some (.int .i64 (j : Int))) none).run Tryz.prog W = .ok (.slice A j C) W) ∧ ∀ (W : World) (xs : List (List UInt8)), j ≤ n → AtT W a n xs → AtT W A j xs := by
  obtain ⟨i, hi, _⟩ := info_parts Tryz.infoStr
  refine ⟨if c = 0 then a else a.map (·.add (0 * 1)), c - 0, fun W => ?_, fun W xs hjn h => ?_⟩
  · simp [Instr.slice, Instr.sliceBounds, Instr.sliceBound, asIntOf, run_underlying Tryz.underlying42, sizeOf, typeInfo, hi, hj]
  · by_cases hc : c = 0
    · intro k hk; omega
    · rw [if_neg hc]
      intro k hk
      obtain ⟨b, off, e, r⟩ := h k (by omega)
      subst e
      exact ⟨b, off, by simp [Addr.add], r⟩

set_option maxHeartbeats 1600000 in
theorem l3Last_bad (w : World) (p : List UInt8) (h : ¬ pathF p = 0) :
    Calls Tryz.prog 66 #[.string (mkB p)] w fun e w' => e = .returned (.tuple #[.slice none 0 0, .string ⟨#[]⟩, .int .i64 (pathF p)]) ∧ Below w.heap.size w w' := by
  have HC : Hid (Calls Tryz.prog 57 #[.string (mkB p)] w fun e w' => e = .returned (.tuple #[.slice none 0 0, .int .i64 (pathF p)]) ∧ Below w.heap.size w w') := specSplit_bad w p h
  generalize pathF p = z at *
  have hz1 : (z != 0) = true := by simpa using h
  clear h
  go_enter Tryz.func66, Tryz.ntmps66
  go_wp2_with fail
  refine HC.out.mono ?_
  rintro e w1 ⟨rfl, hb1⟩
  have HB : Hid (Below w.heap.size w w1) := hb1
  clear HC hb1
  go_wp2
  go_ret3
  exact ⟨rfl, HB.out⟩

set_option maxHeartbeats 1600000 in
theorem l3Last_none (w : World) (p : List UInt8) (h : pathF p = 0) (h0 : (namesL p).length = 0) :
    Calls Tryz.prog 66 #[.string (mkB p)] w fun e w' => e = .returned (.tuple #[.slice none 0 0, .string ⟨#[]⟩, .int .i64 4]) ∧ Below w.heap.size w w' := by
  have HC := specSplit_ok w p h
  rw [h0] at HC
  have HCC := HC.mono (R' := fun e w' => ∃ a c, e = .returned (.tuple #[.slice a 0 c, .int .i64 0]) ∧ Below w.heap.size w w') (by rintro e w' ⟨a, c, rfl, hb, _⟩; exact ⟨a, c, rfl, hb⟩)
  have HD : Hid (Calls Tryz.prog 57 #[.string (mkB p)] w fun e w' => ∃ a c, e = .returned (.tuple #[.slice a 0 c, .int .i64 0]) ∧ Below w.heap.size w w') := HCC
  clear h h0 HC HCC
  go_enter Tryz.func66, Tryz.ntmps66
  go_wp2_with fail
  refine HD.out.mono ?_
  rintro e w1 ⟨a, c, rfl, hb1⟩
  have HB : Hid (Below w.heap.size w w1) := hb1
  clear HD hb1
  go_wp2
  go_ret3
  exact ⟨rfl, HB.out⟩

set_option maxHeartbeats 1600000 in
theorem l3Last_ok (w : World) (p : List UInt8) (h : pathF p = 0) (m : Nat) (h0 : (namesL p).length = m + 1) :
    Calls Tryz.prog 66 #[.string (mkB p)] w fun e w' => ∃ A C, e = .returned (.tuple #[.slice A m C, .string (mkB ((namesL p)[m]?.getD [])), .int .i64 0]) ∧ Below w.heap.size w w' ∧ AtT w' A m (namesL p) := by
  have HC := specSplit_ok w p h
  have HD : Hid (Calls Tryz.prog 57 #[.string (mkB p)] w fun e w' => ∃ a c, e = .returned (.tuple #[.slice a (m + 1) c, .int .i64 0]) ∧ Below w.heap.size w w' ∧ w'.ownsRow w.heap.size 9 1 (.slice a (m + 1) c) (namesL p).length ((namesL p).map strV)) := HC.mono (by
    rintro e w' ⟨a, c, rfl, hb, hr⟩
    exact ⟨a, c, by rw [h0], hb, by rw [← h0]; exact hr⟩)
  have hml : m + 1 ≤ 1048577 := by
    have h2 : pathF p = if 30 < p.length then 2 else if preB p = true then (if sufB p = true ∧ topB p = false then 5 else if 6 < (namesL p).length then 2 else namesF (namesL p)) else 5 := rfl
    rw [h] at h2
    split at h2
    · omega
    · have := namesL_len p; omega
  clear h HC h0
  generalize namesL p = xs at *
  have hnz : (((m + 1 : Nat) : Int) == 0) = false := by rw [beq_eq_false_iff_ne]; omega
  have hnm : ((m + 1 : Nat) : Int) - 1 = (m : Int) := by omega
  have hwr : IntKind.i64.wrap (m : Int) = (m : Int) := by rw [IntKind.wrap_i64]; omega
  have hmm : m < m + 1 := by omega
  generalize hM : m + 1 = M at *
  go_enter Tryz.func66, Tryz.ntmps66
  go_wp2_with fail
  refine HD.out.mono ?_
  rintro e w1 ⟨a, c, rfl, hb1, hrow⟩
  have HB : Hid (Below w.heap.size w w1) := hb1
  have HAT : Hid (AtT w1 a M xs) := (ownsRow_at hrow).2
  obtain ⟨A, C, hrun, htk⟩ := slice_takeT a M c m (by have := ownsRow_cap hrow; omega)
  have HTK : Hid (AtT w1 A m xs) := htk w1 xs (by omega) HAT.out
  obtain ⟨b, off, rfl, c0⟩ := HAT.out m hmm
  generalize hy : xs[m]?.getD [] = y at c0 ⊢
  have HY : Hid (xs[m]?.getD [] = y) := hy
  clear HD hb1 hrow htk hy
  go_wp2
  go_quiet (fail)
  go_wp2
  go_ret3
  exact ⟨A, C, by rw [HY.out]; rfl, below_drewN HB.out nq, HTK.out.later (below_drewN (Below.refl _ _) nq)⟩
end Go.Proofs.YtaibcofendjnnaaGreatDoor

namespace Go.Proofs.YtaibcofendjnnaaGreatDoor
open Go.RowKit
set_option maxRecDepth 100000

/-- What splitting answers of a path: its code and its names. -/
def Spl (w w' : World) (p : List UInt8) (a : Option Addr) (c : Nat) : Prop := Below w.heap.size w w' ∧ AtT w' a (splitL p).length (splitL p) ∧ (splitL p).length ≤ c
theorem splitL_len (p : List UInt8) (hp : p.length ≤ 1048576) : (splitL p).length ≤ 1048577 := by
  unfold splitL
  split
  · have := namesL_len p; omega
  · simp
theorem specSplit_any (w : World) (p : List UInt8) :
    Calls Tryz.prog 57 #[.string (mkB p)] w fun e w' => ∃ a c, e = .returned (.tuple #[.slice a (splitL p).length c, .int .i64 (pathF p)]) ∧ Spl w w' p a c := by
  by_cases h : pathF p = 0
  · refine (specSplit_ok w p h).mono ?_
    rintro e w' ⟨a, c, rfl, hb, hr⟩
    have hs : splitL p = namesL p := if_pos h
    unfold Spl
    rw [hs, h]
    exact ⟨a, c, rfl, hb, (ownsRow_at hr).2, ownsRow_cap hr⟩
  · refine (specSplit_bad w p h).mono ?_
    rintro e w' ⟨rfl, hb⟩
    have hs : splitL p = [] := if_neg h
    unfold Spl
    rw [hs]
    exact ⟨none, 0, rfl, hb, fun k hk => by simp at hk, Nat.le_refl _⟩
theorem implSplit_any (w : World) (p : List UInt8) (hp : p.length ≤ 1048576) :
    Calls Tryz.prog 61 #[.string (mkB p)] w fun e w' => ∃ a c, e = .returned (.agg #[.int .i64 (pathF p), .slice a (splitL p).length c]) ∧ Spl w w' p a c := by
  by_cases h : pathF p = 0
  · refine (implSplit_ok w p hp h).mono ?_
    rintro e w' ⟨a, c, rfl, hb, hr⟩
    have hs : splitL p = namesL p := if_pos h
    unfold Spl
    rw [hs, h]
    exact ⟨a, c, rfl, hb, (ownsRow_at hr).2, ownsRow_cap hr⟩
  · refine (implSplit_bad w p hp h).mono ?_
    rintro e w' ⟨rfl, hb⟩
    have hs : splitL p = [] := if_neg h
    unfold Spl
    rw [hs]
    exact ⟨none, 0, rfl, hb, fun k hk => by simp at hk, Nat.le_refl _⟩
def belowB (p t : List UInt8) : Bool := decide (pathF p = 0) && (decide (pathF t = 0) && (decide ((splitL t).length < (splitL p).length) && decide ((splitL p).take (splitL t).length = splitL t)))
theorem take_no {xs ys : List (List UInt8)} {j : Nat} (hj : j < ys.length) (h : ¬ xs[j]?.getD [] = ys[j]?.getD []) : ¬ xs.take ys.length = ys := fun e => h (by
  have := congrArg (fun l => l[j]?.getD []) e
  simpa [List.getElem?_take, hj] using this)
theorem take_yes {xs ys : List (List UInt8)} (hl : ys.length < xs.length) (h : ∀ j, j < ys.length → xs[j]?.getD [] = ys[j]?.getD []) : xs.take ys.length = ys := by
  refine List.ext_getElem (by simp; omega) fun i h1 h2 => ?_
  have := h i h2
  rw [List.getElem?_eq_getElem (by omega), List.getElem?_eq_getElem h2] at this
  simpa using this

end Go.Proofs.YtaibcofendjnnaaGreatDoor

/- The program's walk: where a way ends (endOf). errors.As at the error of a way that breaks off: Go's own text of errors.As and errors.as is walked. After the kit's worked toy of errors.As, here with a struct in the place of the pointer. The program's walk: where names lead (walkNames). The program's WalkPath. -/
import Derived.Test.YtpfafcodihhdfaaGreatDoorM19
import Derived.LaidEql
import Derived.Stop.Asserts
import Derived.RowKitTokens
import Derived.Test.YtpfafcodihhdfaaGreatDoorM07
namespace Go.Proofs.YtpfafcodihhdfaaGreatDoor
open Go.RowKit Go.Shelf
set_option maxRecDepth 100000
attribute [local go_sem] Oper.semAt_some

theorem walk_any (w : World) (aL : Option Addr) (nL cL : Nat) (aN : Option Addr) (mN cN : Nat) : Calls Tryz.prog 131 #[.slice aL nL cL, .slice aN mN cN] w fun e w' => e = .returned (.func (.func 179) #[] #[.pointer (some ⟨w.heap.size + 1, 0, none⟩), .pointer (some ⟨w.heap.size, 0, none⟩)]) ∧ w' = (w.alloc (.cells #[.slice aL nL cL] 30)).alloc (.cells #[.slice aN mN cN] 42) := by
  go_enter Tryz.func131, Tryz.ntmps131
  go_wp2
  go_ret
  exact ⟨rfl, rfl⟩
theorem walk_stops (n : Nat) (hn : 2 ≤ n) (Bn Bl : Nat) (aN : Option Addr) (mN cN : Nat) (xs : List (List UInt8)) (hmN : xs.length = mN) (hmx : mN ≤ 1048577) (aL : Option Addr) (nL cL : Nat) (ds : List ID) (hdn : ds.length = nL) (h10 : nL ≤ 10) (h0L : 0 < nL) (hr : inRange ds) (h6 : ∀ i : Nat, (ds[i]?.getD id0).2.2.2.2.length ≤ 6) (w0 w : World) (hw : Below w0.heap.size w0 w) (_hBn : Bn < w0.heap.size) (_hBl : Bl < w0.heap.size)
    (hcn : w0.cell? ⟨Bn, 0, none⟩ = some (.slice aN mN cN)) (hcl : w0.cell? ⟨Bl, 0, none⟩ = some (.slice aL nL cL)) (hat : AtT w0 aN mN xs) (hai : AtI w0 aL nL ds) :
    SeqStopsK Fence.wide n Tryz.prog 179 #[.pointer (some ⟨Bn, 0, none⟩), .pointer (some ⟨Bl, 0, none⟩)] encW (Below w0.heap.size) (fun ys => ys = wkT ds xs) (fun pre => pre <+: wkT ds xs) (wkT ds xs).length w := fun l J Jx W hW hJ _ hY h0 =>
  walk1_in n hn l Bn Bl w0.heap.size aN mN cN xs hmN hmx aL nL cL ds hdn h10 h0L hr h6 J Jx hY W hJ (Nat.le_trans hw.size hW.size) (fun W' hb => by
    have h1 : Below w0.heap.size w0 W' := (hw.trans (hW.mono hw.size)).trans hb
    exact ⟨cell_later h1 hcn, cell_later h1 hcl, hat.later h1, hai.later h1⟩) h0
theorem boxed_own {W W' : World} {row : Option Nat} {B : Nat} {t : TypeId} {v : Value} (h : Boxed W B t v) (hg : W.grownBy W' row) (hr : ∀ r, row = some r → ∃ o : Obj, W.heap[r]? = some o ∧ o.isCells = false) : Boxed W' B t v :=
  h.kept hg fun e => by
    obtain ⟨o, ho, hc⟩ := hr B e.symm
    rw [show W.heap[B]? = _ from h] at ho
    cases ho
    cases hc
theorem boxOther {W : World} {B C : Nat} {t : TypeId} {v : Value} (h : Boxed W B t v) (u : Value) (hne : B ≠ C) : Boxed (W.setCell ⟨C, 0, none⟩ u) B t v := (Below.heap_setCell _ _ _ _ hne).trans h
/-- An error that is nil, or a break. -/
def errV : Option (Int × Int) → Value
  | none => .nilIface
  | some p => .iface 173 (.agg #[.int .i64 p.1, .int .i64 p.2])
set_option maxRecDepth 100000 in
set_option maxHeartbeats 4000000 in
theorem endOf_any (w : World) (Bn Bl : Nat) (aN : Option Addr) (mN cN : Nat) (xs : List (List UInt8)) (hmN : xs.length = mN) (hmx : mN ≤ 1048577) (aL : Option Addr) (nL cL : Nat) (ds : List ID) (hdn : ds.length = nL) (h10 : nL ≤ 10) (h0L : 0 < nL) (hr : inRange ds) (h6 : ∀ i : Nat, (ds[i]?.getD id0).2.2.2.2.length ≤ 6) (hBn : Bn < w.heap.size) (hBl : Bl < w.heap.size)
    (hcn : w.cell? ⟨Bn, 0, none⟩ = some (.slice aN mN cN)) (hcl : w.cell? ⟨Bl, 0, none⟩ = some (.slice aL nL cL)) (hat : AtT w aN mN xs) (hai : AtI w aL nL ds) :
    Calls Tryz.prog 130 #[.func (.func 179) #[] #[.pointer (some ⟨Bn, 0, none⟩), .pointer (some ⟨Bl, 0, none⟩)]] w fun e w' => e = .returned (.tuple #[.int .i64 (brk 0 (wkT ds xs)).1, errV (brk 0 (wkT ds xs)).2]) ∧ Below w.heap.size w w' := by
  refine (callsIn_wide (n := 5)).1 ?_
  refine callsIn_of_wp_marks Tryz.func130 rfl trivial ?_ rfl
  simp only [Tryz.ntmps130, List.size_toArray, List.length_cons, List.length_nil, Nat.reduceAdd, Nat.reduceSub, Array.replicate_succ, Array.replicate_zero, List.push_toArray, List.append_toArray, List.nil_append, List.cons_append]
  gi_wp2
  have hb0 : Boxed (((w.alloc (.cells #[.int .i64 0] 2)).alloc (.cells #[.nilIface] 166)).alloc (.cells #[.int .i64 0] 2)) w.heap.size 2 (.int .i64 0) := ((Boxed.new w 2 (.int .i64 0)).alloc _).alloc _
  have hb1 : Boxed (((w.alloc (.cells #[.int .i64 0] 2)).alloc (.cells #[.nilIface] 166)).alloc (.cells #[.int .i64 0] 2)) (w.heap.size + 1) 166 .nilIface := by
    have := (Boxed.new (w.alloc (.cells #[.int .i64 0] 2)) 166 .nilIface).alloc (.cells #[.int .i64 0] 2)
    rw [World.size_alloc] at this
    exact this
  have hb2 : Boxed (((w.alloc (.cells #[.int .i64 0] 2)).alloc (.cells #[.nilIface] 166)).alloc (.cells #[.int .i64 0] 2)) (w.heap.size + 1 + 1) 2 (.int .i64 0) := by
    have := Boxed.new ((w.alloc (.cells #[.int .i64 0] 2)).alloc (.cells #[.nilIface] 166)) 2 (.int .i64 0)
    rw [World.size_alloc, World.size_alloc] at this
    exact this
  have hB0 : Below w.heap.size w (((w.alloc (.cells #[.int .i64 0] 2)).alloc (.cells #[.nilIface] 166)).alloc (.cells #[.int .i64 0] 2)) := (later2 _ _ _).trans ((later1 _ _).mono (by simp; omega))
  refine wpIn_rangeFunc_ownF rfl (by omega) (gf := 179) (lb := #[.pointer (some ⟨Bn, 0, none⟩), .pointer (some ⟨Bl, 0, none⟩)]) rfl trivial (enters_of Tryz.func179 (by kernel_rfl) rfl)
    (walk_stops 4 (by omega) Bn Bl aN mN cN xs hmN hmx aL nL cL ds hdn h10 h0L hr h6 w _ hB0 hBn hBl hcn hcl hat hai) belowK_t (belowK_b (by simp; omega)) (Below.refl _ _) (fun _ => rfl)
    (fun pre W => (∃ v, brk 0 pre = (v, none) ∧ Boxed W w.heap.size 2 (.int .i64 0) ∧ Boxed W (w.heap.size + 1) 166 .nilIface ∧ Boxed W (w.heap.size + 1 + 1) 2 (.int .i64 v)) ∧ Below w.heap.size w W)
    (fun c pre W => (c = .ret ∧ ∃ p : Int × Int, brk 0 pre = (0, some p) ∧ Boxed W w.heap.size 2 (.int .i64 0) ∧ Boxed W (w.heap.size + 1) 166 (errV (some p))) ∧ Below w.heap.size w W)
    (OwnFrom.and (Own.from (fun s A B row hs hg hr => by
      obtain ⟨v, h1, h2, h3, h4⟩ := hs
      exact ⟨v, h1, boxed_own h2 hg hr, boxed_own h3 hg hr, boxed_own h4 hg hr⟩) _) (ownFrom_below (Nat.le_refl _) (by simp; omega)))
    (fun c => OwnFrom.and (Own.from (fun s A B row hs hg hr => by
      obtain ⟨h0, p, h1, h2, h3⟩ := hs
      exact ⟨h0, p, h1, boxed_own h2 hg hr, boxed_own h3 hg hr⟩) _) (ownFrom_below (Nat.le_refl _) (by simp; omega)))
    ⟨⟨0, rfl, hb0, hb1, hb2⟩, hB0⟩
    (fun x => { tmps := #[.func (.func 179) #[] #[.pointer (some ⟨Bn, 0, none⟩), .pointer (some ⟨Bl, 0, none⟩)], undef, .pointer (some ⟨w.heap.size, 0, none⟩), .pointer (some ⟨w.heap.size + 1, 0, none⟩), .pointer (some ⟨w.heap.size + 1 + 1, 0, none⟩), .int .i64 x.1, (encW x).getD 1 undef, .func (.func 179) #[] #[.pointer (some ⟨Bn, 0, none⟩), .pointer (some ⟨Bl, 0, none⟩)], .int .i64 x.1, (encW x).getD 1 undef, undef, undef, undef, undef, undef], defers := [] }) ?assign ?body ?done ?stop
  case assign =>
    rintro l ⟨x, c⟩ W K hK
    cases c
    all_goals
      gi_wp2
      simpa using hK
  case body =>
    rintro l pre ⟨x, c⟩ W ⟨⟨v, hv, q0, q1, q2⟩, hB⟩ hlt
    have HB : Hid (Below w.heap.size w W) := hB
    have N02 : Hid (w.heap.size ≠ w.heap.size + 1 + 1) := by unfold Hid; omega
    have N12 : Hid (w.heap.size + 1 ≠ w.heap.size + 1 + 1) := by unfold Hid; omega
    have N01 : Hid (w.heap.size ≠ w.heap.size + 1) := by unfold Hid; omega
    have N10 : Hid (w.heap.size + 1 ≠ w.heap.size) := by unfold Hid; omega
    have HK1 : Hid (KeepsOthers W (W.setCell ⟨w.heap.size + 1 + 1, 0, none⟩ (.int .i64 x))) := KeepsOthers.setCell _ _ _
    have HB1 : Hid (Below w.heap.size W (W.setCell ⟨w.heap.size + 1 + 1, 0, none⟩ (.int .i64 x))) := (Below.refl w.heap.size W).setCell (p := ⟨w.heap.size + 1 + 1, 0, none⟩) (by show w.heap.size ≤ w.heap.size + 1 + 1; omega) _
    have HQ1 : Hid (Boxed (W.setCell ⟨w.heap.size + 1 + 1, 0, none⟩ (.int .i64 x)) w.heap.size 2 (.int .i64 0) ∧ Boxed (W.setCell ⟨w.heap.size + 1 + 1, 0, none⟩ (.int .i64 x)) (w.heap.size + 1) 166 .nilIface ∧ Boxed (W.setCell ⟨w.heap.size + 1 + 1, 0, none⟩ (.int .i64 x)) (w.heap.size + 1 + 1) 2 (.int .i64 x)) := ⟨boxOther q0 _ N02.out, boxOther q1 _ N12.out, q2.set _⟩
    have HQ2 : Hid (∀ u : Value, KeepsOthers W ((W.setCell ⟨w.heap.size, 0, none⟩ (.int .i64 0)).setCell ⟨w.heap.size + 1, 0, none⟩ u) ∧ Below w.heap.size w ((W.setCell ⟨w.heap.size, 0, none⟩ (.int .i64 0)).setCell ⟨w.heap.size + 1, 0, none⟩ u) ∧ Boxed ((W.setCell ⟨w.heap.size, 0, none⟩ (.int .i64 0)).setCell ⟨w.heap.size + 1, 0, none⟩ u) w.heap.size 2 (.int .i64 0) ∧ Boxed ((W.setCell ⟨w.heap.size, 0, none⟩ (.int .i64 0)).setCell ⟨w.heap.size + 1, 0, none⟩ u) (w.heap.size + 1) 166 u) := fun u => ⟨(KeepsOthers.setCell _ _ _).trans (KeepsOthers.setCell _ _ _), (hB.setCell (p := ⟨w.heap.size, 0, none⟩) (Nat.le_refl _) _).setCell (p := ⟨w.heap.size + 1, 0, none⟩) (by show w.heap.size ≤ w.heap.size + 1; omega) _, boxOther (q0.set _) _ N01.out, (boxOther q1 _ N10.out).set _⟩
    have c0 := q0.cell
    have c1 := q1.cell
    have c2 := q2.cell
    have f0 := q0.frozen
    have f1 := q1.frozen
    have f2 := q2.frozen
    cases c with
    | none =>
      dsimp only [encW]
      gi_wp2
      exact ⟨HK1.out, HB1.out, ⟨x, brk_snoc_ok pre 0 v x hv, HQ1.out⟩, HB.out.trans HB1.out⟩
    | some c =>
      dsimp only [encW]
      gi_wp2
      have h2 := HQ2.out (.iface 173 (.agg #[.int .i64 x, .int .i64 c]))
      exact ⟨h2.1, ⟨rfl, (x, c), brk_snoc_no pre 0 v x c hv, h2.2.2⟩, h2.2.1⟩
  case done =>
    rintro D ys W hD hys ⟨⟨v, hv, q0, q1, q2⟩, hB⟩ hK
    have c0 := q0.cell
    have c1 := q1.cell
    have c2 := q2.cell
    have f0 := q0.frozen
    have f1 := q1.frozen
    have hDs : w.heap.size + 3 ≤ D := by simpa using hD
    have hK2 : ((W.setCell ⟨w.heap.size, 0, none⟩ (.int .i64 v)).setCell ⟨w.heap.size + 1, 0, none⟩ .nilIface).heap[D]? = some (.deferred (some [])) := by
      rw [Below.heap_setCell _ _ _ _ (show D ≠ w.heap.size + 1 by omega), Below.heap_setCell _ _ _ _ (show D ≠ w.heap.size by omega)]; exact hK
    have r0 := (boxOther (q0.set (.int .i64 v)) .nilIface (show w.heap.size ≠ w.heap.size + 1 by omega)).cell
    have r1 := ((boxOther q1 (.int .i64 v) (show w.heap.size + 1 ≠ w.heap.size by omega)).set .nilIface).cell
    have HB2 : Hid (Below w.heap.size w ((W.setCell ⟨w.heap.size, 0, none⟩ (.int .i64 v)).setCell ⟨w.heap.size + 1, 0, none⟩ .nilIface)) := (hB.setCell (p := ⟨w.heap.size, 0, none⟩) (Nat.le_refl _) _).setCell (p := ⟨w.heap.size + 1, 0, none⟩) (by show w.heap.size ≤ w.heap.size + 1; omega) _
    have HEE : Hid (brk 0 (wkT ds xs) = (v, none)) := by unfold Hid; rw [← hys]; exact hv
    clear hys hv hB
    gi_wp2
    generalize ((W.setCell ⟨w.heap.size, 0, none⟩ (.int .i64 v)).setCell ⟨w.heap.size + 1, 0, none⟩ .nilIface) = W2 at *
    have p0 := cell_kept r0 (grownBy_putObj' W2 D (.deferred none)) (fun r e => by cases e; exact ⟨_, hK2, rfl⟩)
    have p1 := cell_kept r1 (grownBy_putObj' W2 D (.deferred none)) (fun r e => by cases e; exact ⟨_, hK2, rfl⟩)
    refine ⟨by simp, .inl ⟨_, _, rfl, run_takeDeferred hK2, ?_⟩⟩
    exact ⟨.tuple #[.int .i64 v, .nilIface], by simp [results, Tryz.results130, go_sem, p0, p1], by rw [HEE.out]; rfl, HB2.out.trans (belowK_b (w := w) (Nat.le_refl _) W2 D _ _ (by omega) hK2 rfl rfl)⟩
  case stop =>
    rintro D c pre W hD hpre ⟨⟨rfl, p, hp, q0, q1⟩, hB⟩ hK
    have hDs : w.heap.size + 3 ≤ D := by simpa using hD
    have r0 := q0.cell
    have r1 := q1.cell
    have HEE : Hid (brk 0 (wkT ds xs) = (0, some p)) := by
      obtain ⟨r, hr2⟩ := hpre
      unfold Hid
      rw [← hr2]
      exact brk_app pre r 0 0 p hp
    obtain ⟨p1, p2⟩ := p
    simp only [errV] at r1
    clear hpre hp
    gi_wp2
    have k0 := cell_kept r0 (grownBy_putObj' W D (.deferred none)) (fun r e => by cases e; exact ⟨_, hK, rfl⟩)
    have k1 := cell_kept r1 (grownBy_putObj' W D (.deferred none)) (fun r e => by cases e; exact ⟨_, hK, rfl⟩)
    refine ⟨by simp, .inl ⟨_, _, rfl, run_takeDeferred hK, ?_⟩⟩
    exact ⟨.tuple #[.int .i64 0, errV (some (p1, p2))], by simp [results, Tryz.results130, go_sem, k0, k1, errV], by rw [HEE.out], hB.trans (belowK_b (w := w) (Nat.le_refl _) W D _ _ (by omega) hK rfl rfl)⟩
end Go.Proofs.YtpfafcodihhdfaaGreatDoor

namespace Go.Proofs.YtpfafcodihhdfaaGreatDoor
open Go.RowKit Go.Extern.Stop Go.Stop Go.Extern
set_option maxRecDepth 100000

theorem as_nil (t : Value) (w : World) :
    Calls Tryz.prog 132 #[.nilIface, t] w fun e w' => e = .returned (.bool false) ∧ w' = w := by
  go_enter Tryz.func132, Tryz.ntmps132
  go_wp2
  go_ret
  exact ⟨rfl, rfl⟩
theorem Tryz.valueOfP (t : Addr) (w : World) : (ReflectliteValue.unpack (.iface 175 (.pointer (some t)))).run Tryz.prog w
    = .ok (.agg #[.pointer (some ⟨2, 175, none⟩), .pointer (some ⟨w.heap.size, 0, none⟩), .int .u64 150]) (w.alloc (.cells #[.pointer (some t)] 175)) := by kernel_rfl
theorem Tryz.typeP (a : Addr) (w : World) : (ReflectliteValue.methodAny (ReflectliteValue.valueError "reflectlite.Value.Type" 0) (fun t _ _ _ => ReflectliteType.toType t) #[.agg #[.pointer (some ⟨2, 175, none⟩), .pointer (some a), .int .u64 150]]).run Tryz.prog w
    = .ok (.iface 247 (.agg #[.pointer (some ⟨2, 175, none⟩)])) w := by kernel_rfl
theorem Tryz.methodKind (h : Value) (w : World) : (Go.method 413 247 (.agg #[h]) "Kind").run Tryz.prog w = .ok (269, h) w := by kernel_rfl
theorem Tryz.kindP (w : World) : ((ReflectliteType.abiMethod fun t => (fun a : Nat => Value.int IntKind.u8 (a : Int)) <$> Rtype.kind t) #[.pointer (some ⟨2, 175, none⟩)]).run Tryz.prog w = .ok (.int .u8 22) w := by kernel_rfl
theorem Tryz.kindS (w : World) : ((ReflectliteType.abiMethod fun t => (fun a : Nat => Value.int IntKind.u8 (a : Int)) <$> Rtype.kind t) #[.pointer (some ⟨2, 173, none⟩)]).run Tryz.prog w = .ok (.int .u8 25) w := by kernel_rfl
theorem rlm (z : Sem Value) (f : TypeId → Addr → Nat → Nat → Sem Value) (v : Value) :
    ReflectliteValue.method z f #[v] = (do match ← ReflectliteValue.parts v with | none => z | some (t, a, fl) => f t a fl (fl % 32)) := rfl
theorem Tryz.partsP (a : Addr) (w : World) : (ReflectliteValue.parts (.agg #[.pointer (some ⟨2, 175, none⟩), .pointer (some a), .int .u64 150])).run Tryz.prog w = .ok (some (175, a, 150)) w := by kernel_rfl
theorem Tryz.isNilP (a p : Addr) (W : World) (ha : W.cell? a = some (.pointer (some p))) :
    (ReflectliteValue.method (ReflectliteValue.valueError "reflectlite.Value.IsNil" 0) ReflectliteValue.isNil #[.agg #[.pointer (some ⟨2, 175, none⟩), .pointer (some a), .int .u64 150]]).run Tryz.prog W = .ok (.bool false) W := by
  rw [rlm]
  simp only [Sem.run_bind, Tryz.partsP, Result.andThen]
  simp [ReflectliteValue.isNil, loadVar, isAgg, underlying, Tryz.underlying175, ha, Result.andThen]
theorem Tryz.methodElem (h : Value) (w : World) : (Go.method 413 247 (.agg #[h]) "Elem").run Tryz.prog w = .ok (279, .agg #[h]) w := by kernel_rfl
theorem Tryz.methodImplements (h : Value) (w : World) : (Go.method 413 247 (.agg #[h]) "Implements").run Tryz.prog w = .ok (280, .agg #[h]) w := by kernel_rfl
theorem Tryz.methodAssignableTo (h : Value) (w : World) : (Go.method 413 247 (.agg #[h]) "AssignableTo").run Tryz.prog w = .ok (277, .agg #[h]) w := by kernel_rfl
theorem Tryz.elemP (w : World) : (ReflectliteType.method ReflectliteType.elem #[.agg #[.pointer (some ⟨2, 175, none⟩)]]).run Tryz.prog w = .ok (.iface 247 (.agg #[.pointer (some ⟨2, 173, none⟩)])) w := by kernel_rfl
theorem Tryz.implementsS (w : World) : (ReflectliteType.relation "Implements" ReflectliteType.implements_ #[.agg #[.pointer (some ⟨2, 173, none⟩)], .iface 247 (.agg #[.pointer (some ⟨2, 166, none⟩)])]).run Tryz.prog w = .ok (.bool true) w := by kernel_rfl
theorem Tryz.typeOfS (v : Value) (w : World) : (ReflectliteType.typeOf #[.iface 173 v]).run Tryz.prog w = .ok (.iface 247 (.agg #[.pointer (some ⟨2, 173, none⟩)])) w := by kernel_rfl
theorem Tryz.assignableS (w : World) : (ReflectliteType.relation "AssignableTo" ReflectliteType.assignableTo #[.agg #[.pointer (some ⟨2, 173, none⟩)], .iface 247 (.agg #[.pointer (some ⟨2, 173, none⟩)])]).run Tryz.prog w = .ok (.bool true) w := by kernel_rfl
theorem Tryz.valueOfS (x c : Int) (w : World) : (ReflectliteValue.unpack (.iface 173 (.agg #[.int .i64 x, .int .i64 c]))).run Tryz.prog w
    = .ok (.agg #[.pointer (some ⟨2, 173, none⟩), .pointer (some ⟨w.heap.size, 0, none⟩), .int .u64 153]) (w.alloc (.cells #[.int .i64 x, .int .i64 c] 173)) := by kernel_rfl
theorem Tryz.elemOfP (w : World) : (Rtype.elem? 175).run Tryz.prog w = .ok (some 173) w := by kernel_rfl
theorem Tryz.mkS (p : Addr) (w : World) : (ReflectliteValue.mk 173 p ReflectliteValue.flagAddr).run Tryz.prog w = .ok (.agg #[.pointer (some ⟨2, 173, none⟩), .pointer (some p), .int .u64 409]) w := by kernel_rfl
theorem Tryz.elemV (a p : Addr) (W : World) (ha : W.cell? a = some (.pointer (some p))) :
    (ReflectliteValue.method (ReflectliteValue.valueError "reflectlite.Value.Elem" 0) ReflectliteValue.elem #[.agg #[.pointer (some ⟨2, 175, none⟩), .pointer (some a), .int .u64 150]]).run Tryz.prog W
      = .ok (.agg #[.pointer (some ⟨2, 173, none⟩), .pointer (some p), .int .u64 409]) W := by
  rw [rlm]
  simp only [Sem.run_bind, Tryz.partsP, Result.andThen]
  simp [ReflectliteValue.elem, loadVar, isAgg, underlying, Tryz.underlying175, ha, Result.andThen, Tryz.elemOfP, Tryz.mkS]
theorem rls (v x : Value) : ReflectliteValue.set #[v, x] = (do
    let (some (dst, a, fl), some (src, b, _)) := (← ReflectliteValue.parts v, ← ReflectliteValue.parts x)
      | unsupported (.noEntry "extern/(internal/reflectlite.Value).Set.zeroValue")
    if fl / ReflectliteValue.flagAddr % 2 == 0 then unsupported (.noEntry "extern/(internal/reflectlite.Value).Set.unaddressable")
    let val ← loadVar src b
    if ← Rtype.directlyAssignable dst src then storeVar dst a val
    else if ← Rtype.implements dst src then
      if (← Rtype.kind src) == 20 then
        match val with
        | .nilIface => unsupported (.noEntry "extern/reflectlite: a nil value of one interface type handed on as a value of another")
        | _ => storeVar dst a val
      else storeVar dst a (.iface src val)
    else panicString ("reflectlite.Set: value of type " ++ (← Rtype.spelt src) ++ " is not assignable to type " ++ (← Rtype.spelt dst))
    pure (.tuple #[])) := rfl
theorem Tryz.partsSa (a : Addr) (w : World) : (ReflectliteValue.parts (.agg #[.pointer (some ⟨2, 173, none⟩), .pointer (some a), .int .u64 409])).run Tryz.prog w = .ok (some (173, a, 409)) w := by kernel_rfl
theorem Tryz.partsS (a : Addr) (w : World) : (ReflectliteValue.parts (.agg #[.pointer (some ⟨2, 173, none⟩), .pointer (some a), .int .u64 153])).run Tryz.prog w = .ok (some (173, a, 153)) w := by kernel_rfl
theorem Tryz.directS (w : World) : (Rtype.directlyAssignable 173 173).run Tryz.prog w = .ok true w := by kernel_rfl
theorem Tryz.infoBreak : (Tryz.prog.info? 173).map (·.size) = some 2 := by kernel_rfl
/-- (Value).Set: the variable at 'tb' gets what the Value's own variable at 'b' holds. -/
theorem Tryz.setS (tb b : Nat) (x c : Int) (u0 u1 : Value) (W : World) (hb : W.heap[b]? = some (.cells #[.int .i64 x, .int .i64 c] 173 (0, 0))) (ht : W.heap[tb]? = some (.cells #[u0, u1] 173 (0, 0))) :
    (ReflectliteValue.set #[.agg #[.pointer (some ⟨2, 173, none⟩), .pointer (some ⟨tb, 0, none⟩), .int .u64 409], .agg #[.pointer (some ⟨2, 173, none⟩), .pointer (some ⟨b, 0, none⟩), .int .u64 153]]).run Tryz.prog W
      = .ok (.tuple #[]) (W.setRow tb #[.int .i64 x, .int .i64 c]) := by
  have hl := run_loadVar_row (P := Tryz.prog) W b _ 173 #[.int .i64 x, .int .i64 c] (0, 0) _ hb Tryz.underlying173 rfl Tryz.infoBreak
  have hs := run_storeVar_row (P := Tryz.prog) W tb _ 173 #[u0, u1] #[.int .i64 x, .int .i64 c] ht Tryz.infoBreak rfl (by simp [Value.oneCell'])
  rw [rls]
  simp only [Sem.run_bind, Tryz.partsSa, Tryz.partsS, Result.andThen]
  simp [ReflectliteValue.flagAddr, hl, Result.andThen, Tryz.directS, hs]
/-- The package variable errors.errorType is as the program's text lays it. -/
def Gl (w : World) : Prop := w.cell? ⟨0, 0, none⟩ = some (.iface 247 (.agg #[.pointer (some ⟨2, 166, none⟩)]))
theorem Gl.later {w w' : World} (h : Gl w) (hb : Below w.heap.size w w') : Gl w' := cell_later hb h
set_option maxHeartbeats 8000000 in
theorem as_hit (x c : Int) (tb : Nat) (u0 u1 : Value) (w : World) (hg : Gl w) (ht : w.heap[tb]? = some (.cells #[u0, u1] 173 (0, 0))) :
    Calls Tryz.prog 132 #[.iface 173 (.agg #[.int .i64 x, .int .i64 c]), .iface 175 (.pointer (some ⟨tb, 0, none⟩))] w fun ev w' => ev = .returned (.bool true) ∧ w' = ((((w.alloc (.cells #[.pointer (some ⟨tb, 0, none⟩)] 175)).alloc (.cells #[.pointer (some ⟨2, 175, none⟩), .pointer (some ⟨w.heap.size, 0, none⟩), .int .u64 150] 215)).alloc (.cells #[.pointer (some ⟨2, 175, none⟩), .pointer (some ⟨w.heap.size, 0, none⟩), .int .u64 150] 215)).alloc (.cells #[.int .i64 x, .int .i64 c] 173)).setRow tb #[.int .i64 x, .int .i64 c] := by
  have h6 := @run_callFunc_extern Tryz.prog 180 _ (fun args => ReflectliteValue.unpack (args.getD 0 (.tuple #[]))) Tryz.func180 (by kernel_rfl) (by kernel_rfl) (by kernel_rfl) (by kernel_rfl)
  have h7 := @run_callFunc_extern Tryz.prog 181 _ (ReflectliteValue.methodAny (ReflectliteValue.valueError "reflectlite.Value.Type" 0) (fun t _ _ _ => ReflectliteType.toType t)) Tryz.func181 (by kernel_rfl) (by kernel_rfl) (by kernel_rfl) (by kernel_rfl)
  have h8 := @run_callFunc_extern Tryz.prog 182 _ (ReflectliteValue.method (ReflectliteValue.valueError "reflectlite.Value.IsNil" 0) ReflectliteValue.isNil) Tryz.func182 (by kernel_rfl) (by kernel_rfl) (by kernel_rfl) (by kernel_rfl)
  have h27 := @run_callFunc_extern Tryz.prog 269 _ (ReflectliteType.abiMethod fun t => do pure (.int .u8 (← Rtype.kind t))) Tryz.func269 (by kernel_rfl) (by kernel_rfl) (by kernel_rfl) (by kernel_rfl)
  have h37 := @run_callFunc_extern Tryz.prog 279 _ (ReflectliteType.method ReflectliteType.elem) Tryz.func279 (by kernel_rfl) (by kernel_rfl) (by kernel_rfl) (by kernel_rfl)
  have h38 := @run_callFunc_extern Tryz.prog 280 _ (ReflectliteType.relation "Implements" ReflectliteType.implements_) Tryz.func280 (by kernel_rfl) (by kernel_rfl) (by kernel_rfl) (by kernel_rfl)
  have h10 := @run_callFunc_extern Tryz.prog 217 _ ReflectliteType.typeOf Tryz.func217 (by kernel_rfl) (by kernel_rfl) (by kernel_rfl) (by kernel_rfl)
  have h35 := @run_callFunc_extern Tryz.prog 277 _ (ReflectliteType.relation "AssignableTo" ReflectliteType.assignableTo) Tryz.func277 (by kernel_rfl) (by kernel_rfl) (by kernel_rfl) (by kernel_rfl)
  have h11 := @run_callFunc_extern Tryz.prog 218 _ (ReflectliteValue.method (ReflectliteValue.valueError "reflectlite.Value.Elem" 0) ReflectliteValue.elem) Tryz.func218 (by kernel_rfl) (by kernel_rfl) (by kernel_rfl) (by kernel_rfl)
  have h12 := @run_callFunc_extern Tryz.prog 219 _ ReflectliteValue.set Tryz.func219 (by kernel_rfl) (by kernel_rfl) (by kernel_rfl) (by kernel_rfl)
  have tO := Tryz.typeOfS
  have mA := Tryz.methodAssignableTo
  have a25 := Tryz.assignableS
  have v25 := Tryz.valueOfS
  have f6 := Tryz.valueOfP
  have f7 := Tryz.typeP
  have mK := Tryz.methodKind
  have mE := Tryz.methodElem
  have mI := Tryz.methodImplements
  have k27 := Tryz.kindP
  have k25 := Tryz.kindS
  have e27 := Tryz.elemP
  have i25 := Tryz.implementsS
  have hg0 : w.cell? ⟨0, 0, none⟩ = some (.iface 247 (.agg #[.pointer (some ⟨2, 166, none⟩)])) := hg
  have n8 := Tryz.isNilP ⟨w.heap.size, 0, none⟩ ⟨tb, 0, none⟩ ((w.alloc (.cells #[.pointer (some ⟨tb, 0, none⟩)] 175)).alloc (.cells #[.pointer (some ⟨2, 175, none⟩), .pointer (some ⟨w.heap.size, 0, none⟩), .int .u64 150] 215)) (by simp)
  have hlt : 0 < w.heap.size := World.block_lt_of_cell? _ _ hg0
  have hg2 : ((w.alloc (.cells #[.pointer (some ⟨tb, 0, none⟩)] 175)).alloc (.cells #[.pointer (some ⟨2, 175, none⟩), .pointer (some ⟨w.heap.size, 0, none⟩), .int .u64 150] 215)).cell? ⟨0, 0, none⟩ = some (.iface 247 (.agg #[.pointer (some ⟨2, 166, none⟩)])) := cell_later (later2 _ _ _) hg0
  have htl : tb < w.heap.size := (Array.getElem?_eq_some_iff.1 ht).1
  have el := Tryz.elemV ⟨w.heap.size, 0, none⟩ ⟨tb, 0, none⟩ (((w.alloc (.cells #[.pointer (some ⟨tb, 0, none⟩)] 175)).alloc (.cells #[.pointer (some ⟨2, 175, none⟩), .pointer (some ⟨w.heap.size, 0, none⟩), .int .u64 150] 215)).alloc (.cells #[.pointer (some ⟨2, 175, none⟩), .pointer (some ⟨w.heap.size, 0, none⟩), .int .u64 150] 215)) (by rw [World.cell?_alloc_lt _ _ ⟨w.heap.size, 0, none⟩ (by simp; omega)]; simp)
  have hbx : ((((w.alloc (.cells #[.pointer (some ⟨tb, 0, none⟩)] 175)).alloc (.cells #[.pointer (some ⟨2, 175, none⟩), .pointer (some ⟨w.heap.size, 0, none⟩), .int .u64 150] 215)).alloc (.cells #[.pointer (some ⟨2, 175, none⟩), .pointer (some ⟨w.heap.size, 0, none⟩), .int .u64 150] 215)).alloc (.cells #[.int .i64 x, .int .i64 c] 173)).heap[w.heap.size + 1 + 1 + 1]? = some (.cells #[.int .i64 x, .int .i64 c] 173 (0, 0)) := by
    have := World.alloc_heap_new (((w.alloc (.cells #[.pointer (some ⟨tb, 0, none⟩)] 175)).alloc (.cells #[.pointer (some ⟨2, 175, none⟩), .pointer (some ⟨w.heap.size, 0, none⟩), .int .u64 150] 215)).alloc (.cells #[.pointer (some ⟨2, 175, none⟩), .pointer (some ⟨w.heap.size, 0, none⟩), .int .u64 150] 215)) (.cells #[.int .i64 x, .int .i64 c] 173)
    rw [World.size_alloc, World.size_alloc, World.size_alloc] at this
    exact this
  have hb4 : Below w.heap.size w ((((w.alloc (.cells #[.pointer (some ⟨tb, 0, none⟩)] 175)).alloc (.cells #[.pointer (some ⟨2, 175, none⟩), .pointer (some ⟨w.heap.size, 0, none⟩), .int .u64 150] 215)).alloc (.cells #[.pointer (some ⟨2, 175, none⟩), .pointer (some ⟨w.heap.size, 0, none⟩), .int .u64 150] 215)).alloc (.cells #[.int .i64 x, .int .i64 c] 173)) := (later2 _ _ _).trans ((later2 _ _ _).mono (by simp; omega))
  have st := Tryz.setS tb (w.heap.size + 1 + 1 + 1) x c u0 u1 _ hbx ((hb4.block tb htl).trans ht)
  go_enter Tryz.func132, Tryz.ntmps132
  go_wp2
  refine wp_loop_rounds 1 ?_
  rw [rounds_succ]
  go_wp2
  go_ret
  exact ⟨rfl, rfl⟩
end Go.Proofs.YtpfafcodihhdfaaGreatDoor

namespace Go.Proofs.YtpfafcodihhdfaaGreatDoor
open Go.RowKit
set_option maxRecDepth 100000

/-- IntResult of a code and a place. -/
abbrev intRV (r : Int × Int) : Value := .agg #[.int .i64 r.1, .int .i64 r.2]
theorem as_hit2 (w : World) (x c : Int) (hg : Gl w) :
    Calls Tryz.prog 132 #[.iface 173 (.agg #[.int .i64 x, .int .i64 c]), .iface 175 (.pointer (some ⟨w.heap.size, 0, none⟩))] (w.alloc (.cells #[.int .i64 0, .int .i64 0] 173)) fun ev w' => ev = .returned (.bool true) ∧ Below w.heap.size w w' ∧ w'.cell? ⟨w.heap.size, 1, none⟩ = some (.int .i64 c) := by
  have h0 : (w.alloc (.cells #[.int .i64 0, .int .i64 0] 173)).heap[w.heap.size]? = some (.cells #[.int .i64 0, .int .i64 0] 173 (0, 0)) := World.alloc_heap_new w _
  refine (as_hit x c w.heap.size _ _ _ (hg.later (later1 _ _)) h0).mono ?_
  rintro e w' ⟨rfl, rfl⟩
  have hb1 : Below w.heap.size w (w.alloc (.cells #[.int .i64 0, .int .i64 0] 173)) := later1 _ _
  generalize (w.alloc (.cells #[.int .i64 0, .int .i64 0] 173)) = W at *
  have hlt : w.heap.size < W.heap.size := (Array.getElem?_eq_some_iff.1 h0).1
  have hb4 : ∀ o1 o2 o3 o4 : Obj, Below W.heap.size W ((((W.alloc o1).alloc o2).alloc o3).alloc o4) := fun o1 o2 o3 o4 => (later2 _ _ _).trans ((later2 _ _ _).mono (by simp; omega))
  refine ⟨rfl, below_setRow (hb1.trans ((hb4 _ _ _ _).mono hb1.size)) (Nat.le_refl _) _, ?_⟩
  have h4 := ((hb4 (.cells #[.pointer (some ⟨w.heap.size, 0, none⟩)] 175) (.cells #[.pointer (some ⟨2, 175, none⟩), .pointer (some ⟨W.heap.size, 0, none⟩), .int .u64 150] 215) (.cells #[.pointer (some ⟨2, 175, none⟩), .pointer (some ⟨W.heap.size, 0, none⟩), .int .u64 150] 215) (.cells #[.int .i64 x, .int .i64 c] 173)).block w.heap.size hlt).trans h0
  rw [cell_setRow_same _ _ _ _ _ _ _ h4]; rfl
theorem zeros2 (w : World) (t : TypeId) : OwnRow (w.alloc (.cells #[.int .i64 0, .int .i64 0] t)) w.heap.size 2 (fun _ => .int .i64 0) :=
  ⟨_, t, World.alloc_heap_new w _, by simp, fun i hi => by
    match i, hi with
    | 0, _ => rfl
    | 1, _ => rfl⟩
set_option maxHeartbeats 6400000 in
theorem walkNames_any (w : World) (aL : Option Addr) (nL cL : Nat) (vD : Value) (aD : Option Addr) (nD cD : Nat) (hvD : vD = .slice aD nD cD) (aN : Option Addr) (mN cN : Nat) (xs : List (List UInt8)) (hmN : xs.length = mN) (hmx : mN ≤ 1048577) (ds : List ID) (hdn : ds.length = nL) (h10 : nL ≤ 10) (h0L : 0 < nL) (hr : inRange ds) (h6 : ∀ i : Nat, (ds[i]?.getD id0).2.2.2.2.length ≤ 6) (hgl : Gl w) (hat : AtT w aN mN xs) (hai : AtI w aL nL ds) :
    Calls Tryz.prog 76 #[.agg #[.slice aL nL cL, vD], .slice aN mN cN] w fun e w' => e = .returned (intRV (wkR ds 0 xs)) ∧ Below w.heap.size w w' := by
  subst hvD
  have HR : Hid (wkR ds 0 xs = outB (brk 0 (wkT ds xs))) := by
    unfold Hid
    rw [← brk_end]
    exact (wk_end hr xs 0 (by omega)).symm
  have HB0 : Hid (Below w.heap.size w ((w.alloc (.cells #[.slice aL nL cL, .slice aD nD cD] 32)).alloc (.cells #[.int .i64 0, .int .i64 0] 72))) := later2 _ _ _
  have HX : Hid (Bx ((w.alloc (.cells #[.slice aL nL cL, .slice aD nD cD] 32)).alloc (.cells #[.int .i64 0, .int .i64 0] 72)) w.heap.size [.slice aL nL cL, .slice aD nD cD]) := (Bx.new w [.slice aL nL cL, .slice aD nD cD] _).later (later1 _ _)
  have HRS : Hid (OwnRow ((w.alloc (.cells #[.slice aL nL cL, .slice aD nD cD] 32)).alloc (.cells #[.int .i64 0, .int .i64 0] 72)) (w.heap.size + 1) 2 (fun _ => .int .i64 0)) := by
    have p2 := zeros2 (w.alloc (.cells #[.slice aL nL cL, .slice aD nD cD] 32)) 72
    rw [World.size_alloc] at p2
    exact p2
  have HEN : Hid (∀ W, Below w.heap.size w W → Calls Tryz.prog 130 #[.func (.func 179) #[] #[.pointer (some ⟨W.heap.size + 1, 0, none⟩), .pointer (some ⟨W.heap.size, 0, none⟩)]] ((W.alloc (.cells #[.slice aL nL cL] 30)).alloc (.cells #[.slice aN mN cN] 42)) fun e w' => e = .returned (.tuple #[.int .i64 (brk 0 (wkT ds xs)).1, errV (brk 0 (wkT ds xs)).2]) ∧ Below W.heap.size W w') := fun W hW => by
    have hb2 : Below W.heap.size W ((W.alloc (.cells #[.slice aL nL cL] 30)).alloc (.cells #[.slice aN mN cN] 42)) := later2 _ _ _
    have c0 : ((W.alloc (.cells #[.slice aL nL cL] 30)).alloc (.cells #[.slice aN mN cN] 42)).cell? ⟨W.heap.size, 0, none⟩ = some (.slice aL nL cL) := cell_later (later1 _ _) (by rw [new_cell]; rfl)
    have c1 : ((W.alloc (.cells #[.slice aL nL cL] 30)).alloc (.cells #[.slice aN mN cN] 42)).cell? ⟨W.heap.size + 1, 0, none⟩ = some (.slice aN mN cN) := by
      have := new_cell (W.alloc (.cells #[.slice aL nL cL] 30)) #[.slice aN mN cN] 42 0
      rw [World.size_alloc] at this
      rw [this]; rfl
    refine (endOf_any _ (W.heap.size + 1) W.heap.size aN mN cN xs hmN hmx aL nL cL ds hdn h10 h0L hr h6 (by simp) (by simp; omega) c1 c0 ((hat.later hW).later hb2) ((hai.later hW).later hb2)).mono ?_
    rintro e w' ⟨rfl, hb⟩
    exact ⟨rfl, hb2.trans (hb.mono hb2.size)⟩
  rw [HR.out]
  have HGL : Hid (Gl w) := hgl
  clear hat hai hr h6 hgl HR
  obtain ⟨⟨v, o⟩, hbr⟩ : ∃ q, brk 0 (wkT ds xs) = q := ⟨_, rfl⟩
  rw [hbr] at HEN ⊢
  clear hbr
  cases o with
  | none =>
    dsimp only [errV, outB] at HEN ⊢
    go_enter Tryz.func76, Tryz.ntmps76
    have x0 := HX.out 0 _ rfl
    have x1 := HX.out 1 _ rfl
    go_wp2_with fail
    generalize ((w.alloc (.cells #[.slice aL nL cL, .slice aD nD cD] 32)).alloc (.cells #[.int .i64 0, .int .i64 0] 72)) = W0 at *
    refine (walk_any W0 aL nL cL aN mN cN).mono ?_
    rintro e w1 ⟨rfl, rfl⟩
    go_wp2_with fail
    refine (HEN.out W0 HB0.out).mono ?_
    rintro e w2 ⟨rfl, hb2⟩
    have hrr := HRS.out.later hb2
    have hz2 : w.heap.size + 1 < w2.heap.size := hrr.lt
    have t0 : w2.cell? ⟨w.heap.size + 1, 0, none⟩ = some (.int .i64 0) := hrr.cell (i := 0) (by omega)
    have t1 : w2.cell? ⟨w.heap.size + 1, 1, none⟩ = some (.int .i64 0) := hrr.cell (i := 1) (by omega)
    have s0 := hrr.frozen 0
    have s1 := hrr.frozen 1
    have HB2 : Hid (Below w.heap.size w w2) := HB0.out.trans (hb2.mono HB0.out.size)
    clear hb2 hrr x0 x1
    go_wp2_with fail
    refine (as_nil _ _).mono ?_
    rintro e w3 ⟨rfl, rfl⟩
    go_wp2
    exact bodyPost_ret (v := intRV (0, v)) (by simp [results, Tryz.results76, go_sem, t0, t1, hz2]) rfl ⟨rfl, ((HB2.out.setCell (p := ⟨w.heap.size + 1, 0, none⟩) (by show w.heap.size ≤ w.heap.size + 1; omega) _).setCell (p := ⟨w.heap.size + 1, 1, none⟩) (by show w.heap.size ≤ w.heap.size + 1; omega) _).alloc (by have := HB2.out.size; simpa [World.setCell] using this) _⟩
  | some p =>
    obtain ⟨p1, p2⟩ := p
    dsimp only [errV, outB] at HEN ⊢
    go_enter Tryz.func76, Tryz.ntmps76
    have x0 := HX.out 0 _ rfl
    have x1 := HX.out 1 _ rfl
    go_wp2_with fail
    generalize ((w.alloc (.cells #[.slice aL nL cL, .slice aD nD cD] 32)).alloc (.cells #[.int .i64 0, .int .i64 0] 72)) = W0 at *
    refine (walk_any W0 aL nL cL aN mN cN).mono ?_
    rintro e w1 ⟨rfl, rfl⟩
    go_wp2_with fail
    refine (HEN.out W0 HB0.out).mono ?_
    rintro e w2 ⟨rfl, hb2⟩
    have HR2 : Hid (OwnRow w2 (w.heap.size + 1) 2 (fun _ => .int .i64 0)) := HRS.out.later hb2
    have HB2 : Hid (Below w.heap.size w w2) := HB0.out.trans (hb2.mono HB0.out.size)
    clear hb2 x0 x1
    go_wp2_with fail
    refine (as_hit2 w2 p1 p2 (HGL.out.later HB2.out)).mono ?_
    rintro e w3 ⟨rfl, hb3, hc3⟩
    have hrr := HR2.out.later hb3
    have t0 : w3.cell? ⟨w.heap.size + 1, 0, none⟩ = some (.int .i64 0) := hrr.cell (i := 0) (by omega)
    have t1 : w3.cell? ⟨w.heap.size + 1, 1, none⟩ = some (.int .i64 0) := hrr.cell (i := 1) (by omega)
    have s0 := hrr.frozen 0
    have s1 := hrr.frozen 1
    have HB3 : Hid (Below w.heap.size w w3) := HB2.out.trans (hb3.mono HB2.out.size)
    clear hb3 hrr
    go_wp2
    exact bodyPost_ret (v := intRV (p2, 0)) (by simp [results, Tryz.results76, go_sem, t0, t1]) rfl ⟨rfl, (HB3.out.setCell (p := ⟨w.heap.size + 1, 0, none⟩) (by show w.heap.size ≤ w.heap.size + 1; omega) _).setCell (p := ⟨w.heap.size + 1, 1, none⟩) (by show w.heap.size ≤ w.heap.size + 1; omega) _⟩
end Go.Proofs.YtpfafcodihhdfaaGreatDoor

namespace Go.Proofs.YtpfafcodihhdfaaGreatDoor
open Go.RowKit
set_option maxRecDepth 100000

/-- A list of texts in memory from a block on. -/
def TxF (w : World) (B : Nat) (a : Option Addr) (n c : Nat) (xs : List (List UInt8)) : Prop := AtT w a n xs ∧ xs.length = n ∧ n ≤ c ∧ ∀ b off, a = some ⟨b, off, none⟩ → 0 < n → B ≤ b
theorem TxF.of_row {w : World} {B : Nat} {a : Option Addr} {n c : Nat} {xs : List (List UInt8)} (h : w.ownsRow B 9 1 (.slice a n c) xs.length (xs.map strV)) : TxF w B a n c xs := by
  have h1 := ownsRow_at h
  have h2 : n ≤ c := by
    have h3 := h
    rw [← h1.1] at h3
    exact ownsRow_cap h3
  refine ⟨h1.2, h1.1.symm, h2, fun b off e hn => ?_⟩
  obtain ⟨_, h | ⟨g, cap, cur, e2, hb, _⟩⟩ := h
  · simp only [Value.slice.injEq] at h; omega
  · simp only [Value.slice.injEq] at e2
    rw [e2.1] at e
    simp only [Option.some.injEq, Addr.mk.injEq] at e
    omega
theorem TxF.nil (w : World) (B : Nat) : TxF w B none 0 0 [] := ⟨fun k hk => by omega, rfl, Nat.le_refl _, fun _ _ e => by cases e⟩
theorem TxF.set {w : World} {B : Nat} {a : Option Addr} {n c : Nat} {xs : List (List UInt8)} (h : TxF w B a n c xs) {g : Nat} (hg : g < B) (o : Nat) (v : Value) : TxF (w.setCell ⟨g, o, none⟩ v) B a n c xs := by
  refine ⟨fun k hk => ?_, h.2.1, h.2.2.1, h.2.2.2⟩
  obtain ⟨b, off, e, hc⟩ := h.1 k hk
  have := h.2.2.2 b off e (by omega)
  exact ⟨b, off, e, (World.cell?_of_block (w := w) (Below.heap_setCell _ _ _ _ (show b ≠ g by omega))).trans hc⟩
/-- The codes that are asked first; what names there are. -/
def ntwC (d : FD) (p : List UInt8) : Int := if fsF d = 0 then pathF p else fsF d
def ntwL (d : FD) (p : List UInt8) : List (List UInt8) := if fsF d = 0 then splitL p else []
theorem rowN (w : World) (t : TypeId) : OwnRow (w.alloc (.cells #[.int .i64 0, .slice none 0 0] t)) w.heap.size 2 (fun i => if i = 0 then .int .i64 0 else .slice none 0 0) :=
  ⟨_, t, World.alloc_heap_new w _, by simp, fun i hi => by
    match i, hi with
    | 0, _ => rfl
    | 1, _ => rfl⟩
theorem implSplit_tx (w : World) (p : List UInt8) (hp : p.length ≤ 1048576) :
    Calls Tryz.prog 129 #[.string (mkB p)] w fun e w' => ∃ a n c, e = .returned (.agg #[.int .i64 (pathF p), .slice a n c]) ∧ Below w.heap.size w w' ∧ TxF w' w.heap.size a n c (splitL p) := by
  by_cases h : pathF p = 0
  · refine (implSplit_ok w p hp h).mono ?_
    rintro e w' ⟨a, c, rfl, hb, hr⟩
    have hs : splitL p = namesL p := if_pos h
    rw [hs, h]
    exact ⟨a, _, c, rfl, hb, TxF.of_row hr⟩
  · refine (implSplit_bad w p hp h).mono ?_
    rintro e w' ⟨rfl, hb⟩
    have hs : splitL p = [] := if_neg h
    rw [hs]
    exact ⟨none, 0, 0, rfl, hb, TxF.nil _ _⟩
set_option maxHeartbeats 3200000 in
theorem namesToWalk_any (w : World) (a1 : Option Addr) (n1 c1 : Nat) (a2 : Option Addr) (n2 c2 : Nat) (d : FD) (p : List UInt8) (h : FsR w (.slice a1 n1 c1) (.slice a2 n2 c2) d) (hs : sizeFs d ≤ 1048576) (hp : p.length ≤ 1048576) :
    Calls Tryz.prog 75 #[.agg #[.slice a1 n1 c1, .slice a2 n2 c2], .string (mkB p)] w fun e w' => ∃ a n c, e = .returned (.agg #[.int .i64 (ntwC d p), .slice a n c]) ∧ Below w.heap.size w w' ∧ TxF w' w.heap.size a n c (ntwL d p) := by
  have HB0 : Hid (Below w.heap.size w ((w.alloc (.cells #[.slice a1 n1 c1, .slice a2 n2 c2] 32)).alloc (.cells #[.int .i64 0, .slice none 0 0] 109))) := later2 _ _ _
  have HX : Hid (Bx ((w.alloc (.cells #[.slice a1 n1 c1, .slice a2 n2 c2] 32)).alloc (.cells #[.int .i64 0, .slice none 0 0] 109)) w.heap.size [.slice a1 n1 c1, .slice a2 n2 c2]) := (Bx.new w [.slice a1 n1 c1, .slice a2 n2 c2] _).later (later1 _ _)
  have HRS : Hid (OwnRow ((w.alloc (.cells #[.slice a1 n1 c1, .slice a2 n2 c2] 32)).alloc (.cells #[.int .i64 0, .slice none 0 0] 109)) (w.heap.size + 1) 2 (fun i => if i = 0 then .int .i64 0 else .slice none 0 0)) := by
    have p2 := rowN (w.alloc (.cells #[.slice a1 n1 c1, .slice a2 n2 c2] 32)) 109
    rw [World.size_alloc] at p2
    exact p2
  have HF : Hid (∀ W, Below w.heap.size w W → Calls Tryz.prog 44 #[.agg #[.slice a1 n1 c1, .slice a2 n2 c2]] W fun e w' => e = .returned (.int .i64 (fsF d)) ∧ Below W.heap.size W w') := fun W hW => implFsU W _ _ _ _ _ _ d (h.later hW) hs
  have HSP : Hid (∀ W, Calls Tryz.prog 129 #[.string (mkB p)] W fun e w' => ∃ a n c, e = .returned (.agg #[.int .i64 (pathF p), .slice a n c]) ∧ Below W.heap.size W w' ∧ TxF w' W.heap.size a n c (splitL p)) := fun W => implSplit_tx W p hp
  have HC : Hid (ntwC d p = if fsF d = 0 then pathF p else fsF d) := rfl
  have HL : Hid (ntwL d p = if fsF d = 0 then splitL p else []) := rfl
  rw [HC.out, HL.out]
  clear h hs hp HC HL
  generalize mkB p = s at *
  generalize pathF p = pc at *
  generalize splitL p = xs at *
  generalize fsF d = r at *
  have hz0 : ((w.alloc (.cells #[.slice a1 n1 c1, .slice a2 n2 c2] 32)).alloc (.cells #[.int .i64 0, .slice none 0 0] 109)).heap.size = w.heap.size + 2 := by simp
  by_cases hf : r = 0
  rotate_left
  · rw [if_neg hf, if_neg hf]
    have hb : (r != 0) = true := by simpa using hf
    clear hf
    have x0 := HX.out 0 _ rfl
    have x1 := HX.out 1 _ rfl
    go_enter Tryz.func75, Tryz.ntmps75
    go_wp2_with fail
    generalize ((w.alloc (.cells #[.slice a1 n1 c1, .slice a2 n2 c2] 32)).alloc (.cells #[.int .i64 0, .slice none 0 0] 109)) = W0 at *
    refine (HF.out _ HB0.out).mono ?_
    rintro e w1 ⟨rfl, hb1⟩
    have HB1 : Hid (Below w.heap.size w w1) := HB0.out.trans (hb1.mono HB0.out.size)
    have hrr := HRS.out.later hb1
    have t0 : w1.cell? ⟨w.heap.size + 1, 0, none⟩ = some (.int .i64 0) := hrr.cell (i := 0) (by omega)
    have t1 : w1.cell? ⟨w.heap.size + 1, 1, none⟩ = some (.slice none 0 0) := hrr.cell (i := 1) (by omega)
    have s0 := hrr.frozen 0
    have s1 := hrr.frozen 1
    clear hb1 hrr x0 x1
    go_wp2
    exact bodyPost_ret (v := .agg #[.int .i64 r, .slice none 0 0]) (by simp [results, Tryz.results75, go_sem, t0, t1]) rfl ⟨none, 0, 0, rfl, (HB1.out.setCell (p := ⟨w.heap.size + 1, 0, none⟩) (by show w.heap.size ≤ w.heap.size + 1; omega) _).setCell (p := ⟨w.heap.size + 1, 1, none⟩) (by show w.heap.size ≤ w.heap.size + 1; omega) _, TxF.nil _ _⟩
  · rw [if_pos hf, if_pos hf]
    have hb : (r != 0) = false := by simpa using hf
    clear hf
    have x0 := HX.out 0 _ rfl
    have x1 := HX.out 1 _ rfl
    go_enter Tryz.func75, Tryz.ntmps75
    go_wp2_with fail
    generalize ((w.alloc (.cells #[.slice a1 n1 c1, .slice a2 n2 c2] 32)).alloc (.cells #[.int .i64 0, .slice none 0 0] 109)) = W0 at *
    refine (HF.out _ HB0.out).mono ?_
    rintro e w1 ⟨rfl, hb1⟩
    have HB1 : Hid (Below w.heap.size w w1) := HB0.out.trans (hb1.mono HB0.out.size)
    have HR1 : Hid (OwnRow w1 (w.heap.size + 1) 2 (fun i => if i = 0 then .int .i64 0 else .slice none 0 0)) := HRS.out.later hb1
    have hs1 : w.heap.size + 2 ≤ w1.heap.size := by have := hb1.size; omega
    clear hb1 x0 x1
    go_wp2_with fail
    refine (HSP.out _).mono ?_
    rintro e w2 ⟨a, n, c, rfl, hb2, htx⟩
    have HB2 : Hid (Below w.heap.size w w2) := HB1.out.trans (hb2.mono HB1.out.size)
    have hrr := HR1.out.later hb2
    have t0 : w2.cell? ⟨w.heap.size + 1, 0, none⟩ = some (.int .i64 0) := hrr.cell (i := 0) (by omega)
    have t1 : w2.cell? ⟨w.heap.size + 1, 1, none⟩ = some (.slice none 0 0) := hrr.cell (i := 1) (by omega)
    have s0 := hrr.frozen 0
    have s1 := hrr.frozen 1
    have HTX : Hid (TxF ((w2.setCell ⟨w.heap.size + 1, 0, none⟩ (.int .i64 pc)).setCell ⟨w.heap.size + 1, 1, none⟩ (.slice a n c)) w.heap.size a n c xs) := by
      have h2 := (htx.set (g := w.heap.size + 1) (by omega) 0 (.int .i64 pc)).set (g := w.heap.size + 1) (by omega) 1 (.slice a n c)
      exact ⟨h2.1, h2.2.1, h2.2.2.1, fun b off e hn => by have := h2.2.2.2 b off e hn; omega⟩
    clear hb2 hrr htx
    go_wp2
    exact bodyPost_ret (v := .agg #[.int .i64 pc, .slice a n c]) (by simp [results, Tryz.results75, go_sem, t0, t1]) rfl ⟨a, n, c, rfl, (HB2.out.setCell (p := ⟨w.heap.size + 1, 0, none⟩) (by show w.heap.size ≤ w.heap.size + 1; omega) _).setCell (p := ⟨w.heap.size + 1, 1, none⟩) (by show w.heap.size ≤ w.heap.size + 1; omega) _, HTX.out⟩
/-- WalkPath. -/
def walkR (d : FD) (s : ByteArray) : Int × Int := if ntwC d s.data.toList = 0 then wkR d.1 0 (splitL s.data.toList) else (ntwC d s.data.toList, 0)
theorem TxF.later {w w' : World} {B : Nat} {a : Option Addr} {n c : Nat} {xs : List (List UInt8)} (h : TxF w B a n c xs) (hb : Below w.heap.size w w') : TxF w' B a n c xs := ⟨h.1.later hb, h.2⟩
theorem ents_six {d : FD} (h : FsOk d) (i : Nat) : (d.1[i]?.getD id0).2.2.2.2.length ≤ 6 := by have := h.six i; rw [entsOf_len] at this; exact this
theorem ntw_ok {d : FD} {p : List UInt8} (h : ntwC d p = 0) : fsF d = 0 ∧ pathF p = 0 := by
  unfold ntwC at h
  by_cases hf : fsF d = 0
  · rw [if_pos hf] at h; exact ⟨hf, h⟩
  · rw [if_neg hf] at h; exact absurd h hf
theorem walkNamesU (w : World) (a1 : Option Addr) (n1 c1 : Nat) (a2 : Option Addr) (n2 c2 : Nat) (d : FD) (h : FsR w (.slice a1 n1 c1) (.slice a2 n2 c2) d) (hok : FsOk d) (hgl : Gl w) (aN : Option Addr) (mN cN : Nat) (xs : List (List UInt8)) (hmN : xs.length = mN) (hmx : mN ≤ 1048577) (hat : AtT w aN mN xs) :
    Calls Tryz.prog 76 #[.agg #[.slice a1 n1 c1, .slice a2 n2 c2], .slice aN mN cN] w fun e w' => e = .returned (intRV (wkR d.1 0 xs)) ∧ Below w.heap.size w w' := by
  obtain ⟨_, _, e1, -, hAt⟩ := h.1.open'
  simp only [Value.slice.injEq] at e1
  obtain ⟨rfl, rfl, rfl⟩ := e1
  exact walkNames_any w a1 _ c1 _ a2 n2 c2 rfl aN mN cN xs hmN hmx d.1 rfl hok.ten hok.pos hok.rng (ents_six hok) hgl hat hAt
set_option maxHeartbeats 3200000 in
theorem implWalkU (w : World) (a1 : Option Addr) (n1 c1 : Nat) (a2 : Option Addr) (n2 c2 : Nat) (d : FD) (s : ByteArray) (h : FsR w (.slice a1 n1 c1) (.slice a2 n2 c2) d) (hs : sizeFs d ≤ 1048576) (hl : s.size ≤ 1048576) (hgl : Gl w) :
    Calls Tryz.prog 36 #[.agg #[.slice a1 n1 c1, .slice a2 n2 c2], .string s] w fun e w' => e = .returned (intRV (walkR d s)) ∧ Below w.heap.size w w' := by
  have HB0 : Hid (Below w.heap.size w ((w.alloc (.cells #[.slice a1 n1 c1, .slice a2 n2 c2] 32)).alloc (.cells #[.int .i64 0, .int .i64 0] 72))) := later2 _ _ _
  have HX : Hid (Bx ((w.alloc (.cells #[.slice a1 n1 c1, .slice a2 n2 c2] 32)).alloc (.cells #[.int .i64 0, .int .i64 0] 72)) w.heap.size [.slice a1 n1 c1, .slice a2 n2 c2]) := (Bx.new w [.slice a1 n1 c1, .slice a2 n2 c2] _).later (later1 _ _)
  have HRS : Hid (OwnRow ((w.alloc (.cells #[.slice a1 n1 c1, .slice a2 n2 c2] 32)).alloc (.cells #[.int .i64 0, .int .i64 0] 72)) (w.heap.size + 1) 2 (fun _ => .int .i64 0)) := by
    have p2 := zeros2 (w.alloc (.cells #[.slice a1 n1 c1, .slice a2 n2 c2] 32)) 72
    rw [World.size_alloc] at p2
    exact p2
  have hsp : s.data.toList.length = s.size := Array.length_toList
  have HN : Hid (∀ W, Below w.heap.size w W → Calls Tryz.prog 75 #[.agg #[.slice a1 n1 c1, .slice a2 n2 c2], .string s] W fun e w' => ∃ a n c, e = .returned (.agg #[.int .i64 (ntwC d s.data.toList), .slice a n c]) ∧ Below W.heap.size W w' ∧ TxF w' W.heap.size a n c (ntwL d s.data.toList)) := fun W hW => by
    have := namesToWalk_any W a1 n1 c1 a2 n2 c2 d s.data.toList (h.later hW) hs (by omega)
    rw [mkB_data] at this
    exact this
  have HW : Hid (ntwC d s.data.toList = 0 → ∀ (W : World) (a : Option Addr) (n c : Nat), Below w.heap.size w W → TxF W w.heap.size a n c (ntwL d s.data.toList) → Calls Tryz.prog 76 #[.agg #[.slice a1 n1 c1, .slice a2 n2 c2], .slice a n c] W fun e w' => e = .returned (intRV (wkR d.1 0 (splitL s.data.toList))) ∧ Below W.heap.size W w') := fun h0 W a n c hW htx => by
    obtain ⟨hf, _⟩ := ntw_ok h0
    have hL : ntwL d s.data.toList = splitL s.data.toList := if_pos hf
    rw [hL] at htx
    have := splitL_len s.data.toList (by omega)
    have e := htx.2.1
    exact walkNamesU W a1 n1 c1 a2 n2 c2 d (h.later hW) (fsE_ok (fsF_E hf)) (hgl.later hW) a n c (splitL s.data.toList) e (by omega) htx.1
  have HR : Hid (walkR d s = if ntwC d s.data.toList = 0 then wkR d.1 0 (splitL s.data.toList) else (ntwC d s.data.toList, 0)) := rfl
  rw [HR.out]
  clear h hs hl hsp hgl HR
  generalize ntwC d s.data.toList = r at *
  generalize wkR d.1 0 (splitL s.data.toList) = wr at *
  by_cases hf : r = 0
  rotate_left
  · rw [if_neg hf]
    have hb : (r != 0) = true := by simpa using hf
    clear hf HW
    have x0 := HX.out 0 _ rfl
    have x1 := HX.out 1 _ rfl
    go_enter Tryz.func36, Tryz.ntmps36
    go_wp2_with fail
    generalize ((w.alloc (.cells #[.slice a1 n1 c1, .slice a2 n2 c2] 32)).alloc (.cells #[.int .i64 0, .int .i64 0] 72)) = W0 at *
    refine (HN.out _ HB0.out).mono ?_
    rintro e w1 ⟨a, n, c, rfl, hb1, -⟩
    have HB1 : Hid (Below w.heap.size w w1) := HB0.out.trans (hb1.mono HB0.out.size)
    have hrr := HRS.out.later hb1
    have hz1 : w.heap.size + 1 < w1.heap.size := hrr.lt
    have t0 : w1.cell? ⟨w.heap.size + 1, 0, none⟩ = some (.int .i64 0) := hrr.cell (i := 0) (by omega)
    have t1 : w1.cell? ⟨w.heap.size + 1, 1, none⟩ = some (.int .i64 0) := hrr.cell (i := 1) (by omega)
    have s0 := hrr.frozen 0
    have s1 := hrr.frozen 1
    clear hb1 hrr x0 x1
    go_wp2
    exact bodyPost_ret (v := intRV (r, 0)) (by simp [results, Tryz.results36, go_sem, t0, t1, hz1]) rfl ⟨rfl, ((HB1.out.setCell (p := ⟨w.heap.size + 1, 0, none⟩) (by show w.heap.size ≤ w.heap.size + 1; omega) _).setCell (p := ⟨w.heap.size + 1, 1, none⟩) (by show w.heap.size ≤ w.heap.size + 1; omega) _).alloc (by have := HB1.out.size; simpa [World.setCell] using this) _⟩
  · rw [if_pos hf]
    have hb : (r != 0) = false := by simpa using hf
    have HW2 : Hid (∀ (W : World) (a : Option Addr) (n c : Nat), Below w.heap.size w W → TxF W w.heap.size a n c (ntwL d s.data.toList) → Calls Tryz.prog 76 #[.agg #[.slice a1 n1 c1, .slice a2 n2 c2], .slice a n c] W fun e w' => e = .returned (intRV wr) ∧ Below W.heap.size W w') := HW.out hf
    clear hf HW
    obtain ⟨wc, wv⟩ := wr
    have x0 := HX.out 0 _ rfl
    have x1 := HX.out 1 _ rfl
    go_enter Tryz.func36, Tryz.ntmps36
    go_wp2_with fail
    generalize ((w.alloc (.cells #[.slice a1 n1 c1, .slice a2 n2 c2] 32)).alloc (.cells #[.int .i64 0, .int .i64 0] 72)) = W0 at *
    refine (HN.out _ HB0.out).mono ?_
    rintro e w1 ⟨a, n, c, rfl, hb1, htx⟩
    have HB1 : Hid (Below w.heap.size w w1) := HB0.out.trans (hb1.mono HB0.out.size)
    have HB1' : Hid (Below w.heap.size w (w1.alloc (.cells #[.int .i64 r, .slice a n c] 109))) := HB1.out.trans ((later1 _ _).mono HB1.out.size)
    have HR1 : Hid (OwnRow (w1.alloc (.cells #[.int .i64 r, .slice a n c] 109)) (w.heap.size + 1) 2 (fun _ => .int .i64 0)) := (HRS.out.later hb1).later (later1 _ _)
    have HTX : Hid (TxF (w1.alloc (.cells #[.int .i64 r, .slice a n c] 109)) w.heap.size a n c (ntwL d s.data.toList)) := by
      have h2 := htx.later (later1 w1 (.cells #[.int .i64 r, .slice a n c] 109))
      exact ⟨h2.1, h2.2.1, h2.2.2.1, fun b off e hn => Nat.le_trans HB0.out.size (h2.2.2.2 b off e hn)⟩
    have y0 := (HX.out.later hb1) 0 _ rfl
    have y1 := (HX.out.later hb1) 1 _ rfl
    have hz1 : w.heap.size + 1 < w1.heap.size := (HRS.out.later hb1).lt
    have hz2 : w.heap.size < w1.heap.size := by omega
    clear hb1 htx x0 x1
    go_wp2_with fail
    refine (HW2.out _ a n c HB1'.out HTX.out).mono ?_
    rintro e w3 ⟨rfl, hb3⟩
    have hrr := HR1.out.later hb3
    have t0 : w3.cell? ⟨w.heap.size + 1, 0, none⟩ = some (.int .i64 0) := hrr.cell (i := 0) (by omega)
    have t1 : w3.cell? ⟨w.heap.size + 1, 1, none⟩ = some (.int .i64 0) := hrr.cell (i := 1) (by omega)
    have s0 := hrr.frozen 0
    have s1 := hrr.frozen 1
    have HB3 : Hid (Below w.heap.size w w3) := HB1'.out.trans (hb3.mono HB1'.out.size)
    clear hb3 hrr y0 y1
    go_wp2
    exact bodyPost_ret (v := intRV (wc, wv)) (by simp [results, Tryz.results36, go_sem, t0, t1]) rfl ⟨rfl, (HB3.out.setCell (p := ⟨w.heap.size + 1, 0, none⟩) (by show w.heap.size ≤ w.heap.size + 1; omega) _).setCell (p := ⟨w.heap.size + 1, 1, none⟩) (by show w.heap.size ≤ w.heap.size + 1; omega) _⟩
end Go.Proofs.YtpfafcodihhdfaaGreatDoor

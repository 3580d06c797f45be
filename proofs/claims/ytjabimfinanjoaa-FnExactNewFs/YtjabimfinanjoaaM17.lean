/- NewFs, the program's. NewFs, the specification's: one round of the list that grows. NewFs, the specification's. NewFs: what its law asks besides. -/
import Derived.Test.YtjabimfinanjoaaM16
import Derived.Test.YtjabimfinanjoaaM14
import Derived.Test.YtjabimfinanjoaaM04
import Derived.Test.YtjabimfinanjoaaM02
import Derived.Deep.RegionHeld3
namespace Go.Proofs.Ytjabimfinanjoaa
open Go.RowKit
set_option maxRecDepth 100000

section
variable {P : Program} {w : World}
theorem wpList_appendN_run {ops : Array Oper} {rest : List Oper} {o : Oper} {a : Act} {Q : Exit → Act → World → Prop} (hgd : o.guard = none) (s x : Operand) (t t' : TypeId)
    (ho : o.op = .call { callee := .builtin .append, args := #[s, x], argTypes := #[t, t'] }) (v y : Value) (hs : a.eval s = v) (hx : a.eval x = y) (v' : Value) (w' : World)
    (hr : (Builtin.append_ #[t, t'] o.type #[v, y]).run P w = .ok v' w') (h : wpList P ops Q rest (a.put o.dst v') w') : wpList P ops Q (o :: rest) a w := by
  refine wpList_plain hgd fun K hK => ?_
  unfold Oper.wp execOp
  simp only [ho, resolve, invoke, builtin, Sem.run_bind, Sem.run_pure, Result.andThen_ok, List.map_toArray, List.map_cons, List.map_nil, hs, hx, hr]
  exact hK _ _ h
end

/-- The top directory alone, and the data that it comes with. -/
def dir0 : ID := (2, 0, 0, [], [])
def padY (zss : List (List UInt8)) : List (List UInt8) := zss ++ List.replicate (20 - zss.length) []
def newFd (zss : List (List UInt8)) : FD := ([dir0], padY zss)
def newFR (zss : List (List UInt8)) : Int × FD := if fsF (newFd zss) = 0 then (0, newFd zss) else (fsF (newFd zss), [], [])
def topRow : Nat → Value := fun i => (#[Value.int .i64 2, .int .i64 0, .int .i64 0, .slice none 0 0, .slice none 0 0][i]?).getD (.slice none 0 0)
theorem InosO.top {w : World} {b : Nat} (h : OwnRow w b 5 topRow) (F : Nat → Prop) (hF : F b) : InosO w (.slice (some ⟨b, 0, none⟩) 1 1) [dir0] F := by
  refine Or.inr ⟨b, 1, fun _ => (.slice none 0 0, .slice none 0 0), fun _ _ => False, hF, fun _ _ h => h.elim, fun _ _ _ _ h => h.elim, rfl, ⟨by unfold maxLen; simp, by simp⟩, h.congr fun i hi => ?_, fun i hi => ?_⟩
  · match i, hi with
    | 0, _ => rfl
    | 1, _ => rfl
    | 2, _ => rfl
    | 3, _ => rfl
    | 4, _ => rfl
  · have e : i = 0 := by simpa using hi
    subst e
    exact ⟨⟨rfl, rfl, rfl, none, 0, 0, rfl, Nat.le_refl _⟩, fun _ => False, fun _ => False, Or.inl ⟨rfl, none, 0, rfl⟩, Or.inl ⟨rfl, none, 0, rfl⟩, fun _ h => h.elim, fun _ h => h.elim id id⟩
theorem byts_row {w Y : World} {b n m cap : Nat} {u : Nat → Value} {zss : List (List UInt8)} (hY : Below w.heap.size w Y) (hr : OwnRow Y b (n + m) (fun i => if i < n then u i else .slice none 0 0)) (hl : zss.length = n) (hc : n + m ≤ maxLen ∧ n + m ≤ cap)
    (hu : ∀ i, i < n → Byt w (u i) (zss[i]?.getD [])) : Byts Y (.slice (some ⟨b, 0, none⟩) (n + m) cap) (zss ++ List.replicate m []) := by
  refine ⟨some ⟨b, 0, none⟩, cap, by simp [hl], by simp [hl]; exact hc, fun k hk => ?_⟩
  have hk' : k < n + m := by simpa [hl] using hk
  have c := hr.cell hk'
  by_cases h : k < n
  · have e : (zss ++ List.replicate m [])[k]?.getD [] = zss[k]?.getD [] := by rw [List.getElem?_append_left (by omega)]
    obtain ⟨ua, uc, eu, h1, h2⟩ := hu k h
    rw [if_pos h, eu] at c
    rw [e]
    exact ⟨b, 0, ua, uc, rfl, by rw [Nat.zero_add]; exact c, ua, uc, rfl, h1, h2.later hY⟩
  · have e : (zss ++ List.replicate m [])[k]?.getD [] = [] := by
      rw [List.getElem?_append_right (by omega)]
      cases h : (List.replicate m ([] : List UInt8))[k - zss.length]? with
      | none => rfl
      | some z => simp [List.getElem?_replicate] at h; exact h.2.symm ▸ rfl
    rw [if_neg h] at c
    rw [e]
    exact ⟨b, 0, none, 0, rfl, by rw [Nat.zero_add]; exact c, Byt.nil _ _ _⟩
theorem World.heap_size_alloc' (w : World) (o : Obj) : (w.alloc o).heap.size = w.heap.size + 1 := by simp
theorem Byts.at' {w : World} {a : Option Addr} {n c : Nat} {zss : List (List UInt8)} (h : Byts w (.slice a n c) zss) : n = zss.length ∧ AtYs w a n zss := by
  obtain ⟨a', cap, e, _, h3⟩ := h
  simp only [Value.slice.injEq] at e
  obtain ⟨rfl, rfl, rfl⟩ := e
  exact ⟨rfl, h3⟩
theorem padY_le {zss : List (List UInt8)} {m : Nat} (h : 20 - zss.length = m) : padY zss = zss ++ List.replicate m [] := by unfold padY; rw [h]
theorem newFd_len {zss : List (List UInt8)} (h : fsF (newFd zss) = 0) : (padY zss).length = 20 := by
  have he : fsE (newFd zss) = 0 := by
    unfold fsF at h
    by_cases e : fsE (newFd zss) = 0
    · exact e
    · rw [if_neg e] at h; exact h
  exact (formB_no (fsE_zero he).2.1).2.2
theorem sizeTop : sizeInos [dir0] ≤ 1048576 := by decide
theorem ylens_pad (zss : List (List UInt8)) : (ylens (padY zss)).sum = (ylens zss).sum := by
  unfold ylens padY
  rw [List.map_append, List.sum_append, List.map_replicate]
  simp
theorem ansF_bad {w w' : World} (hb : Below w.heap.size w w') (c : Int) : AnsFR w (c, [], []) (.returned (.agg #[.int .i64 c, .slice none 0 0, .slice none 0 0])) w' :=
  ⟨none, 0, 0, none, 0, 0, rfl, hb, fun _ => False, fun _ => False, Or.inl ⟨rfl, none, 0, rfl⟩, Or.inl ⟨rfl, none, 0, rfl⟩, fun _ h => h.elim, fun _ h => h.elim False.elim False.elim⟩

def box0 : List Value := [.int .i64 0, .slice none 0 0, .slice none 0 0]
def topL : List Value := [.int .i64 2, .int .i64 0, .int .i64 0, .slice none 0 0, .slice none 0 0]
theorem rowV (w : World) (vs : List Value) (t : TypeId) : OwnRow (w.alloc (.cells vs.toArray t)) w.heap.size vs.length (fun i => vs[i]?.getD (.int .i64 0)) := by
  refine ⟨_, t, Go.Deep.blk_alloc_new _ _, by simp, fun i hi => ?_⟩
  simp [hi]
theorem heap_set4 (w : World) (p q r s : Addr) (a b c d : Value) (k : Nat) (h1 : k ≠ p.block) (h2 : k ≠ q.block) (h3 : k ≠ r.block) (h4 : k ≠ s.block) : ((((w.setCell p a).setCell q b).setCell r c).setCell s d).heap[k]? = w.heap[k]? := by
  rw [Below.heap_setCell _ _ _ _ h4, Below.heap_setCell _ _ _ _ h3, Below.heap_setCell _ _ _ _ h2, Below.heap_setCell _ _ _ _ h1]
theorem field_rack (a : Option Addr) (n c : Nat) (w : World) : (Instr.field 70 (.agg #[.slice a n c]) 0).run Try.prog w = .ok (.slice a n c) w := by kernel_rfl
/-- The answer of a new file system, once its parts stand. -/
theorem ansF_ok {w W W' : World} {zss : List (List UInt8)} {g n : Nat} (hB : Below w.heap.size w W') (hw : w.heap.size + 3 ≤ W.heap.size) (hb : Below W.heap.size W W') (hr : OwnRow W (w.heap.size + 1) 5 topRow) (hy : BytsO W' (.slice (some ⟨g, 0, none⟩) n n) (padY zss) (fresh W W')) (va vb vc vd : Value) :
    AnsFR w (0, newFd zss) (.returned (.agg #[.int .i64 0, .slice (some ⟨w.heap.size + 1, 0, none⟩) 1 1, .slice (some ⟨g, 0, none⟩) n n])) ((((W'.setCell ⟨w.heap.size + 2, 1, none⟩ va).setCell ⟨w.heap.size, 0, none⟩ vb).setCell ⟨w.heap.size, 1, none⟩ vc).setCell ⟨w.heap.size, 2, none⟩ vd) := by
  have hsz : W.heap.size ≤ W'.heap.size := hb.size
  refine ⟨_, _, _, _, _, _, rfl, (((hB.setCell (by simp) _).setCell (by simp) _).setCell (by simp) _).setCell (by simp) _, fun b => b = w.heap.size + 1, fresh W W', InosO.top ((hr.later hb).block (heap_set4 _ _ _ _ _ _ _ _ _ _ (by simp) (by simp) (by simp) (by simp))) _ rfl, hy.keep fun b hb' _ => ?_, fun b h1 h2 => ?_, fun b h1 => ?_⟩
  · have := hb'.1
    exact heap_set4 _ _ _ _ _ _ _ _ _ _ (by simp; omega) (by simp; omega) (by simp; omega) (by simp; omega)
  · have := h2.1
    omega
  · rcases h1 with h1 | h1
    · exact ⟨by omega, by simp only [World.setCell, Array.size_modify]; omega⟩
    · have := h1.1
      exact ⟨by omega, by simp only [World.setCell, Array.size_modify]; exact h1.2⟩

set_option maxHeartbeats 800000 in
theorem implNew_short (w : World) (a : Option Addr) (n c : Nat) (zss : List (List UInt8)) (h : Byts w (.slice a n c) zss) (hs : sizeByts zss ≤ 1048576) (hn : n < 20) :
    Calls Try.prog 16 #[.slice a n c] w (AnsFR w (newFR zss)) := by
  obtain ⟨a', cap, e, hm, hc⟩ := h.open'
  simp only [Value.slice.injEq] at e
  obtain ⟨rfl, rfl, rfl⟩ := e
  have hsl : zss.length + (ylens zss).sum ≤ 1048576 := hs
  have HSL : Hid (∀ k, ((padY zss)[k]?.getD []).length ≤ 1048576) := fun k => by have := ylens_le (padY zss) k; rw [ylens_pad] at this; omega
  have HLEN : Hid (fsF (newFd zss) = 0 → (padY zss).length = 20) := newFd_len
  have HNR : Hid (newFR zss = if fsF (newFd zss) = 0 then (0, newFd zss) else (fsF (newFd zss), [], [])) := rfl
  have HR0 : Hid (OwnRow (((w.alloc (.cells #[.int .i64 0, .slice none 0 0, .slice none 0 0] 36)).alloc (.cells #[.int .i64 2, .int .i64 0, .int .i64 0, .slice none 0 0, .slice none 0 0] 67)).alloc (.cells #[.slice (some ⟨w.heap.size + 1, 0, none⟩) 1 1, .slice a zss.length c] 30)) w.heap.size 3 (fun i => box0[i]?.getD (.int .i64 0))) := (rowV w box0 _).later (later2 _ _ _)
  have HR1 : Hid (OwnRow (((w.alloc (.cells #[.int .i64 0, .slice none 0 0, .slice none 0 0] 36)).alloc (.cells #[.int .i64 2, .int .i64 0, .int .i64 0, .slice none 0 0, .slice none 0 0] 67)).alloc (.cells #[.slice (some ⟨w.heap.size + 1, 0, none⟩) 1 1, .slice a zss.length c] 30)) (w.heap.size + 1) 5 topRow) := by
    have := (rowV (w.alloc (.cells #[.int .i64 0, .slice none 0 0, .slice none 0 0] 36)) topL 67).later (later1 _ (.cells #[.slice (some ⟨w.heap.size + 1, 0, none⟩) 1 1, .slice a zss.length c] 30))
    rw [World.heap_size_alloc'] at this
    exact this.congr fun i hi => by match i, hi with
      | 0, _ => rfl
      | 1, _ => rfl
      | 2, _ => rfl
      | 3, _ => rfl
      | 4, _ => rfl
  have HR2 : Hid (OwnRow (((w.alloc (.cells #[.int .i64 0, .slice none 0 0, .slice none 0 0] 36)).alloc (.cells #[.int .i64 2, .int .i64 0, .int .i64 0, .slice none 0 0, .slice none 0 0] 67)).alloc (.cells #[.slice (some ⟨w.heap.size + 1, 0, none⟩) 1 1, .slice a zss.length c] 30)) (w.heap.size + 2) 2 (fun i => if i = 0 then .slice (some ⟨w.heap.size + 1, 0, none⟩) 1 1 else .slice a zss.length c)) := by
    have := OwnRow.two ((w.alloc (.cells #[.int .i64 0, .slice none 0 0, .slice none 0 0] 36)).alloc (.cells #[.int .i64 2, .int .i64 0, .int .i64 0, .slice none 0 0, .slice none 0 0] 67)) (.slice (some ⟨w.heap.size + 1, 0, none⟩) 1 1) (.slice a zss.length c) 30
    rw [World.heap_size_alloc', World.heap_size_alloc'] at this
    exact this
  have hch : ∀ k, k < zss.length → ∃ v : Value, v.oneCell' = true ∧ (∃ b off, a = some ⟨b, off, none⟩ ∧ w.cell? ⟨b, off + k, none⟩ = some v) ∧ Byt w v (zss[k]?.getD []) := fun k hk => by
    obtain ⟨b, off, ua, uc, e, hcell, hby⟩ := hc k hk
    exact ⟨_, rfl, ⟨b, off, e, hcell⟩, hby⟩
  obtain ⟨u, hu⟩ := pickQ hch
  have HU : Hid (∀ k, k < zss.length → (u k).oneCell' = true ∧ (∃ b off, a = some ⟨b, off, none⟩ ∧ w.cell? ⟨b, off + k, none⟩ = some (u k)) ∧ Byt w (u k) (zss[k]?.getD [])) := hu
  obtain ⟨m, hmn⟩ : ∃ m, 20 - zss.length = m := ⟨_, rfl⟩
  have hme : ((m : Nat) : Int) = 20 - (zss.length : Int) := by omega
  have hnm : zss.length + m = 20 := by omega
  have HP : Hid (padY zss = zss ++ List.replicate m []) := padY_le hmn
  have hm0 : 0 < m := by omega
  clear hch hu hc h hs hm hmn hsl
  go_enter Try.func16, Try.ntmps16
  go_wp2_with fail
  refine (copyOfYs_any _ a zss.length c u (by omega) (fun k hk => (HU.out k hk).1) (fun k hk => by obtain ⟨b, off, e, hcell⟩ := (HU.out k hk).2.1; exact ⟨b, off, e, cell_later (later3 _ _ _ _) hcell⟩)).mono ?_
  rintro e w1 ⟨rfl, hb1, hr1⟩
  have HB1 : Hid (Below w.heap.size w w1) := (later3 _ _ _ _).trans (hb1.mono (by simp; omega))
  have hsz1 : w.heap.size + 3 ≤ w1.heap.size := by have := hb1.size; simp at this; omega
  have hr1' : OwnRow w1 (w.heap.size + 1 + 1 + 1) zss.length u := by simpa using hr1
  obtain ⟨cap, X, hap, hbX, hcap, hrX⟩ := append_zeros w1 _ zss.length m u hm0 (by omega) hr1'
  have A0 : Hid (OwnRow X w.heap.size 3 (fun i => box0[i]?.getD (.int .i64 0))) := (HR0.out.later hb1).later hbX
  have A1 : Hid (OwnRow X (w.heap.size + 1) 5 topRow) := (HR1.out.later hb1).later hbX
  have A2 : Hid (OwnRow X (w.heap.size + 2) 2 (fun i => if i = 0 then .slice (some ⟨w.heap.size + 1, 0, none⟩) 1 1 else .slice a zss.length c)) := (HR2.out.later hb1).later hbX
  have HBX : Hid (Below w.heap.size w X) := HB1.out.trans (hbX.mono (by omega))
  have hszX : w1.heap.size ≤ X.heap.size := hbX.size
  rw [hme] at hap
  have HRX : Hid (OwnRow X w1.heap.size (zss.length + m) (fun i => if i < zss.length then u i else .slice none 0 0)) := hrX
  have HCAP : Hid (zss.length + m ≤ maxLen ∧ zss.length + m ≤ cap) := hcap
  have c0 := A2.out.cell (i := 0) (by omega)
  have c1 := A2.out.cell (i := 1) (by omega)
  have f1 := A2.out.frozen 1
  simp only [if_pos, Nat.one_ne_zero, if_false] at c0 c1
  rw [hnm] at hap
  have HAP : Hid ((Builtin.append_ #[23, 3] 23 #[.slice (some ⟨w.heap.size + 1 + 1 + 1, 0, none⟩) zss.length zss.length, .int .i64 (20 - (zss.length : Int))]).run Try.prog w1 = .ok (.slice (some ⟨w1.heap.size, 0, none⟩) 20 cap) X) := hap
  clear hb1 hr1 hr1' hbX hrX hcap hap HR0 HR1 HR2
  go_wp2_with (at_builtin; refine wpList_appendN_run rfl _ _ 23 3 rfl _ _ rfl rfl _ _ HAP.out ?_)
  have HY : Hid (FsR (X.setCell ⟨w.heap.size + 1 + 1, 1, none⟩ (.slice (some ⟨w1.heap.size, 0, none⟩) 20 cap)) (.slice (some ⟨w.heap.size + 1, 0, none⟩) 1 1) (.slice (some ⟨w1.heap.size, 0, none⟩) 20 cap) (newFd zss)) := ⟨(InosO.top (A1.out.store (by simp) _) (fun _ => True) trivial).reads, by
    have := byts_row (w := w) (HBX.out.setCell (p := ⟨w.heap.size + 1 + 1, 1, none⟩) (by simp; omega) (.slice (some ⟨w1.heap.size, 0, none⟩) 20 cap)) (HRX.out.store (by simp; omega) _) rfl HCAP.out (fun i hi => (HU.out i hi).2.2)
    rw [hnm, ← HP.out] at this
    exact this⟩
  have HBY : Hid (Below w.heap.size w (X.setCell ⟨w.heap.size + 1 + 1, 1, none⟩ (.slice (some ⟨w1.heap.size, 0, none⟩) 20 cap))) := HBX.out.setCell (by simp; omega) _
  have hszY : w.heap.size ≤ (X.setCell ⟨w.heap.size + 1 + 1, 1, none⟩ (.slice (some ⟨w1.heap.size, 0, none⟩) 20 cap)).heap.size := HBY.out.size
  have hszZ : w.heap.size + 3 ≤ (X.setCell ⟨w.heap.size + 1 + 1, 1, none⟩ (.slice (some ⟨w1.heap.size, 0, none⟩) 20 cap)).heap.size := by simp only [World.setCell, Array.size_modify]; omega
  have E0 : Hid (OwnRow (X.setCell ⟨w.heap.size + 1 + 1, 1, none⟩ (.slice (some ⟨w1.heap.size, 0, none⟩) 20 cap)) w.heap.size 3 (fun i => box0[i]?.getD (.int .i64 0))) := A0.out.store (by simp; omega) _
  have E1 : Hid (OwnRow (X.setCell ⟨w.heap.size + 1 + 1, 1, none⟩ (.slice (some ⟨w1.heap.size, 0, none⟩) 20 cap)) (w.heap.size + 1) 5 topRow) := A1.out.store (by simp) _
  have E2 : Hid (OwnRow (X.setCell ⟨w.heap.size + 1 + 1, 1, none⟩ (.slice (some ⟨w1.heap.size, 0, none⟩) 20 cap)) (w.heap.size + 2) 2 (fun i => if i = 0 then .slice (some ⟨w.heap.size + 1, 0, none⟩) 1 1 else .slice (some ⟨w1.heap.size, 0, none⟩) 20 cap)) := (A2.out.set 1 _).congr fun i hi => by
    match i, hi with
    | 0, _ => rfl
    | 1, _ => rfl
  clear A0 A1 A2 HRX HCAP HAP c0 c1 f1 HU
  refine (implFsI _ _ _ _ _ _ _ (newFd zss) HY.out sizeTop).mono ?_
  rintro e w2 ⟨rfl, hb2⟩
  have HB2 : Hid (Below w.heap.size w w2) := HBY.out.trans (hb2.mono hszY)
  have hsz2 : w.heap.size + 3 ≤ w2.heap.size := by have := hb2.size; omega
  have C0 : Hid (OwnRow w2 w.heap.size 3 (fun i => box0[i]?.getD (.int .i64 0))) := E0.out.later hb2
  have C1 : Hid (OwnRow w2 (w.heap.size + 1) 5 topRow) := E1.out.later hb2
  have C2 : Hid (OwnRow w2 (w.heap.size + 2) 2 (fun i => if i = 0 then .slice (some ⟨w.heap.size + 1, 0, none⟩) 1 1 else .slice (some ⟨w1.heap.size, 0, none⟩) 20 cap)) := E2.out.later hb2
  have HAT : Hid (AtYs w2 (some ⟨w1.heap.size, 0, none⟩) 20 (padY zss)) := (HY.out.2.later hb2).at'.2
  have HL1 : Hid (20 = (padY zss).length) := HY.out.2.at'.1
  clear hb2 HY E0 E1 E2
  by_cases hz : fsF (newFd zss) = 0
  · have HZ : Hid (fsF (newFd zss) = 0) := hz
    rw [hz]
    have d0 := C2.out.cell (i := 0) (by omega)
    have d1 := C2.out.cell (i := 1) (by omega)
    simp only [if_pos, Nat.one_ne_zero, if_false] at d0 d1
    clear hz
    go_wp2_with fail
    refine (rackOfY_walk w2 _ _ _ (padY zss) HL1.out.symm (by have := HLEN.out HZ.out; have := HL1.out; omega) (fun k _ => HSL.out k) HAT.out).mono ?_
    rintro e w3 ⟨g, rfl, hb3, ho3⟩
    have HB3 : Hid (Below w.heap.size w w3) := HB2.out.trans (hb3.mono (by omega))
    have HB3' : Hid (Below w2.heap.size w2 w3) := hb3
    have HO3 : Hid (BytsO w3 (.slice (some ⟨g, 0, none⟩) 20 20) (padY zss) (fresh w2 w3)) := ho3
    have t0 := (C0.out.later hb3).cell (i := 0) (by omega)
    have t1 := (C0.out.later hb3).cell (i := 1) (by omega)
    have t2 := (C0.out.later hb3).cell (i := 2) (by omega)
    have s0 := (C0.out.later hb3).frozen 0
    have s1 := (C0.out.later hb3).frozen 1
    have s2 := (C0.out.later hb3).frozen 2
    have q0 := (C2.out.later hb3).cell (i := 0) (by omega)
    have q1 := (C2.out.later hb3).cell (i := 1) (by omega)
    have r1 := (C2.out.later hb3).frozen 1
    simp only [if_pos, Nat.one_ne_zero, if_false] at q0 q1
    simp [box0] at t0 t1 t2
    clear hb3 ho3 d0 d1
    have hfr := field_rack (some ⟨g, 0, none⟩) 20 20
    go_wp2
    refine bodyPost_ret (v := .agg #[.int .i64 0, .slice (some ⟨w.heap.size + 1, 0, none⟩) 1 1, .slice (some ⟨g, 0, none⟩) 20 20]) (by simp [results, Try.results16, go_sem, t0, t1, t2]) rfl ?_
    rw [HNR.out, if_pos HZ.out]
    exact ansF_ok HB3.out hsz2 HB3'.out C1.out HO3.out _ _ _ _
  · have hb : (fsF (newFd zss) != 0) = true := by simpa using hz
    have HZ : Hid (¬ fsF (newFd zss) = 0) := hz
    have t0 := C0.out.cell (i := 0) (by omega)
    have t1 := C0.out.cell (i := 1) (by omega)
    have t2 := C0.out.cell (i := 2) (by omega)
    have s0 := C0.out.frozen 0
    have s1 := C0.out.frozen 1
    have s2 := C0.out.frozen 2
    simp [box0] at t0 t1 t2
    clear hz
    go_wp2
    refine bodyPost_ret (v := .agg #[.int .i64 (fsF (newFd zss)), .slice none 0 0, .slice none 0 0]) (by simp [results, Try.results16, go_sem, t0, t1, t2]) rfl ?_
    rw [HNR.out, if_neg HZ.out]
    exact ansF_bad (((HB2.out.setCell (Nat.le_refl _) _).setCell (Nat.le_refl _) _).setCell (Nat.le_refl _) _) _
set_option maxHeartbeats 800000 in
theorem implNew_long (w : World) (a : Option Addr) (n c : Nat) (zss : List (List UInt8)) (h : Byts w (.slice a n c) zss) (hs : sizeByts zss ≤ 1048576) (hn : ¬ n < 20) :
    Calls Try.prog 16 #[.slice a n c] w (AnsFR w (newFR zss)) := by
  obtain ⟨a', cap, e, hm, hc⟩ := h.open'
  simp only [Value.slice.injEq] at e
  obtain ⟨rfl, rfl, rfl⟩ := e
  have hsl : zss.length + (ylens zss).sum ≤ 1048576 := hs
  have HSL : Hid (∀ k, ((padY zss)[k]?.getD []).length ≤ 1048576) := fun k => by have := ylens_le (padY zss) k; rw [ylens_pad] at this; omega
  have HLEN : Hid (fsF (newFd zss) = 0 → (padY zss).length = 20) := newFd_len
  have HNR : Hid (newFR zss = if fsF (newFd zss) = 0 then (0, newFd zss) else (fsF (newFd zss), [], [])) := rfl
  have HR0 : Hid (OwnRow (((w.alloc (.cells #[.int .i64 0, .slice none 0 0, .slice none 0 0] 36)).alloc (.cells #[.int .i64 2, .int .i64 0, .int .i64 0, .slice none 0 0, .slice none 0 0] 67)).alloc (.cells #[.slice (some ⟨w.heap.size + 1, 0, none⟩) 1 1, .slice a zss.length c] 30)) w.heap.size 3 (fun i => box0[i]?.getD (.int .i64 0))) := (rowV w box0 _).later (later2 _ _ _)
  have HR1 : Hid (OwnRow (((w.alloc (.cells #[.int .i64 0, .slice none 0 0, .slice none 0 0] 36)).alloc (.cells #[.int .i64 2, .int .i64 0, .int .i64 0, .slice none 0 0, .slice none 0 0] 67)).alloc (.cells #[.slice (some ⟨w.heap.size + 1, 0, none⟩) 1 1, .slice a zss.length c] 30)) (w.heap.size + 1) 5 topRow) := by
    have := (rowV (w.alloc (.cells #[.int .i64 0, .slice none 0 0, .slice none 0 0] 36)) topL 67).later (later1 _ (.cells #[.slice (some ⟨w.heap.size + 1, 0, none⟩) 1 1, .slice a zss.length c] 30))
    rw [World.heap_size_alloc'] at this
    exact this.congr fun i hi => by match i, hi with
      | 0, _ => rfl
      | 1, _ => rfl
      | 2, _ => rfl
      | 3, _ => rfl
      | 4, _ => rfl
  have HR2 : Hid (OwnRow (((w.alloc (.cells #[.int .i64 0, .slice none 0 0, .slice none 0 0] 36)).alloc (.cells #[.int .i64 2, .int .i64 0, .int .i64 0, .slice none 0 0, .slice none 0 0] 67)).alloc (.cells #[.slice (some ⟨w.heap.size + 1, 0, none⟩) 1 1, .slice a zss.length c] 30)) (w.heap.size + 2) 2 (fun i => if i = 0 then .slice (some ⟨w.heap.size + 1, 0, none⟩) 1 1 else .slice a zss.length c)) := by
    have := OwnRow.two ((w.alloc (.cells #[.int .i64 0, .slice none 0 0, .slice none 0 0] 36)).alloc (.cells #[.int .i64 2, .int .i64 0, .int .i64 0, .slice none 0 0, .slice none 0 0] 67)) (.slice (some ⟨w.heap.size + 1, 0, none⟩) 1 1) (.slice a zss.length c) 30
    rw [World.heap_size_alloc', World.heap_size_alloc'] at this
    exact this
  have HP : Hid (padY zss = zss) := by unfold Hid padY; rw [show 20 - zss.length = 0 by omega]; simp
  have HBY : Hid (Below w.heap.size w (((w.alloc (.cells #[.int .i64 0, .slice none 0 0, .slice none 0 0] 36)).alloc (.cells #[.int .i64 2, .int .i64 0, .int .i64 0, .slice none 0 0, .slice none 0 0] 67)).alloc (.cells #[.slice (some ⟨w.heap.size + 1, 0, none⟩) 1 1, .slice a zss.length c] 30))) := later3 _ _ _ _
  have HY : Hid (FsR (((w.alloc (.cells #[.int .i64 0, .slice none 0 0, .slice none 0 0] 36)).alloc (.cells #[.int .i64 2, .int .i64 0, .int .i64 0, .slice none 0 0, .slice none 0 0] 67)).alloc (.cells #[.slice (some ⟨w.heap.size + 1, 0, none⟩) 1 1, .slice a zss.length c] 30)) (.slice (some ⟨w.heap.size + 1, 0, none⟩) 1 1) (.slice a zss.length c) (newFd zss)) := ⟨(InosO.top HR1.out (fun _ => True) trivial).reads, by
    show Byts _ _ (padY zss)
    rw [HP.out]
    exact h.later HBY.out⟩
  have hszY : w.heap.size ≤ (((w.alloc (.cells #[.int .i64 0, .slice none 0 0, .slice none 0 0] 36)).alloc (.cells #[.int .i64 2, .int .i64 0, .int .i64 0, .slice none 0 0, .slice none 0 0] 67)).alloc (.cells #[.slice (some ⟨w.heap.size + 1, 0, none⟩) 1 1, .slice a zss.length c] 30)).heap.size := HBY.out.size
  have hszZ : w.heap.size + 3 ≤ (((w.alloc (.cells #[.int .i64 0, .slice none 0 0, .slice none 0 0] 36)).alloc (.cells #[.int .i64 2, .int .i64 0, .int .i64 0, .slice none 0 0, .slice none 0 0] 67)).alloc (.cells #[.slice (some ⟨w.heap.size + 1, 0, none⟩) 1 1, .slice a zss.length c] 30)).heap.size := by simp
  have E0 := HR0
  have E1 := HR1
  have E2 := HR2
  have hle : zss.length ≤ 1048576 := by omega
  have hnl : ¬ ((zss.length : Int) < 20) := by omega
  clear HR0 HR1 HR2 hc h hs hm hsl
  go_enter Try.func16, Try.ntmps16
  go_wp2_with fail
  refine (implFsI _ _ _ _ _ _ _ (newFd zss) HY.out sizeTop).mono ?_
  rintro e w2 ⟨rfl, hb2⟩
  have HB2 : Hid (Below w.heap.size w w2) := HBY.out.trans (hb2.mono hszY)
  have hsz2 : w.heap.size + 3 ≤ w2.heap.size := by have := hb2.size; omega
  have C0 : Hid (OwnRow w2 w.heap.size 3 (fun i => box0[i]?.getD (.int .i64 0))) := E0.out.later hb2
  have C1 : Hid (OwnRow w2 (w.heap.size + 1) 5 topRow) := E1.out.later hb2
  have C2 : Hid (OwnRow w2 (w.heap.size + 2) 2 (fun i => if i = 0 then .slice (some ⟨w.heap.size + 1, 0, none⟩) 1 1 else .slice a zss.length c)) := E2.out.later hb2
  have HAT : Hid (AtYs w2 a zss.length (padY zss)) := (HY.out.2.later hb2).at'.2
  have HL1 : Hid (zss.length = (padY zss).length) := HY.out.2.at'.1
  clear hb2 HY E0 E1 E2
  by_cases hz : fsF (newFd zss) = 0
  · have HZ : Hid (fsF (newFd zss) = 0) := hz
    rw [hz]
    have d0 := C2.out.cell (i := 0) (by omega)
    have d1 := C2.out.cell (i := 1) (by omega)
    simp only [if_pos, Nat.one_ne_zero, if_false] at d0 d1
    clear hz
    go_wp2_with fail
    refine (rackOfY_walk w2 _ _ _ (padY zss) HL1.out.symm (by have := HLEN.out HZ.out; have := HL1.out; omega) (fun k _ => HSL.out k) HAT.out).mono ?_
    rintro e w3 ⟨g, rfl, hb3, ho3⟩
    have HB3 : Hid (Below w.heap.size w w3) := HB2.out.trans (hb3.mono (by omega))
    have HB3' : Hid (Below w2.heap.size w2 w3) := hb3
    have HO3 : Hid (BytsO w3 (.slice (some ⟨g, 0, none⟩) zss.length zss.length) (padY zss) (fresh w2 w3)) := ho3
    have t0 := (C0.out.later hb3).cell (i := 0) (by omega)
    have t1 := (C0.out.later hb3).cell (i := 1) (by omega)
    have t2 := (C0.out.later hb3).cell (i := 2) (by omega)
    have s0 := (C0.out.later hb3).frozen 0
    have s1 := (C0.out.later hb3).frozen 1
    have s2 := (C0.out.later hb3).frozen 2
    have q0 := (C2.out.later hb3).cell (i := 0) (by omega)
    have q1 := (C2.out.later hb3).cell (i := 1) (by omega)
    have r1 := (C2.out.later hb3).frozen 1
    simp only [if_pos, Nat.one_ne_zero, if_false] at q0 q1
    simp [box0] at t0 t1 t2
    clear hb3 ho3 d0 d1
    have hfr := field_rack (some ⟨g, 0, none⟩) zss.length zss.length
    go_wp2
    refine bodyPost_ret (v := .agg #[.int .i64 0, .slice (some ⟨w.heap.size + 1, 0, none⟩) 1 1, .slice (some ⟨g, 0, none⟩) zss.length zss.length]) (by simp [results, Try.results16, go_sem, t0, t1, t2]) rfl ?_
    rw [HNR.out, if_pos HZ.out]
    exact ansF_ok HB3.out hsz2 HB3'.out C1.out HO3.out _ _ _ _
  · have hb : (fsF (newFd zss) != 0) = true := by simpa using hz
    have HZ : Hid (¬ fsF (newFd zss) = 0) := hz
    have t0 := C0.out.cell (i := 0) (by omega)
    have t1 := C0.out.cell (i := 1) (by omega)
    have t2 := C0.out.cell (i := 2) (by omega)
    have s0 := C0.out.frozen 0
    have s1 := C0.out.frozen 1
    have s2 := C0.out.frozen 2
    simp [box0] at t0 t1 t2
    clear hz
    go_wp2
    refine bodyPost_ret (v := .agg #[.int .i64 (fsF (newFd zss)), .slice none 0 0, .slice none 0 0]) (by simp [results, Try.results16, go_sem, t0, t1, t2]) rfl ?_
    rw [HNR.out, if_neg HZ.out]
    exact ansF_bad (((HB2.out.setCell (Nat.le_refl _) _).setCell (Nat.le_refl _) _).setCell (Nat.le_refl _) _) _
theorem implNewFsU (w : World) (a : Option Addr) (n c : Nat) (zss : List (List UInt8)) (h : Byts w (.slice a n c) zss) (hs : sizeByts zss ≤ 1048576) :
    Calls Try.prog 16 #[.slice a n c] w (AnsFR w (newFR zss)) := by
  by_cases hn : n < 20
  · exact implNew_short w a n c zss h hs hn
  · exact implNew_long w a n c zss h hs hn
end Go.Proofs.Ytjabimfinanjoaa

namespace Go.Proofs.Ytjabimfinanjoaa
open Go.RowKit
set_option maxRecDepth 100000

/-- A list's bytes copied, and the copy appended. -/
theorem rndY (wr : World) (base n : Nat) (v : Value) (zss : List (List UInt8)) (k : Nat → Nat) (u : Nat → Value) (h : YRow C1 wr base base 43 1 v n (fun i => zss[i]?.getD []) k u) (hb : base ≤ wr.heap.size) (hn : n ≤ 1048576) (ua : Option Addr) (uc : Nat)
    (hy : Byt wr (.slice ua (zss[n]?.getD []).length uc) (zss[n]?.getD [])) (hl : (zss[n]?.getD []).length ≤ 1048576) :
    ∃ na nc X1 g cap X k' u', (Builtin.append_ #[43, 43] 43 #[.slice (some ⟨wr.heap.size, 0, none⟩) 0 0, .slice ua (zss[n]?.getD []).length uc]).run Try.prog (wr.drew.alloc (.cells #[] 5)) = .ok (.slice na (zss[n]?.getD []).length nc) X1 ∧
      (Builtin.append_ #[23, 23] 23 #[v, .slice (some ⟨X1.heap.size, 0, none⟩) 1 1]).run Try.prog (X1.alloc (.cells #[.slice na (zss[n]?.getD []).length nc] 43)) = .ok (.slice (some ⟨g, 0, none⟩) (n + 1) cap) X ∧
      Below wr.heap.size wr X1 ∧ Below base wr X ∧ YRow C1 X base base 43 1 (.slice (some ⟨g, 0, none⟩) (n + 1) cap) (n + 1) (fun i => zss[i]?.getD []) k' u' := by
  have hb0 : Below wr.heap.size wr (wr.drew.alloc (.cells #[] 5)) := (Below.refl _ _).drew.trans (by simpa using later1 wr.drew (.cells #[] 5))
  obtain ⟨v', X1, hr1, hw1, hB1⟩ := append_y (wr.drew.alloc (.cells #[] 5)) wr.heap.size _ [] (zss[n]?.getD []) ua _ uc (WdY.lit0 wr.drew wr.heap.size (by simp)) (by simp) (by simp) hl (hy.later hb0)
  rw [List.nil_append] at hw1
  obtain ⟨na, nc, rfl⟩ := hw1.shape
  have hbX1 : Below wr.heap.size wr X1 := hb0.trans hB1
  have hlt : wr.heap.size < X1.heap.size := by have := hB1.size; simp at this; omega
  obtain ⟨kb, hk1, hk2, hkf⟩ := (hw1.own (w0 := wr) (Nat.le_refl _)).one hlt
  obtain ⟨i, hi, h1, h2, h3⟩ := Try.infoU8s'
  obtain ⟨g, cap, X, hr2, _, hBX, _, hLX⟩ := YRow.append wr X1 23 23 43 i _ 1 24 Try.underlying23 hi h1 h2 h3 rfl (by decide) (by decide) base base n _ _ k u h hb (by omega) hbX1 na nc rfl (fun x hx => by simp [C1] at hx; subst hx; rfl) kb (Nat.le_trans hb hk1) (Nat.le_of_lt hk2) (fun e => by have := (h.own.lt kb e).2; omega) (fun i hi e => by have := (h.lo i hi).2; omega) hkf
  refine ⟨na, nc, X1, g, cap, X, _, _, ?_, hr2, hbX1, hBX, hLX⟩
  simpa using hr1
/-- An empty list appended. -/
theorem rndE (wr : World) (base n : Nat) (v : Value) (f : Nat → List UInt8) (k : Nat → Nat) (u : Nat → Value) (h : YRow C1 wr base base 43 1 v n f k u) (hb : base ≤ wr.heap.size) (hn : n ≤ 1048576) (hf : f n = []) :
    ∃ g cap X k' u', (Builtin.append_ #[23, 23] 23 #[v, .slice (some ⟨wr.heap.size, 0, none⟩) 1 1]).run Try.prog (wr.alloc (.cells #[.slice none 0 0] 43)) = .ok (.slice (some ⟨g, 0, none⟩) (n + 1) cap) X ∧
      Below base wr X ∧ YRow C1 X base base 43 1 (.slice (some ⟨g, 0, none⟩) (n + 1) cap) (n + 1) f k' u' := by
  obtain ⟨i, hi, h1, h2, h3⟩ := Try.infoU8s'
  obtain ⟨g, cap, X, hr2, _, hBX, _, hLX⟩ := YRow.append wr wr 23 23 43 i _ 1 24 Try.underlying23 hi h1 h2 h3 rfl (by decide) (by decide) base base n _ _ k u h hb (by omega) (Below.refl _ _) none 0 rfl (fun x hx => by simp [C1] at hx; subst hx; rfl) wr.heap.size hb (Nat.le_refl _) (fun e => by have := (h.own.lt _ e).2; omega) (fun i hi e => by have := (h.lo i hi).2; omega) (Or.inl ⟨hf, none, 0, by rw [hf]; rfl⟩)
  rw [hf] at hr2
  exact ⟨g, cap, X, _, _, hr2, hBX, hLX⟩
/-- What stands at the head of each round. -/
def SpN (w : World) (zss : List (List UInt8)) (wr : World) (j : Nat) : Prop :=
  Below w.heap.size w wr ∧ w.heap.size + 3 ≤ wr.heap.size ∧ OwnRow wr w.heap.size 3 (fun i => box0[i]?.getD (.int .i64 0)) ∧ OwnRow wr (w.heap.size + 1) 5 topRow ∧
    ∃ aX cX k u, OwnRow wr (w.heap.size + 2) 2 (fun i => if i = 0 then .slice (some ⟨w.heap.size + 1, 0, none⟩) 1 1 else .slice aX j cX) ∧ YRow C1 wr (w.heap.size + 3) (w.heap.size + 3) 43 1 (.slice aX j cX) j (fun i => zss[i]?.getD []) k u
theorem SpN.next {w wr X : World} {zss : List (List UInt8)} {j g cap : Nat} {k' : Nat → Nat} {u' : Nat → Value} (h : SpN w zss wr j) (hX : Below (w.heap.size + 3) wr X) (hL : YRow C1 X (w.heap.size + 3) (w.heap.size + 3) 43 1 (.slice (some ⟨g, 0, none⟩) (j + 1) cap) (j + 1) (fun i => zss[i]?.getD []) k' u') :
    SpN w zss (X.setCell ⟨w.heap.size + 2, 1, none⟩ (.slice (some ⟨g, 0, none⟩) (j + 1) cap)) (j + 1) := by
  obtain ⟨h1, h2, h3, h4, aX, cX, k, u, h5, _⟩ := h
  refine ⟨(h1.trans (hX.mono (by omega))).setCell (by simp) _, ?_, (h3.block (hX.block _ (by omega))).store (by simp) _, (h4.block (hX.block _ (by omega))).store (by simp) _, some ⟨g, 0, none⟩, cap, k', u', ((h5.block (hX.block _ (by omega))).set 1 _).congr fun i hi => ?_, hL.store (by simp) (by simp) _⟩
  · have := hX.size; simp [World.setCell]; omega
  · match i, hi with
    | 0, _ => rfl
    | 1, _ => rfl
/-- How many lists stand. -/
def lenAt (w : World) (b : Nat) : Nat := match w.cell? ⟨b, 1, none⟩ with
  | some (.slice _ n _) => n
  | _ => 0
theorem SpN.len {w wr : World} {zss : List (List UInt8)} {j : Nat} (h : SpN w zss wr j) : lenAt wr (w.heap.size + 2) = j := by
  obtain ⟨_, _, _, _, aX, cX, k, u, h5, _⟩ := h
  have := h5.cell (i := 1) (by omega)
  unfold lenAt
  rw [this]
  rfl
theorem SpN.row {w wr : World} {zss : List (List UInt8)} {j : Nat} (h : SpN w zss wr j) : ∃ aX cX, (wr.cell? ⟨w.heap.size + 2, 0, none⟩ = some (.slice (some ⟨w.heap.size + 1, 0, none⟩) 1 1) ∧ wr.cell? ⟨w.heap.size + 2, 1, none⟩ = some (.slice aX j cX) ∧ wr.frozen? ⟨w.heap.size + 2, 1, none⟩ = false) ∧ ∃ k u, YRow C1 wr (w.heap.size + 3) (w.heap.size + 3) 43 1 (.slice aX j cX) j (fun i => zss[i]?.getD []) k u := by
  obtain ⟨_, _, _, _, aX, cX, k, u, h5, h6⟩ := h
  exact ⟨aX, cX, ⟨h5.cell (i := 0) (by omega), h5.cell (i := 1) (by omega), h5.frozen 1⟩, k, u, h6⟩
theorem SpN.start (w : World) (zss : List (List UInt8)) : SpN w zss (((w.alloc (.cells #[.int .i64 0, .slice none 0 0, .slice none 0 0] 36)).alloc (.cells #[.int .i64 2, .int .i64 0, .int .i64 0, .slice none 0 0, .slice none 0 0] 67)).alloc (.cells #[.slice (some ⟨w.heap.size + 1, 0, none⟩) 1 1, .slice none 0 0] 30)) 0 := by
  refine ⟨later3 _ _ _ _, by simp, (rowV w box0 _).later (later2 _ _ _), ?_, none, 0, fun _ => 0, fun _ => .slice none 0 0, ?_, YRow.nil _ _ _ _ _ _⟩
  · have := (rowV (w.alloc (.cells #[.int .i64 0, .slice none 0 0, .slice none 0 0] 36)) topL 67).later (later1 _ (.cells #[.slice (some ⟨w.heap.size + 1, 0, none⟩) 1 1, .slice none 0 0] 30))
    rw [World.heap_size_alloc'] at this
    exact this.congr fun i hi => by match i, hi with
      | 0, _ => rfl
      | 1, _ => rfl
      | 2, _ => rfl
      | 3, _ => rfl
      | 4, _ => rfl
  · have := OwnRow.two ((w.alloc (.cells #[.int .i64 0, .slice none 0 0, .slice none 0 0] 36)).alloc (.cells #[.int .i64 2, .int .i64 0, .int .i64 0, .slice none 0 0, .slice none 0 0] 67)) (.slice (some ⟨w.heap.size + 1, 0, none⟩) 1 1) (.slice none 0 0) 30
    rw [World.heap_size_alloc', World.heap_size_alloc'] at this
    exact this
end Go.Proofs.Ytjabimfinanjoaa

namespace Go.Proofs.Ytjabimfinanjoaa
open Go.RowKit
set_option maxRecDepth 100000

theorem heap_set3 (w : World) (p q r : Addr) (a b c : Value) (k : Nat) (h1 : k ≠ p.block) (h2 : k ≠ q.block) (h3 : k ≠ r.block) : (((w.setCell p a).setCell q b).setCell r c).heap[k]? = w.heap[k]? := by
  rw [Below.heap_setCell _ _ _ _ h3, Below.heap_setCell _ _ _ _ h2, Below.heap_setCell _ _ _ _ h1]
theorem ansF_ok3 {w W' : World} {zss : List (List UInt8)} {aX : Option Addr} {m cX : Nat} (hB : Below w.heap.size w W') (hr : OwnRow W' (w.heap.size + 1) 5 topRow) (hy : BytsO W' (.slice aX m cX) (padY zss) (fun c => w.heap.size + 3 ≤ c ∧ c < W'.heap.size)) (vb vc vd : Value) :
    AnsFR w (0, newFd zss) (.returned (.agg #[.int .i64 0, .slice (some ⟨w.heap.size + 1, 0, none⟩) 1 1, .slice aX m cX])) (((W'.setCell ⟨w.heap.size, 0, none⟩ vb).setCell ⟨w.heap.size, 1, none⟩ vc).setCell ⟨w.heap.size, 2, none⟩ vd) := by
  have hl := hr.lt
  refine ⟨_, _, _, _, _, _, rfl, ((hB.setCell (Nat.le_refl _) _).setCell (Nat.le_refl _) _).setCell (Nat.le_refl _) _, fun b => b = w.heap.size + 1, fun c => w.heap.size + 3 ≤ c ∧ c < W'.heap.size, InosO.top (hr.block (heap_set3 _ _ _ _ _ _ _ _ (by simp) (by simp) (by simp))) _ rfl, hy.keep fun b hb' _ => ?_, fun b h1 h2 => ?_, fun b h1 => ?_⟩
  · have := hb'.1
    exact heap_set3 _ _ _ _ _ _ _ _ (by simp; omega) (by simp; omega) (by simp; omega)
  · have := h2.1
    omega
  · rcases h1 with h1 | h1
    · exact ⟨by omega, by simp only [World.setCell, Array.size_modify]; omega⟩
    · exact ⟨by omega, by simp only [World.setCell, Array.size_modify]; exact h1.2⟩
theorem padY_get (zss : List (List UInt8)) (i : Nat) : zss[i]?.getD [] = (padY zss)[i]?.getD [] := by
  unfold padY
  by_cases h : i < zss.length
  · rw [List.getElem?_append_left h]
  · rw [List.getElem?_append_right (by omega), List.getElem?_eq_none (by omega)]
    cases h : (List.replicate (20 - zss.length) ([] : List UInt8))[i - zss.length]? with
    | none => rfl
    | some z => simp [List.getElem?_replicate] at h; exact h.2 ▸ rfl
theorem padY_length (zss : List (List UInt8)) : (padY zss).length = zss.length + (20 - zss.length) := by unfold padY; simp
/-- Once enough lists stand. -/
theorem SpN.fs {w wr : World} {zss : List (List UInt8)} {m : Nat} (h : SpN w zss wr m) (hm : (padY zss).length = m) : ∃ aX cX, FsX wr (w.heap.size + 2) 0 (newFd zss) (some ⟨w.heap.size + 1, 0, none⟩) 1 aX cX ∧ BytsO wr (.slice aX m cX) (padY zss) (fun c => w.heap.size + 3 ≤ c ∧ c < wr.heap.size) ∧ wr.cell? ⟨w.heap.size + 2, 1, none⟩ = some (.slice aX m cX) := by
  obtain ⟨_, _, _, h4, aX, cX, k, u, h5, h6⟩ := h
  have e : (fun i => zss[i]?.getD []) = (fun i => (padY zss)[i]?.getD []) := funext (padY_get zss)
  rw [e] at h6
  have hy : BytsO wr (.slice aX m cX) (padY zss) (fun c => w.heap.size + 3 ≤ c ∧ c < wr.heap.size) := h6.byts hm _ (fun c h1 h2 => ⟨h1, h2⟩) (fun c h1 h2 => ⟨h1, h2⟩)
  refine ⟨aX, cX, ⟨h5.cell (i := 0) (by omega), ?_, (InosO.top h4 (fun _ => True) trivial).reads, ?_⟩, hy, h5.cell (i := 1) (by omega)⟩
  · have := h5.cell (i := 1) (by omega)
    show wr.cell? _ = some (.slice aX (padY zss).length cX)
    rw [hm]
    exact this
  · show Byts wr (.slice aX (padY zss).length cX) (padY zss)
    rw [hm]
    exact hy.reads

set_option maxHeartbeats 3200000 in
theorem specNewFsU (w : World) (a : Option Addr) (n c : Nat) (zss : List (List UInt8)) (h : Byts w (.slice a n c) zss) (hs : sizeByts zss ≤ 1048576) :
    Calls Try.prog 14 #[.slice a n c] w (AnsFR w (newFR zss)) := by
  obtain ⟨a', cap, e, hm, hc⟩ := h.open'
  simp only [Value.slice.injEq] at e
  obtain ⟨rfl, rfl, rfl⟩ := e
  have hsl : zss.length + (ylens zss).sum ≤ 1048576 := hs
  have HSL : Hid (∀ k, (zss[k]?.getD []).length ≤ 1048576) := fun k => by have := ylens_le zss k; omega
  have HNR : Hid (newFR zss = if fsF (newFd zss) = 0 then (0, newFd zss) else (fsF (newFd zss), [], [])) := rfl
  have HAT : Hid (AtYs w a zss.length zss) := hc
  have HST : Hid (SpN w zss (((w.alloc (.cells #[.int .i64 0, .slice none 0 0, .slice none 0 0] 36)).alloc (.cells #[.int .i64 2, .int .i64 0, .int .i64 0, .slice none 0 0, .slice none 0 0] 67)).alloc (.cells #[.slice (some ⟨w.heap.size + 1, 0, none⟩) 1 1, .slice none 0 0] 30)) 0) := SpN.start w zss
  obtain ⟨n, hn⟩ : ∃ n, zss.length = n := ⟨_, rfl⟩
  have HN : Hid (zss.length = n) := hn
  have hle : n ≤ 1048576 := by omega
  rw [hn] at HAT ⊢
  clear hn hsl hc hm h hs
  go_enter Try.func14, Try.ntmps14
  go_wp2_with fail
  go_loopw [4] (fun i wr => ∃ j : Nat, j ≤ n ∧ i = .int .i64 j ∧ SpN w zss wr j) (fun i _ => n - (intOf i).toNat)
  case atStart => exact ⟨0, Nat.zero_le _, rfl, HST.out⟩
  case round =>
    obtain ⟨j, hj, rfl, hsp⟩ := hrel
    have HSP : Hid (SpN w zss wr j) := hsp
    obtain ⟨aX, cX, ⟨q0, q1, q2⟩, k, u, hy⟩ := hsp.row
    have hbig : w.heap.size + 2 < wr.heap.size := hsp.2.1
    by_cases hlt : j < n
    · obtain ⟨b, off, ua, uc, e, c1, i1⟩ := HAT.out j hlt
      subst e
      have hbl : b < w.heap.size := lt_of_cell c1
      have hbr : b < wr.heap.size := by omega
      replace c1 := cell_later hsp.1 c1
      obtain ⟨na, nc, X1, g, cap, X, k', u', hr1, hr2, hb1, hBX, hL⟩ := rndY wr (w.heap.size + 3) j _ zss k u hy hsp.2.1 (by omega) ua uc (i1.later hsp.1) (HSL.out j)
      have HR1 : Hid (_ = _) := hr1
      have HR2 : Hid (_ = _) := hr2
      have HBX : Hid (Below (w.heap.size + 3) wr X) := hBX
      have HL : Hid (YRow C1 X (w.heap.size + 3) (w.heap.size + 3) 43 1 (.slice (some ⟨g, 0, none⟩) (j + 1) cap) (j + 1) (fun i => zss[i]?.getD []) k' u') := hL
      have z0 := cell_later hb1 q1
      have z1 := cell_later hb1 c1
      have hw1 : w.heap.size + 2 < X1.heap.size := Nat.lt_of_lt_of_le hbig hb1.size
      have hw2 : b < X1.heap.size := by omega
      have x0 : X.cell? ⟨w.heap.size + 2, 1, none⟩ = some (.slice aX j cX) := (hBX.cell (p := ⟨w.heap.size + 2, 1, none⟩) (by simp)).trans q1
      have x1 : X.frozen? ⟨w.heap.size + 2, 1, none⟩ = false := (hBX.frozen (p := ⟨w.heap.size + 2, 1, none⟩) (by simp)).trans q2
      clear hsp hy hr1 hr2 hb1 hBX hL i1
      generalize (zss[j]?.getD []).length = ln at *
      go_wp2_with fail
      go_region_law (first
        | (refine step_append_run rfl _ _ 43 rfl _ _ rfl rfl _ _ HR1.out ?_)
        | (refine step_append_run rfl _ _ 23 rfl _ _ rfl rfl _ _ HR2.out ?_))
      all_goals
        go_wp2
        go_roundw
        case rel => exact ⟨j + 1, by omega, by go_num, HSP.out.next HBX.out HL.out⟩
        case measure => simp [intOf]; omega
    · have e : j = n := by omega
      subst e
      clear q0 q1 q2 hy hsp HST HAT HSL hbig hlt hj
      go_wp2_with fail
      go_loopw [] (fun wq => ∃ m : Nat, j ≤ m ∧ (m ≤ 20 ∨ m = j) ∧ SpN w zss wq m) (fun wq => 20 - lenAt wq (w.heap.size + 2))
      case atStart => exact ⟨j, Nat.le_refl _, Or.inr rfl, HSP.out⟩
      case round =>
        clear HSP
        obtain ⟨m, hjm, hm2, hsp⟩ := hrel
        have HSP2 : Hid (SpN w zss wr m) := hsp
        have hbig : w.heap.size + 2 < wr.heap.size := hsp.2.1
        by_cases hlt : m < 20
        · obtain ⟨aX, cX, ⟨q0, q1, q2⟩, k, u, hy⟩ := hsp.row
          obtain ⟨g, cap, X, k', u', hr, hBX, hL⟩ := rndE wr (w.heap.size + 3) m _ _ k u hy hsp.2.1 (by omega) (by have := HN.out; rw [List.getElem?_eq_none (by omega)]; rfl)
          have HR : Hid (_ = _) := hr
          have HBX : Hid (Below (w.heap.size + 3) wr X) := hBX
          have HL : Hid (YRow C1 X (w.heap.size + 3) (w.heap.size + 3) 43 1 (.slice (some ⟨g, 0, none⟩) (m + 1) cap) (m + 1) (fun i => zss[i]?.getD []) k' u') := hL
          have x0 : X.cell? ⟨w.heap.size + 2, 1, none⟩ = some (.slice aX m cX) := (hBX.cell (p := ⟨w.heap.size + 2, 1, none⟩) (by simp)).trans q1
          have x1 : X.frozen? ⟨w.heap.size + 2, 1, none⟩ = false := (hBX.frozen (p := ⟨w.heap.size + 2, 1, none⟩) (by simp)).trans q2
          have hltI : (m : Int) < 20 := by omega
          clear hsp hy hr hBX hL
          go_wp2_with (at_builtin; refine wpList_append_run rfl _ _ 23 rfl _ _ rfl rfl _ _ HR.out ?_)
          go_roundw
          case rel => exact ⟨m + 1, by omega, Or.inl (by omega), HSP2.out.next HBX.out HL.out⟩
          case measure =>
            have e1 := (HSP2.out.next HBX.out HL.out).len
            have e2 := HSP2.out.len
            show 20 - lenAt (X.setCell ⟨w.heap.size + 2, 1, none⟩ (.slice (some ⟨g, 0, none⟩) (m + 1) cap)) (w.heap.size + 2) < 20 - lenAt wr (w.heap.size + 2)
            rw [e1, e2]
            omega
        · obtain ⟨aX, cX, hfx, hbo, q1⟩ := hsp.fs (by rw [padY_length]; have := HN.out; omega)
          have HFX : Hid (FsX wr (w.heap.size + 2) 0 (newFd zss) (some ⟨w.heap.size + 1, 0, none⟩) 1 aX cX) := hfx
          have HBO : Hid (BytsO wr (.slice aX m cX) (padY zss) (fun c => w.heap.size + 3 ≤ c ∧ c < wr.heap.size)) := hbo
          have hltI : ¬ ((m : Int) < 20) := by omega
          have q0 := hfx.c0
          clear hfx hbo hsp
          go_wp2_with fail
          refine (l6Fault_any wr (w.heap.size + 2) 0 (newFd zss) _ _ _ _ HFX.out sizeTop).mono ?_
          rintro e w2 ⟨rfl, hb2⟩
          have HB2 : Hid (Below w.heap.size w w2) := HSP2.out.1.trans (hb2.mono (by omega))
          have C0 : Hid (OwnRow w2 w.heap.size 3 (fun i => box0[i]?.getD (.int .i64 0))) := HSP2.out.2.2.1.later hb2
          have C1' : Hid (OwnRow w2 (w.heap.size + 1) 5 topRow) := HSP2.out.2.2.2.1.later hb2
          have HB3 : Hid (BytsO w2 (.slice aX m cX) (padY zss) (fun c => w.heap.size + 3 ≤ c ∧ c < w2.heap.size)) := (HBO.out.later hb2).mono fun c hc => ⟨hc.1, by have := hb2.size; omega⟩
          have d0 := cell_later hb2 q0
          have d1 := cell_later hb2 q1
          have t0 := C0.out.cell (i := 0) (by omega)
          have t1 := C0.out.cell (i := 1) (by omega)
          have t2 := C0.out.cell (i := 2) (by omega)
          have s0 := C0.out.frozen 0
          have s1 := C0.out.frozen 1
          have s2 := C0.out.frozen 2
          simp [box0] at t0 t1 t2
          simp [newFd] at d0
          clear hb2 HFX HBO q0 q1
          by_cases hz : fsF (newFd zss) = 0
          · have HZ : Hid (fsF (newFd zss) = 0) := hz
            rw [hz]
            clear hz
            go_wp2
            refine bodyPost_ret (v := .agg #[.int .i64 0, .slice (some ⟨w.heap.size + 1, 0, none⟩) 1 1, .slice aX m cX]) (by simp [results, Try.results14, go_sem, t0, t1, t2]) rfl ?_
            rw [HNR.out, if_pos HZ.out]
            exact ansF_ok3 HB2.out C1'.out HB3.out _ _ _
          · have hb : (fsF (newFd zss) != 0) = true := by simpa using hz
            have HZ : Hid (¬ fsF (newFd zss) = 0) := hz
            clear hz
            go_wp2
            refine bodyPost_ret (v := .agg #[.int .i64 (fsF (newFd zss)), .slice none 0 0, .slice none 0 0]) (by simp [results, Try.results14, go_sem, t0, t1, t2]) rfl ?_
            rw [HNR.out, if_neg HZ.out]
            exact ansF_bad (((HB2.out.setCell (Nat.le_refl _) _).setCell (Nat.le_refl _) _).setCell (Nat.le_refl _) _) _
end Go.Proofs.Ytjabimfinanjoaa

namespace Go.Proofs.Ytjabimfinanjoaa
open Go.RowKit
set_option maxRecDepth 100000

theorem Try.cellsU8sN : Try.prog.cellsOf 43 = 1 := by kernel_rfl
theorem Try.cellsU8N : Try.prog.cellsOf 5 = 1 := by kernel_rfl
def spanByts (zss : List (List UInt8)) : Nat := (ylens zss).sum
theorem spanByts_le (zss : List (List UInt8)) : spanByts zss ≤ 3 * sizeByts zss := by unfold spanByts sizeByts; omega
theorem markBytsV {w : World} {v : Value} {zss : List (List UInt8)} {F : Nat → Prop} (k : Int) (h : BytsO w v zss F) (hk0 : 1 ≤ k) (hk : k + (spanByts zss : Nat) ≤ 4294967296) :
    Calls Try.prog 19 #[v, .int .i64 k] w fun e w' => e = .returned (.int .i64 (k + (spanByts zss : Nat))) ∧ Chg F w w' :=
  markBytsU k h (by omega) (by unfold spanByts at hk; omega)
theorem newFR_span (zss : List (List UInt8)) : spanFs (newFR zss).2 ≤ 3 + sizeByts zss := by
  unfold newFR
  split
  · have e : spanFs (newFd zss) = spanInos [dir0] + (ylens (padY zss)).sum := rfl
    have e3 : spanInos [dir0] = 3 := by decide
    show spanFs (newFd zss) ≤ _
    rw [e, e3, ylens_pad]
    unfold sizeByts
    omega
  · show spanFs ([], []) ≤ _
    have : spanFs ([], []) = 0 := by decide
    omega
end Go.Proofs.Ytjabimfinanjoaa

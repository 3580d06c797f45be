/- NewFs, the program's. NewFs, the specification's: one round of the list that grows. NewFs, the specification's. NewFs: what its law asks besides. The number of a disk: what SeqOf tells. Pure. SeqOf, both sides; what is wrong of a disk that is to have a file system. Rows that grow by append, of elements of any kind, each with memory of its own. -/
import Derived.Test.YtlacppjlclfpmaaGreatM12
import Derived.Test.YtlacppjlclfpmaaGreatM15
import Derived.Test.YtlacppjlclfpmaaGreatM04
import Derived.Test.YtlacppjlclfpmaaGreatM01
import Derived.Deep.RegionHeld3
import Derived.Test.YtlacppjlclfpmaaGreatM02
import Derived.Test.YtlacppjlclfpmaaGreatM09
import Derived.Test.YtlacppjlclfpmaaGreatM05
namespace Go.Proofs.YtlacppjlclfpmaaGreat
open Go.RowKit
set_option maxRecDepth 100000

section
variable {P : Program} {w : World}
theorem wpList_appendN_run {ops : Array Oper} {rest : List Oper} {o : Oper} {a : Act} {Q : Exit → Act → World → Prop} (hgd : o.guard = none) (s x : Operand) (t t' : TypeId)
    (ho : o.op = .call { callee := .builtin .append, args := #[s, x], argTypes := #[t, t'] }) (v y : Value) (hs : a.eval s = v) (hx : a.eval x = y) (v' : Value) (w' : World)
    (hr : (Builtin.append_ #[t, t'] o.type #[v, y]).run P w = .ok v' w') (h : wpList P ops Q rest (a.put o.dst v') w') : wpList P ops Q (o :: rest) a w := by
  refine wpList_plain hgd fun K hK => ?_
  unfold Oper.wp execOp
  simp only [ho, resolve, invoke, builtin, Sem.run_bind, Sem.run_pure, Result.andThen_ok, List.map_toArray, List.map_cons, List.map_nil, hs, hx, hr]
  exact hK _ _ h
end

/-- The top directory alone, and the data that it comes with. -/
def dir0 : ID := (2, 0, 0, [], [])
def padY (zss : List (List UInt8)) : List (List UInt8) := zss ++ List.replicate (20 - zss.length) []
def newFd (zss : List (List UInt8)) : FD := ([dir0], padY zss)
def newFR (zss : List (List UInt8)) : Int × FD := if fsF (newFd zss) = 0 then (0, newFd zss) else (fsF (newFd zss), [], [])
def topRow : Nat → Value := fun i => (#[Value.int .i64 2, .int .i64 0, .int .i64 0, .slice none 0 0, .slice none 0 0][i]?).getD (.slice none 0 0)
theorem InosO.top {w : World} {b : Nat} (h : OwnRow w b 5 topRow) (F : Nat → Prop) (hF : F b) : InosO w (.slice (some ⟨b, 0, none⟩) 1 1) [dir0] F := by
  refine Or.inr ⟨b, 1, fun _ => (.slice none 0 0, .slice none 0 0), fun _ _ => False, hF, fun _ _ h => h.elim, fun _ _ _ _ h => h.elim, rfl, ⟨by unfold maxLen; simp, by simp⟩, h.congr fun i hi => ?_, fun i hi => ?_⟩
  · match i, hi with
    | 0, _ => rfl
    | 1, _ => rfl
    | 2, _ => rfl
    | 3, _ => rfl
    | 4, _ => rfl
  · have e : i = 0 := by simpa using hi
    subst e
    exact ⟨⟨rfl, rfl, rfl, none, 0, 0, rfl, Nat.le_refl _⟩, fun _ => False, fun _ => False, Or.inl ⟨rfl, none, 0, rfl⟩, Or.inl ⟨rfl, none, 0, rfl⟩, fun _ h => h.elim, fun _ h => h.elim id id⟩
theorem byts_row {w Y : World} {b n m cap : Nat} {u : Nat → Value} {zss : List (List UInt8)} (hY : Below w.heap.size w Y) (hr : OwnRow Y b (n + m) (fun i => if i < n then u i else .slice none 0 0)) (hl : zss.length = n) (hc : n + m ≤ maxLen ∧ n + m ≤ cap)
    (hu : ∀ i, i < n → Byt w (u i) (zss[i]?.getD [])) : Byts Y (.slice (some ⟨b, 0, none⟩) (n + m) cap) (zss ++ List.replicate m []) := by
  refine ⟨some ⟨b, 0, none⟩, cap, by simp [hl], by simp [hl]; exact hc, fun k hk => ?_⟩
  have hk' : k < n + m := by simpa [hl] using hk
  have c := hr.cell hk'
  by_cases h : k < n
  · have e : (zss ++ List.replicate m [])[k]?.getD [] = zss[k]?.getD [] := by rw [List.getElem?_append_left (by omega)]
    obtain ⟨ua, uc, eu, h1, h2⟩ := hu k h
    rw [if_pos h, eu] at c
    rw [e]
    exact ⟨b, 0, ua, uc, rfl, by rw [Nat.zero_add]; exact c, ua, uc, rfl, h1, h2.later hY⟩
  · have e : (zss ++ List.replicate m [])[k]?.getD [] = [] := by
      rw [List.getElem?_append_right (by omega)]
      cases h : (List.replicate m ([] : List UInt8))[k - zss.length]? with
      | none => rfl
      | some z => simp [List.getElem?_replicate] at h; exact h.2.symm ▸ rfl
    rw [if_neg h] at c
    rw [e]
    exact ⟨b, 0, none, 0, rfl, by rw [Nat.zero_add]; exact c, Byt.nil _ _ _⟩
theorem World.heap_size_alloc' (w : World) (o : Obj) : (w.alloc o).heap.size = w.heap.size + 1 := by simp
theorem Byts.at' {w : World} {a : Option Addr} {n c : Nat} {zss : List (List UInt8)} (h : Byts w (.slice a n c) zss) : n = zss.length ∧ AtYs w a n zss := by
  obtain ⟨a', cap, e, _, h3⟩ := h
  simp only [Value.slice.injEq] at e
  obtain ⟨rfl, rfl, rfl⟩ := e
  exact ⟨rfl, h3⟩
theorem padY_le {zss : List (List UInt8)} {m : Nat} (h : 20 - zss.length = m) : padY zss = zss ++ List.replicate m [] := by unfold padY; rw [h]
theorem newFd_len {zss : List (List UInt8)} (h : fsF (newFd zss) = 0) : (padY zss).length = 20 := by
  have he : fsE (newFd zss) = 0 := by
    unfold fsF at h
    by_cases e : fsE (newFd zss) = 0
    · exact e
    · rw [if_neg e] at h; exact h
  exact (formB_no (fsE_zero he).2.1).2.2
theorem sizeTop : sizeInos [dir0] ≤ 1048576 := by decide
theorem ylens_pad (zss : List (List UInt8)) : (ylens (padY zss)).sum = (ylens zss).sum := by
  unfold ylens padY
  rw [List.map_append, List.sum_append, List.map_replicate]
  simp
theorem ansF_bad {w w' : World} (hb : Below w.heap.size w w') (c : Int) : AnsFR w (c, [], []) (.returned (.agg #[.int .i64 c, .slice none 0 0, .slice none 0 0])) w' :=
  ⟨none, 0, 0, none, 0, 0, rfl, hb, fun _ => False, fun _ => False, Or.inl ⟨rfl, none, 0, rfl⟩, Or.inl ⟨rfl, none, 0, rfl⟩, fun _ h => h.elim, fun _ h => h.elim False.elim False.elim⟩

def box0 : List Value := [.int .i64 0, .slice none 0 0, .slice none 0 0]
def topL : List Value := [.int .i64 2, .int .i64 0, .int .i64 0, .slice none 0 0, .slice none 0 0]
theorem rowV (w : World) (vs : List Value) (t : TypeId) : OwnRow (w.alloc (.cells vs.toArray t)) w.heap.size vs.length (fun i => vs[i]?.getD (.int .i64 0)) := by
  refine ⟨_, t, Go.Deep.blk_alloc_new _ _, by simp, fun i hi => ?_⟩
  simp [hi]
theorem heap_set4 (w : World) (p q r s : Addr) (a b c d : Value) (k : Nat) (h1 : k ≠ p.block) (h2 : k ≠ q.block) (h3 : k ≠ r.block) (h4 : k ≠ s.block) : ((((w.setCell p a).setCell q b).setCell r c).setCell s d).heap[k]? = w.heap[k]? := by
  rw [Below.heap_setCell _ _ _ _ h4, Below.heap_setCell _ _ _ _ h3, Below.heap_setCell _ _ _ _ h2, Below.heap_setCell _ _ _ _ h1]
theorem field_rack (a : Option Addr) (n c : Nat) (w : World) : (Instr.field 76 (.agg #[.slice a n c]) 0).run Tryz.prog w = .ok (.slice a n c) w := by kernel_rfl
/-- The answer of a new file system, once its parts stand. -/
theorem ansF_ok {w W W' : World} {zss : List (List UInt8)} {g n : Nat} (hB : Below w.heap.size w W') (hw : w.heap.size + 3 ≤ W.heap.size) (hb : Below W.heap.size W W') (hr : OwnRow W (w.heap.size + 1) 5 topRow) (hy : BytsO W' (.slice (some ⟨g, 0, none⟩) n n) (padY zss) (fresh W W')) (va vb vc vd : Value) :
    AnsFR w (0, newFd zss) (.returned (.agg #[.int .i64 0, .slice (some ⟨w.heap.size + 1, 0, none⟩) 1 1, .slice (some ⟨g, 0, none⟩) n n])) ((((W'.setCell ⟨w.heap.size + 2, 1, none⟩ va).setCell ⟨w.heap.size, 0, none⟩ vb).setCell ⟨w.heap.size, 1, none⟩ vc).setCell ⟨w.heap.size, 2, none⟩ vd) := by
  have hsz : W.heap.size ≤ W'.heap.size := hb.size
  refine ⟨_, _, _, _, _, _, rfl, (((hB.setCell (by simp) _).setCell (by simp) _).setCell (by simp) _).setCell (by simp) _, fun b => b = w.heap.size + 1, fresh W W', InosO.top ((hr.later hb).block (heap_set4 _ _ _ _ _ _ _ _ _ _ (by simp) (by simp) (by simp) (by simp))) _ rfl, hy.keep fun b hb' _ => ?_, fun b h1 h2 => ?_, fun b h1 => ?_⟩
  · have := hb'.1
    exact heap_set4 _ _ _ _ _ _ _ _ _ _ (by simp; omega) (by simp; omega) (by simp; omega) (by simp; omega)
  · have := h2.1
    omega
  · rcases h1 with h1 | h1
    · exact ⟨by omega, by simp only [World.setCell, Array.size_modify]; omega⟩
    · have := h1.1
      exact ⟨by omega, by simp only [World.setCell, Array.size_modify]; exact h1.2⟩

set_option maxHeartbeats 800000 in
theorem implNew_short (w : World) (a : Option Addr) (n c : Nat) (zss : List (List UInt8)) (h : Byts w (.slice a n c) zss) (hs : sizeByts zss ≤ 1048576) (hn : n < 20) :
    Calls Tryz.prog 12 #[.slice a n c] w (AnsFR w (newFR zss)) := by
  obtain ⟨a', cap, e, hm, hc⟩ := h.open'
  simp only [Value.slice.injEq] at e
  obtain ⟨rfl, rfl, rfl⟩ := e
  have hsl : zss.length + (ylens zss).sum ≤ 1048576 := hs
  have HSL : Hid (∀ k, ((padY zss)[k]?.getD []).length ≤ 1048576) := fun k => by have := ylens_le (padY zss) k; rw [ylens_pad] at this; omega
  have HLEN : Hid (fsF (newFd zss) = 0 → (padY zss).length = 20) := newFd_len
  have HNR : Hid (newFR zss = if fsF (newFd zss) = 0 then (0, newFd zss) else (fsF (newFd zss), [], [])) := rfl
  have HR0 : Hid (OwnRow (((w.alloc (.cells #[.int .i64 0, .slice none 0 0, .slice none 0 0] 47)).alloc (.cells #[.int .i64 2, .int .i64 0, .int .i64 0, .slice none 0 0, .slice none 0 0] 58)).alloc (.cells #[.slice (some ⟨w.heap.size + 1, 0, none⟩) 1 1, .slice a zss.length c] 27)) w.heap.size 3 (fun i => box0[i]?.getD (.int .i64 0))) := (rowV w box0 _).later (later2 _ _ _)
  have HR1 : Hid (OwnRow (((w.alloc (.cells #[.int .i64 0, .slice none 0 0, .slice none 0 0] 47)).alloc (.cells #[.int .i64 2, .int .i64 0, .int .i64 0, .slice none 0 0, .slice none 0 0] 58)).alloc (.cells #[.slice (some ⟨w.heap.size + 1, 0, none⟩) 1 1, .slice a zss.length c] 27)) (w.heap.size + 1) 5 topRow) := by
    have := (rowV (w.alloc (.cells #[.int .i64 0, .slice none 0 0, .slice none 0 0] 47)) topL 58).later (later1 _ (.cells #[.slice (some ⟨w.heap.size + 1, 0, none⟩) 1 1, .slice a zss.length c] 27))
    rw [World.heap_size_alloc'] at this
    exact this.congr fun i hi => by match i, hi with
      | 0, _ => rfl
      | 1, _ => rfl
      | 2, _ => rfl
      | 3, _ => rfl
      | 4, _ => rfl
  have HR2 : Hid (OwnRow (((w.alloc (.cells #[.int .i64 0, .slice none 0 0, .slice none 0 0] 47)).alloc (.cells #[.int .i64 2, .int .i64 0, .int .i64 0, .slice none 0 0, .slice none 0 0] 58)).alloc (.cells #[.slice (some ⟨w.heap.size + 1, 0, none⟩) 1 1, .slice a zss.length c] 27)) (w.heap.size + 2) 2 (fun i => if i = 0 then .slice (some ⟨w.heap.size + 1, 0, none⟩) 1 1 else .slice a zss.length c)) := by
    have := OwnRow.two ((w.alloc (.cells #[.int .i64 0, .slice none 0 0, .slice none 0 0] 47)).alloc (.cells #[.int .i64 2, .int .i64 0, .int .i64 0, .slice none 0 0, .slice none 0 0] 58)) (.slice (some ⟨w.heap.size + 1, 0, none⟩) 1 1) (.slice a zss.length c) 27
    rw [World.heap_size_alloc', World.heap_size_alloc'] at this
    exact this
  have hch : ∀ k, k < zss.length → ∃ v : Value, v.oneCell' = true ∧ (∃ b off, a = some ⟨b, off, none⟩ ∧ w.cell? ⟨b, off + k, none⟩ = some v) ∧ Byt w v (zss[k]?.getD []) := fun k hk => by
    obtain ⟨b, off, ua, uc, e, hcell, hby⟩ := hc k hk
    exact ⟨_, rfl, ⟨b, off, e, hcell⟩, hby⟩
  obtain ⟨u, hu⟩ := pickQ hch
  have HU : Hid (∀ k, k < zss.length → (u k).oneCell' = true ∧ (∃ b off, a = some ⟨b, off, none⟩ ∧ w.cell? ⟨b, off + k, none⟩ = some (u k)) ∧ Byt w (u k) (zss[k]?.getD [])) := hu
  obtain ⟨m, hmn⟩ : ∃ m, 20 - zss.length = m := ⟨_, rfl⟩
  have hme : ((m : Nat) : Int) = 20 - (zss.length : Int) := by omega
  have hnm : zss.length + m = 20 := by omega
  have HP : Hid (padY zss = zss ++ List.replicate m []) := padY_le hmn
  have hm0 : 0 < m := by omega
  clear hch hu hc h hs hm hmn hsl
  go_enter Tryz.func12, Tryz.ntmps12
  go_wp2_with fail
  refine (copyOfYs_any _ a zss.length c u (by omega) (fun k hk => (HU.out k hk).1) (fun k hk => by obtain ⟨b, off, e, hcell⟩ := (HU.out k hk).2.1; exact ⟨b, off, e, cell_later (later3 _ _ _ _) hcell⟩)).mono ?_
  rintro e w1 ⟨rfl, hb1, hr1⟩
  have HB1 : Hid (Below w.heap.size w w1) := (later3 _ _ _ _).trans (hb1.mono (by simp; omega))
  have hsz1 : w.heap.size + 3 ≤ w1.heap.size := by have := hb1.size; simp at this; omega
  have hr1' : OwnRow w1 (w.heap.size + 1 + 1 + 1) zss.length u := by simpa using hr1
  obtain ⟨cap, X, hap, hbX, hcap, hrX⟩ := append_zeros w1 _ zss.length m u hm0 (by omega) hr1'
  have A0 : Hid (OwnRow X w.heap.size 3 (fun i => box0[i]?.getD (.int .i64 0))) := (HR0.out.later hb1).later hbX
  have A1 : Hid (OwnRow X (w.heap.size + 1) 5 topRow) := (HR1.out.later hb1).later hbX
  have A2 : Hid (OwnRow X (w.heap.size + 2) 2 (fun i => if i = 0 then .slice (some ⟨w.heap.size + 1, 0, none⟩) 1 1 else .slice a zss.length c)) := (HR2.out.later hb1).later hbX
  have HBX : Hid (Below w.heap.size w X) := HB1.out.trans (hbX.mono (by omega))
  have hszX : w1.heap.size ≤ X.heap.size := hbX.size
  rw [hme] at hap
  have HRX : Hid (OwnRow X w1.heap.size (zss.length + m) (fun i => if i < zss.length then u i else .slice none 0 0)) := hrX
  have HCAP : Hid (zss.length + m ≤ maxLen ∧ zss.length + m ≤ cap) := hcap
  have c0 := A2.out.cell (i := 0) (by omega)
  have c1 := A2.out.cell (i := 1) (by omega)
  have f1 := A2.out.frozen 1
  simp only [if_pos, Nat.one_ne_zero, if_false] at c0 c1
  rw [hnm] at hap
  have HAP : Hid ((Builtin.append_ #[25, 3] 25 #[.slice (some ⟨w.heap.size + 1 + 1 + 1, 0, none⟩) zss.length zss.length, .int .i64 (20 - (zss.length : Int))]).run Tryz.prog w1 = .ok (.slice (some ⟨w1.heap.size, 0, none⟩) 20 cap) X) := hap
  clear hb1 hr1 hr1' hbX hrX hcap hap HR0 HR1 HR2
  go_wp2_with (at_builtin; refine wpList_appendN_run rfl _ _ 25 3 rfl _ _ rfl rfl _ _ HAP.out ?_)
  have HY : Hid (FsR (X.setCell ⟨w.heap.size + 1 + 1, 1, none⟩ (.slice (some ⟨w1.heap.size, 0, none⟩) 20 cap)) (.slice (some ⟨w.heap.size + 1, 0, none⟩) 1 1) (.slice (some ⟨w1.heap.size, 0, none⟩) 20 cap) (newFd zss)) := ⟨(InosO.top (A1.out.store (by simp) _) (fun _ => True) trivial).reads, by
    have := byts_row (w := w) (HBX.out.setCell (p := ⟨w.heap.size + 1 + 1, 1, none⟩) (by simp; omega) (.slice (some ⟨w1.heap.size, 0, none⟩) 20 cap)) (HRX.out.store (by simp; omega) _) rfl HCAP.out (fun i hi => (HU.out i hi).2.2)
    rw [hnm, ← HP.out] at this
    exact this⟩
  have HBY : Hid (Below w.heap.size w (X.setCell ⟨w.heap.size + 1 + 1, 1, none⟩ (.slice (some ⟨w1.heap.size, 0, none⟩) 20 cap))) := HBX.out.setCell (by simp; omega) _
  have hszY : w.heap.size ≤ (X.setCell ⟨w.heap.size + 1 + 1, 1, none⟩ (.slice (some ⟨w1.heap.size, 0, none⟩) 20 cap)).heap.size := HBY.out.size
  have hszZ : w.heap.size + 3 ≤ (X.setCell ⟨w.heap.size + 1 + 1, 1, none⟩ (.slice (some ⟨w1.heap.size, 0, none⟩) 20 cap)).heap.size := by simp only [World.setCell, Array.size_modify]; omega
  have E0 : Hid (OwnRow (X.setCell ⟨w.heap.size + 1 + 1, 1, none⟩ (.slice (some ⟨w1.heap.size, 0, none⟩) 20 cap)) w.heap.size 3 (fun i => box0[i]?.getD (.int .i64 0))) := A0.out.store (by simp; omega) _
  have E1 : Hid (OwnRow (X.setCell ⟨w.heap.size + 1 + 1, 1, none⟩ (.slice (some ⟨w1.heap.size, 0, none⟩) 20 cap)) (w.heap.size + 1) 5 topRow) := A1.out.store (by simp) _
  have E2 : Hid (OwnRow (X.setCell ⟨w.heap.size + 1 + 1, 1, none⟩ (.slice (some ⟨w1.heap.size, 0, none⟩) 20 cap)) (w.heap.size + 2) 2 (fun i => if i = 0 then .slice (some ⟨w.heap.size + 1, 0, none⟩) 1 1 else .slice (some ⟨w1.heap.size, 0, none⟩) 20 cap)) := (A2.out.set 1 _).congr fun i hi => by
    match i, hi with
    | 0, _ => rfl
    | 1, _ => rfl
  clear A0 A1 A2 HRX HCAP HAP c0 c1 f1 HU
  refine (implFsI _ _ _ _ _ _ _ (newFd zss) HY.out sizeTop).mono ?_
  rintro e w2 ⟨rfl, hb2⟩
  have HB2 : Hid (Below w.heap.size w w2) := HBY.out.trans (hb2.mono hszY)
  have hsz2 : w.heap.size + 3 ≤ w2.heap.size := by have := hb2.size; omega
  have C0 : Hid (OwnRow w2 w.heap.size 3 (fun i => box0[i]?.getD (.int .i64 0))) := E0.out.later hb2
  have C1 : Hid (OwnRow w2 (w.heap.size + 1) 5 topRow) := E1.out.later hb2
  have C2 : Hid (OwnRow w2 (w.heap.size + 2) 2 (fun i => if i = 0 then .slice (some ⟨w.heap.size + 1, 0, none⟩) 1 1 else .slice (some ⟨w1.heap.size, 0, none⟩) 20 cap)) := E2.out.later hb2
  have HAT : Hid (AtYs w2 (some ⟨w1.heap.size, 0, none⟩) 20 (padY zss)) := (HY.out.2.later hb2).at'.2
  have HL1 : Hid (20 = (padY zss).length) := HY.out.2.at'.1
  clear hb2 HY E0 E1 E2
  by_cases hz : fsF (newFd zss) = 0
  · have HZ : Hid (fsF (newFd zss) = 0) := hz
    rw [hz]
    have d0 := C2.out.cell (i := 0) (by omega)
    have d1 := C2.out.cell (i := 1) (by omega)
    simp only [if_pos, Nat.one_ne_zero, if_false] at d0 d1
    clear hz
    go_wp2_with fail
    refine (rackOfY_walk w2 _ _ _ (padY zss) HL1.out.symm (by have := HLEN.out HZ.out; have := HL1.out; omega) (fun k _ => HSL.out k) HAT.out).mono ?_
    rintro e w3 ⟨g, rfl, hb3, ho3⟩
    have HB3 : Hid (Below w.heap.size w w3) := HB2.out.trans (hb3.mono (by omega))
    have HB3' : Hid (Below w2.heap.size w2 w3) := hb3
    have HO3 : Hid (BytsO w3 (.slice (some ⟨g, 0, none⟩) 20 20) (padY zss) (fresh w2 w3)) := ho3
    have t0 := (C0.out.later hb3).cell (i := 0) (by omega)
    have t1 := (C0.out.later hb3).cell (i := 1) (by omega)
    have t2 := (C0.out.later hb3).cell (i := 2) (by omega)
    have s0 := (C0.out.later hb3).frozen 0
    have s1 := (C0.out.later hb3).frozen 1
    have s2 := (C0.out.later hb3).frozen 2
    have q0 := (C2.out.later hb3).cell (i := 0) (by omega)
    have q1 := (C2.out.later hb3).cell (i := 1) (by omega)
    have r1 := (C2.out.later hb3).frozen 1
    simp only [if_pos, Nat.one_ne_zero, if_false] at q0 q1
    simp [box0] at t0 t1 t2
    clear hb3 ho3 d0 d1
    have hfr := field_rack (some ⟨g, 0, none⟩) 20 20
    go_wp2
    refine bodyPost_ret (v := .agg #[.int .i64 0, .slice (some ⟨w.heap.size + 1, 0, none⟩) 1 1, .slice (some ⟨g, 0, none⟩) 20 20]) (by simp [results, Tryz.results12, go_sem, t0, t1, t2]) rfl ?_
    rw [HNR.out, if_pos HZ.out]
    exact ansF_ok HB3.out hsz2 HB3'.out C1.out HO3.out _ _ _ _
  · have hb : (fsF (newFd zss) != 0) = true := by simpa using hz
    have HZ : Hid (¬ fsF (newFd zss) = 0) := hz
    have t0 := C0.out.cell (i := 0) (by omega)
    have t1 := C0.out.cell (i := 1) (by omega)
    have t2 := C0.out.cell (i := 2) (by omega)
    have s0 := C0.out.frozen 0
    have s1 := C0.out.frozen 1
    have s2 := C0.out.frozen 2
    simp [box0] at t0 t1 t2
    clear hz
    go_wp2
    refine bodyPost_ret (v := .agg #[.int .i64 (fsF (newFd zss)), .slice none 0 0, .slice none 0 0]) (by simp [results, Tryz.results12, go_sem, t0, t1, t2]) rfl ?_
    rw [HNR.out, if_neg HZ.out]
    exact ansF_bad (((HB2.out.setCell (Nat.le_refl _) _).setCell (Nat.le_refl _) _).setCell (Nat.le_refl _) _) _
set_option maxHeartbeats 800000 in
theorem implNew_long (w : World) (a : Option Addr) (n c : Nat) (zss : List (List UInt8)) (h : Byts w (.slice a n c) zss) (hs : sizeByts zss ≤ 1048576) (hn : ¬ n < 20) :
    Calls Tryz.prog 12 #[.slice a n c] w (AnsFR w (newFR zss)) := by
  obtain ⟨a', cap, e, hm, hc⟩ := h.open'
  simp only [Value.slice.injEq] at e
  obtain ⟨rfl, rfl, rfl⟩ := e
  have hsl : zss.length + (ylens zss).sum ≤ 1048576 := hs
  have HSL : Hid (∀ k, ((padY zss)[k]?.getD []).length ≤ 1048576) := fun k => by have := ylens_le (padY zss) k; rw [ylens_pad] at this; omega
  have HLEN : Hid (fsF (newFd zss) = 0 → (padY zss).length = 20) := newFd_len
  have HNR : Hid (newFR zss = if fsF (newFd zss) = 0 then (0, newFd zss) else (fsF (newFd zss), [], [])) := rfl
  have HR0 : Hid (OwnRow (((w.alloc (.cells #[.int .i64 0, .slice none 0 0, .slice none 0 0] 47)).alloc (.cells #[.int .i64 2, .int .i64 0, .int .i64 0, .slice none 0 0, .slice none 0 0] 58)).alloc (.cells #[.slice (some ⟨w.heap.size + 1, 0, none⟩) 1 1, .slice a zss.length c] 27)) w.heap.size 3 (fun i => box0[i]?.getD (.int .i64 0))) := (rowV w box0 _).later (later2 _ _ _)
  have HR1 : Hid (OwnRow (((w.alloc (.cells #[.int .i64 0, .slice none 0 0, .slice none 0 0] 47)).alloc (.cells #[.int .i64 2, .int .i64 0, .int .i64 0, .slice none 0 0, .slice none 0 0] 58)).alloc (.cells #[.slice (some ⟨w.heap.size + 1, 0, none⟩) 1 1, .slice a zss.length c] 27)) (w.heap.size + 1) 5 topRow) := by
    have := (rowV (w.alloc (.cells #[.int .i64 0, .slice none 0 0, .slice none 0 0] 47)) topL 58).later (later1 _ (.cells #[.slice (some ⟨w.heap.size + 1, 0, none⟩) 1 1, .slice a zss.length c] 27))
    rw [World.heap_size_alloc'] at this
    exact this.congr fun i hi => by match i, hi with
      | 0, _ => rfl
      | 1, _ => rfl
      | 2, _ => rfl
      | 3, _ => rfl
      | 4, _ => rfl
  have HR2 : Hid (OwnRow (((w.alloc (.cells #[.int .i64 0, .slice none 0 0, .slice none 0 0] 47)).alloc (.cells #[.int .i64 2, .int .i64 0, .int .i64 0, .slice none 0 0, .slice none 0 0] 58)).alloc (.cells #[.slice (some ⟨w.heap.size + 1, 0, none⟩) 1 1, .slice a zss.length c] 27)) (w.heap.size + 2) 2 (fun i => if i = 0 then .slice (some ⟨w.heap.size + 1, 0, none⟩) 1 1 else .slice a zss.length c)) := by
    have := OwnRow.two ((w.alloc (.cells #[.int .i64 0, .slice none 0 0, .slice none 0 0] 47)).alloc (.cells #[.int .i64 2, .int .i64 0, .int .i64 0, .slice none 0 0, .slice none 0 0] 58)) (.slice (some ⟨w.heap.size + 1, 0, none⟩) 1 1) (.slice a zss.length c) 27
    rw [World.heap_size_alloc', World.heap_size_alloc'] at this
    exact this
  have HP : Hid (padY zss = zss) := by unfold Hid padY; rw [show 20 - zss.length = 0 by omega]; simp
  have HBY : Hid (Below w.heap.size w (((w.alloc (.cells #[.int .i64 0, .slice none 0 0, .slice none 0 0] 47)).alloc (.cells #[.int .i64 2, .int .i64 0, .int .i64 0, .slice none 0 0, .slice none 0 0] 58)).alloc (.cells #[.slice (some ⟨w.heap.size + 1, 0, none⟩) 1 1, .slice a zss.length c] 27))) := later3 _ _ _ _
  have HY : Hid (FsR (((w.alloc (.cells #[.int .i64 0, .slice none 0 0, .slice none 0 0] 47)).alloc (.cells #[.int .i64 2, .int .i64 0, .int .i64 0, .slice none 0 0, .slice none 0 0] 58)).alloc (.cells #[.slice (some ⟨w.heap.size + 1, 0, none⟩) 1 1, .slice a zss.length c] 27)) (.slice (some ⟨w.heap.size + 1, 0, none⟩) 1 1) (.slice a zss.length c) (newFd zss)) := ⟨(InosO.top HR1.out (fun _ => True) trivial).reads, by
    show Byts _ _ (padY zss)
    rw [HP.out]
    exact h.later HBY.out⟩
  have hszY : w.heap.size ≤ (((w.alloc (.cells #[.int .i64 0, .slice none 0 0, .slice none 0 0] 47)).alloc (.cells #[.int .i64 2, .int .i64 0, .int .i64 0, .slice none 0 0, .slice none 0 0] 58)).alloc (.cells #[.slice (some ⟨w.heap.size + 1, 0, none⟩) 1 1, .slice a zss.length c] 27)).heap.size := HBY.out.size
  have hszZ : w.heap.size + 3 ≤ (((w.alloc (.cells #[.int .i64 0, .slice none 0 0, .slice none 0 0] 47)).alloc (.cells #[.int .i64 2, .int .i64 0, .int .i64 0, .slice none 0 0, .slice none 0 0] 58)).alloc (.cells #[.slice (some ⟨w.heap.size + 1, 0, none⟩) 1 1, .slice a zss.length c] 27)).heap.size := by simp
  have E0 := HR0
  have E1 := HR1
  have E2 := HR2
  have hle : zss.length ≤ 1048576 := by omega
  have hnl : ¬ ((zss.length : Int) < 20) := by omega
  clear HR0 HR1 HR2 hc h hs hm hsl
  go_enter Tryz.func12, Tryz.ntmps12
  go_wp2_with fail
  refine (implFsI _ _ _ _ _ _ _ (newFd zss) HY.out sizeTop).mono ?_
  rintro e w2 ⟨rfl, hb2⟩
  have HB2 : Hid (Below w.heap.size w w2) := HBY.out.trans (hb2.mono hszY)
  have hsz2 : w.heap.size + 3 ≤ w2.heap.size := by have := hb2.size; omega
  have C0 : Hid (OwnRow w2 w.heap.size 3 (fun i => box0[i]?.getD (.int .i64 0))) := E0.out.later hb2
  have C1 : Hid (OwnRow w2 (w.heap.size + 1) 5 topRow) := E1.out.later hb2
  have C2 : Hid (OwnRow w2 (w.heap.size + 2) 2 (fun i => if i = 0 then .slice (some ⟨w.heap.size + 1, 0, none⟩) 1 1 else .slice a zss.length c)) := E2.out.later hb2
  have HAT : Hid (AtYs w2 a zss.length (padY zss)) := (HY.out.2.later hb2).at'.2
  have HL1 : Hid (zss.length = (padY zss).length) := HY.out.2.at'.1
  clear hb2 HY E0 E1 E2
  by_cases hz : fsF (newFd zss) = 0
  · have HZ : Hid (fsF (newFd zss) = 0) := hz
    rw [hz]
    have d0 := C2.out.cell (i := 0) (by omega)
    have d1 := C2.out.cell (i := 1) (by omega)
    simp only [if_pos, Nat.one_ne_zero, if_false] at d0 d1
    clear hz
    go_wp2_with fail
    refine (rackOfY_walk w2 _ _ _ (padY zss) HL1.out.symm (by have := HLEN.out HZ.out; have := HL1.out; omega) (fun k _ => HSL.out k) HAT.out).mono ?_
    rintro e w3 ⟨g, rfl, hb3, ho3⟩
    have HB3 : Hid (Below w.heap.size w w3) := HB2.out.trans (hb3.mono (by omega))
    have HB3' : Hid (Below w2.heap.size w2 w3) := hb3
    have HO3 : Hid (BytsO w3 (.slice (some ⟨g, 0, none⟩) zss.length zss.length) (padY zss) (fresh w2 w3)) := ho3
    have t0 := (C0.out.later hb3).cell (i := 0) (by omega)
    have t1 := (C0.out.later hb3).cell (i := 1) (by omega)
    have t2 := (C0.out.later hb3).cell (i := 2) (by omega)
    have s0 := (C0.out.later hb3).frozen 0
    have s1 := (C0.out.later hb3).frozen 1
    have s2 := (C0.out.later hb3).frozen 2
    have q0 := (C2.out.later hb3).cell (i := 0) (by omega)
    have q1 := (C2.out.later hb3).cell (i := 1) (by omega)
    have r1 := (C2.out.later hb3).frozen 1
    simp only [if_pos, Nat.one_ne_zero, if_false] at q0 q1
    simp [box0] at t0 t1 t2
    clear hb3 ho3 d0 d1
    have hfr := field_rack (some ⟨g, 0, none⟩) zss.length zss.length
    go_wp2
    refine bodyPost_ret (v := .agg #[.int .i64 0, .slice (some ⟨w.heap.size + 1, 0, none⟩) 1 1, .slice (some ⟨g, 0, none⟩) zss.length zss.length]) (by simp [results, Tryz.results12, go_sem, t0, t1, t2]) rfl ?_
    rw [HNR.out, if_pos HZ.out]
    exact ansF_ok HB3.out hsz2 HB3'.out C1.out HO3.out _ _ _ _
  · have hb : (fsF (newFd zss) != 0) = true := by simpa using hz
    have HZ : Hid (¬ fsF (newFd zss) = 0) := hz
    have t0 := C0.out.cell (i := 0) (by omega)
    have t1 := C0.out.cell (i := 1) (by omega)
    have t2 := C0.out.cell (i := 2) (by omega)
    have s0 := C0.out.frozen 0
    have s1 := C0.out.frozen 1
    have s2 := C0.out.frozen 2
    simp [box0] at t0 t1 t2
    clear hz
    go_wp2
    refine bodyPost_ret (v := .agg #[.int .i64 (fsF (newFd zss)), .slice none 0 0, .slice none 0 0]) (by simp [results, Tryz.results12, go_sem, t0, t1, t2]) rfl ?_
    rw [HNR.out, if_neg HZ.out]
    exact ansF_bad (((HB2.out.setCell (Nat.le_refl _) _).setCell (Nat.le_refl _) _).setCell (Nat.le_refl _) _) _
theorem implNewFsU (w : World) (a : Option Addr) (n c : Nat) (zss : List (List UInt8)) (h : Byts w (.slice a n c) zss) (hs : sizeByts zss ≤ 1048576) :
    Calls Tryz.prog 12 #[.slice a n c] w (AnsFR w (newFR zss)) := by
  by_cases hn : n < 20
  · exact implNew_short w a n c zss h hs hn
  · exact implNew_long w a n c zss h hs hn
end Go.Proofs.YtlacppjlclfpmaaGreat

namespace Go.Proofs.YtlacppjlclfpmaaGreat
open Go.RowKit
set_option maxRecDepth 100000

/-- A list's bytes copied, and the copy appended. -/
theorem rndY (wr : World) (base n : Nat) (v : Value) (zss : List (List UInt8)) (k : Nat → Nat) (u : Nat → Value) (h : YRow C1 wr base base 22 1 v n (fun i => zss[i]?.getD []) k u) (hb : base ≤ wr.heap.size) (hn : n ≤ 1048576) (ua : Option Addr) (uc : Nat)
    (hy : Byt wr (.slice ua (zss[n]?.getD []).length uc) (zss[n]?.getD [])) (hl : (zss[n]?.getD []).length ≤ 1048576) :
    ∃ na nc X1 g cap X k' u', (Builtin.append_ #[22, 22] 22 #[.slice (some ⟨wr.heap.size, 0, none⟩) 0 0, .slice ua (zss[n]?.getD []).length uc]).run Tryz.prog (wr.drew.alloc (.cells #[] 5)) = .ok (.slice na (zss[n]?.getD []).length nc) X1 ∧
      (Builtin.append_ #[25, 25] 25 #[v, .slice (some ⟨X1.heap.size, 0, none⟩) 1 1]).run Tryz.prog (X1.alloc (.cells #[.slice na (zss[n]?.getD []).length nc] 22)) = .ok (.slice (some ⟨g, 0, none⟩) (n + 1) cap) X ∧
      Below wr.heap.size wr X1 ∧ Below base wr X ∧ YRow C1 X base base 22 1 (.slice (some ⟨g, 0, none⟩) (n + 1) cap) (n + 1) (fun i => zss[i]?.getD []) k' u' := by
  have hb0 : Below wr.heap.size wr (wr.drew.alloc (.cells #[] 5)) := (Below.refl _ _).drew.trans (by simpa using later1 wr.drew (.cells #[] 5))
  obtain ⟨v', X1, hr1, hw1, hB1⟩ := append_y (wr.drew.alloc (.cells #[] 5)) wr.heap.size _ [] (zss[n]?.getD []) ua _ uc (WdY.lit0 wr.drew wr.heap.size (by simp)) (by simp) (by simp) hl (hy.later hb0)
  rw [List.nil_append] at hw1
  obtain ⟨na, nc, rfl⟩ := hw1.shape
  have hbX1 : Below wr.heap.size wr X1 := hb0.trans hB1
  have hlt : wr.heap.size < X1.heap.size := by have := hB1.size; simp at this; omega
  obtain ⟨kb, hk1, hk2, hkf⟩ := (hw1.own (w0 := wr) (Nat.le_refl _)).one hlt
  obtain ⟨i, hi, h1, h2, h3⟩ := Tryz.infoU8s'
  obtain ⟨g, cap, X, hr2, _, hBX, _, hLX⟩ := YRow.append wr X1 25 25 22 i _ 1 24 Tryz.underlying25 hi h1 h2 h3 rfl (by decide) (by decide) base base n _ _ k u h hb (by omega) hbX1 na nc rfl (fun x hx => by simp [C1] at hx; subst hx; rfl) kb (Nat.le_trans hb hk1) (Nat.le_of_lt hk2) (fun e => by have := (h.own.lt kb e).2; omega) (fun i hi e => by have := (h.lo i hi).2; omega) hkf
  refine ⟨na, nc, X1, g, cap, X, _, _, ?_, hr2, hbX1, hBX, hLX⟩
  simpa using hr1
/-- An empty list appended. -/
theorem rndE (wr : World) (base n : Nat) (v : Value) (f : Nat → List UInt8) (k : Nat → Nat) (u : Nat → Value) (h : YRow C1 wr base base 22 1 v n f k u) (hb : base ≤ wr.heap.size) (hn : n ≤ 1048576) (hf : f n = []) :
    ∃ g cap X k' u', (Builtin.append_ #[25, 25] 25 #[v, .slice (some ⟨wr.heap.size, 0, none⟩) 1 1]).run Tryz.prog (wr.alloc (.cells #[.slice none 0 0] 22)) = .ok (.slice (some ⟨g, 0, none⟩) (n + 1) cap) X ∧
      Below base wr X ∧ YRow C1 X base base 22 1 (.slice (some ⟨g, 0, none⟩) (n + 1) cap) (n + 1) f k' u' := by
  obtain ⟨i, hi, h1, h2, h3⟩ := Tryz.infoU8s'
  obtain ⟨g, cap, X, hr2, _, hBX, _, hLX⟩ := YRow.append wr wr 25 25 22 i _ 1 24 Tryz.underlying25 hi h1 h2 h3 rfl (by decide) (by decide) base base n _ _ k u h hb (by omega) (Below.refl _ _) none 0 rfl (fun x hx => by simp [C1] at hx; subst hx; rfl) wr.heap.size hb (Nat.le_refl _) (fun e => by have := (h.own.lt _ e).2; omega) (fun i hi e => by have := (h.lo i hi).2; omega) (Or.inl ⟨hf, none, 0, by rw [hf]; rfl⟩)
  rw [hf] at hr2
  exact ⟨g, cap, X, _, _, hr2, hBX, hLX⟩
/-- What stands at the head of each round. -/
def SpN (w : World) (zss : List (List UInt8)) (wr : World) (j : Nat) : Prop :=
  Below w.heap.size w wr ∧ w.heap.size + 3 ≤ wr.heap.size ∧ OwnRow wr w.heap.size 3 (fun i => box0[i]?.getD (.int .i64 0)) ∧ OwnRow wr (w.heap.size + 1) 5 topRow ∧
    ∃ aX cX k u, OwnRow wr (w.heap.size + 2) 2 (fun i => if i = 0 then .slice (some ⟨w.heap.size + 1, 0, none⟩) 1 1 else .slice aX j cX) ∧ YRow C1 wr (w.heap.size + 3) (w.heap.size + 3) 22 1 (.slice aX j cX) j (fun i => zss[i]?.getD []) k u
theorem SpN.next {w wr X : World} {zss : List (List UInt8)} {j g cap : Nat} {k' : Nat → Nat} {u' : Nat → Value} (h : SpN w zss wr j) (hX : Below (w.heap.size + 3) wr X) (hL : YRow C1 X (w.heap.size + 3) (w.heap.size + 3) 22 1 (.slice (some ⟨g, 0, none⟩) (j + 1) cap) (j + 1) (fun i => zss[i]?.getD []) k' u') :
    SpN w zss (X.setCell ⟨w.heap.size + 2, 1, none⟩ (.slice (some ⟨g, 0, none⟩) (j + 1) cap)) (j + 1) := by
  obtain ⟨h1, h2, h3, h4, aX, cX, k, u, h5, _⟩ := h
  refine ⟨(h1.trans (hX.mono (by omega))).setCell (by simp) _, ?_, (h3.block (hX.block _ (by omega))).store (by simp) _, (h4.block (hX.block _ (by omega))).store (by simp) _, some ⟨g, 0, none⟩, cap, k', u', ((h5.block (hX.block _ (by omega))).set 1 _).congr fun i hi => ?_, hL.store (by simp) (by simp) _⟩
  · have := hX.size; simp [World.setCell]; omega
  · match i, hi with
    | 0, _ => rfl
    | 1, _ => rfl
/-- How many lists stand. -/
def lenAt (w : World) (b : Nat) : Nat := match w.cell? ⟨b, 1, none⟩ with
  | some (.slice _ n _) => n
  | _ => 0
theorem SpN.len {w wr : World} {zss : List (List UInt8)} {j : Nat} (h : SpN w zss wr j) : lenAt wr (w.heap.size + 2) = j := by
  obtain ⟨_, _, _, _, aX, cX, k, u, h5, _⟩ := h
  have := h5.cell (i := 1) (by omega)
  unfold lenAt
  rw [this]
  rfl
theorem SpN.row {w wr : World} {zss : List (List UInt8)} {j : Nat} (h : SpN w zss wr j) : ∃ aX cX, (wr.cell? ⟨w.heap.size + 2, 0, none⟩ = some (.slice (some ⟨w.heap.size + 1, 0, none⟩) 1 1) ∧ wr.cell? ⟨w.heap.size + 2, 1, none⟩ = some (.slice aX j cX) ∧ wr.frozen? ⟨w.heap.size + 2, 1, none⟩ = false) ∧ ∃ k u, YRow C1 wr (w.heap.size + 3) (w.heap.size + 3) 22 1 (.slice aX j cX) j (fun i => zss[i]?.getD []) k u := by
  obtain ⟨_, _, _, _, aX, cX, k, u, h5, h6⟩ := h
  exact ⟨aX, cX, ⟨h5.cell (i := 0) (by omega), h5.cell (i := 1) (by omega), h5.frozen 1⟩, k, u, h6⟩
theorem SpN.start (w : World) (zss : List (List UInt8)) : SpN w zss (((w.alloc (.cells #[.int .i64 0, .slice none 0 0, .slice none 0 0] 47)).alloc (.cells #[.int .i64 2, .int .i64 0, .int .i64 0, .slice none 0 0, .slice none 0 0] 58)).alloc (.cells #[.slice (some ⟨w.heap.size + 1, 0, none⟩) 1 1, .slice none 0 0] 27)) 0 := by
  refine ⟨later3 _ _ _ _, by simp, (rowV w box0 _).later (later2 _ _ _), ?_, none, 0, fun _ => 0, fun _ => .slice none 0 0, ?_, YRow.nil _ _ _ _ _ _⟩
  · have := (rowV (w.alloc (.cells #[.int .i64 0, .slice none 0 0, .slice none 0 0] 47)) topL 58).later (later1 _ (.cells #[.slice (some ⟨w.heap.size + 1, 0, none⟩) 1 1, .slice none 0 0] 27))
    rw [World.heap_size_alloc'] at this
    exact this.congr fun i hi => by match i, hi with
      | 0, _ => rfl
      | 1, _ => rfl
      | 2, _ => rfl
      | 3, _ => rfl
      | 4, _ => rfl
  · have := OwnRow.two ((w.alloc (.cells #[.int .i64 0, .slice none 0 0, .slice none 0 0] 47)).alloc (.cells #[.int .i64 2, .int .i64 0, .int .i64 0, .slice none 0 0, .slice none 0 0] 58)) (.slice (some ⟨w.heap.size + 1, 0, none⟩) 1 1) (.slice none 0 0) 27
    rw [World.heap_size_alloc', World.heap_size_alloc'] at this
    exact this
end Go.Proofs.YtlacppjlclfpmaaGreat

namespace Go.Proofs.YtlacppjlclfpmaaGreat
open Go.RowKit
set_option maxRecDepth 100000

theorem heap_set3 (w : World) (p q r : Addr) (a b c : Value) (k : Nat) (h1 : k ≠ p.block) (h2 : k ≠ q.block) (h3 : k ≠ r.block) : (((w.setCell p a).setCell q b).setCell r c).heap[k]? = w.heap[k]? := by
  rw [Below.heap_setCell _ _ _ _ h3, Below.heap_setCell _ _ _ _ h2, Below.heap_setCell _ _ _ _ h1]
theorem ansF_ok3 {w W' : World} {zss : List (List UInt8)} {aX : Option Addr} {m cX : Nat} (hB : Below w.heap.size w W') (hr : OwnRow W' (w.heap.size + 1) 5 topRow) (hy : BytsO W' (.slice aX m cX) (padY zss) (fun c => w.heap.size + 3 ≤ c ∧ c < W'.heap.size)) (vb vc vd : Value) :
    AnsFR w (0, newFd zss) (.returned (.agg #[.int .i64 0, .slice (some ⟨w.heap.size + 1, 0, none⟩) 1 1, .slice aX m cX])) (((W'.setCell ⟨w.heap.size, 0, none⟩ vb).setCell ⟨w.heap.size, 1, none⟩ vc).setCell ⟨w.heap.size, 2, none⟩ vd) := by
  have hl := hr.lt
  refine ⟨_, _, _, _, _, _, rfl, ((hB.setCell (Nat.le_refl _) _).setCell (Nat.le_refl _) _).setCell (Nat.le_refl _) _, fun b => b = w.heap.size + 1, fun c => w.heap.size + 3 ≤ c ∧ c < W'.heap.size, InosO.top (hr.block (heap_set3 _ _ _ _ _ _ _ _ (by simp) (by simp) (by simp))) _ rfl, hy.keep fun b hb' _ => ?_, fun b h1 h2 => ?_, fun b h1 => ?_⟩
  · have := hb'.1
    exact heap_set3 _ _ _ _ _ _ _ _ (by simp; omega) (by simp; omega) (by simp; omega)
  · have := h2.1
    omega
  · rcases h1 with h1 | h1
    · exact ⟨by omega, by simp only [World.setCell, Array.size_modify]; omega⟩
    · exact ⟨by omega, by simp only [World.setCell, Array.size_modify]; exact h1.2⟩
theorem padY_get (zss : List (List UInt8)) (i : Nat) : zss[i]?.getD [] = (padY zss)[i]?.getD [] := by
  unfold padY
  by_cases h : i < zss.length
  · rw [List.getElem?_append_left h]
  · rw [List.getElem?_append_right (by omega), List.getElem?_eq_none (by omega)]
    cases h : (List.replicate (20 - zss.length) ([] : List UInt8))[i - zss.length]? with
    | none => rfl
    | some z => simp [List.getElem?_replicate] at h; exact h.2 ▸ rfl
theorem padY_length (zss : List (List UInt8)) : (padY zss).length = zss.length + (20 - zss.length) := by unfold padY; simp
/-- Once enough lists stand. -/
theorem SpN.fs {w wr : World} {zss : List (List UInt8)} {m : Nat} (h : SpN w zss wr m) (hm : (padY zss).length = m) : ∃ aX cX, FsX wr (w.heap.size + 2) 0 (newFd zss) (some ⟨w.heap.size + 1, 0, none⟩) 1 aX cX ∧ BytsO wr (.slice aX m cX) (padY zss) (fun c => w.heap.size + 3 ≤ c ∧ c < wr.heap.size) ∧ wr.cell? ⟨w.heap.size + 2, 1, none⟩ = some (.slice aX m cX) := by
  obtain ⟨_, _, _, h4, aX, cX, k, u, h5, h6⟩ := h
  have e : (fun i => zss[i]?.getD []) = (fun i => (padY zss)[i]?.getD []) := funext (padY_get zss)
  rw [e] at h6
  have hy : BytsO wr (.slice aX m cX) (padY zss) (fun c => w.heap.size + 3 ≤ c ∧ c < wr.heap.size) := h6.byts hm _ (fun c h1 h2 => ⟨h1, h2⟩) (fun c h1 h2 => ⟨h1, h2⟩)
  refine ⟨aX, cX, ⟨h5.cell (i := 0) (by omega), ?_, (InosO.top h4 (fun _ => True) trivial).reads, ?_⟩, hy, h5.cell (i := 1) (by omega)⟩
  · have := h5.cell (i := 1) (by omega)
    show wr.cell? _ = some (.slice aX (padY zss).length cX)
    rw [hm]
    exact this
  · show Byts wr (.slice aX (padY zss).length cX) (padY zss)
    rw [hm]
    exact hy.reads

end Go.Proofs.YtlacppjlclfpmaaGreat

namespace Go.Proofs.YtlacppjlclfpmaaGreat
open Go.RowKit
set_option maxRecDepth 100000

theorem Tryz.cellsU8sN : Tryz.prog.cellsOf 22 = 1 := by kernel_rfl
theorem Tryz.cellsU8N : Tryz.prog.cellsOf 5 = 1 := by kernel_rfl
def spanByts (zss : List (List UInt8)) : Nat := (ylens zss).sum
theorem spanByts_le (zss : List (List UInt8)) : spanByts zss ≤ 3 * sizeByts zss := by unfold spanByts sizeByts; omega
theorem markBytsV {w : World} {v : Value} {zss : List (List UInt8)} {F : Nat → Prop} (k : Int) (h : BytsO w v zss F) (hk0 : 1 ≤ k) (hk : k + (spanByts zss : Nat) ≤ 4294967296) :
    Calls Tryz.prog 64 #[v, .int .i64 k] w fun e w' => e = .returned (.int .i64 (k + (spanByts zss : Nat))) ∧ Chg F w w' :=
  markBytsU k h (by omega) (by unfold spanByts at hk; omega)
theorem newFR_span (zss : List (List UInt8)) : spanFs (newFR zss).2 ≤ 3 + sizeByts zss := by
  unfold newFR
  split
  · have e : spanFs (newFd zss) = spanInos [dir0] + (ylens (padY zss)).sum := rfl
    have e3 : spanInos [dir0] = 3 := by decide
    show spanFs (newFd zss) ≤ _
    rw [e, e3, ylens_pad]
    unfold sizeByts
    omega
  · show spanFs ([], []) ≤ _
    have : spanFs ([], []) = 0 := by decide
    omega
end Go.Proofs.YtlacppjlclfpmaaGreat

namespace Go.Proofs.YtlacppjlclfpmaaGreat
open Go.RowKit
set_option maxRecDepth 100000

/-- What is wrong of a disk that is to have a file system. -/
def sizF (d : DK) : Int := if faultF d.1 d.2 = 0 then (if d.1.length = 47 then 0 else 1) else faultF d.1 d.2
def superB (zs : List Int) : Bool := decide (zs.length = 2) && decide (zs[0]?.getD 0 = 7) && decide ((1 : Int) ≤ zs[1]?.getD 0 ∧ zs[1]?.getD 0 ≤ (60000 : Int))
def seqR (d : DK) : Int × Int := if sizF d = 0 then (if superB (atF d.1 d.2 0) = true then (0, (atF d.1 d.2 0)[1]?.getD 0) else (5, 0)) else (sizF d, 0)
theorem sizF_zero {d : DK} (h : sizF d = 0) : faultF d.1 d.2 = 0 ∧ d.1.length = 47 := by
  unfold sizF at h
  by_cases h1 : faultF d.1 d.2 = 0
  · rw [if_pos h1] at h
    by_cases h2 : d.1.length = 47
    · exact ⟨h1, h2⟩
    · rw [if_neg h2] at h; omega
  · rw [if_neg h1] at h; exact absurd h h1
theorem seqR_zero {d : DK} (h : (seqR d).1 = 0) : sizF d = 0 ∧ superB (atF d.1 d.2 0) = true ∧ (seqR d).2 = (atF d.1 d.2 0)[1]?.getD 0 := by
  unfold seqR at h ⊢
  by_cases h1 : sizF d = 0
  · rw [if_pos h1] at h ⊢
    by_cases h2 : superB (atF d.1 d.2 0) = true
    · rw [if_pos h2]; exact ⟨h1, h2, rfl⟩
    · rw [if_neg h2] at h; simp at h
  · rw [if_neg h1] at h; exact absurd h h1
theorem superB_in {zs : List Int} (h : superB zs = true) : zs.length = 2 ∧ zs[0]?.getD 0 = (7 : Int) ∧ (1 : Int) ≤ zs[1]?.getD 0 ∧ zs[1]?.getD 0 ≤ (60000 : Int) := by
  unfold superB at h
  simp only [Bool.and_eq_true, decide_eq_true_eq] at h
  exact ⟨h.1.1, h.1.2, h.2⟩

/-- A drive that is open: block bd leads to the disk d. -/
structure DrvK (w : World) (bd : Nat) (d : DK) : Prop where
  at' : ∃ aB cB aP cP, w.cell? ⟨bd, 0, none⟩ = some (.slice aB d.1.length cB) ∧ w.cell? ⟨bd, 1, none⟩ = some (.slice aP d.2.length cP) ∧ AtS w aB d.1.length d.1 ∧ AtC w aP d.2.length d.2
  g1 : d.1.length ≤ 60
  g2 : d.2.length ≤ 200
  hz : ∀ k : Nat, (d.1[k]?.getD []).length ≤ 1048576
  hzp : ∀ k : Nat, (d.2[k]?.getD (0, [])).2.length ≤ 1048576
theorem AtC.later {w w' : World} {a : Option Addr} {n : Nat} {ps : List (Int × List Int)} (h : AtC w a n ps) (hb : Below w.heap.size w w') : AtC w' a n ps := fun i hi => by
  obtain ⟨g, pb, ua, uc, e, c0, c1, c2, r⟩ := h i hi
  exact ⟨g, pb, ua, uc, e, cell_later hb c0, cell_later hb c1, cell_later hb c2, r.later hb⟩
theorem DrvK.later {w w' : World} {bd : Nat} {d : DK} (h : DrvK w bd d) (hb : Below w.heap.size w w') : DrvK w' bd d := by
  obtain ⟨aB, cB, aP, cP, c0, c1, h1, h2⟩ := h.at'
  exact ⟨⟨aB, cB, aP, cP, cell_later hb c0, cell_later hb c1, h1.later hb, h2.later hb⟩, h.g1, h.g2, h.hz, h.hzp⟩
theorem le_sumN (l : List Nat) (k : Nat) : l[k]?.getD 0 ≤ l.sum := by
  induction l generalizing k with
  | nil => simp
  | cons a l ih =>
    rw [List.sum_cons]
    cases k with
    | zero => simp
    | succ k => have := ih k; simp only [List.getElem?_cons_succ]; omega
theorem dsize_blk {d : DK} (hs : sizeDisk d ≤ 1048576) (k : Nat) : (d.1[k]?.getD []).length ≤ 1048576 := by
  have h1 := le_sumN (d.1.map List.length) k
  have h2 : (d.1.map List.length)[k]?.getD 0 = (d.1[k]?.getD []).length := by rw [List.getElem?_map]; cases d.1[k]? <;> rfl
  unfold sizeDisk dsize at hs
  omega
theorem dsize_put {d : DK} (hs : sizeDisk d ≤ 1048576) (k : Nat) : (d.2[k]?.getD (0, [])).2.length ≤ 1048576 := by
  have h1 := le_sumN (wlens d.2) k
  have h2 : (wlens d.2)[k]?.getD 0 = (d.2[k]?.getD (0, [])).2.length := by unfold wlens; rw [List.getElem?_map]; cases d.2[k]? <;> rfl
  unfold sizeDisk dsize at hs
  omega
end Go.Proofs.YtlacppjlclfpmaaGreat

namespace Go.Proofs.YtlacppjlclfpmaaGreat
open Go.RowKit
set_option maxRecDepth 100000

def seqB (x : Int) : Bool := decide (1 ≤ x ∧ x ≤ 60000)
theorem isSeq_any (w : World) (x : Int) : Calls Tryz.prog 22 #[.int .i64 x] w fun e w' => e = .returned (.bool (seqB x)) ∧ w' = w := by
  by_cases h1 : 1 ≤ x
  · have HE : Hid (seqB x = decide (x ≤ 60000)) := by unfold Hid seqB; simp [h1]
    go_enter Tryz.func22, Tryz.ntmps22
    go_wp2
    go_ret
    exact ⟨ret_bool (by rw [HE.out]), rfl⟩
  · have HE : Hid (seqB x = false) := by unfold Hid seqB; simp [h1]
    have hd : decide (1 ≤ x) = false := by simpa using h1
    go_enter Tryz.func22, Tryz.ntmps22
    go_wp2
    go_ret
    exact ⟨ret_bool (by rw [HE.out]), rfl⟩
theorem l12Seq_any (w : World) (x : Int) : Calls Tryz.prog 20 #[.int .i64 x] w fun e w' => e = .returned (.bool (seqB x)) ∧ w' = w := by
  have HE : Hid ((decide (1 ≤ x) && decide (x ≤ 60000)) = seqB x) := by unfold Hid seqB; simp
  go_enter Tryz.func20, Tryz.ntmps20
  go_wp2_with fail
  refine (l1In_any _ _ _ _).mono ?_
  rintro e w1 ⟨rfl, rfl⟩
  go_wp2
  go_ret
  exact ⟨ret_bool HE.out, rfl⟩
theorem superB_two (z0 z1 : Int) : superB [z0, z1] = (decide (z0 = 7) && seqB z1) := by unfold superB seqB; simp
theorem superB_len {zs : List Int} (h : ¬ zs.length = 2) : superB zs = false := by unfold superB; simp [h]
theorem two_of {zs : List Int} (h : zs.length = 2) : ∃ z0 z1, zs = [z0, z1] := by
  match zs, h with
  | [a, b], _ => exact ⟨a, b, rfl⟩

end Go.Proofs.YtlacppjlclfpmaaGreat

namespace Go.Proofs.YtlacppjlclfpmaaGreat
open Go.RowKit
set_option maxRecDepth 100000

/-- What an element's cells u own (the blocks F) and tell (x) stays as long as these blocks do. -/
def StP {α : Type} (P : World → List Value → α → (Nat → Prop) → Prop) : Prop :=
  ∀ (w w' : World) (u : List Value) (x : α) (F : Nat → Prop), P w u x F → (∀ b, F b → b < w.heap.size → w'.heap[b]? = w.heap[b]?) → P w' u x F
/-- A row of n elements that the call owns; element i is told by its cells u i, which own the blocks G i. -/
structure GRow {α : Type} (P : World → List Value → α → (Nat → Prop) → Prop) (w : World) (base : Nat) (e : TypeId) (size : Nat) (v : Value) (n : Nat) (x : Nat → α) (u : Nat → List Value) (G : Nat → Nat → Prop) : Prop where
  own : w.ownsRow base e size v n ((List.range n).flatMap u)
  len : ∀ i, i < n → (u i).length = size
  lo : ∀ i c, i < n → G i c → base ≤ c ∧ c < w.heap.size
  ne : ∀ i c, i < n → G i c → v.ownBlock ≠ some c
  inj : ∀ i j c, i < n → j < n → i ≠ j → G i c → ¬ G j c
  at' : ∀ i, i < n → P w (u i) (x i) (G i)
section
variable {α : Type} {P : World → List Value → α → (Nat → Prop) → Prop}
theorem GRow.nil (w : World) (base : Nat) (e : TypeId) (size : Nat) (x : Nat → α) : GRow P w base e size (.slice none 0 0) 0 x (fun _ => []) (fun _ _ => False) :=
  ⟨World.ownsRow_nil _ _ _ _, fun i hi => by omega, fun i _ hi => by omega, fun i _ hi => by omega, fun i _ _ hi => by omega, fun i hi => by omega⟩
theorem GRow.lit0 (w : World) (base : Nat) (hb : base ≤ w.heap.size) (e : TypeId) (size : Nat) (x : Nat → α) : GRow P (w.alloc (.cells #[] e)) base e size (.slice (some ⟨w.heap.size, 0, none⟩) 0 0) 0 x (fun _ => []) (fun _ _ => False) :=
  ⟨by simpa using World.ownsRow_lit (e := e) (size := size) w #[] 0 hb (by unfold maxLen; omega) (by simp), fun i hi => by omega, fun i _ hi => by omega, fun i _ hi => by omega, fun i _ _ hi => by omega, fun i hi => by omega⟩
theorem GRow.keep (hP : StP P) {w w' : World} {base : Nat} {e : TypeId} {size : Nat} {v : Value} {n : Nat} {x : Nat → α} {u : Nat → List Value} {G : Nat → Nat → Prop} (h : GRow P w base e size v n x u G) (hs : w.heap.size ≤ w'.heap.size) (k : ∀ c, base ≤ c → c < w.heap.size → w'.heap[c]? = w.heap[c]?) : GRow P w' base e size v n x u G := by
  refine ⟨?_, h.len, fun i c hi hc => ⟨(h.lo i c hi hc).1, Nat.lt_of_lt_of_le (h.lo i c hi hc).2 hs⟩, h.ne, h.inj, fun i hi => hP _ _ _ _ _ (h.at' i hi) fun c hc hlt => k c (h.lo i c hi hc).1 hlt⟩
  obtain ⟨h1, h2⟩ := h.own
  refine ⟨h1, ?_⟩
  rcases h2 with h2 | ⟨g, cap, cur, hv, hg, hh, r⟩
  · exact Or.inl h2
  · exact Or.inr ⟨g, cap, cur, hv, hg, by rw [k g hg (Array.getElem?_eq_some_iff.1 hh).1]; exact hh, r⟩
theorem GRow.later (hP : StP P) {w w' : World} {base : Nat} {e : TypeId} {size : Nat} {v : Value} {n : Nat} {x : Nat → α} {u : Nat → List Value} {G : Nat → Nat → Prop} (h : GRow P w base e size v n x u G) (hb : Below w.heap.size w w') : GRow P w' base e size v n x u G := h.keep hP hb.size fun c _ hlt => hb.block c hlt
theorem GRow.shape {w : World} {base : Nat} {e : TypeId} {size : Nat} {v : Value} {n : Nat} {x : Nat → α} {u : Nat → List Value} {G : Nat → Nat → Prop} (h : GRow P w base e size v n x u G) : ∃ a c, v = .slice a n c := by
  rcases h.own.2 with ⟨rfl, rfl⟩ | ⟨g, c, cur, rfl, _⟩
  · exact ⟨_, _, rfl⟩
  · exact ⟨_, _, rfl⟩
/-- What 'append' of one element comes to. -/
theorem GRow.append (hP : StP P) (w w1 : World) (t ty e : TypeId) (i : TypeInfo) (z : Value) (size bytes : Nat) (ht : Tryz.prog.underlying t = some (.slice e)) (hi : Tryz.prog.info? e = some i) (hz : i.zero = some z) (hsize : i.size = size) (hby : i.bytes = bytes) (hzs : z.cells.size = size) (hsz : 0 < size) (hbb : bytes ≤ 1000)
    (base n : Nat) (v : Value) (x : Nat → α) (u : Nat → List Value) (G : Nat → Nat → Prop) (h : GRow P w base e size v n x u G) (hb : base ≤ w.heap.size) (hn : n ≤ 1048600) (hb1 : Below w.heap.size w w1)
    (cs : List Value) (hlen : cs.length = size) (hone : ∀ y ∈ cs, y.oneCell' = true) (F : Nat → Prop) (hF : ∀ c, F c → w.heap.size ≤ c ∧ c < w1.heap.size) (hf : P w1 cs (x n) F) :
    ∃ g cap X u' G', (Builtin.append_ #[t, t] ty #[v, .slice (some ⟨w1.heap.size, 0, none⟩) 1 1]).run Tryz.prog (w1.alloc (.cells cs.toArray e)) = .ok (.slice (some ⟨g, 0, none⟩) (n + 1) cap) X ∧
      Below base w X ∧ w1.heap.size < X.heap.size ∧ GRow P X base e size (.slice (some ⟨g, 0, none⟩) (n + 1) cap) (n + 1) x u' G' ∧ (∀ b, b < w1.heap.size → v.ownBlock ≠ some b → X.heap[b]? = w1.heap[b]? ∧ g ≠ b) := by
  have hsz1 := hb1.size
  have hbW : Below w.heap.size w (w1.alloc (.cells cs.toArray e)) := hb1.trans ((later1 _ _).mono hb1.size)
  have hW := h.later hP hbW
  obtain ⟨g, cap, X, hr, ho, hg, hat, hgX⟩ := run_append_lies (P := Tryz.prog) (w1.alloc (.cells cs.toArray e)) t ty base e i z size bytes ht hi hz hsize hby hzs hsz v n _ hW.own ⟨w1.heap.size, 0, none⟩ 1 1 cs (by rw [hlen, Nat.one_mul])
    (fun j y hy => by
      rw [add_plain', Nat.zero_add, new_cell]
      simpa using hy) hone (by decide) (by unfold maxLen; omega) (by have : (n + 1) * bytes ≤ 1048601 * 1000 := Nat.mul_le_mul (by omega) hbb; omega) (by simp; omega) (w1.heap.size + 1) (by simp)
  have hrowb : ∀ g, v.ownBlock = some g → base ≤ g ∧ g < w.heap.size := fun g hg => h.own.lt g hg
  have hXb : ∀ b, b < w1.heap.size → v.ownBlock ≠ some b → X.heap[b]? = w1.heap[b]? := fun b hb' hne => (hg.block b (by simp; omega) (fun e => hne e.symm)).trans ((later1 _ _).block b hb')
  have hne : ∀ b, b ≤ w1.heap.size → v.ownBlock ≠ some b → g ≠ b := by
    intro b hb' hb2 e
    subst e
    rcases hat with h | h
    · exact hb2 h
    · omega
  have old : ∀ b, b < w.heap.size → v.ownBlock ≠ some b → X.heap[b]? = w.heap[b]? := fun b hb' hne => (hXb b (by omega) hne).trans (hb1.block b hb')
  have hXs : w1.heap.size < X.heap.size := by have := hg.size; simp at this; omega
  have hfr : ∀ c, F c → v.ownBlock ≠ some c := fun c hc e => by have := (hrowb c e).2; have := (hF c hc).1; omega
  refine ⟨g, cap, X, fun j => if j = n then cs else u j, fun j c => if j = n then F c else G j c, hr, (hbW.mono hb).trans (below_grown hg (by simp; omega) (fun g hg' => (hrowb g hg').1)), hXs, ⟨?_, fun j hj => ?_, fun j c hj hc => ?_, fun j c hj hc => ?_, fun j j' c hj hj' e hc hc' => ?_, fun j hj => ?_⟩, fun b hb hn => ⟨hXb b hb hn, hne b (Nat.le_of_lt hb) hn⟩⟩
  · rw [List.range_succ, List.flatMap_append]
    have e1 : (List.range n).flatMap (fun i => if i = n then cs else u i) = (List.range n).flatMap u := by
      have e0 : (List.range n).map (fun i => if i = n then cs else u i) = (List.range n).map u := List.map_congr_left fun i hi => by rw [if_neg (by have := List.mem_range.1 hi; omega)]
      rw [List.flatMap_def, List.flatMap_def, e0]
    have e2 : [n].flatMap (fun i => if i = n then cs else u i) = cs := by simp only [List.flatMap_cons, List.flatMap_nil, List.append_nil, if_true]
    rw [e1, e2]
    exact ho
  · by_cases e : j = n
    · simp only [e, if_true]; exact hlen
    · simp only [e, if_false]; exact h.len j (by omega)
  · by_cases e : j = n
    · simp only [e, if_true] at hc
      have := hF c hc
      omega
    · simp only [e, if_false] at hc
      have := h.lo j c (by omega) hc
      omega
  · by_cases e : j = n
    · simp only [e, if_true] at hc
      exact fun e' => hne c (Nat.le_of_lt (hF c hc).2) (hfr c hc) (by simpa [Value.ownBlock] using e')
    · simp only [e, if_false] at hc
      have hl := h.lo j c (by omega) hc
      exact fun e' => hne c (by omega) (h.ne j c (by omega) hc) (by simpa [Value.ownBlock] using e')
  · by_cases e1 : j = n
    · by_cases e2 : j' = n
      · omega
      · simp only [e1, e2, if_true, if_false] at hc hc'
        have := (h.lo j' c (by omega) hc').2
        have := (hF c hc).1
        omega
    · by_cases e2 : j' = n
      · simp only [e1, e2, if_true, if_false] at hc hc'
        have := (h.lo j c (by omega) hc).2
        have := (hF c hc').1
        omega
      · simp only [e1, e2, if_false] at hc hc'
        exact h.inj j j' c (by omega) (by omega) e hc hc'
  · by_cases e : j = n
    · subst e
      simp only [if_true]
      exact hP _ _ _ _ _ hf fun c hc hlt => hXb c hlt (hfr c hc)
    · simp only [e, if_false]
      exact hP _ _ _ _ _ (h.at' j (by omega)) fun c hc hlt => old c hlt (h.ne j c (by omega) hc)
/-- The cells of such a row. -/
def rowCell (u : Nat → List Value) (size c : Nat) : Value := (u (c / size))[c % size]?.getD undef
theorem GRow.cells {w : World} {base : Nat} {e : TypeId} {size : Nat} {v : Value} {n : Nat} {x : Nat → α} {u : Nat → List Value} {G : Nat → Nat → Prop} (h : GRow P w base e size v n x u G) (hsz : 0 < size) (hn : 0 < n) :
    ∃ g cap, v = .slice (some ⟨g, 0, none⟩) n cap ∧ base ≤ g ∧ g < w.heap.size ∧ n ≤ maxLen ∧ n ≤ cap ∧ OwnRow w g (n * size) (rowCell u size) := by
  obtain ⟨hl, h2 | ⟨g, cap, cur, rfl, hb, hh, hnc, hcm, hcs, htake⟩⟩ := h.own
  · omega
  · have hle : n * size ≤ cap * size := Nat.mul_le_mul_right _ hnc
    refine ⟨g, cap, rfl, hb, (Array.getElem?_eq_some_iff.1 hh).1, by omega, hnc, cur, e, hh, by omega, fun c hc => ?_⟩
    have hd : c / size < n := by rw [Nat.div_lt_iff_lt_mul hsz]; exact hc
    have hm : c % size < size := Nat.mod_lt _ hsz
    have hu : ∀ i, (if i < n then u i else List.replicate size undef).length = size := fun i => by
      by_cases hi : i < n
      · rw [if_pos hi]; exact h.len i hi
      · rw [if_neg hi]; simp
    have e0 : (List.range n).flatMap u = (List.range n).flatMap (fun i => if i < n then u i else List.replicate size undef) := by
      have : (List.range n).map u = (List.range n).map (fun i => if i < n then u i else List.replicate size undef) := List.map_congr_left fun i hi => by rw [if_pos (List.mem_range.1 hi)]
      rw [List.flatMap_def, List.flatMap_def, this]
    have hg := flat_get (C := fun i _ => if i < n then u i else List.replicate size undef) hsz (fun _ => undef) hu n (c / size) (c % size) hd hm
    rw [Nat.div_add_mod', ← e0, if_pos hd] at hg
    have h1 : ((List.range n).flatMap u)[c]? = cur[c]? := by rw [← htake, List.getElem?_take, if_pos hc, Array.getElem?_toList]
    rw [h1] at hg
    have hlt : c < cur.size := by omega
    show cur[c]? = some (rowCell u size c)
    unfold rowCell
    rw [← hg, Array.getElem?_eq_getElem hlt]; rfl
end

/-- A put, in two cells. -/
def PutP (w : World) (u : List Value) (p : Int × List Int) (F : Nat → Prop) : Prop := ∃ a c, u = [.int .i64 p.1, .slice a p.2.length c] ∧ IntsO w (.slice a p.2.length c) p.2 F
theorem PutP.steady : StP PutP := fun w w' u x F h k => by
  obtain ⟨a, c, h1, h2⟩ := h
  exact ⟨a, c, h1, h2.keep k⟩
theorem PutsO.reads {w : World} {v : Value} {ps : List (Int × List Int)} {F : Nat → Prop} (h : PutsO w v ps F) : Puts w v ps := h.puts
theorem PutsO.later {w w' : World} {v : Value} {ps : List (Int × List Int)} {F : Nat → Prop} (h : PutsO w v ps F) (hb : Below w.heap.size w w') : PutsO w' v ps F := h.keep fun b _ hlt => hb.block b hlt
theorem PutsO.chg {w w' : World} {v : Value} {ps : List (Int × List Int)} {F G : Nat → Prop} (h : PutsO w v ps F) (hc : Chg G w w') (hd : ∀ b, F b → ¬ G b) : PutsO w' v ps F := h.keep fun b hb hlt => hc.block b hlt (hd b hb)
theorem GRow.puts {w : World} {base : Nat} {e : TypeId} {v : Value} {n : Nat} {u : Nat → List Value} {G : Nat → Nat → Prop} {ps : List (Int × List Int)} (h : GRow PutP w base e 2 v n (fun i => ps[i]?.getD (0, [])) u G) (hn : ps.length = n) (F : Nat → Prop) (hF : ∀ c, base ≤ c → c < w.heap.size → F c) : PutsO w v ps F := by
  subst hn
  by_cases h0 : ps.length = 0
  · obtain ⟨a, c, e⟩ := h.shape
    exact Or.inl ⟨List.eq_nil_of_length_eq_zero h0, a, c, by rw [e, h0]⟩
  · obtain ⟨g, cap, rfl, hb, hg, hl, hc, hr⟩ := h.cells (by decide) (by omega)
    refine Or.inr ⟨g, cap, fun i => (u i)[1]?.getD undef, fun i c => i < ps.length ∧ G i c, hF g hb hg, fun i c hc => ⟨hF c (h.lo i c hc.1 hc.2).1 (h.lo i c hc.1 hc.2).2, fun e => h.ne i c hc.1 hc.2 (by simp [Value.ownBlock, e])⟩, fun i j c e h1 h2 => h.inj i j c h1.1 h2.1 e h1.2 h2.2, rfl, hl, hr.congr fun c hc => ?_, fun i hi => ?_⟩
    · obtain ⟨a, c', e1, _⟩ := h.at' (c / 2) (by omega)
      unfold rowCell putCell
      rw [e1]
      have : c % 2 = 0 ∨ c % 2 = 1 := by omega
      rcases this with e | e <;> simp [e, e1]
    · obtain ⟨a, c', e1, e2⟩ := h.at' i hi
      show IntsO w ((u i)[1]?.getD undef) _ _
      rw [e1]
      exact e2.mono fun c hc => ⟨hi, hc⟩

/-- Answers that are puts, in the one form. -/
def AnsPR (w : World) (r : Int × List (Int × List Int)) (e : Ending) (w' : World) : Prop := ∃ a n c, e = .returned (.agg #[.int .i64 r.1, .slice a n c]) ∧ Below w.heap.size w w' ∧ PutsO w' (.slice a n c) r.2 (fresh w w')
theorem AnsPR.putB {w W : World} {rb : Nat} {r : Int} {zs : List (Int × List Int)} {a : Option Addr} {n c : Nat} (hB : Below w.heap.size w W) (hrb : w.heap.size ≤ rb) (hY : PutsO W (.slice a n c) zs (fun b => rb < b ∧ b < W.heap.size)) (x y : Value) : AnsPR w (r, zs) (.returned (.agg #[.int .i64 r, .slice a n c])) ((W.setCell ⟨rb, 0, none⟩ x).setCell ⟨rb, 1, none⟩ y) := by
  refine ⟨a, n, c, rfl, (hB.setCell hrb _).setCell hrb _, ?_⟩
  refine ((hY.store (fun b hb => by have := hb.1; show b ≠ rb; omega) x).store (fun b hb => by have := hb.1; show b ≠ rb; omega) y).mono fun b hb => ⟨by omega, ?_⟩
  simpa [World.setCell] using hb.2
theorem AnsPR.badB {w W : World} {rb : Nat} (r : Int) (hB : Below w.heap.size w W) (hrb : w.heap.size ≤ rb) (x y : Value) : AnsPR w (r, []) (.returned (.agg #[.int .i64 r, .slice none 0 0])) ((W.setCell ⟨rb, 0, none⟩ x).setCell ⟨rb, 1, none⟩ y) := AnsPR.putB hB hrb (Or.inl ⟨rfl, _, _, rfl⟩) x y
end Go.Proofs.YtlacppjlclfpmaaGreat

/- NewFs, the program's. FormatDisk, both sides. -/
import Derived.Test.YtlohgnidbkechaaM11
import Derived.Test.YtlohgnidbkechaaM10
import Derived.Test.YtlohgnidbkechaaM02
import Derived.Test.YtlohgnidbkechaaM07
namespace Go.Proofs.Ytlohgnidbkechaa
open Go.RowKit
set_option maxRecDepth 100000

section
variable {P : Program} {w : World}
theorem wpList_appendN_run {ops : Array Oper} {rest : List Oper} {o : Oper} {a : Act} {Q : Exit → Act → World → Prop} (hgd : o.guard = none) (s x : Operand) (t t' : TypeId)
    (ho : o.op = .call { callee := .builtin .append, args := #[s, x], argTypes := #[t, t'] }) (v y : Value) (hs : a.eval s = v) (hx : a.eval x = y) (v' : Value) (w' : World)
    (hr : (Builtin.append_ #[t, t'] o.type #[v, y]).run P w = .ok v' w') (h : wpList P ops Q rest (a.put o.dst v') w') : wpList P ops Q (o :: rest) a w := by
  refine wpList_plain hgd fun K hK => ?_
  unfold Oper.wp execOp
  simp only [ho, resolve, invoke, builtin, Sem.run_bind, Sem.run_pure, Result.andThen_ok, List.map_toArray, List.map_cons, List.map_nil, hs, hx, hr]
  exact hK _ _ h
end

/-- The top directory alone, and the data that it comes with. -/
def dir0 : ID := (2, 0, 0, [], [])
def padY (zss : List (List UInt8)) : List (List UInt8) := zss ++ List.replicate (20 - zss.length) []
def newFd (zss : List (List UInt8)) : FD := ([dir0], padY zss)
def newFR (zss : List (List UInt8)) : Int × FD := if fsF (newFd zss) = 0 then (0, newFd zss) else (fsF (newFd zss), [], [])
def topRow : Nat → Value := fun i => (#[Value.int .i64 2, .int .i64 0, .int .i64 0, .slice none 0 0, .slice none 0 0][i]?).getD (.slice none 0 0)
theorem InosO.top {w : World} {b : Nat} (h : OwnRow w b 5 topRow) (F : Nat → Prop) (hF : F b) : InosO w (.slice (some ⟨b, 0, none⟩) 1 1) [dir0] F := by
  refine Or.inr ⟨b, 1, fun _ => (.slice none 0 0, .slice none 0 0), fun _ _ => False, hF, fun _ _ h => h.elim, fun _ _ _ _ h => h.elim, rfl, ⟨by unfold maxLen; simp, by simp⟩, h.congr fun i hi => ?_, fun i hi => ?_⟩
  · match i, hi with
    | 0, _ => rfl
    | 1, _ => rfl
    | 2, _ => rfl
    | 3, _ => rfl
    | 4, _ => rfl
  · have e : i = 0 := by simpa using hi
    subst e
    exact ⟨⟨rfl, rfl, rfl, none, 0, 0, rfl, Nat.le_refl _⟩, fun _ => False, fun _ => False, Or.inl ⟨rfl, none, 0, rfl⟩, Or.inl ⟨rfl, none, 0, rfl⟩, fun _ h => h.elim, fun _ h => h.elim id id⟩
theorem byts_row {w Y : World} {b n m cap : Nat} {u : Nat → Value} {zss : List (List UInt8)} (hY : Below w.heap.size w Y) (hr : OwnRow Y b (n + m) (fun i => if i < n then u i else .slice none 0 0)) (hl : zss.length = n) (hc : n + m ≤ maxLen ∧ n + m ≤ cap)
    (hu : ∀ i, i < n → Byt w (u i) (zss[i]?.getD [])) : Byts Y (.slice (some ⟨b, 0, none⟩) (n + m) cap) (zss ++ List.replicate m []) := by
  refine ⟨some ⟨b, 0, none⟩, cap, by simp [hl], by simp [hl]; exact hc, fun k hk => ?_⟩
  have hk' : k < n + m := by simpa [hl] using hk
  have c := hr.cell hk'
  by_cases h : k < n
  · have e : (zss ++ List.replicate m [])[k]?.getD [] = zss[k]?.getD [] := by rw [List.getElem?_append_left (by omega)]
    obtain ⟨ua, uc, eu, h1, h2⟩ := hu k h
    rw [if_pos h, eu] at c
    rw [e]
    exact ⟨b, 0, ua, uc, rfl, by rw [Nat.zero_add]; exact c, ua, uc, rfl, h1, h2.later hY⟩
  · have e : (zss ++ List.replicate m [])[k]?.getD [] = [] := by
      rw [List.getElem?_append_right (by omega)]
      cases h : (List.replicate m ([] : List UInt8))[k - zss.length]? with
      | none => rfl
      | some z => simp [List.getElem?_replicate] at h; exact h.2.symm ▸ rfl
    rw [if_neg h] at c
    rw [e]
    exact ⟨b, 0, none, 0, rfl, by rw [Nat.zero_add]; exact c, Byt.nil _ _ _⟩
theorem World.heap_size_alloc' (w : World) (o : Obj) : (w.alloc o).heap.size = w.heap.size + 1 := by simp
theorem Byts.at' {w : World} {a : Option Addr} {n c : Nat} {zss : List (List UInt8)} (h : Byts w (.slice a n c) zss) : n = zss.length ∧ AtYs w a n zss := by
  obtain ⟨a', cap, e, _, h3⟩ := h
  simp only [Value.slice.injEq] at e
  obtain ⟨rfl, rfl, rfl⟩ := e
  exact ⟨rfl, h3⟩
theorem padY_le {zss : List (List UInt8)} {m : Nat} (h : 20 - zss.length = m) : padY zss = zss ++ List.replicate m [] := by unfold padY; rw [h]
theorem newFd_len {zss : List (List UInt8)} (h : fsF (newFd zss) = 0) : (padY zss).length = 20 := by
  have he : fsE (newFd zss) = 0 := by
    unfold fsF at h
    by_cases e : fsE (newFd zss) = 0
    · exact e
    · rw [if_neg e] at h; exact h
  exact (formB_no (fsE_zero he).2.1).2.2
theorem sizeTop : sizeInos [dir0] ≤ 1048576 := by decide
theorem ylens_pad (zss : List (List UInt8)) : (ylens (padY zss)).sum = (ylens zss).sum := by
  unfold ylens padY
  rw [List.map_append, List.sum_append, List.map_replicate]
  simp
theorem ansF_bad {w w' : World} (hb : Below w.heap.size w w') (c : Int) : AnsFR w (c, [], []) (.returned (.agg #[.int .i64 c, .slice none 0 0, .slice none 0 0])) w' :=
  ⟨none, 0, 0, none, 0, 0, rfl, hb, fun _ => False, fun _ => False, Or.inl ⟨rfl, none, 0, rfl⟩, Or.inl ⟨rfl, none, 0, rfl⟩, fun _ h => h.elim, fun _ h => h.elim False.elim False.elim⟩

def box0 : List Value := [.int .i64 0, .slice none 0 0, .slice none 0 0]
def topL : List Value := [.int .i64 2, .int .i64 0, .int .i64 0, .slice none 0 0, .slice none 0 0]
theorem rowV (w : World) (vs : List Value) (t : TypeId) : OwnRow (w.alloc (.cells vs.toArray t)) w.heap.size vs.length (fun i => vs[i]?.getD (.int .i64 0)) := by
  refine ⟨_, t, Go.Deep.blk_alloc_new _ _, by simp, fun i hi => ?_⟩
  simp [hi]
theorem heap_set4 (w : World) (p q r s : Addr) (a b c d : Value) (k : Nat) (h1 : k ≠ p.block) (h2 : k ≠ q.block) (h3 : k ≠ r.block) (h4 : k ≠ s.block) : ((((w.setCell p a).setCell q b).setCell r c).setCell s d).heap[k]? = w.heap[k]? := by
  rw [Below.heap_setCell _ _ _ _ h4, Below.heap_setCell _ _ _ _ h3, Below.heap_setCell _ _ _ _ h2, Below.heap_setCell _ _ _ _ h1]
theorem field_rack (a : Option Addr) (n c : Nat) (w : World) : (Instr.field 70 (.agg #[.slice a n c]) 0).run Try.prog w = .ok (.slice a n c) w := by kernel_rfl
/-- The answer of a new file system, once its parts stand. -/
theorem ansF_ok {w W W' : World} {zss : List (List UInt8)} {g n : Nat} (hB : Below w.heap.size w W') (hw : w.heap.size + 3 ≤ W.heap.size) (hb : Below W.heap.size W W') (hr : OwnRow W (w.heap.size + 1) 5 topRow) (hy : BytsO W' (.slice (some ⟨g, 0, none⟩) n n) (padY zss) (fresh W W')) (va vb vc vd : Value) :
    AnsFR w (0, newFd zss) (.returned (.agg #[.int .i64 0, .slice (some ⟨w.heap.size + 1, 0, none⟩) 1 1, .slice (some ⟨g, 0, none⟩) n n])) ((((W'.setCell ⟨w.heap.size + 2, 1, none⟩ va).setCell ⟨w.heap.size, 0, none⟩ vb).setCell ⟨w.heap.size, 1, none⟩ vc).setCell ⟨w.heap.size, 2, none⟩ vd) := by
  have hsz : W.heap.size ≤ W'.heap.size := hb.size
  refine ⟨_, _, _, _, _, _, rfl, (((hB.setCell (by simp) _).setCell (by simp) _).setCell (by simp) _).setCell (by simp) _, fun b => b = w.heap.size + 1, fresh W W', InosO.top ((hr.later hb).block (heap_set4 _ _ _ _ _ _ _ _ _ _ (by simp) (by simp) (by simp) (by simp))) _ rfl, hy.keep fun b hb' _ => ?_, fun b h1 h2 => ?_, fun b h1 => ?_⟩
  · have := hb'.1
    exact heap_set4 _ _ _ _ _ _ _ _ _ _ (by simp; omega) (by simp; omega) (by simp; omega) (by simp; omega)
  · have := h2.1
    omega
  · rcases h1 with h1 | h1
    · exact ⟨by omega, by simp only [World.setCell, Array.size_modify]; omega⟩
    · have := h1.1
      exact ⟨by omega, by simp only [World.setCell, Array.size_modify]; exact h1.2⟩

set_option maxHeartbeats 800000 in
theorem implNew_short (w : World) (a : Option Addr) (n c : Nat) (zss : List (List UInt8)) (h : Byts w (.slice a n c) zss) (hs : sizeByts zss ≤ 1048576) (hn : n < 20) :
    Calls Try.prog 16 #[.slice a n c] w (AnsFR w (newFR zss)) := by
  obtain ⟨a', cap, e, hm, hc⟩ := h.open'
  simp only [Value.slice.injEq] at e
  obtain ⟨rfl, rfl, rfl⟩ := e
  have hsl : zss.length + (ylens zss).sum ≤ 1048576 := hs
  have HSL : Hid (∀ k, ((padY zss)[k]?.getD []).length ≤ 1048576) := fun k => by have := ylens_le (padY zss) k; rw [ylens_pad] at this; omega
  have HLEN : Hid (fsF (newFd zss) = 0 → (padY zss).length = 20) := newFd_len
  have HNR : Hid (newFR zss = if fsF (newFd zss) = 0 then (0, newFd zss) else (fsF (newFd zss), [], [])) := rfl
  have HR0 : Hid (OwnRow (((w.alloc (.cells #[.int .i64 0, .slice none 0 0, .slice none 0 0] 50)).alloc (.cells #[.int .i64 2, .int .i64 0, .int .i64 0, .slice none 0 0, .slice none 0 0] 61)).alloc (.cells #[.slice (some ⟨w.heap.size + 1, 0, none⟩) 1 1, .slice a zss.length c] 48)) w.heap.size 3 (fun i => box0[i]?.getD (.int .i64 0))) := (rowV w box0 _).later (later2 _ _ _)
  have HR1 : Hid (OwnRow (((w.alloc (.cells #[.int .i64 0, .slice none 0 0, .slice none 0 0] 50)).alloc (.cells #[.int .i64 2, .int .i64 0, .int .i64 0, .slice none 0 0, .slice none 0 0] 61)).alloc (.cells #[.slice (some ⟨w.heap.size + 1, 0, none⟩) 1 1, .slice a zss.length c] 48)) (w.heap.size + 1) 5 topRow) := by
    have := (rowV (w.alloc (.cells #[.int .i64 0, .slice none 0 0, .slice none 0 0] 50)) topL 61).later (later1 _ (.cells #[.slice (some ⟨w.heap.size + 1, 0, none⟩) 1 1, .slice a zss.length c] 48))
    rw [World.heap_size_alloc'] at this
    exact this.congr fun i hi => by match i, hi with
      | 0, _ => rfl
      | 1, _ => rfl
      | 2, _ => rfl
      | 3, _ => rfl
      | 4, _ => rfl
  have HR2 : Hid (OwnRow (((w.alloc (.cells #[.int .i64 0, .slice none 0 0, .slice none 0 0] 50)).alloc (.cells #[.int .i64 2, .int .i64 0, .int .i64 0, .slice none 0 0, .slice none 0 0] 61)).alloc (.cells #[.slice (some ⟨w.heap.size + 1, 0, none⟩) 1 1, .slice a zss.length c] 48)) (w.heap.size + 2) 2 (fun i => if i = 0 then .slice (some ⟨w.heap.size + 1, 0, none⟩) 1 1 else .slice a zss.length c)) := by
    have := OwnRow.two ((w.alloc (.cells #[.int .i64 0, .slice none 0 0, .slice none 0 0] 50)).alloc (.cells #[.int .i64 2, .int .i64 0, .int .i64 0, .slice none 0 0, .slice none 0 0] 61)) (.slice (some ⟨w.heap.size + 1, 0, none⟩) 1 1) (.slice a zss.length c) 48
    rw [World.heap_size_alloc', World.heap_size_alloc'] at this
    exact this
  have hch : ∀ k, k < zss.length → ∃ v : Value, v.oneCell' = true ∧ (∃ b off, a = some ⟨b, off, none⟩ ∧ w.cell? ⟨b, off + k, none⟩ = some v) ∧ Byt w v (zss[k]?.getD []) := fun k hk => by
    obtain ⟨b, off, ua, uc, e, hcell, hby⟩ := hc k hk
    exact ⟨_, rfl, ⟨b, off, e, hcell⟩, hby⟩
  obtain ⟨u, hu⟩ := pickQ hch
  have HU : Hid (∀ k, k < zss.length → (u k).oneCell' = true ∧ (∃ b off, a = some ⟨b, off, none⟩ ∧ w.cell? ⟨b, off + k, none⟩ = some (u k)) ∧ Byt w (u k) (zss[k]?.getD [])) := hu
  obtain ⟨m, hmn⟩ : ∃ m, 20 - zss.length = m := ⟨_, rfl⟩
  have hme : ((m : Nat) : Int) = 20 - (zss.length : Int) := by omega
  have hnm : zss.length + m = 20 := by omega
  have HP : Hid (padY zss = zss ++ List.replicate m []) := padY_le hmn
  have hm0 : 0 < m := by omega
  clear hch hu hc h hs hm hmn hsl
  go_enter Try.func16, Try.ntmps16
  go_wp2_with fail
  refine (copyOfYs_any _ a zss.length c u (by omega) (fun k hk => (HU.out k hk).1) (fun k hk => by obtain ⟨b, off, e, hcell⟩ := (HU.out k hk).2.1; exact ⟨b, off, e, cell_later (later3 _ _ _ _) hcell⟩)).mono ?_
  rintro e w1 ⟨rfl, hb1, hr1⟩
  have HB1 : Hid (Below w.heap.size w w1) := (later3 _ _ _ _).trans (hb1.mono (by simp; omega))
  have hsz1 : w.heap.size + 3 ≤ w1.heap.size := by have := hb1.size; simp at this; omega
  have hr1' : OwnRow w1 (w.heap.size + 1 + 1 + 1) zss.length u := by simpa using hr1
  obtain ⟨cap, X, hap, hbX, hcap, hrX⟩ := append_zeros w1 _ zss.length m u hm0 (by omega) hr1'
  have A0 : Hid (OwnRow X w.heap.size 3 (fun i => box0[i]?.getD (.int .i64 0))) := (HR0.out.later hb1).later hbX
  have A1 : Hid (OwnRow X (w.heap.size + 1) 5 topRow) := (HR1.out.later hb1).later hbX
  have A2 : Hid (OwnRow X (w.heap.size + 2) 2 (fun i => if i = 0 then .slice (some ⟨w.heap.size + 1, 0, none⟩) 1 1 else .slice a zss.length c)) := (HR2.out.later hb1).later hbX
  have HBX : Hid (Below w.heap.size w X) := HB1.out.trans (hbX.mono (by omega))
  have hszX : w1.heap.size ≤ X.heap.size := hbX.size
  rw [hme] at hap
  have HRX : Hid (OwnRow X w1.heap.size (zss.length + m) (fun i => if i < zss.length then u i else .slice none 0 0)) := hrX
  have HCAP : Hid (zss.length + m ≤ maxLen ∧ zss.length + m ≤ cap) := hcap
  have c0 := A2.out.cell (i := 0) (by omega)
  have c1 := A2.out.cell (i := 1) (by omega)
  have f1 := A2.out.frozen 1
  simp only [if_pos, Nat.one_ne_zero, if_false] at c0 c1
  rw [hnm] at hap
  have HAP : Hid ((Builtin.append_ #[46, 3] 46 #[.slice (some ⟨w.heap.size + 1 + 1 + 1, 0, none⟩) zss.length zss.length, .int .i64 (20 - (zss.length : Int))]).run Try.prog w1 = .ok (.slice (some ⟨w1.heap.size, 0, none⟩) 20 cap) X) := hap
  clear hb1 hr1 hr1' hbX hrX hcap hap HR0 HR1 HR2
  go_wp2_with (at_builtin; refine wpList_appendN_run rfl _ _ 46 3 rfl _ _ rfl rfl _ _ HAP.out ?_)
  have HY : Hid (FsR (X.setCell ⟨w.heap.size + 1 + 1, 1, none⟩ (.slice (some ⟨w1.heap.size, 0, none⟩) 20 cap)) (.slice (some ⟨w.heap.size + 1, 0, none⟩) 1 1) (.slice (some ⟨w1.heap.size, 0, none⟩) 20 cap) (newFd zss)) := ⟨(InosO.top (A1.out.store (by simp) _) (fun _ => True) trivial).reads, by
    have := byts_row (w := w) (HBX.out.setCell (p := ⟨w.heap.size + 1 + 1, 1, none⟩) (by simp; omega) (.slice (some ⟨w1.heap.size, 0, none⟩) 20 cap)) (HRX.out.store (by simp; omega) _) rfl HCAP.out (fun i hi => (HU.out i hi).2.2)
    rw [hnm, ← HP.out] at this
    exact this⟩
  have HBY : Hid (Below w.heap.size w (X.setCell ⟨w.heap.size + 1 + 1, 1, none⟩ (.slice (some ⟨w1.heap.size, 0, none⟩) 20 cap))) := HBX.out.setCell (by simp; omega) _
  have hszY : w.heap.size ≤ (X.setCell ⟨w.heap.size + 1 + 1, 1, none⟩ (.slice (some ⟨w1.heap.size, 0, none⟩) 20 cap)).heap.size := HBY.out.size
  have hszZ : w.heap.size + 3 ≤ (X.setCell ⟨w.heap.size + 1 + 1, 1, none⟩ (.slice (some ⟨w1.heap.size, 0, none⟩) 20 cap)).heap.size := by simp only [World.setCell, Array.size_modify]; omega
  have E0 : Hid (OwnRow (X.setCell ⟨w.heap.size + 1 + 1, 1, none⟩ (.slice (some ⟨w1.heap.size, 0, none⟩) 20 cap)) w.heap.size 3 (fun i => box0[i]?.getD (.int .i64 0))) := A0.out.store (by simp; omega) _
  have E1 : Hid (OwnRow (X.setCell ⟨w.heap.size + 1 + 1, 1, none⟩ (.slice (some ⟨w1.heap.size, 0, none⟩) 20 cap)) (w.heap.size + 1) 5 topRow) := A1.out.store (by simp) _
  have E2 : Hid (OwnRow (X.setCell ⟨w.heap.size + 1 + 1, 1, none⟩ (.slice (some ⟨w1.heap.size, 0, none⟩) 20 cap)) (w.heap.size + 2) 2 (fun i => if i = 0 then .slice (some ⟨w.heap.size + 1, 0, none⟩) 1 1 else .slice (some ⟨w1.heap.size, 0, none⟩) 20 cap)) := (A2.out.set 1 _).congr fun i hi => by
    match i, hi with
    | 0, _ => rfl
    | 1, _ => rfl
  clear A0 A1 A2 HRX HCAP HAP c0 c1 f1 HU
  refine (implFsI _ _ _ _ _ _ _ (newFd zss) HY.out sizeTop).mono ?_
  rintro e w2 ⟨rfl, hb2⟩
  have HB2 : Hid (Below w.heap.size w w2) := HBY.out.trans (hb2.mono hszY)
  have hsz2 : w.heap.size + 3 ≤ w2.heap.size := by have := hb2.size; omega
  have C0 : Hid (OwnRow w2 w.heap.size 3 (fun i => box0[i]?.getD (.int .i64 0))) := E0.out.later hb2
  have C1 : Hid (OwnRow w2 (w.heap.size + 1) 5 topRow) := E1.out.later hb2
  have C2 : Hid (OwnRow w2 (w.heap.size + 2) 2 (fun i => if i = 0 then .slice (some ⟨w.heap.size + 1, 0, none⟩) 1 1 else .slice (some ⟨w1.heap.size, 0, none⟩) 20 cap)) := E2.out.later hb2
  have HAT : Hid (AtYs w2 (some ⟨w1.heap.size, 0, none⟩) 20 (padY zss)) := (HY.out.2.later hb2).at'.2
  have HL1 : Hid (20 = (padY zss).length) := HY.out.2.at'.1
  clear hb2 HY E0 E1 E2
  by_cases hz : fsF (newFd zss) = 0
  · have HZ : Hid (fsF (newFd zss) = 0) := hz
    rw [hz]
    have d0 := C2.out.cell (i := 0) (by omega)
    have d1 := C2.out.cell (i := 1) (by omega)
    simp only [if_pos, Nat.one_ne_zero, if_false] at d0 d1
    clear hz
    go_wp2_with fail
    refine (rackOfY_walk w2 _ _ _ (padY zss) HL1.out.symm (by have := HLEN.out HZ.out; have := HL1.out; omega) (fun k _ => HSL.out k) HAT.out).mono ?_
    rintro e w3 ⟨g, rfl, hb3, ho3⟩
    have HB3 : Hid (Below w.heap.size w w3) := HB2.out.trans (hb3.mono (by omega))
    have HB3' : Hid (Below w2.heap.size w2 w3) := hb3
    have HO3 : Hid (BytsO w3 (.slice (some ⟨g, 0, none⟩) 20 20) (padY zss) (fresh w2 w3)) := ho3
    have t0 := (C0.out.later hb3).cell (i := 0) (by omega)
    have t1 := (C0.out.later hb3).cell (i := 1) (by omega)
    have t2 := (C0.out.later hb3).cell (i := 2) (by omega)
    have s0 := (C0.out.later hb3).frozen 0
    have s1 := (C0.out.later hb3).frozen 1
    have s2 := (C0.out.later hb3).frozen 2
    have q0 := (C2.out.later hb3).cell (i := 0) (by omega)
    have q1 := (C2.out.later hb3).cell (i := 1) (by omega)
    have r1 := (C2.out.later hb3).frozen 1
    simp only [if_pos, Nat.one_ne_zero, if_false] at q0 q1
    simp [box0] at t0 t1 t2
    clear hb3 ho3 d0 d1
    have hfr := field_rack (some ⟨g, 0, none⟩) 20 20
    go_wp2
    refine bodyPost_ret (v := .agg #[.int .i64 0, .slice (some ⟨w.heap.size + 1, 0, none⟩) 1 1, .slice (some ⟨g, 0, none⟩) 20 20]) (by simp [results, Try.results16, go_sem, t0, t1, t2]) rfl ?_
    rw [HNR.out, if_pos HZ.out]
    exact ansF_ok HB3.out hsz2 HB3'.out C1.out HO3.out _ _ _ _
  · have hb : (fsF (newFd zss) != 0) = true := by simpa using hz
    have HZ : Hid (¬ fsF (newFd zss) = 0) := hz
    have t0 := C0.out.cell (i := 0) (by omega)
    have t1 := C0.out.cell (i := 1) (by omega)
    have t2 := C0.out.cell (i := 2) (by omega)
    have s0 := C0.out.frozen 0
    have s1 := C0.out.frozen 1
    have s2 := C0.out.frozen 2
    simp [box0] at t0 t1 t2
    clear hz
    go_wp2
    refine bodyPost_ret (v := .agg #[.int .i64 (fsF (newFd zss)), .slice none 0 0, .slice none 0 0]) (by simp [results, Try.results16, go_sem, t0, t1, t2]) rfl ?_
    rw [HNR.out, if_neg HZ.out]
    exact ansF_bad (((HB2.out.setCell (Nat.le_refl _) _).setCell (Nat.le_refl _) _).setCell (Nat.le_refl _) _) _
set_option maxHeartbeats 800000 in
theorem implNew_long (w : World) (a : Option Addr) (n c : Nat) (zss : List (List UInt8)) (h : Byts w (.slice a n c) zss) (hs : sizeByts zss ≤ 1048576) (hn : ¬ n < 20) :
    Calls Try.prog 16 #[.slice a n c] w (AnsFR w (newFR zss)) := by
  obtain ⟨a', cap, e, hm, hc⟩ := h.open'
  simp only [Value.slice.injEq] at e
  obtain ⟨rfl, rfl, rfl⟩ := e
  have hsl : zss.length + (ylens zss).sum ≤ 1048576 := hs
  have HSL : Hid (∀ k, ((padY zss)[k]?.getD []).length ≤ 1048576) := fun k => by have := ylens_le (padY zss) k; rw [ylens_pad] at this; omega
  have HLEN : Hid (fsF (newFd zss) = 0 → (padY zss).length = 20) := newFd_len
  have HNR : Hid (newFR zss = if fsF (newFd zss) = 0 then (0, newFd zss) else (fsF (newFd zss), [], [])) := rfl
  have HR0 : Hid (OwnRow (((w.alloc (.cells #[.int .i64 0, .slice none 0 0, .slice none 0 0] 50)).alloc (.cells #[.int .i64 2, .int .i64 0, .int .i64 0, .slice none 0 0, .slice none 0 0] 61)).alloc (.cells #[.slice (some ⟨w.heap.size + 1, 0, none⟩) 1 1, .slice a zss.length c] 48)) w.heap.size 3 (fun i => box0[i]?.getD (.int .i64 0))) := (rowV w box0 _).later (later2 _ _ _)
  have HR1 : Hid (OwnRow (((w.alloc (.cells #[.int .i64 0, .slice none 0 0, .slice none 0 0] 50)).alloc (.cells #[.int .i64 2, .int .i64 0, .int .i64 0, .slice none 0 0, .slice none 0 0] 61)).alloc (.cells #[.slice (some ⟨w.heap.size + 1, 0, none⟩) 1 1, .slice a zss.length c] 48)) (w.heap.size + 1) 5 topRow) := by
    have := (rowV (w.alloc (.cells #[.int .i64 0, .slice none 0 0, .slice none 0 0] 50)) topL 61).later (later1 _ (.cells #[.slice (some ⟨w.heap.size + 1, 0, none⟩) 1 1, .slice a zss.length c] 48))
    rw [World.heap_size_alloc'] at this
    exact this.congr fun i hi => by match i, hi with
      | 0, _ => rfl
      | 1, _ => rfl
      | 2, _ => rfl
      | 3, _ => rfl
      | 4, _ => rfl
  have HR2 : Hid (OwnRow (((w.alloc (.cells #[.int .i64 0, .slice none 0 0, .slice none 0 0] 50)).alloc (.cells #[.int .i64 2, .int .i64 0, .int .i64 0, .slice none 0 0, .slice none 0 0] 61)).alloc (.cells #[.slice (some ⟨w.heap.size + 1, 0, none⟩) 1 1, .slice a zss.length c] 48)) (w.heap.size + 2) 2 (fun i => if i = 0 then .slice (some ⟨w.heap.size + 1, 0, none⟩) 1 1 else .slice a zss.length c)) := by
    have := OwnRow.two ((w.alloc (.cells #[.int .i64 0, .slice none 0 0, .slice none 0 0] 50)).alloc (.cells #[.int .i64 2, .int .i64 0, .int .i64 0, .slice none 0 0, .slice none 0 0] 61)) (.slice (some ⟨w.heap.size + 1, 0, none⟩) 1 1) (.slice a zss.length c) 48
    rw [World.heap_size_alloc', World.heap_size_alloc'] at this
    exact this
  have HP : Hid (padY zss = zss) := by unfold Hid padY; rw [show 20 - zss.length = 0 by omega]; simp
  have HBY : Hid (Below w.heap.size w (((w.alloc (.cells #[.int .i64 0, .slice none 0 0, .slice none 0 0] 50)).alloc (.cells #[.int .i64 2, .int .i64 0, .int .i64 0, .slice none 0 0, .slice none 0 0] 61)).alloc (.cells #[.slice (some ⟨w.heap.size + 1, 0, none⟩) 1 1, .slice a zss.length c] 48))) := later3 _ _ _ _
  have HY : Hid (FsR (((w.alloc (.cells #[.int .i64 0, .slice none 0 0, .slice none 0 0] 50)).alloc (.cells #[.int .i64 2, .int .i64 0, .int .i64 0, .slice none 0 0, .slice none 0 0] 61)).alloc (.cells #[.slice (some ⟨w.heap.size + 1, 0, none⟩) 1 1, .slice a zss.length c] 48)) (.slice (some ⟨w.heap.size + 1, 0, none⟩) 1 1) (.slice a zss.length c) (newFd zss)) := ⟨(InosO.top HR1.out (fun _ => True) trivial).reads, by
    show Byts _ _ (padY zss)
    rw [HP.out]
    exact h.later HBY.out⟩
  have hszY : w.heap.size ≤ (((w.alloc (.cells #[.int .i64 0, .slice none 0 0, .slice none 0 0] 50)).alloc (.cells #[.int .i64 2, .int .i64 0, .int .i64 0, .slice none 0 0, .slice none 0 0] 61)).alloc (.cells #[.slice (some ⟨w.heap.size + 1, 0, none⟩) 1 1, .slice a zss.length c] 48)).heap.size := HBY.out.size
  have hszZ : w.heap.size + 3 ≤ (((w.alloc (.cells #[.int .i64 0, .slice none 0 0, .slice none 0 0] 50)).alloc (.cells #[.int .i64 2, .int .i64 0, .int .i64 0, .slice none 0 0, .slice none 0 0] 61)).alloc (.cells #[.slice (some ⟨w.heap.size + 1, 0, none⟩) 1 1, .slice a zss.length c] 48)).heap.size := by simp
  have E0 := HR0
  have E1 := HR1
  have E2 := HR2
  have hle : zss.length ≤ 1048576 := by omega
  have hnl : ¬ ((zss.length : Int) < 20) := by omega
  clear HR0 HR1 HR2 hc h hs hm hsl
  go_enter Try.func16, Try.ntmps16
  go_wp2_with fail
  refine (implFsI _ _ _ _ _ _ _ (newFd zss) HY.out sizeTop).mono ?_
  rintro e w2 ⟨rfl, hb2⟩
  have HB2 : Hid (Below w.heap.size w w2) := HBY.out.trans (hb2.mono hszY)
  have hsz2 : w.heap.size + 3 ≤ w2.heap.size := by have := hb2.size; omega
  have C0 : Hid (OwnRow w2 w.heap.size 3 (fun i => box0[i]?.getD (.int .i64 0))) := E0.out.later hb2
  have C1 : Hid (OwnRow w2 (w.heap.size + 1) 5 topRow) := E1.out.later hb2
  have C2 : Hid (OwnRow w2 (w.heap.size + 2) 2 (fun i => if i = 0 then .slice (some ⟨w.heap.size + 1, 0, none⟩) 1 1 else .slice a zss.length c)) := E2.out.later hb2
  have HAT : Hid (AtYs w2 a zss.length (padY zss)) := (HY.out.2.later hb2).at'.2
  have HL1 : Hid (zss.length = (padY zss).length) := HY.out.2.at'.1
  clear hb2 HY E0 E1 E2
  by_cases hz : fsF (newFd zss) = 0
  · have HZ : Hid (fsF (newFd zss) = 0) := hz
    rw [hz]
    have d0 := C2.out.cell (i := 0) (by omega)
    have d1 := C2.out.cell (i := 1) (by omega)
    simp only [if_pos, Nat.one_ne_zero, if_false] at d0 d1
    clear hz
    go_wp2_with fail
    refine (rackOfY_walk w2 _ _ _ (padY zss) HL1.out.symm (by have := HLEN.out HZ.out; have := HL1.out; omega) (fun k _ => HSL.out k) HAT.out).mono ?_
    rintro e w3 ⟨g, rfl, hb3, ho3⟩
    have HB3 : Hid (Below w.heap.size w w3) := HB2.out.trans (hb3.mono (by omega))
    have HB3' : Hid (Below w2.heap.size w2 w3) := hb3
    have HO3 : Hid (BytsO w3 (.slice (some ⟨g, 0, none⟩) zss.length zss.length) (padY zss) (fresh w2 w3)) := ho3
    have t0 := (C0.out.later hb3).cell (i := 0) (by omega)
    have t1 := (C0.out.later hb3).cell (i := 1) (by omega)
    have t2 := (C0.out.later hb3).cell (i := 2) (by omega)
    have s0 := (C0.out.later hb3).frozen 0
    have s1 := (C0.out.later hb3).frozen 1
    have s2 := (C0.out.later hb3).frozen 2
    have q0 := (C2.out.later hb3).cell (i := 0) (by omega)
    have q1 := (C2.out.later hb3).cell (i := 1) (by omega)
    have r1 := (C2.out.later hb3).frozen 1
    simp only [if_pos, Nat.one_ne_zero, if_false] at q0 q1
    simp [box0] at t0 t1 t2
    clear hb3 ho3 d0 d1
    have hfr := field_rack (some ⟨g, 0, none⟩) zss.length zss.length
    go_wp2
    refine bodyPost_ret (v := .agg #[.int .i64 0, .slice (some ⟨w.heap.size + 1, 0, none⟩) 1 1, .slice (some ⟨g, 0, none⟩) zss.length zss.length]) (by simp [results, Try.results16, go_sem, t0, t1, t2]) rfl ?_
    rw [HNR.out, if_pos HZ.out]
    exact ansF_ok HB3.out hsz2 HB3'.out C1.out HO3.out _ _ _ _
  · have hb : (fsF (newFd zss) != 0) = true := by simpa using hz
    have HZ : Hid (¬ fsF (newFd zss) = 0) := hz
    have t0 := C0.out.cell (i := 0) (by omega)
    have t1 := C0.out.cell (i := 1) (by omega)
    have t2 := C0.out.cell (i := 2) (by omega)
    have s0 := C0.out.frozen 0
    have s1 := C0.out.frozen 1
    have s2 := C0.out.frozen 2
    simp [box0] at t0 t1 t2
    clear hz
    go_wp2
    refine bodyPost_ret (v := .agg #[.int .i64 (fsF (newFd zss)), .slice none 0 0, .slice none 0 0]) (by simp [results, Try.results16, go_sem, t0, t1, t2]) rfl ?_
    rw [HNR.out, if_neg HZ.out]
    exact ansF_bad (((HB2.out.setCell (Nat.le_refl _) _).setCell (Nat.le_refl _) _).setCell (Nat.le_refl _) _) _
theorem implNewFsU (w : World) (a : Option Addr) (n c : Nat) (zss : List (List UInt8)) (h : Byts w (.slice a n c) zss) (hs : sizeByts zss ≤ 1048576) :
    Calls Try.prog 16 #[.slice a n c] w (AnsFR w (newFR zss)) := by
  by_cases hn : n < 20
  · exact implNew_short w a n c zss h hs hn
  · exact implNew_long w a n c zss h hs hn
end Go.Proofs.Ytlohgnidbkechaa

namespace Go.Proofs.Ytlohgnidbkechaa
open Go.RowKit
set_option maxRecDepth 100000

def fmt1 (seq : Int) : List (List Int) := (List.replicate 47 []).set 0 [7, seq]
def fmtB (seq : Int) : List (List Int) := (fmt1 seq).set 17 [2, 0, 0, 0]
def formR (seq : Int) : Int × DK := if seqB seq = true then (0, fmtB seq, []) else (3, [], [])
theorem fmt1_len (s : Int) : (fmt1 s).length = 47 := by simp [fmt1]
theorem fmtB_len (s : Int) : (fmtB s).length = 47 := by simp [fmtB, fmt1]
theorem packL_dir : packL dir0 = [2, 0, 0, 0] := rfl
/-- The blocks behind the first j inodes. -/
def fmtK (s : Int) (j : Nat) : List (List Int) := if j = 0 then fmt1 s else fmtB s
theorem fmtK_len (s : Int) (j : Nat) : (fmtK s j).length = 47 := by unfold fmtK; split; exact fmt1_len s; exact fmtB_len s
theorem set_same {α : Type} {l : List α} {i : Nat} {x : α} (h : l[i]? = some x) : l.set i x = l := by
  apply List.ext_getElem?
  intro k
  rw [List.getElem?_set]
  by_cases e : i = k
  · subst e
    have hl := (List.getElem?_eq_some_iff.1 h).1
    rw [if_pos rfl, if_pos hl, h]
  · rw [if_neg e]
theorem fmtK_next (s : Int) (j : Nat) (hj : j < 10) : (fmtK s j).set (17 + j) (inoW [dir0] j) = fmtK s (j + 1) := by
  unfold fmtK
  rw [if_neg (show ¬ j + 1 = 0 by omega)]
  by_cases h : j = 0
  · subst h
    rw [if_pos rfl]
    rfl
  · rw [if_neg h]
    have e : inoW [dir0] j = [] := by unfold inoW; rw [if_neg (by simp; omega)]
    rw [e]
    refine set_same ?_
    unfold fmtB fmt1
    rw [List.getElem?_set_ne (by omega), List.getElem?_set_ne (by omega), List.getElem?_replicate, if_pos (by omega)]
theorem newFd_zero : fsF (newFd []) = 0 := by decide +kernel
theorem inoPuts_new : inoPutsR (newFd []) = (0, inoPuts [dir0]) := by unfold inoPutsR; rw [if_pos newFd_zero]; rfl
theorem newFR_nil : newFR [] = (0, newFd []) := by unfold newFR; rw [if_pos newFd_zero]
theorem superWords_any (w : World) (s : Int) : Calls Try.prog 14 #[.int .i64 s] w fun e w' => ∃ a n c, e = .returned (.slice a n c) ∧ Below w.heap.size w w' ∧ IntsO w' (.slice a n c) [7, s] (fresh w w') := by
  go_enter Try.func14, Try.ntmps14
  go_wp2
  go_ret
  have hr := OwnRow.newS w (.int .i64 7) (.int .i64 s) 2
  refine ⟨_, _, _, rfl, later1 _ _, Or.inr ⟨w.heap.size, 2, ⟨Nat.le_refl _, hr.lt⟩, rfl, by unfold maxLen; simp, hr.congr fun i hi => ?_⟩⟩
  rcases (show i = 0 ∨ i = 1 by have hi' : i < 2 := hi; omega) with rfl | rfl <;> rfl
theorem ans_fmt {w W : World} {b rb : Nat} {s : Int} {F : Nat → Prop} (hB : Below w.heap.size w W) (hrb : w.heap.size ≤ rb) (hI : IntsSO W (.slice (some ⟨b, 0, none⟩) 47 47) (fmtB s) F) (hF : ∀ c, F c → w.heap.size ≤ c ∧ c < W.heap.size ∧ c ≠ rb) (x y z : Value) :
    AnsDR w (0, fmtB s, []) (.returned (.agg #[.int .i64 0, .slice (some ⟨b, 0, none⟩) 47 47, .slice none 0 0])) (((W.setCell ⟨rb, 0, none⟩ x).setCell ⟨rb, 1, none⟩ y).setCell ⟨rb, 2, none⟩ z) := by
  have hb3 := ((hB.setCell (p := ⟨rb, 0, none⟩) hrb x).setCell (p := ⟨rb, 1, none⟩) hrb y).setCell (p := ⟨rb, 2, none⟩) hrb z
  have hi3 : IntsSO (((W.setCell ⟨rb, 0, none⟩ x).setCell ⟨rb, 1, none⟩ y).setCell ⟨rb, 2, none⟩ z) (.slice (some ⟨b, 0, none⟩) 47 47) (fmtB s) F := hI.keep fun c hc _ => by
    have hne : c ≠ rb := (hF c hc).2.2
    rw [Below.heap_setCell _ _ _ _ hne, Below.heap_setCell _ _ _ _ hne, Below.heap_setCell _ _ _ _ hne]
  exact AnsDisk.uni ⟨_, 47, 47, none, 0, 0, rfl, hb3, F, fun _ => False, hi3, Or.inl ⟨rfl, none, 0, rfl⟩, fun _ _ h => h.elim, fun c h => h.elim (fun h => ⟨(hF c h).1, by have := (hF c h).2.1; simpa [World.setCell] using this⟩) False.elim⟩
theorem ans_fbad {w W : World} {rb : Nat} (hB : Below w.heap.size w W) (hrb : w.heap.size ≤ rb) (x y z : Value) :
    AnsDR w (3, [], []) (.returned (.agg #[.int .i64 3, .slice none 0 0, .slice none 0 0])) (((W.setCell ⟨rb, 0, none⟩ x).setCell ⟨rb, 1, none⟩ y).setCell ⟨rb, 2, none⟩ z) :=
  AnsDisk.uni (ans_bad (((hB.setCell (p := ⟨rb, 0, none⟩) hrb x).setCell (p := ⟨rb, 1, none⟩) hrb y).setCell (p := ⟨rb, 2, none⟩) hrb z) 3)
theorem empt47 {w : World} {b : Nat} (h : OwnRow w b 47 (fun _ => .slice none 0 0)) : IntsSO w (.slice (some ⟨b, 0, none⟩) 47 47) (List.replicate 47 []) (fun c => c = b) := empties _ rfl (by omega) h
theorem field_fsr (z : Int) (a1 : Option Addr) (n1 c1 : Nat) (a2 : Option Addr) (n2 c2 : Nat) (w : World) : (Instr.field 50 (.agg #[.int .i64 z, .slice a1 n1 c1, .slice a2 n2 c2]) 1).run Try.prog w = .ok (.agg #[.slice a1 n1 c1, .slice a2 n2 c2]) w := by kernel_rfl
theorem field_psr (z : Int) (a : Option Addr) (n c : Nat) (w : World) : (Instr.field 43 (.agg #[.int .i64 z, .slice a n c]) 1).run Try.prog w = .ok (.slice a n c) w := by kernel_rfl

set_option maxHeartbeats 6400000 in
theorem implFormU (w : World) (x : Int) :
    Calls Try.prog 5 #[.int .i64 x] w (AnsDR w (formR x)) := by
  have HRA : Hid (seqB x = true → formR x = (0, fmtB x, [])) := fun h => by unfold formR; rw [if_pos h]
  have HRB : Hid (seqB x = false → formR x = (3, [], [])) := fun h => by unfold formR; rw [if_neg (by rw [h]; simp)]
  have HSQ : Hid (∀ W, Calls Try.prog 11 #[.int .i64 x] W fun e w' => e = .returned (.bool (seqB x)) ∧ w' = W) := fun W => isSeq_any W x
  have HNF : Hid (∀ W, Calls Try.prog 16 #[.slice none 0 0] W (AnsFR W (0, newFd []))) := fun W => by rw [← newFR_nil]; exact implNewFsU W none 0 0 [] (Byts.nil _ _ _) (by simp [sizeByts, ylens])
  have HIP : Hid (∀ W a1 n1 c1 a2 n2 c2, FsR W (.slice a1 n1 c1) (.slice a2 n2 c2) (newFd []) → Calls Try.prog 15 #[.agg #[.slice a1 n1 c1, .slice a2 n2 c2]] W (AnsPR W (0, inoPuts [dir0]))) := fun W a1 n1 c1 a2 n2 c2 hW => by rw [← inoPuts_new]; exact implInoPutsU W _ _ _ _ _ _ _ hW (by decide +kernel)
  generalize formR x = RES at *
  generalize seqB x = sb at *
  have HB0 : Hid (Below w.heap.size w (w.alloc (.cells #[.int .i64 0, .slice none 0 0, .slice none 0 0] 27))) := later1 _ _
  have HR0 : Hid (OwnRow (w.alloc (.cells #[.int .i64 0, .slice none 0 0, .slice none 0 0] 27)) (w.heap.size) 3 (cel [.int .i64 0, .slice none 0 0, .slice none 0 0])) := newCel w [.int .i64 0, .slice none 0 0, .slice none 0 0] _
  go_enter Try.func5, Try.ntmps5
  go_wp2_with fail
  refine (HSQ.out _).mono ?_
  rintro e wq ⟨rfl, hq0⟩
  subst wq
  cases sb with
  | false =>
    have HE : Hid (RES = (3, [], [])) := HRB.out rfl
    have hrr := HR0.out
    have t0 : (w.alloc (.cells #[.int .i64 0, .slice none 0 0, .slice none 0 0] 27)).cell? ⟨w.heap.size, 0, none⟩ = some (.int .i64 0) := hrr.cell (i := 0) (by omega)
    have t1 : (w.alloc (.cells #[.int .i64 0, .slice none 0 0, .slice none 0 0] 27)).cell? ⟨w.heap.size, 1, none⟩ = some (.slice none 0 0) := hrr.cell (i := 1) (by omega)
    have t2 : (w.alloc (.cells #[.int .i64 0, .slice none 0 0, .slice none 0 0] 27)).cell? ⟨w.heap.size, 2, none⟩ = some (.slice none 0 0) := hrr.cell (i := 2) (by omega)
    have f0 := hrr.frozen 0
    have f1 := hrr.frozen 1
    have f2 := hrr.frozen 2
    have hlr := hrr.lt
    clear hrr
    go_wp2
    exact bodyPost_ret (v := .agg #[.int .i64 3, .slice none 0 0, .slice none 0 0]) (by simp [results, Try.results5, go_sem]) rfl (by rw [HE.out]; exact AnsDisk.uni (ans_bad (later1 _ _) 3))
  | true =>
    have HE : Hid (RES = (0, fmtB x, [])) := HRA.out rfl
    go_wp2_with fail
    refine (newRack_any _ 47 (by omega)).mono ?_
    rintro e w1 ⟨b, hbb, rfl, hb, hrow⟩
    have HS1 : Hid (IntsSO w1 (.slice (some ⟨b, 0, none⟩) 47 47) (List.replicate 47 []) (fun c => c = b)) := empt47 hrow
    have hbl := hrow.lt
    rw [World.size_alloc] at hbb
    clear hrow
    have HB1 : Hid (Below w.heap.size w w1) := HB0.out.trans (hb.mono HB0.out.size)
    have HR1 : Hid (OwnRow w1 (w.heap.size) 3 (cel [.int .i64 0, .slice none 0 0, .slice none 0 0])) := HR0.out.later hb
    clear hb
    have hb := later1 w1 (.cells #[.slice (some ⟨b, 0, none⟩) 47 47, .slice none 0 0] 38)
    have HS2 : Hid (IntsSO (w1.alloc (.cells #[.slice (some ⟨b, 0, none⟩) 47 47, .slice none 0 0] 38)) (.slice (some ⟨b, 0, none⟩) 47 47) (List.replicate 47 []) (fun c => c = b)) := HS1.out.keep fun c _ hlt => hb.block c hlt
    clear HS1
    have HB2 : Hid (Below w.heap.size w (w1.alloc (.cells #[.slice (some ⟨b, 0, none⟩) 47 47, .slice none 0 0] 38))) := HB1.out.trans (hb.mono HB1.out.size)
    have HR2 : Hid (OwnRow (w1.alloc (.cells #[.slice (some ⟨b, 0, none⟩) 47 47, .slice none 0 0] 38)) (w.heap.size) 3 (cel [.int .i64 0, .slice none 0 0, .slice none 0 0])) := HR1.out.later hb
    clear hb
    have HD2 : Hid (OwnRow (w1.alloc (.cells #[.slice (some ⟨b, 0, none⟩) 47 47, .slice none 0 0] 38)) w1.heap.size 2 (cel [.slice (some ⟨b, 0, none⟩) 47 47, .slice none 0 0])) := newCel w1 [.slice (some ⟨b, 0, none⟩) 47 47, .slice none 0 0] _
    have hd0 : (w1.alloc (.cells #[.slice (some ⟨b, 0, none⟩) 47 47, .slice none 0 0] 38)).cell? ⟨w1.heap.size, 0, none⟩ = some (.slice (some ⟨b, 0, none⟩) 47 47) := HD2.out.cell (i := 0) (by omega)
    go_wp2_with fail
    clear hd0
    refine (superWords_any _ x).mono ?_
    rintro e w2 ⟨aw, nw, cw, rfl, hb, ho⟩
    have HSW : Hid (Ints w2 (.slice aw nw cw) [7, x]) := ho.reads
    have HS3 : Hid (IntsSO w2 (.slice (some ⟨b, 0, none⟩) 47 47) (List.replicate 47 []) (fun c => c = b)) := HS2.out.keep fun c _ hlt => hb.block c hlt
    clear ho HS2
    have hw12 : w1.heap.size < w2.heap.size := by have := hb.size; simp at this; omega
    have HB3 : Hid (Below w.heap.size w w2) := HB2.out.trans (hb.mono HB2.out.size)
    have HR3 : Hid (OwnRow w2 (w.heap.size) 3 (cel [.int .i64 0, .slice none 0 0, .slice none 0 0])) := HR2.out.later hb
    have HD3 : Hid (OwnRow w2 w1.heap.size 2 (cel [.slice (some ⟨b, 0, none⟩) 47 47, .slice none 0 0])) := HD2.out.later hb
    clear hb
    obtain ⟨u, hru, hFu, hsu⟩ := IntsSO.row HS3.out (by simp)
    have HRU : Hid (OwnRow w2 b 47 u) := hru
    have HSU : Hid (∀ i, i < 47 → ∃ ua un uc, u i = .slice ua un uc) := hsu
    clear hru hsu hFu
    go_wp2_with fail
    refine (set_any _ w1.heap.size 0 b 47 47 0 u _ [7, x] (by omega) (by omega) (HD3.out.cell (i := 0) (by omega)) HRU.out (HSU.out 0 (by omega)) HSW.out (by simp)).mono ?_
    rintro e w3 ⟨rfl, X, rfl, hbx, hox⟩
    have HSX := IntsSO.set HS3.out (x := 0) (by simp) hbx (fun c hc => by subst hc; omega) hox
    have HS4 : Hid (IntsSO (X.setCell ⟨b, 0, none⟩ (.slice (some ⟨w2.heap.size, 0, none⟩) [7, x].length [7, x].length)) (.slice (some ⟨b, 0, none⟩) 47 47) (fmt1 x) (fun c => w.heap.size < c ∧ c < X.heap.size ∧ c ≠ w1.heap.size)) := HSX.mono fun c hc => by
      rcases hc with rfl | hc
      · have := hbx.size; omega
      · have := hc.1; have := hc.2; omega
    have hb : Below w.heap.size w2 (X.setCell ⟨b, 0, none⟩ (.slice (some ⟨w2.heap.size, 0, none⟩) [7, x].length [7, x].length)) := (hbx.mono HB3.out.size).setCell (by show w.heap.size ≤ b; omega) _
    have hrx := (HR3.out.later hbx).store (p := ⟨b, 0, none⟩) (by show w.heap.size ≠ b; omega) (.slice (some ⟨w2.heap.size, 0, none⟩) [7, x].length [7, x].length)
    have hdx := (HD3.out.later hbx).store (p := ⟨b, 0, none⟩) (by show w1.heap.size ≠ b; omega) (.slice (some ⟨w2.heap.size, 0, none⟩) [7, x].length [7, x].length)
    have hxs : w2.heap.size ≤ X.heap.size := hbx.size
    have hsz : (X.setCell ⟨b, 0, none⟩ (.slice (some ⟨w2.heap.size, 0, none⟩) [7, x].length [7, x].length)).heap.size = X.heap.size := by simp [World.setCell]
    rw [← hsz] at HS4 hxs
    clear hsz
    generalize X.setCell ⟨b, 0, none⟩ (.slice (some ⟨w2.heap.size, 0, none⟩) [7, x].length [7, x].length) = w3 at *
    have HB9 : Hid (Below w.heap.size w w3) := HB3.out.trans hb
    have HR9 : Hid (OwnRow w3 (w.heap.size) 3 (cel [.int .i64 0, .slice none 0 0, .slice none 0 0])) := hrx
    have HD9 : Hid (OwnRow w3 w1.heap.size 2 (cel [.slice (some ⟨b, 0, none⟩) 47 47, .slice none 0 0])) := hdx
    clear hbx hox HSX hb hrx hdx HS3 HRU HSU HSW
    go_wp2_with fail
    refine (HNF.out _).mono ?_
    rintro e w4 ⟨a1, n1, c1, a2, n2, c2, rfl, hb, ho⟩
    have HFS : Hid (FsR w4 (.slice a1 n1 c1) (.slice a2 n2 c2) (newFd [])) := ho.reads
    have HS5 : Hid (IntsSO w4 (.slice (some ⟨b, 0, none⟩) 47 47) (fmt1 x) (fun c => w.heap.size < c ∧ c < w4.heap.size ∧ c ≠ w1.heap.size)) := (HS4.out.keep fun c _ hlt => hb.block c hlt).mono fun c hc => ⟨hc.1, Nat.lt_of_lt_of_le hc.2.1 hb.size, hc.2.2⟩
    have h34 : w3.heap.size ≤ w4.heap.size := hb.size
    clear ho HS4
    have HB10 : Hid (Below w.heap.size w w4) := HB9.out.trans (hb.mono HB9.out.size)
    have HR10 : Hid (OwnRow w4 (w.heap.size) 3 (cel [.int .i64 0, .slice none 0 0, .slice none 0 0])) := HR9.out.later hb
    have HD10 : Hid (OwnRow w4 w1.heap.size 2 (cel [.slice (some ⟨b, 0, none⟩) 47 47, .slice none 0 0])) := HD9.out.later hb
    clear hb
    have hff := field_fsr
    go_wp2_with fail
    clear hff
    refine (HIP.out _ _ _ _ _ _ _ HFS.out).mono ?_
    rintro e w5 ⟨ap, np, cp, rfl, hb, ho⟩
    have HPO : Hid (PutsO w5 (.slice ap np cp) (inoPuts [dir0]) (fun c => w4.heap.size ≤ c)) := ho.mono fun c hc => hc.1
    have HS6 : Hid (IntsSO w5 (.slice (some ⟨b, 0, none⟩) 47 47) (fmtK x 0) (fun c => w.heap.size < c ∧ c < w5.heap.size ∧ c ≠ w1.heap.size)) := (HS5.out.keep fun c _ hlt => hb.block c hlt).mono fun c hc => ⟨hc.1, Nat.lt_of_lt_of_le hc.2.1 hb.size, hc.2.2⟩
    obtain ⟨_, _, ep, _, -⟩ := ho.reads.open'
    simp only [Value.slice.injEq] at ep
    obtain ⟨rfl, hnp, rfl⟩ := ep
    rw [inoPuts_len] at hnp
    subst hnp
    have h45 : w4.heap.size ≤ w5.heap.size := hb.size
    clear ho HS5 HFS HNF HIP
    have HB11 : Hid (Below w.heap.size w w5) := HB10.out.trans (hb.mono HB10.out.size)
    have HR11 : Hid (OwnRow w5 (w.heap.size) 3 (cel [.int .i64 0, .slice none 0 0, .slice none 0 0])) := HR10.out.later hb
    have HD11 : Hid (OwnRow w5 w1.heap.size 2 (cel [.slice (some ⟨b, 0, none⟩) 47 47, .slice none 0 0])) := HD10.out.later hb
    clear hb
    have hff := field_psr
    go_wp2
    clear hff
    have HG : Hid (∀ j : Nat, j < 10 → (inoPuts [dir0])[j]?.getD (0, []) = (17 + (j : Int), inoW [dir0] j)) := fun j hj => inoPuts_get [dir0] hj
    have HIL : Hid (∀ j : Nat, (inoW [dir0] j).length ≤ 1048576) := fun j => by
      unfold inoW
      by_cases h : j < [dir0].length
      · have : j = 0 := by simpa using h
        subst this
        rw [if_pos h]; decide
      · rw [if_neg h]; simp
    have HKN : Hid (∀ j : Nat, j < 10 → (fmtK x j).set (17 + j) (inoW [dir0] j) = fmtK x (j + 1)) := fmtK_next x
    have HKL : Hid (∀ j : Nat, (fmtK x j).length = 47) := fmtK_len x
    have HKE : Hid (fmtK x 10 = fmtB x) := rfl
    generalize inoW [dir0] = IW at *
    generalize inoPuts [dir0] = PS at *
    generalize fmtK x = FK at *
    go_loopw [21] (fun i wr => ∃ j : Nat, j ≤ 10 ∧ i = .int .i64 j ∧ Below w.heap.size w wr ∧ OwnRow wr w.heap.size 3 (cel [.int .i64 0, .slice none 0 0, .slice none 0 0]) ∧ OwnRow wr w1.heap.size 2 (cel [.slice (some ⟨b, 0, none⟩) 47 47, .slice none 0 0]) ∧ PutsO wr (.slice ap 10 cp) PS (fun c => w4.heap.size ≤ c) ∧ IntsSO wr (.slice (some ⟨b, 0, none⟩) 47 47) (FK j) (fun c => w.heap.size < c ∧ c < wr.heap.size ∧ c ≠ w1.heap.size) ∧ w5.heap.size ≤ wr.heap.size) (fun i _ => 10 - (intOf i).toNat)
    case atStart => exact ⟨0, Nat.zero_le _, rfl, HB11.out, HR11.out, HD11.out, HPO.out, HS6.out, Nat.le_refl _⟩
    case round =>
      obtain ⟨j, hj, rfl, hb0, hr0, hd0, hp0, hs0, hz0⟩ := hrel
      have HBR : Hid (Below w.heap.size w wr) := hb0
      have HRR : Hid (OwnRow wr w.heap.size 3 (cel [.int .i64 0, .slice none 0 0, .slice none 0 0])) := hr0
      have HDR : Hid (OwnRow wr w1.heap.size 2 (cel [.slice (some ⟨b, 0, none⟩) 47 47, .slice none 0 0])) := hd0
      have HPR : Hid (PutsO wr (.slice ap 10 cp) PS (fun c => w4.heap.size ≤ c)) := hp0
      have HSR : Hid (IntsSO wr (.slice (some ⟨b, 0, none⟩) 47 47) (FK j) (fun c => w.heap.size < c ∧ c < wr.heap.size ∧ c ≠ w1.heap.size)) := hs0
      clear hb0 hr0 hd0 hp0 hs0 HPO HS6
      by_cases hlt : j < 10
      · skip
        obtain ⟨_, _, eo, _, hpa⟩ := HPR.out.reads.open'
        simp only [Value.slice.injEq] at eo
        obtain ⟨rfl, hlp, rfl⟩ := eo
        obtain ⟨b6, o6, aw, cw, rfl, k0, k1, hiw⟩ := hpa j (by omega)
        clear hlp
        rw [HG.out j hlt] at k0 k1 hiw
        obtain ⟨nw, hnw⟩ : ∃ nw, (17 + (j : Int), IW j).2.length = nw := ⟨_, rfl⟩
        rw [hnw] at k1 hiw
        replace k0 : wr.cell? ⟨b6, o6 + j * 2, none⟩ = some (.int .i64 (17 + (j : Int))) := k0
        have hb6 := World.block_lt_of_cell? _ _ k0
        have HIW : Hid (Ints (wr.alloc (.cells #[.int .i64 (17 + (j : Int)), .slice aw nw cw] 53)) (.slice aw nw cw) (IW j)) := hiw.later (later1 _ _)
        have HRA2 : Hid (OwnRow (wr.alloc (.cells #[.int .i64 (17 + (j : Int)), .slice aw nw cw] 53)) w.heap.size 3 (cel [.int .i64 0, .slice none 0 0, .slice none 0 0])) := HRR.out.later (later1 _ _)
        have HDA2 : Hid (OwnRow (wr.alloc (.cells #[.int .i64 (17 + (j : Int)), .slice aw nw cw] 53)) w1.heap.size 2 (cel [.slice (some ⟨b, 0, none⟩) 47 47, .slice none 0 0])) := HDR.out.later (later1 _ _)
        have HSA2 : Hid (IntsSO (wr.alloc (.cells #[.int .i64 (17 + (j : Int)), .slice aw nw cw] 53)) (.slice (some ⟨b, 0, none⟩) 47 47) (FK j) (fun c => w.heap.size < c ∧ c < wr.heap.size ∧ c ≠ w1.heap.size)) := HSR.out.keep fun c _ hlt => (later1 _ _).block c hlt
        have HPA2 : Hid (PutsO (wr.alloc (.cells #[.int .i64 (17 + (j : Int)), .slice aw nw cw] 53)) (.slice (some ⟨b6, o6, none⟩) 10 cp) PS (fun c => w4.heap.size ≤ c)) := HPR.out.later (later1 _ _)
        have HBA2 : Hid (Below w.heap.size w (wr.alloc (.cells #[.int .i64 (17 + (j : Int)), .slice aw nw cw] 53))) := HBR.out.trans ((later1 _ _).mono HBR.out.size)
        have hjc : ((17 + j : Nat) : Int) = 17 + (j : Int) := by omega
        obtain ⟨u, hru, hFu, hsu⟩ := IntsSO.row HSA2.out (by rw [HKL.out]; omega)
        have HST := set_any (wr.alloc (.cells #[.int .i64 (17 + (j : Int)), .slice aw nw cw] 53)) w1.heap.size 0 b 47 47 (17 + j) u (.slice aw nw cw) (IW j) (by omega) (by omega) (HDA2.out.cell (i := 0) (by omega)) hru (hsu _ (by omega)) HIW.out (HIL.out j)
        rw [hjc] at HST
        have HST2 : Hid (Calls Try.prog 13 _ _ _) := HST
        clear HST hru hsu hjc hiw hpa hnw
        go_wp2_with fail
        refine HST2.out.mono ?_
        rintro e w7 ⟨rfl, X, rfl, hbx, hox⟩
        have hsz : (X.setCell ⟨b, 17 + j, none⟩ (.slice (some ⟨(wr.alloc (.cells #[.int .i64 (17 + (j : Int)), .slice aw nw cw] 53)).heap.size, 0, none⟩) (IW j).length (IW j).length)).heap.size = X.heap.size := by simp [World.setCell]
        have hxs := hbx.size
        rw [World.size_alloc] at hxs
        have HSX := IntsSO.set HSA2.out (x := 17 + j) (by rw [HKL.out]; omega) hbx (fun c hc => by have := hc.2.1; rw [World.size_alloc]; omega) hox
        rw [HKN.out j hlt] at HSX
        have HS8 : Hid (IntsSO (X.setCell ⟨b, 17 + j, none⟩ (.slice (some ⟨(wr.alloc (.cells #[.int .i64 (17 + (j : Int)), .slice aw nw cw] 53)).heap.size, 0, none⟩) (IW j).length (IW j).length)) (.slice (some ⟨b, 0, none⟩) 47 47) (FK (j + 1)) (fun c => w.heap.size < c ∧ c < X.heap.size ∧ c ≠ w1.heap.size)) := HSX.mono fun c hc => by
          rcases hc with hc | hc
          · exact ⟨hc.1, by have := hc.2.1; omega, hc.2.2⟩
          · have h1 := hc.1; have h2 := hc.2; rw [World.size_alloc] at h1; omega
        have HB8 : Hid (Below w.heap.size w (X.setCell ⟨b, 17 + j, none⟩ (.slice (some ⟨(wr.alloc (.cells #[.int .i64 (17 + (j : Int)), .slice aw nw cw] 53)).heap.size, 0, none⟩) (IW j).length (IW j).length))) := (HBA2.out.trans (hbx.mono HBA2.out.size)).setCell (by show w.heap.size ≤ b; omega) _
        have HR8 : Hid (OwnRow (X.setCell ⟨b, 17 + j, none⟩ (.slice (some ⟨(wr.alloc (.cells #[.int .i64 (17 + (j : Int)), .slice aw nw cw] 53)).heap.size, 0, none⟩) (IW j).length (IW j).length)) w.heap.size 3 (cel [.int .i64 0, .slice none 0 0, .slice none 0 0])) := (HRA2.out.later hbx).store (by show w.heap.size ≠ b; omega) _
        have HD8 : Hid (OwnRow (X.setCell ⟨b, 17 + j, none⟩ (.slice (some ⟨(wr.alloc (.cells #[.int .i64 (17 + (j : Int)), .slice aw nw cw] 53)).heap.size, 0, none⟩) (IW j).length (IW j).length)) w1.heap.size 2 (cel [.slice (some ⟨b, 0, none⟩) 47 47, .slice none 0 0])) := (HDA2.out.later hbx).store (by show w1.heap.size ≠ b; omega) _
        have HP8 : Hid (PutsO (X.setCell ⟨b, 17 + j, none⟩ (.slice (some ⟨(wr.alloc (.cells #[.int .i64 (17 + (j : Int)), .slice aw nw cw] 53)).heap.size, 0, none⟩) (IW j).length (IW j).length)) (.slice (some ⟨b6, o6, none⟩) 10 cp) PS (fun c => w4.heap.size ≤ c)) := (HPA2.out.later hbx).store (fun c hc => by show c ≠ b; have : w4.heap.size ≤ c := hc; omega) _
        rw [← hsz] at HS8 hxs
        clear hsz hbx hox HSX HST2 HIW HRA2 HDA2 HSA2 HPA2 HBA2 HBR HRR HDR HPR HSR k0 k1
        generalize X.setCell ⟨b, 17 + j, none⟩ (.slice (some ⟨(wr.alloc (.cells #[.int .i64 (17 + (j : Int)), .slice aw nw cw] 53)).heap.size, 0, none⟩) (IW j).length (IW j).length) = w8 at *
        go_wp2
        go_roundw
        case rel => exact ⟨j + 1, by omega, by go_num, HB8.out, HR8.out, HD8.out, HP8.out, HS8.out, by omega⟩
        case measure => simp [intOf]; omega
      · skip
        have e10 : j = 10 := by omega
        subst e10
        have HS9 : Hid (IntsSO wr (.slice (some ⟨b, 0, none⟩) 47 47) (fmtB x) (fun c => w.heap.size < c ∧ c < wr.heap.size ∧ c ≠ w1.heap.size)) := by have := HSR.out; rw [HKE.out] at this; exact this
        clear HSR HPR HG HIL HKN HKL HKE
        go_wp2_with fail
        refine (disk_nil _ w1.heap.size 0 0 none (some ⟨b, 0, none⟩) 47 47 (HDR.out.cell (i := 0) (by omega)) (HDR.out.cell (i := 1) (by omega))).mono ?_
        rintro e w9 ⟨rfl, hb⟩
        have HBX : Hid (Below w.heap.size w w9) := HBR.out.trans (hb.mono HBR.out.size)
        have HSY : Hid (IntsSO w9 (.slice (some ⟨b, 0, none⟩) 47 47) (fmtB x) (fun c => w.heap.size < c ∧ c < w9.heap.size ∧ c ≠ w1.heap.size)) := (HS9.out.keep fun c _ hlt => hb.block c hlt).mono fun c hc => ⟨hc.1, Nat.lt_of_lt_of_le hc.2.1 hb.size, hc.2.2⟩
        have hrr := HRR.out.later hb
        have t0 : w9.cell? ⟨w.heap.size, 0, none⟩ = some (.int .i64 0) := hrr.cell (i := 0) (by omega)
        have t1 : w9.cell? ⟨w.heap.size, 1, none⟩ = some (.slice none 0 0) := hrr.cell (i := 1) (by omega)
        have t2 : w9.cell? ⟨w.heap.size, 2, none⟩ = some (.slice none 0 0) := hrr.cell (i := 2) (by omega)
        have f0 := hrr.frozen 0
        have f1 := hrr.frozen 1
        have f2 := hrr.frozen 2
        clear hb hrr HRR HDR
        go_wp2
        exact bodyPost_ret (v := .agg #[.int .i64 0, .slice (some ⟨b, 0, none⟩) 47 47, .slice none 0 0]) (by simp [results, Try.results5, go_sem, t0, t1, t2]) rfl (by rw [HE.out]; exact ans_fmt HBX.out (Nat.le_refl _) HSY.out (fun c hc => ⟨by omega, hc.2.1, by omega⟩) _ _ _)

end Go.Proofs.Ytlohgnidbkechaa


/- strings.Builder: a byte and a text written. -/
import Derived.Test.YtcmkfapgpolglaaCutA
import Derived.Lib.Builder
import Derived.Lib.AppendStr
import Derived.Laws.Externs
namespace Go.Proofs.Ytcmkfapgpolglaa
open Go.RowKit
set_option maxRecDepth 100000

theorem Try.sizeBld : (Try.prog.info? 135).map (·.size) = some 2 := by kernel_rfl
theorem Try.liesBld : liesAt Try.prog Try.prog.depth 135 (2 / Try.prog.cellsOf 135) 0 135 1 = true := by kernel_rfl
theorem Try.infoByte : (Try.prog.info? 5).map (fun i => (i.zero, i.size, i.bytes)) = some (some (.int .u8 0), 1, 1) := by kernel_rfl
/-- A builder in block b that holds bs, its own memory from B on; p: what its first cell holds. -/
abbrev Bld (B b : Nat) (p : Value) (bs : List Value) (w : World) : Prop := Lib.BuilderAt 135 5 B b p bs w

set_option maxHeartbeats 1600000 in
theorem check_used (b : Nat) (w : World) (h0 : w.cell? ⟨b, 0, none⟩ = some (.pointer (some ⟨b, 0, none⟩))) :
    Calls Try.prog 117 #[.pointer (some ⟨b, 0, none⟩)] w fun e w' => e = .returned (.tuple #[]) ∧ w' = w := by
  obtain ⟨j, hj, _⟩ := Option.map_eq_some_iff.1 Try.sizeBld
  go_enter Try.func117, Try.ntmps117
  go_wp2
  rw [Lib.run_neq_ptr_same w _ Try.underlying133 hj]
  go_wp2
  go_end0
  exact ⟨rfl, rfl⟩

set_option maxHeartbeats 1600000 in
theorem check_fresh (b : Nat) (w : World) (h0 : w.cell? ⟨b, 0, none⟩ = some (.pointer none)) (hsh : w.shape? b = some (135, 2)) (hfz : w.frozen? ⟨b, 0, none⟩ = false) :
    Calls Try.prog 117 #[.pointer (some ⟨b, 0, none⟩)] w fun e w' => e = .returned (.tuple #[]) ∧ w' = w.setCell ⟨b, 0, none⟩ (.pointer (some ⟨b, 0, none⟩)) := by
  obtain ⟨j, hj, hjs⟩ := Option.map_eq_some_iff.1 Try.sizeBld
  go_enter Try.func117, Try.ntmps117
  go_wp2
  rw [Lib.run_to_unsafe w ⟨b, 0, none⟩ Try.underlying133 Try.underlying163 hj (by rw [hjs]; decide) hsh (Nat.zero_lt_succ 1)]
  simp only [Result.andThen]
  rw [Oper.upon_value]
  go_wp2
  rw [run_callFunc_extern Try.func123 (by kernel_rfl) (by kernel_rfl) (by kernel_rfl) (e := Extern.AbiNoEscape.same) (by kernel_rfl)]
  rw [Lib.run_noEscape]
  simp only [Result.andThen]
  rw [Oper.upon_value]
  go_wp2
  rw [Lib.run_from_unsafe w ⟨b, 0, none⟩ Try.underlying163 Try.underlying133 hj hsh Try.liesBld]
  simp only [Result.andThen]
  rw [Oper.upon_value]
  go_wp2
  go_end0
  exact ⟨rfl, rfl⟩

/-- Whatever a builder's first cell holds, nil or itself: behind the check it is itself. -/
def BldP (B b : Nat) (bs : List Value) (w : World) : Prop := Bld B b (.pointer none) bs w ∨ Bld B b (.pointer (some ⟨b, 0, none⟩)) bs w
theorem check_any (B b : Nat) (bs : List Value) (w : World) (h : BldP B b bs w) :
    Calls Try.prog 117 #[.pointer (some ⟨b, 0, none⟩)] w fun e w' => e = .returned (.tuple #[]) ∧ Bld B b (.pointer (some ⟨b, 0, none⟩)) bs w' ∧ Below B w w' := by
  rcases h with h | h
  · exact (check_fresh b w h.cell0 h.shape h.frozen0).mono fun e w' ⟨h1, h2⟩ => ⟨h1, h2 ▸ h.used _, h2 ▸ (Below.refl B w).setCell (p := ⟨b, 0, none⟩) h.1 _⟩
  · exact (check_used b w h.cell0).mono fun e w' ⟨h1, h2⟩ => ⟨h1, h2 ▸ h, h2 ▸ Below.refl B w⟩
theorem Bld.keep {w w' : World} {b : Nat} {p v : Value} {row : Option Nat} (hg : w.grownBy w' row) (hb : w.heap[b]? = some (.cells #[p, v] 135 (0, 0))) (hne : row ≠ some b) : w'.heap[b]? = some (.cells #[p, v] 135 (0, 0)) :=
  (hg.block b (Array.getElem?_eq_some_iff.1 hb).1 (fun e => hne e.symm)).trans hb

set_option maxHeartbeats 3200000 in
theorem writeByte_any (B b : Nat) (bs : List Value) (c : Int) (w : World) (h : BldP B b bs w) (hl : bs.length ≤ 16777216) (hBw : B ≤ w.heap.size) :
    Calls Try.prog 90 #[.pointer (some ⟨b, 0, none⟩), .int .u8 c] w fun e w' => e = .returned .nilIface ∧ Bld B b (.pointer (some ⟨b, 0, none⟩)) (bs ++ [.int .u8 c]) w' ∧ Below B w w' := by
  have H : Hid (BldP B b bs w) := h
  clear h
  go_enter Try.func90, Try.ntmps90
  go_wp2_with fail
  refine (check_any B b bs _ H.out).mono ?_
  rintro e w1 ⟨rfl, ⟨hB, v, hbk, hown, hne⟩, hb1⟩
  obtain ⟨i0, hi, hz0, hz1, hz2⟩ := info_parts Try.infoByte
  obtain ⟨aV, cV, rfl⟩ := ownsRow_shape hown
  obtain ⟨v', X, hr, hoX, hgX, _⟩ := run_append_own (P := Try.prog) (w1.alloc (.cells #[.int .u8 c] 5)) B 22 22 5 i0 (.int .u8 0) 1 1 Try.underlying22 hi hz0 hz1 hz2 rfl (by decide) (.slice aV bs.length cV) bs.length bs (hown.alloc _) ⟨w1.heap.size, 0, none⟩ 1 1 [.int .u8 c] rfl (cell_one_new _ _ _) (by simp [Value.oneCell']) (by unfold maxLen; omega) (by omega) (by have := hb1.size; simp; omega)
  have hb1' : (w1.alloc (.cells #[.int .u8 c] 5)).heap[b]? = some (.cells #[.pointer (some ⟨b, 0, none⟩), .slice aV bs.length cV] 135 (0, 0)) := ((later1 w1 _).block b (Array.getElem?_eq_some_iff.1 hbk).1).trans hbk
  have hb2 := Bld.keep hgX hb1' hne
  have HP : Hid (Bld B b (.pointer (some ⟨b, 0, none⟩)) (bs ++ [.int .u8 c]) (X.setCell ⟨b, 1, none⟩ v')) := Lib.BuilderAt.put hB hb2 (by rw [List.length_append]; exact hoX) (by decide)
  have HX : Hid (Below B w (X.setCell ⟨b, 1, none⟩ v')) := ((hb1.trans ((later1 w1 _).mono (Nat.le_trans hBw hb1.size))).grown hgX (by have := hb1.size; simp; omega) (fun k hk => (hown.lt k hk).1)).setCell (p := ⟨b, 1, none⟩) hB _
  have HR : Hid (_ = _) := hr
  have c1 : w1.cell? ⟨b, 1, none⟩ = some (.slice aV bs.length cV) := by rw [Lib.cell_of_heap hbk]; rfl
  have d1 : X.cell? ⟨b, 1, none⟩ = some (.slice aV bs.length cV) := by rw [Lib.cell_of_heap hb2]; rfl
  have f1 : X.frozen? ⟨b, 1, none⟩ = false := Lib.frozen_of_heap hb2 1
  obtain ⟨ao, cap, rfl⟩ := ownsRow_shape hoX
  clear hr hoX hgX hb2 hb1' hbk hown hne hb1 hi hz0 hz1 hz2
  go_wp2_with (at_builtin; refine wpList_append_run rfl _ _ 22 rfl _ _ rfl rfl _ _ HR.out ?_)
  go_ret
  exact ⟨rfl, HP.out, HX.out⟩

set_option maxHeartbeats 3200000 in
theorem writeString_any (B b : Nat) (bs : List Value) (t : ByteArray) (w : World) (h : BldP B b bs w) (hl : bs.length ≤ 16777216) (ht : t.size ≤ 1048576) (hBw : B ≤ w.heap.size) :
    Calls Try.prog 91 #[.pointer (some ⟨b, 0, none⟩), .string t] w fun e w' => e = .returned (.tuple #[.int .i64 t.size, .nilIface]) ∧ Bld B b (.pointer (some ⟨b, 0, none⟩)) (bs ++ Lib.strCells t) w' ∧ Below B w w' := by
  have H : Hid (BldP B b bs w) := h
  clear h
  go_enter Try.func91, Try.ntmps91
  go_wp2_with fail
  refine (check_any B b bs _ H.out).mono ?_
  rintro e w1 ⟨rfl, ⟨hB, v, hbk, hown, hne⟩, hb1⟩
  obtain ⟨i0, hi, hz0, hz1, hz2⟩ := info_parts Try.infoByte
  have c1 : w1.cell? ⟨b, 1, none⟩ = some v := by rw [Lib.cell_of_heap hbk]; rfl
  go_wp2_with (at_builtin; refine Lib.wpList_append_own_string _ rfl _ _ 22 9 rfl B 5 i0 Try.underlying22 Try.underlying9 hi hz0 hz1 hz2 _ _ _ rfl hown t rfl (by unfold maxLen; omega) (by omega) (Nat.le_trans hBw hb1.size) ?_)
  intro v' X hoX hgX _
  have hb2 := Bld.keep hgX hbk hne
  have HP : Hid (Bld B b (.pointer (some ⟨b, 0, none⟩)) (bs ++ Lib.strCells t) (X.setCell ⟨b, 1, none⟩ v')) := Lib.BuilderAt.put hB hb2 (by rw [List.length_append, Lib.strCells_length]; exact hoX) (by decide)
  have HX : Hid (Below B w (X.setCell ⟨b, 1, none⟩ v')) := (hb1.grown hgX (Nat.le_trans hBw hb1.size) (fun k hk => (hown.lt k hk).1)).setCell (p := ⟨b, 1, none⟩) hB _
  have d1 : X.cell? ⟨b, 1, none⟩ = some v := by rw [Lib.cell_of_heap hb2]; rfl
  have f1 : X.frozen? ⟨b, 1, none⟩ = false := Lib.frozen_of_heap hb2 1
  obtain ⟨ao, cap, rfl⟩ := ownsRow_shape hoX
  clear hoX hgX hb2 hbk hown hne hb1 hi hz0 hz1 hz2 c1
  go_wp2
  go_ret2
  exact ⟨rfl, HP.out, HX.out⟩
end Go.Proofs.Ytcmkfapgpolglaa

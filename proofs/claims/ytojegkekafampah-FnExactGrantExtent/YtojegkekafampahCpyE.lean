
/- The program's copying of a list of extents. -/
import Derived.Test.YtojegkekafampahAppE
import Derived.Test.YtojegkekafampahCopyA
namespace Go.Proofs.Ytojegkekafampah
open Go.RowKit
set_option maxRecDepth 100000

theorem Try.sizeExt : (Try.prog.info? 70).map (·.size) = some 3 := by kernel_rfl

/-- 'copy' between two rows of n elements of 'size' cells each. -/
theorem run_copy_wide {P : Program} (w : World) (dT sT ty elem : TypeId) (g n dCap : Nat) (a : Addr) (sCap size : Nat) (cur : Array Value) (t : TypeId) (cs : List Value)
    (hu : P.underlying dT = some (.slice elem)) (hs : (P.info? elem).map (·.size) = some size)
    (hg : w.heap[g]? = some (.cells cur t (0, 0))) (hn : cs.length = n * size)
    (hsrc : ∀ j v, cs[j]? = some v → w.cell? (a.add j) = some v) (hfit : cs.length ≤ cur.size) (h1 : ∀ v ∈ cs, v.oneCell' = true) :
    (Builtin.copy_ #[dT, sT] ty #[.slice (some ⟨g, 0, none⟩) n dCap, .slice (some a) n sCap]).run P w = .ok (goInt n) (w.setRow g (cs ++ cur.toList.drop cs.length).toArray) := by
  have hl := run_loadCells_list (P := P) w a cs hsrc
  have hst := run_storeCells_at P g 0 t cs 0 cur w hg (by simpa using hfit) h1
  simp only [Nat.zero_add, List.take_zero, List.nil_append] at hst
  cases hq : P.info? elem with
  | none => simp [hq] at hs
  | some i =>
    have hi : i.size = size := by simpa [hq] using hs
    have hm : Nat.min n n = n := Nat.min_self n
    simp [Builtin.copy_, run_underlying hu, Builtin.lenOf, Builtin.firstCells, sizeOf, typeInfo, hq, hi, hm, ← hn, hl, hst]
theorem run_copy_zero {P : Program} (w : World) (dT sT ty elem : TypeId) (d a : Option Addr) (dCap sCap size : Nat) (hu : P.underlying dT = some (.slice elem)) (hs : (P.info? elem).map (·.size) = some size) :
    (Builtin.copy_ #[dT, sT] ty #[.slice d 0 dCap, .slice a 0 sCap]).run P w = .ok (goInt 0) w := by
  cases hq : P.info? elem with
  | none => simp [hq] at hs
  | some i => cases a <;> cases d <;> simp [Builtin.copy_, run_underlying hu, Builtin.lenOf, Builtin.firstCells, sizeOf, typeInfo, hq, storeCells, loadCells, loadCellsFrom]

/-- What 'copy' of extents into a list that was just made comes to. -/
theorem copy_exts (w : World) (a : Option Addr) (n cap : Nat) (es : List E3) (hz : es.length = n) (hc : AtE w a n es) :
    ∃ X, (Builtin.copy_ #[34, 34] 3 #[.slice (some ⟨w.heap.size, 0, none⟩) n n, .slice a n cap]).run Try.prog (w.alloc (.cells (madeCells #[.int .i64 0, .int .i64 0, .int .i64 0] (n * 3)) 70)) = .ok (goInt n) X ∧
      Below w.heap.size w X ∧ OwnRow X w.heap.size (n * 3) (exCell es) := by
  by_cases h0 : n = 0
  · subst h0
    have hr := run_copy_zero (P := Try.prog) (w.alloc (.cells (madeCells #[.int .i64 0, .int .i64 0, .int .i64 0] (0 * 3)) 70)) 34 34 3 70 (some ⟨w.heap.size, 0, none⟩) a 0 cap 3 Try.underlying34 Try.sizeExt
    exact ⟨_, hr, later1 _ _, (OwnRow.madeTrip w 0 70).congr fun i hi => by omega⟩
  · obtain ⟨b, off, rfl, _⟩ := hc 0 (by omega)
    have hcp := run_copy_wide (P := Try.prog) (w.alloc (.cells (madeCells #[.int .i64 0, .int .i64 0, .int .i64 0] (n * 3)) 70)) 34 34 3 70 w.heap.size n n ⟨b, off, none⟩ cap 3 (madeCells #[.int .i64 0, .int .i64 0, .int .i64 0] (n * 3)) 70 (exCells es) Try.underlying34 Try.sizeExt
      (Go.Deep.blk_alloc_new _ _) (by rw [exCells_length, hz]) (fun j v hv => cell_later (later1 _ _) (hc.cells hz j v hv)) (by simp [size_madeCells, exCells_length, hz]) (exCells_one es)
    refine ⟨_, hcp, below_setRow (later1 _ _) (Nat.le_refl _) _, ?_⟩
    refine ⟨_, 70, setRow_heap _ _ _ _ _ _ (Go.Deep.blk_alloc_new _ _), ?_, fun i hi => ?_⟩
    · simp [exCells_length, hz, size_madeCells]
    · have hlen : i < (exCells es).length := by rw [exCells_length, hz]; exact hi
      rw [List.getElem?_toArray, List.getElem?_append_left hlen, exCells_get es i (by rw [hz]; exact hi)]

set_option maxHeartbeats 400000 in
theorem copyOfE_any {w : World} {v : Value} {es : List E3} (h : Exts w v es) (hn : es.length ≤ 1048576) :
    Calls Try.prog 66 #[v] w fun e w' => ∃ a n c, e = .returned (.slice a n c) ∧ Below w.heap.size w w' ∧ ExtsO w' (.slice a n c) es (fresh w w') := by
  obtain ⟨a, cap, rfl, hm, hc⟩ := h.open'
  obtain ⟨X, hcp, hbX, hrX⟩ := copy_exts w a es.length cap es rfl hc
  have hmk := fun w => run_make_trip (P := Try.prog) 34 70 (.int .i64 0) (.int .i64 0) (.int .i64 0) 24 Try.underlying34 Try.infoExt rfl .i64 .i64 es.length (by omega) (by omega) w
  have HB : Hid (Below w.heap.size w X) := hbX
  have HR : Hid (OwnRow X w.heap.size (es.length * 3) (exCell es)) := hrX
  clear hbX hrX hc
  go_enter Try.func66, Try.ntmps66
  go_wp2
  go_ret
  exact ⟨_, _, _, rfl, HB.out, Or.inr ⟨w.heap.size, _, ⟨Nat.le_refl _, HR.out.lt⟩, rfl, ⟨hm, Nat.le_refl _⟩, HR.out⟩⟩
end Go.Proofs.Ytojegkekafampah

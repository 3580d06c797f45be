
/- How kerns that came in are opened. -/
import Derived.Test.YtojegkekafampahFrame
import Derived.Test.YtojegkekafampahKrnA
namespace Go.Proofs.Ytojegkekafampah
open Go.ChangeShapes Go.WideShapes Go.ChangeAt Go.RowKit Go.Joins Go.Deep
set_option maxRecDepth 100000

theorem open_Exts {H : Type} {enc : TypeId × Value → H} {P : Program} {w : World} {base : Nat} {held : Bool} {t e : TypeId} {f0 f1 f2 : Field} {fuel : Nat} {v : Value} {x : DataW H × List MemPlace} (ht : P.underlying t = some (.slice e)) (he : P.underlying e = some (.struct #[f0, f1, f2]))
    (ce : P.cellsOf e = 3) (o0 : f0.offset = 0) (o1 : f1.offset = 1) (o2 : f2.offset = 2) (c0 : P.cellsOf f0.type = 1) (c1 : P.cellsOf f1.type = 1) (c2 : P.cellsOf f2.type = 1) (h0 : P.underlying f0.type = some (.int .i64)) (h1 : P.underlying f1.type = some (.int .i64)) (h2 : P.underlying f2.type = some (.int .i64))
    (h : DataW.trod enc P w base (fun _ => true) held fuel t [v] = some x) : ∃ es, Exts w v es := by
  rcases open_slice ht h with ⟨hcs, _⟩ | ⟨a, len, cap, m, n, D, Pl, hcs, hb, hl, hm, hmm, _, hx⟩
  · simp only [List.cons.injEq, and_true] at hcs
    exact ⟨[], by rw [hcs]; exact Exts.nil w none 0⟩
  · simp only [List.cons.injEq, and_true] at hcs
    simp only [if_true] at hmm
    by_cases hl0 : len = 0
    · subst hl0; exact ⟨[], by rw [hcs]; exact Exts.nil w (some a) cap⟩
    · have each : ∀ i, i < m → ∃ q : E3, w.cell? (a.add (i * 3)) = some (.int .i64 q.1) ∧ w.cell? (a.add (i * 3 + 1)) = some (.int .i64 q.2.1) ∧ w.cell? (a.add (i * 3 + 2)) = some (.int .i64 q.2.2) := by
        intro i hi
        obtain ⟨cs', k1, k2⟩ := hx i hi
        rw [ce] at k1
        obtain ⟨_, hlen, hcell⟩ := World.cells?_some k1
        obtain ⟨xs, k, hk, hxy, _, hxl, hf⟩ := DataW.trod_struct he k2
        match xs, hxl, cs', hlen with
        | [y0, y1, y2], _, [v0, v1, v2], _ =>
          have g0 := hf 0 f0 rfl
          have g1 := hf 1 f1 rfl
          have g2 := hf 2 f2 rfl
          simp [o0, o1, o2, c0, c1, c2] at g0 g1 g2
          have e0 := hcell 0 (by omega)
          have e1 := hcell 1 (by omega)
          have e2 := hcell 2 (by omega)
          rw [add_add] at e0 e1 e2
          obtain ⟨z0, hz0, _⟩ := DataW.trod_int h0 g0
          obtain ⟨z1, hz1, _⟩ := DataW.trod_int h1 g1
          obtain ⟨z2, hz2, _⟩ := DataW.trod_int h2 g2
          simp only [List.cons.injEq, and_true] at hz0 hz1 hz2
          subst hz0 hz1 hz2
          exact ⟨(z0, z1, z2), by simpa using e0, by simpa using e1, by simpa using e2⟩
      obtain ⟨q, hq⟩ := choose_lt each
      have ha := addr_of (by simpa using (hq 0 (by omega)).1)
      refine ⟨(List.range len).map q, some a, cap, ?_, ?_, fun k hk => ?_⟩
      · simp only [List.length_map, List.length_range]; exact hcs
      · simp only [List.length_map, List.length_range]; exact ⟨by omega, by omega⟩
      · simp only [List.length_map, List.length_range] at hk
        obtain ⟨e0, e1, e2⟩ := hq k (by omega)
        rw [ha, add_plain] at e0 e1 e2
        have hg : ((List.range len).map q)[k]?.getD (0, 0, 0) = q k := by simp [hk]
        rw [hg]
        exact ⟨a.block, a.off, by rw [← ha], e0, e1, e2⟩

theorem Try.cellsExt : Try.prog.cellsOf 101 = 3 := by kernel_rfl
theorem Try.cellsExts : Try.prog.cellsOf 26 = 1 := by kernel_rfl
theorem Try.cellsKern : Try.prog.cellsOf 28 = 3 := by kernel_rfl
theorem Try.cellsBs : Try.prog.cellsOf 22 = 1 := by kernel_rfl
theorem Try.cellsPs : Try.prog.cellsOf 23 = 1 := by kernel_rfl
theorem open_KernU {H : Type} {enc : TypeId × Value → H} {W : World} {r : Reach} {b0 : Nat} {v : Value} {d : DataW H} {p : List MemPlace} (hv : Value.okWide Try.prog W r b0 28 v) (h : DataW.Trod enc Try.prog W 0 (fun _ => true) true 28 v d p) :
    ∃ vB vC vE kd, v = .agg #[vB, vC, vE] ∧ KernR W vB vC vE kd := by
  obtain ⟨cs, rfl, hsz⟩ := okWide_struct Try.underlying28 hv
  obtain ⟨c0, c1, c2, rfl⟩ := array3 (hsz.trans Try.cellsKern)
  obtain ⟨fuel, hf⟩ := h
  obtain ⟨y0, y1, n, _, _, h0, h1⟩ := trod_struct2 Try.underlying28 hf
  have g0 : DataW.trod enc Try.prog W 0 (fun _ => true) true n 25 [c0, c1] = some y0 := by simpa [Value.cells, Try.cellsDisk] using h0
  have g1 : DataW.trod enc Try.prog W 0 (fun _ => true) true n 26 [c2] = some y1 := by simpa [Value.cells, Try.cellsExts] using h1
  obtain ⟨z0, z1, k, _, _, k0, k1⟩ := trod_struct2 Try.underlying25 g0
  have l0 : DataW.trod enc Try.prog W 0 (fun _ => true) true k 22 [c0] = some z0 := by simpa [Try.cellsBs] using k0
  have l1 : DataW.trod enc Try.prog W 0 (fun _ => true) true k 23 [c1] = some z1 := by simpa [Try.cellsPs] using k1
  obtain ⟨bs, hbs⟩ := open_IntsS Try.underlying22 Try.underlying40 Try.underlying2 Try.cellsInts Try.cellsInt l0
  obtain ⟨ps, hps⟩ := open_Puts Try.underlying23 Try.underlying128 Try.cellsPut rfl rfl Try.cellsInt Try.cellsInts Try.underlying2 Try.underlying40 Try.underlying2 Try.cellsInt l1
  obtain ⟨es, hes⟩ := open_Exts Try.underlying26 Try.underlying101 Try.cellsExt rfl rfl rfl Try.cellsInt Try.cellsInt Try.cellsInt Try.underlying2 Try.underlying2 Try.underlying2 g1
  exact ⟨c0, c1, c2, ((bs, ps), es), rfl, ⟨hbs, hps⟩, hes⟩
end Go.Proofs.Ytojegkekafampah

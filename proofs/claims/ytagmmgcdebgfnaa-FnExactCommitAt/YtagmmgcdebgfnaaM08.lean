/- How lists of steps that came in are opened. -/
import Derived.Test.YtagmmgcdebgfnaaM07
import Derived.Test.YtagmmgcdebgfnaaM04
namespace Go.Proofs.Ytagmmgcdebgfnaa
open Go.ChangeShapes Go.WideShapes Go.ChangeAt Go.RowKit Go.Joins Go.Deep
set_option maxRecDepth 100000

theorem open_Stps {H : Type} {enc : TypeId × Value → H} {w : World} {base : Nat} {held : Bool} {fuel : Nat} {v : Value} {x : DataW H × List MemPlace}
    (h : DataW.trod enc Try.prog w base (fun _ => true) held fuel 31 [v] = some x) : ∃ ds, Stps w v ds := by
  rcases open_slice Try.underlying31 h with ⟨hcs, _⟩ | ⟨a, len, cap, m, n, D, Pl, hcs, hb, hl, hm, hmm, _, hx⟩
  · simp only [List.cons.injEq, and_true] at hcs
    exact ⟨[], by rw [hcs]; exact Stps.nil w none 0⟩
  · simp only [List.cons.injEq, and_true] at hcs
    simp only [if_true] at hmm
    by_cases hl0 : len = 0
    · subst hl0; exact ⟨[], by rw [hcs]; exact Stps.nil w (some a) cap⟩
    · have each : ∀ i, i < m → ∃ q : SD, ∃ vW, w.cell? (a.add (i * 3)) = some (.bool q.1) ∧ w.cell? (a.add (i * 3 + 1)) = some (.int .i64 q.2.1) ∧ w.cell? (a.add (i * 3 + 2)) = some vW ∧ SteR w (.bool q.1) (.int .i64 q.2.1) vW q := by
        intro i hi
        obtain ⟨cs', k1, k2⟩ := hx i hi
        rw [Try.cellsSte] at k1
        obtain ⟨_, hlen, hcell⟩ := World.cells?_some k1
        obtain ⟨xs, k, hk, hxy, _, hxl, hg⟩ := DataW.trod_struct Try.underlying24 k2
        match xs, hxl, cs', hlen with
        | [y0, y1, y2], _, [c0, c1, c2], _ =>
          have g0 : DataW.trod enc Try.prog w base (fun _ => true) held k 4 [c0] = some y0 := by simpa [Try.cellsBoolE] using hg 0 _ rfl
          have g1 : DataW.trod enc Try.prog w base (fun _ => true) held k 2 [c1] = some y1 := by simpa [Try.cellsInt] using hg 1 _ rfl
          have g2 : DataW.trod enc Try.prog w base (fun _ => true) held k 22 [c2] = some y2 := by simpa [Try.cellsIntsE] using hg 2 _ rfl
          have e0 := hcell 0 (by omega)
          have e1 := hcell 1 (by omega)
          have e2 := hcell 2 (by omega)
          rw [add_add] at e0 e1 e2
          obtain ⟨z0, hz0, _⟩ := DataW.trod_bool Try.underlying4 g0
          obtain ⟨z1, hz1, _⟩ := DataW.trod_int Try.underlying2 g1
          simp only [List.cons.injEq, and_true] at hz0 hz1
          subst hz0 hz1
          obtain ⟨zs, hzs⟩ := open_Ints Try.underlying22 Try.underlying2 Try.cellsInt g2
          exact ⟨(z0, z1, zs), c2, by simpa using e0, by simpa using e1, by simpa using e2, ⟨rfl, rfl⟩, hzs⟩
      obtain ⟨q, hq⟩ := choose_lt each
      obtain ⟨_, hq0, _⟩ := hq 0 (by omega)
      have ha := addr_of (by simpa using hq0)
      refine ⟨(List.range len).map q, some a, cap, ?_, ?_, fun k hk => ?_⟩
      · simp only [List.length_map, List.length_range]; exact hcs
      · simp only [List.length_map, List.length_range]
        exact ⟨by omega, by omega⟩
      · simp only [List.length_map, List.length_range] at hk
        obtain ⟨vW, e0, e1, e2, hR⟩ := hq k (by omega)
        rw [ha, add_plain] at e0 e1 e2
        have hg : ((List.range len).map q)[k]?.getD sd0 = q k := by simp [hk]
        rw [hg]
        exact ⟨a.block, a.off, by rw [← ha], StpAt.mk' e0 e1 e2 hR⟩
end Go.Proofs.Ytagmmgcdebgfnaa

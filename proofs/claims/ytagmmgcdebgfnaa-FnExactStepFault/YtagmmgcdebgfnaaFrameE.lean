
/- How steps that came in are opened. -/
import Derived.Test.YtagmmgcdebgfnaaFrameU
import Derived.Test.YtagmmgcdebgfnaaStA
namespace Go.Proofs.Ytagmmgcdebgfnaa
open Go.ChangeShapes Go.WideShapes Go.ChangeAt Go.RowKit Go.Joins Go.Deep
set_option maxRecDepth 100000

theorem Try.cellsSte : Try.prog.cellsOf 24 = 3 := by kernel_rfl
theorem Try.cellsBoolE : Try.prog.cellsOf 4 = 1 := by kernel_rfl
theorem Try.cellsIntsE : Try.prog.cellsOf 22 = 1 := by kernel_rfl
theorem array3E {α : Type} {a : Array α} (h : a.size = 3) : ∃ x0 x1 x2, a = #[x0, x1, x2] := by
  obtain ⟨l⟩ := a
  match l, h with
  | [x0, x1, x2], _ => exact ⟨x0, x1, x2, rfl⟩
theorem open_SteU {H : Type} {enc : TypeId × Value → H} {W : World} {r : Reach} {b0 : Nat} {v : Value} {d : DataW H} {p : List MemPlace} (hv : Value.okWide Try.prog W r b0 24 v) (h : DataW.Trod enc Try.prog W 0 (fun _ => true) true 24 v d p) :
    ∃ v0 v1 vW sd, v = .agg #[v0, v1, vW] ∧ SteR W v0 v1 vW sd := by
  obtain ⟨cs, rfl, hsz⟩ := okWide_struct Try.underlying24 hv
  obtain ⟨c0, c1, c2, rfl⟩ := array3E (hsz.trans Try.cellsSte)
  obtain ⟨fuel, hf⟩ := h
  obtain ⟨xs, k, hk, hxy, _, hxl, hg⟩ := DataW.trod_struct Try.underlying24 hf
  match xs, hxl with
  | [y0, y1, y2], _ =>
    have g0 : DataW.trod enc Try.prog W 0 (fun _ => true) true k 4 [c0] = some y0 := by simpa [Value.cells, Try.cellsBoolE] using hg 0 _ rfl
    have g1 : DataW.trod enc Try.prog W 0 (fun _ => true) true k 2 [c1] = some y1 := by simpa [Value.cells, Try.cellsInt] using hg 1 _ rfl
    have g2 : DataW.trod enc Try.prog W 0 (fun _ => true) true k 22 [c2] = some y2 := by simpa [Value.cells, Try.cellsIntsE] using hg 2 _ rfl
    obtain ⟨z0, hz0, _⟩ := DataW.trod_bool Try.underlying4 g0
    obtain ⟨z1, hz1, _⟩ := DataW.trod_int Try.underlying2 g1
    simp only [List.cons.injEq, and_true] at hz0 hz1
    obtain ⟨zs, hzs⟩ := open_Ints Try.underlying22 Try.underlying2 Try.cellsInt g2
    exact ⟨c0, c1, c2, (z0, z1, zs), rfl, ⟨hz0, hz1⟩, hzs⟩
end Go.Proofs.Ytagmmgcdebgfnaa

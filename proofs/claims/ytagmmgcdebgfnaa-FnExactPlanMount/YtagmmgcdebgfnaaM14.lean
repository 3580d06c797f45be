/- What the rows of this seat share: how a disk that came in is opened. How disks and lists of bits that came in are opened, in the laws' one form. -/
import Derived.Test.YtagmmgcdebgfnaaRows
import Derived.Test.YtagmmgcdebgfnaaM13
import Derived.Test.YtagmmgcdebgfnaaM02
import Derived.Test.YtagmmgcdebgfnaaM07
namespace Go.Proofs.Ytagmmgcdebgfnaa
open Go.ChangeShapes Go.WideShapes Go.ChangeAt Go.RowKit Go.Joins
set_option maxRecDepth 100000

theorem Try.own : ownKnob Try.prog.godebug = none := by kernel_rfl
theorem Try.laidOut : laidOutB Try.prog = true := by kernel_rfl
theorem Try.cellsDisk : Try.prog.cellsOf 44 = 2 := by kernel_rfl
theorem Try.cellsPut : Try.prog.cellsOf 106 = 2 := by kernel_rfl
theorem Try.cellsInt : Try.prog.cellsOf 2 = 1 := by kernel_rfl
theorem Try.cellsInts : Try.prog.cellsOf 22 = 1 := by kernel_rfl

set_option maxRecDepth 100000 in
/-- The argument of type Disk, opened. -/
theorem open_Disk {H : Type} {enc : TypeId × Value → H} {W : World} {r : Reach} {b0 : Nat} {v : Value} {d : DataW H} {p : List MemPlace} (hv : Value.okWide Try.prog W r b0 44 v) (h : DataW.Trod enc Try.prog W 0 (fun _ => true) true 44 v d p) :
    ∃ vB vC bs ps, v = .agg #[vB, vC] ∧ IntsS W vB bs ∧ Puts W vC ps := by
  obtain ⟨c0, c1, y0, y1, m, rfl, _, _, hy0, hy1⟩ := open_agg2 Try.underlying44 (by kernel_rfl) Try.cellsDisk hv h
  obtain ⟨bs, hbs⟩ := open_IntsS Try.underlying41 Try.underlying22 Try.underlying2 Try.cellsInts Try.cellsInt hy0
  obtain ⟨ps, hps⟩ := open_Puts Try.underlying42 Try.underlying106 Try.cellsPut rfl rfl Try.cellsInt Try.cellsInts Try.underlying2 Try.underlying22 Try.underlying2 Try.cellsInt hy1
  exact ⟨c0, c1, bs, ps, rfl, hbs, hps⟩

end Go.Proofs.Ytagmmgcdebgfnaa

namespace Go.Proofs.Ytagmmgcdebgfnaa
open Go.ChangeShapes Go.WideShapes Go.ChangeAt Go.RowKit Go.Joins Go.Deep
set_option maxRecDepth 100000

theorem Try.cellsBool : Try.prog.cellsOf 4 = 1 := by kernel_rfl
theorem open_DiskU {H : Type} {enc : TypeId × Value → H} {W : World} {r : Reach} {b0 : Nat} {v : Value} {d : DataW H} {p : List MemPlace} (hv : Value.okWide Try.prog W r b0 44 v) (h : DataW.Trod enc Try.prog W 0 (fun _ => true) true 44 v d p) :
    ∃ vB vC dk, v = .agg #[vB, vC] ∧ DiskR W vB vC dk := by
  obtain ⟨vB, vC, bs, ps, h1, h2, h3⟩ := open_Disk hv h
  exact ⟨vB, vC, (bs, ps), h1, h2, h3⟩
theorem open_Bools {H : Type} {enc : TypeId × Value → H} {P : Program} {w : World} {base : Nat} {held : Bool} {t e : TypeId} {fuel : Nat} {v : Value} {x : DataW H × List MemPlace} (ht : P.underlying t = some (.slice e)) (he : P.underlying e = some .bool) (ce : P.cellsOf e = 1) (h : DataW.trod enc P w base (fun _ => true) held fuel t [v] = some x) :
    ∃ zs, Bools w v zs := by
  rcases open_slice1 ht ce h with ⟨hcs, _⟩ | ⟨a, len, cap, m, n, V, D, Pl, hcs, _, hl, hm, hmm, _, hx⟩
  · simp only [List.cons.injEq, and_true] at hcs
    exact ⟨[], Or.inl ⟨rfl, none, 0, hcs⟩⟩
  · simp only [List.cons.injEq, and_true] at hcs
    simp only [if_true] at hmm
    by_cases h0 : len = 0
    · subst h0; exact ⟨[], Or.inl ⟨rfl, some a, cap, hcs⟩⟩
    · have ha := addr_of (hx 0 (by omega)).1
      obtain ⟨Z, hZ⟩ := choose_lt (α := Bool) (n := m) (p := fun i b => V i = .bool b) fun i hi => by
        obtain ⟨b, h1, _⟩ := DataW.trod_bool he (hx i hi).2
        exact ⟨b, by simpa using h1⟩
      refine ⟨(List.range len).map Z, Or.inr ⟨a.block, a.off, cap, ?_, ?_, fun k hk => ?_⟩⟩
      · simp only [List.length_map, List.length_range]; rw [hcs, ← ha]
      · simp only [List.length_map, List.length_range]; omega
      · simp only [List.length_map, List.length_range] at hk
        have h1 := (hx k (by omega)).1
        rw [ha, add_plain] at h1
        rw [h1, hZ k (by omega)]
        simp [hk]
end Go.Proofs.Ytagmmgcdebgfnaa

/- From the reading of an argument to the lists that it holds. No program is named here. What the rows of this seat share: how a disk that came in is opened. How inodes that came in are opened. How lists of inodes that came in are opened. How file systems that came in are opened. The frame of laws of five parameters. Directories: which name stands where, and what functions of directories come to. No program is named here. Directories: what their functions ask alike, of the program and of the specification. Directories: where a name stands; IsEmptyDir and LookName, of the program and of the specification. -/
import Derived.Test.YtjabimfinanjoabGreatM00
import Derived.ProofKit
import Derived.Deep.Slices
import Derived.Deep.SlicePairs
import Derived.Lib.SmallJoins
import Derived.Test.YtjabimfinanjoabGreatRows
import Derived.Test.YtjabimfinanjoabGreatM02
import Derived.Test.YtjabimfinanjoabGreatM03
import Derived.Test.YtjabimfinanjoabGreatM05
import Derived.Test.YtjabimfinanjoabGreatM14
import Derived.Test.YtjabimfinanjoabGreatM17
import Derived.BigQuiet
namespace Go.Proofs.YtjabimfinanjoabGreat
open Go.ChangeShapes Go.WideShapes Go.ChangeAt Go.RowKit Go.Deep
set_option maxRecDepth 100000

section
variable {H : Type} {enc : TypeId × Value → H} {P : Program} {w : World} {base : Nat} {held : Bool}

theorem addr_of {a : Addr} {v : Value} (h : w.cell? (a.add 0) = some v) : a = ⟨a.block, a.off, none⟩ := by
  obtain ⟨b, o, s⟩ := a
  have : s = none := by simpa [Addr.add] using World.cell?_spot h
  subst this; rfl
theorem add_plain (b off k : Nat) : (⟨b, off, none⟩ : Addr).add k = ⟨b, off + k, none⟩ := by
  by_cases h : k = 0
  · subst h; simp [Addr.add]
  · simp [Addr.add, h]

theorem open_Ints {t e : TypeId} {fuel : Nat} {v : Value} {x : DataW H × List MemPlace} (ht : P.underlying t = some (.slice e)) (he : P.underlying e = some (.int .i64)) (ce : P.cellsOf e = 1) (h : DataW.trod enc P w base (fun _ => true) held fuel t [v] = some x) :
    ∃ zs, Ints w v zs := by
  rcases open_ints ht he ce h with ⟨hcs, _⟩ | ⟨a, len, cap, zs, hcs, _, hl, hm, hz, _, hcell, _⟩
  · simp only [List.cons.injEq, and_true] at hcs
    exact ⟨[], Or.inl ⟨rfl, none, 0, hcs⟩⟩
  · simp only [List.cons.injEq, and_true] at hcs
    simp only [if_true] at hz
    by_cases h0 : len = 0
    · subst h0; exact ⟨[], Or.inl ⟨rfl, some a, cap, hcs⟩⟩
    · have ha := addr_of (hcell 0 (by omega))
      refine ⟨zs.take len, Or.inr ⟨a.block, a.off, cap, ?_, ?_, fun k hk => ?_⟩⟩
      · rw [hcs, List.length_take, Nat.min_eq_left (by omega), ← ha]
      · rw [List.length_take]; omega
      · rw [List.length_take] at hk
        have h1 := hcell k (by omega)
        rw [ha, add_plain] at h1
        rw [h1, List.getElem?_take, if_pos (by omega)]
        rfl

theorem open_IntsS {t e q : TypeId} {fuel : Nat} {v : Value} {x : DataW H × List MemPlace} (ht : P.underlying t = some (.slice e)) (he : P.underlying e = some (.slice q)) (hq : P.underlying q = some (.int .i64)) (ce : P.cellsOf e = 1) (cq : P.cellsOf q = 1)
    (h : DataW.trod enc P w base (fun _ => true) held fuel t [v] = some x) : ∃ zss, IntsS w v zss := by
  rcases open_slice1 ht ce h with ⟨hcs, _⟩ | ⟨a, len, cap, m, n, V, D, Pl, hcs, _, hl, hm, hmm, _, hx⟩
  · simp only [List.cons.injEq, and_true] at hcs
    exact ⟨[], Or.inl ⟨rfl, none, 0, hcs⟩⟩
  · simp only [List.cons.injEq, and_true] at hcs
    simp only [if_true] at hmm
    by_cases h0 : len = 0
    · subst h0; exact ⟨[], Or.inl ⟨rfl, some a, cap, hcs⟩⟩
    · have ha := addr_of (hx 0 (by omega)).1
      obtain ⟨Z, hZ⟩ := choose_lt (α := List Int) (n := m) (p := fun i zs => Ints w (V i) zs) fun i hi => open_Ints he hq cq (hx i hi).2
      refine ⟨(List.range len).map Z, Or.inr ⟨a.block, a.off, cap, V, ?_, ?_, fun k hk => ?_⟩⟩
      · simp only [List.length_map, List.length_range]; rw [hcs, ← ha]
      · simp only [List.length_map, List.length_range]; omega
      · simp only [List.length_map, List.length_range] at hk
        have h1 := (hx k (by omega)).1
        rw [ha, add_plain] at h1
        refine ⟨h1, ?_⟩
        have := hZ k (by omega)
        simpa [hk] using this

theorem open_Puts {t e q : TypeId} {f0 f1 : Field} {fuel : Nat} {v : Value} {x : DataW H × List MemPlace} (ht : P.underlying t = some (.slice e)) (he : P.underlying e = some (.struct #[f0, f1]))
    (ce : P.cellsOf e = 2) (o0 : f0.offset = 0) (o1 : f1.offset = 1) (c0 : P.cellsOf f0.type = 1) (c1 : P.cellsOf f1.type = 1) (h0 : P.underlying f0.type = some (.int .i64)) (h1 : P.underlying f1.type = some (.slice q)) (hq : P.underlying q = some (.int .i64)) (cq : P.cellsOf q = 1)
    (h : DataW.trod enc P w base (fun _ => true) held fuel t [v] = some x) : ∃ ps, Puts w v ps := by
  rcases open_slice_pairs ht he ce o0 o1 c0 c1 h with ⟨hcs, _⟩ | ⟨a, len, cap, m, n, V0, V1, D0, D1, P0, P1, hcs, _, hl, hm, hmm, _, hx⟩
  · simp only [List.cons.injEq, and_true] at hcs
    exact ⟨[], Or.inl ⟨rfl, none, 0, hcs⟩⟩
  · simp only [List.cons.injEq, and_true] at hcs
    simp only [if_true] at hmm
    by_cases hl0 : len = 0
    · subst hl0; exact ⟨[], Or.inl ⟨rfl, some a, cap, hcs⟩⟩
    · have ha := addr_of (by simpa using (hx 0 (by omega)).1)
      obtain ⟨Z, hZ⟩ := choose_lt (α := Int × List Int) (n := m) (p := fun i z => V0 i = .int .i64 z.1 ∧ Ints w (V1 i) z.2) fun i hi => by
        obtain ⟨_, _, g0, g1⟩ := hx i hi
        obtain ⟨zs, hzs⟩ := open_Ints h1 hq cq g1
        obtain ⟨y, hy, _⟩ := DataW.trod_int h0 g0
        simp only [List.cons.injEq, and_true] at hy
        exact ⟨(y, zs), hy, hzs⟩
      refine ⟨(List.range len).map Z, Or.inr ⟨a.block, a.off, cap, V1, ?_, ?_, fun k hk => ?_⟩⟩
      · simp only [List.length_map, List.length_range]; rw [hcs, ← ha]
      · simp only [List.length_map, List.length_range]; omega
      · simp only [List.length_map, List.length_range] at hk
        obtain ⟨e0, e1, _, _⟩ := hx k (by omega)
        rw [ha, add_plain] at e0 e1
        obtain ⟨g0, g1⟩ := hZ k (by omega)
        rw [g0] at e0
        have hg : ((List.range len).map Z)[k]?.getD (0, []) = Z k := by simp [hk]
        rw [hg]
        exact ⟨e0, e1, g1⟩
end

end Go.Proofs.YtjabimfinanjoabGreat

namespace Go.Proofs.YtjabimfinanjoabGreat
open Go.ChangeShapes Go.WideShapes Go.ChangeAt Go.RowKit Go.Joins
set_option maxRecDepth 100000

theorem Tryz.own : ownKnob Tryz.prog.godebug = none := by kernel_rfl
theorem Tryz.laidOut : laidOutB Tryz.prog = true := by kernel_rfl
theorem Tryz.cellsInt : Tryz.prog.cellsOf 2 = 1 := by kernel_rfl
theorem Tryz.cellsInts : Tryz.prog.cellsOf 27 = 1 := by kernel_rfl

end Go.Proofs.YtjabimfinanjoabGreat

namespace Go.Proofs.YtjabimfinanjoabGreat
open Go.ChangeShapes Go.WideShapes Go.ChangeAt Go.RowKit Go.Joins Go.Deep
set_option maxRecDepth 100000

theorem open_Ents {H : Type} {enc : TypeId × Value → H} {P : Program} {w : World} {base : Nat} {held : Bool} {t e : TypeId} {f0 f1 : Field} {fuel : Nat} {v : Value} {x : DataW H × List MemPlace} (ht : P.underlying t = some (.slice e)) (he : P.underlying e = some (.struct #[f0, f1]))
    (ce : P.cellsOf e = 2) (o0 : f0.offset = 0) (o1 : f1.offset = 1) (c0 : P.cellsOf f0.type = 1) (c1 : P.cellsOf f1.type = 1) (h0 : P.underlying f0.type = some .string) (h1 : P.underlying f1.type = some (.int .i64))
    (h : DataW.trod enc P w base (fun _ => true) held fuel t [v] = some x) : ∃ es, Ents w v es := by
  rcases open_slice ht h with ⟨hcs, _⟩ | ⟨a, len, cap, m, n, D, Pl, hcs, hb, hl, hm, hmm, _, hx⟩
  · simp only [List.cons.injEq, and_true] at hcs
    exact ⟨[], by rw [hcs]; exact Ents.nil w none 0⟩
  · simp only [List.cons.injEq, and_true] at hcs
    simp only [if_true] at hmm
    by_cases hl0 : len = 0
    · subst hl0; exact ⟨[], by rw [hcs]; exact Ents.nil w (some a) cap⟩
    · have each : ∀ i, i < m → ∃ q : EN, w.cell? (a.add (i * 2)) = some (.string q.1) ∧ w.cell? (a.add (i * 2 + 1)) = some (.int .i64 q.2) ∧ q.1.size ≤ maxLen := by
        intro i hi
        obtain ⟨cs', k1, k2⟩ := hx i hi
        rw [ce] at k1
        obtain ⟨_, hlen, hcell⟩ := World.cells?_some k1
        obtain ⟨xs, k, hk, hxy, _, hxl, hf⟩ := DataW.trod_struct he k2
        match xs, hxl, cs', hlen with
        | [y0, y1], _, [v0, v1], _ =>
          have g0 := hf 0 f0 rfl
          have g1 := hf 1 f1 rfl
          simp [o0, o1, c0, c1] at g0 g1
          have e0 := hcell 0 (by omega)
          have e1 := hcell 1 (by omega)
          rw [add_add] at e0 e1
          obtain ⟨z0, hz0, _, hs⟩ := DataW.trod_string h0 g0
          obtain ⟨z1, hz1, _⟩ := DataW.trod_int h1 g1
          simp only [List.cons.injEq, and_true] at hz0 hz1
          subst hz0 hz1
          exact ⟨(z0, z1), by simpa using e0, by simpa using e1, hs⟩
      obtain ⟨q, hq⟩ := choose_lt each
      have ha := addr_of (by simpa using (hq 0 (by omega)).1)
      refine ⟨(List.range len).map q, some a, cap, ?_, ?_, fun k hk => ?_⟩
      · simp only [List.length_map, List.length_range]; exact hcs
      · simp only [List.length_map, List.length_range]
        refine ⟨by omega, by omega, fun k => ?_⟩
        by_cases hk : k < len
        · have hg : ((List.range len).map q)[k]?.getD en0 = q k := by simp [hk]
          rw [hg]
          exact (hq k (by omega)).2.2
        · rw [List.getElem?_eq_none (by simpa using Nat.le_of_not_lt hk)]
          simp [en0, ByteArray.size]
      · simp only [List.length_map, List.length_range] at hk
        obtain ⟨e0, e1, _⟩ := hq k (by omega)
        rw [ha, add_plain] at e0 e1
        have hg : ((List.range len).map q)[k]?.getD en0 = q k := by simp [hk]
        rw [hg]
        exact ⟨a.block, a.off, by rw [← ha], e0, e1⟩

theorem open_cap {H : Type} {enc : TypeId × Value → H} {P : Program} {w : World} {base : Nat} {held : Bool} {t e : TypeId} {fuel : Nat} {v : Value} {x : DataW H × List MemPlace} (ht : P.underlying t = some (.slice e)) (h : DataW.trod enc P w base (fun _ => true) held fuel t [v] = some x) : capOK v := by
  rcases DataW.trod_slice ht h with ⟨hcs, _⟩ | ⟨a, len, cap, _, _, _, _, hcs, _, _, hl, _⟩
  · simp only [List.cons.injEq, and_true] at hcs
    exact ⟨none, 0, 0, hcs, Nat.le_refl _⟩
  · simp only [List.cons.injEq, and_true] at hcs
    exact ⟨some a, len, cap, hcs, hl⟩
theorem Tryz.cellsStr : Tryz.prog.cellsOf 9 = 1 := by kernel_rfl
theorem Tryz.cellsEnt : Tryz.prog.cellsOf 151 = 2 := by kernel_rfl
theorem Tryz.cellsEnts : Tryz.prog.cellsOf 99 = 1 := by kernel_rfl
theorem Tryz.cellsIno : Tryz.prog.cellsOf 101 = 5 := by kernel_rfl
theorem array5 {α : Type} {a : Array α} (h : a.size = 5) : ∃ x0 x1 x2 x3 x4, a = #[x0, x1, x2, x3, x4] := by
  obtain ⟨l⟩ := a
  match l, h with
  | [x0, x1, x2, x3, x4], _ => exact ⟨x0, x1, x2, x3, x4, rfl⟩
theorem open_InoU {H : Type} {enc : TypeId × Value → H} {W : World} {r : Reach} {b0 : Nat} {v : Value} {d : DataW H} {p : List MemPlace} (hv : Value.okWide Tryz.prog W r b0 101 v) (h : DataW.Trod enc Tryz.prog W 0 (fun _ => true) true 101 v d p) :
    ∃ v0 v1 v2 vB vE id, v = .agg #[v0, v1, v2, vB, vE] ∧ InoR W v0 v1 v2 vB vE id := by
  obtain ⟨cs, rfl, hsz⟩ := okWide_struct Tryz.underlying101 hv
  obtain ⟨c0, c1, c2, c3, c4, rfl⟩ := array5 (hsz.trans Tryz.cellsIno)
  obtain ⟨fuel, hf⟩ := h
  obtain ⟨xs, k, hk, hxy, _, hxl, hg⟩ := DataW.trod_struct Tryz.underlying101 hf
  match xs, hxl with
  | [y0, y1, y2, y3, y4], _ =>
    have g0 : DataW.trod enc Tryz.prog W 0 (fun _ => true) true k 2 [c0] = some y0 := by simpa [Value.cells, Tryz.cellsInt] using hg 0 _ rfl
    have g1 : DataW.trod enc Tryz.prog W 0 (fun _ => true) true k 2 [c1] = some y1 := by simpa [Value.cells, Tryz.cellsInt] using hg 1 _ rfl
    have g2 : DataW.trod enc Tryz.prog W 0 (fun _ => true) true k 2 [c2] = some y2 := by simpa [Value.cells, Tryz.cellsInt] using hg 2 _ rfl
    have g3 : DataW.trod enc Tryz.prog W 0 (fun _ => true) true k 27 [c3] = some y3 := by simpa [Value.cells, Tryz.cellsInts] using hg 3 _ rfl
    have g4 : DataW.trod enc Tryz.prog W 0 (fun _ => true) true k 99 [c4] = some y4 := by simpa [Value.cells, Tryz.cellsEnts] using hg 4 _ rfl
    obtain ⟨z0, hz0, _⟩ := DataW.trod_int Tryz.underlying2 g0
    obtain ⟨z1, hz1, _⟩ := DataW.trod_int Tryz.underlying2 g1
    obtain ⟨z2, hz2, _⟩ := DataW.trod_int Tryz.underlying2 g2
    simp only [List.cons.injEq, and_true] at hz0 hz1 hz2
    obtain ⟨bs, hbs⟩ := open_Ints Tryz.underlying27 Tryz.underlying2 Tryz.cellsInt g3
    obtain ⟨es, hes⟩ := open_Ents Tryz.underlying99 Tryz.underlying151 Tryz.cellsEnt rfl rfl Tryz.cellsStr Tryz.cellsInt Tryz.underlying9 Tryz.underlying2 g4
    exact ⟨c0, c1, c2, c3, c4, (z0, z1, z2, bs, es), rfl, ⟨hz0, hz1, hz2, open_cap Tryz.underlying27 g3⟩, hbs, hes⟩
end Go.Proofs.YtjabimfinanjoabGreat

namespace Go.Proofs.YtjabimfinanjoabGreat
open Go.ChangeShapes Go.WideShapes Go.ChangeAt Go.RowKit Go.Joins Go.Deep
set_option maxRecDepth 100000

theorem open_Inos {H : Type} {enc : TypeId × Value → H} {w : World} {base : Nat} {held : Bool} {fuel : Nat} {v : Value} {x : DataW H × List MemPlace}
    (h : DataW.trod enc Tryz.prog w base (fun _ => true) held fuel 22 [v] = some x) : ∃ ds, Inos w v ds := by
  rcases open_slice Tryz.underlying22 h with ⟨hcs, _⟩ | ⟨a, len, cap, m, n, D, Pl, hcs, hb, hl, hm, hmm, _, hx⟩
  · simp only [List.cons.injEq, and_true] at hcs
    exact ⟨[], by rw [hcs]; exact Inos.nil w none 0⟩
  · simp only [List.cons.injEq, and_true] at hcs
    simp only [if_true] at hmm
    by_cases hl0 : len = 0
    · subst hl0; exact ⟨[], by rw [hcs]; exact Inos.nil w (some a) cap⟩
    · have each : ∀ i, i < m → ∃ q : ID, ∃ vB vE, w.cell? (a.add (i * 5)) = some (.int .i64 q.1) ∧ w.cell? (a.add (i * 5 + 1)) = some (.int .i64 q.2.1) ∧ w.cell? (a.add (i * 5 + 2)) = some (.int .i64 q.2.2.1) ∧ w.cell? (a.add (i * 5 + 3)) = some vB ∧ w.cell? (a.add (i * 5 + 4)) = some vE ∧ InoR w (.int .i64 q.1) (.int .i64 q.2.1) (.int .i64 q.2.2.1) vB vE q := by
        intro i hi
        obtain ⟨cs', k1, k2⟩ := hx i hi
        rw [Tryz.cellsIno] at k1
        obtain ⟨_, hlen, hcell⟩ := World.cells?_some k1
        obtain ⟨xs, k, hk, hxy, _, hxl, hg⟩ := DataW.trod_struct Tryz.underlying101 k2
        match xs, hxl, cs', hlen with
        | [y0, y1, y2, y3, y4], _, [c0, c1, c2, c3, c4], _ =>
          have g0 : DataW.trod enc Tryz.prog w base (fun _ => true) held k 2 [c0] = some y0 := by simpa [Tryz.cellsInt] using hg 0 _ rfl
          have g1 : DataW.trod enc Tryz.prog w base (fun _ => true) held k 2 [c1] = some y1 := by simpa [Tryz.cellsInt] using hg 1 _ rfl
          have g2 : DataW.trod enc Tryz.prog w base (fun _ => true) held k 2 [c2] = some y2 := by simpa [Tryz.cellsInt] using hg 2 _ rfl
          have g3 : DataW.trod enc Tryz.prog w base (fun _ => true) held k 27 [c3] = some y3 := by simpa [Tryz.cellsInts] using hg 3 _ rfl
          have g4 : DataW.trod enc Tryz.prog w base (fun _ => true) held k 99 [c4] = some y4 := by simpa [Tryz.cellsEnts] using hg 4 _ rfl
          have e0 := hcell 0 (by omega)
          have e1 := hcell 1 (by omega)
          have e2 := hcell 2 (by omega)
          have e3 := hcell 3 (by omega)
          have e4 := hcell 4 (by omega)
          rw [add_add] at e0 e1 e2 e3 e4
          obtain ⟨z0, hz0, _⟩ := DataW.trod_int Tryz.underlying2 g0
          obtain ⟨z1, hz1, _⟩ := DataW.trod_int Tryz.underlying2 g1
          obtain ⟨z2, hz2, _⟩ := DataW.trod_int Tryz.underlying2 g2
          simp only [List.cons.injEq, and_true] at hz0 hz1 hz2
          subst hz0 hz1 hz2
          obtain ⟨bs, hbs⟩ := open_Ints Tryz.underlying27 Tryz.underlying2 Tryz.cellsInt g3
          obtain ⟨es, hes⟩ := open_Ents Tryz.underlying99 Tryz.underlying151 Tryz.cellsEnt rfl rfl Tryz.cellsStr Tryz.cellsInt Tryz.underlying9 Tryz.underlying2 g4
          exact ⟨(z0, z1, z2, bs, es), c3, c4, by simpa using e0, by simpa using e1, by simpa using e2, by simpa using e3, by simpa using e4, ⟨rfl, rfl, rfl, open_cap Tryz.underlying27 g3⟩, hbs, hes⟩
      obtain ⟨q, hq⟩ := choose_lt each
      obtain ⟨_, _, hq0, _⟩ := hq 0 (by omega)
      have ha := addr_of (by simpa using hq0)
      refine ⟨(List.range len).map q, some a, cap, ?_, ?_, fun k hk => ?_⟩
      · simp only [List.length_map, List.length_range]; exact hcs
      · simp only [List.length_map, List.length_range]
        exact ⟨by omega, by omega⟩
      · simp only [List.length_map, List.length_range] at hk
        obtain ⟨vB, vE, e0, e1, e2, e3, e4, hR⟩ := hq k (by omega)
        rw [ha, add_plain] at e0 e1 e2 e3 e4
        have hg : ((List.range len).map q)[k]?.getD id0 = q k := by simp [hk]
        rw [hg]
        exact ⟨a.block, a.off, by rw [← ha], InoAt.mk' e0 e1 e2 e3 e4 hR⟩
end Go.Proofs.YtjabimfinanjoabGreat

namespace Go.Proofs.YtjabimfinanjoabGreat
open Go.ChangeShapes Go.WideShapes Go.ChangeAt Go.RowKit Go.Joins Go.Deep
set_option maxRecDepth 100000

theorem Tryz.cellsByteF : Tryz.prog.cellsOf 5 = 1 := by kernel_rfl
theorem Tryz.cellsBytF : Tryz.prog.cellsOf 26 = 1 := by kernel_rfl
theorem Tryz.cellsBytsF : Tryz.prog.cellsOf 23 = 1 := by kernel_rfl
theorem Tryz.cellsInosF : Tryz.prog.cellsOf 22 = 1 := by kernel_rfl
theorem Tryz.cellsFsF : Tryz.prog.cellsOf 25 = 2 := by kernel_rfl
theorem open_Byt {H : Type} {enc : TypeId × Value → H} {P : Program} {w : World} {base : Nat} {held : Bool} {t e : TypeId} {fuel : Nat} {v : Value} {x : DataW H × List MemPlace} (ht : P.underlying t = some (.slice e)) (he : P.underlying e = some (.int .u8)) (ce : P.cellsOf e = 1) (h : DataW.trod enc P w base (fun _ => true) held fuel t [v] = some x) :
    ∃ zs, Byt w v zs := by
  rcases open_slice1 ht ce h with ⟨hcs, _⟩ | ⟨a, len, cap, m, n, V, D, Pl, hcs, _, hl, hm, hmm, _, hx⟩
  · simp only [List.cons.injEq, and_true] at hcs
    exact ⟨[], by rw [hcs]; exact Byt.nil w none 0⟩
  · simp only [List.cons.injEq, and_true] at hcs
    simp only [if_true] at hmm
    by_cases h0 : len = 0
    · subst h0; exact ⟨[], by rw [hcs]; exact Byt.nil w (some a) cap⟩
    · have ha := addr_of (hx 0 (by omega)).1
      obtain ⟨Z, hZ⟩ := choose_lt (α := UInt8) (n := m) (p := fun i b => V i = .int .u8 ((b.toNat : Nat) : Int)) fun i hi => by
        obtain ⟨z, h1, _, hw⟩ := DataW.trod_int he (hx i hi).2
        have hz0 : IntKind.u8.min ≤ z ∧ z ≤ IntKind.u8.max := by simpa [Lit.wf] using hw
        have hz : 0 ≤ z ∧ z ≤ 255 := hz0
        refine ⟨UInt8.ofNat z.toNat, ?_⟩
        simp only [List.cons.injEq, and_true] at h1
        rw [h1]
        congr 1
        have : (UInt8.ofNat z.toNat).toNat = z.toNat := by simp; omega
        rw [this]; omega
      refine ⟨(List.range len).map Z, some a, cap, ?_, ?_, fun k hk => ?_⟩
      · simp only [List.length_map, List.length_range]; exact hcs
      · simp only [List.length_map, List.length_range]; exact ⟨by omega, by omega⟩
      · simp only [List.length_map, List.length_range] at hk
        have h1 := (hx k (by omega)).1
        rw [ha, add_plain] at h1
        refine ⟨a.block, a.off, by rw [← ha], ?_⟩
        rw [h1, hZ k (by omega)]
        simp [hk]
theorem open_Byts {H : Type} {enc : TypeId × Value → H} {P : Program} {w : World} {base : Nat} {held : Bool} {t e q : TypeId} {fuel : Nat} {v : Value} {x : DataW H × List MemPlace} (ht : P.underlying t = some (.slice e)) (he : P.underlying e = some (.slice q)) (hq : P.underlying q = some (.int .u8)) (ce : P.cellsOf e = 1) (cq : P.cellsOf q = 1)
    (h : DataW.trod enc P w base (fun _ => true) held fuel t [v] = some x) : ∃ zss, Byts w v zss := by
  rcases open_slice1 ht ce h with ⟨hcs, _⟩ | ⟨a, len, cap, m, n, V, D, Pl, hcs, _, hl, hm, hmm, _, hx⟩
  · simp only [List.cons.injEq, and_true] at hcs
    exact ⟨[], by rw [hcs]; exact Byts.nil w none 0⟩
  · simp only [List.cons.injEq, and_true] at hcs
    simp only [if_true] at hmm
    by_cases h0 : len = 0
    · subst h0; exact ⟨[], by rw [hcs]; exact Byts.nil w (some a) cap⟩
    · have ha := addr_of (hx 0 (by omega)).1
      obtain ⟨Z, hZ⟩ := choose_lt (α := List UInt8) (n := m) (p := fun i zs => Byt w (V i) zs) fun i hi => open_Byt he hq cq (hx i hi).2
      refine ⟨(List.range len).map Z, some a, cap, ?_, ?_, fun k hk => ?_⟩
      · simp only [List.length_map, List.length_range]; exact hcs
      · simp only [List.length_map, List.length_range]; exact ⟨by omega, by omega⟩
      · simp only [List.length_map, List.length_range] at hk
        have h1 := (hx k (by omega)).1
        rw [ha, add_plain] at h1
        have hg : ((List.range len).map Z)[k]?.getD [] = Z k := by simp [hk]
        rw [hg]
        obtain ⟨ua, uc, e1, e2, e3⟩ := hZ k (by omega)
        rw [e1] at h1
        exact ⟨a.block, a.off, ua, uc, by rw [← ha], h1, ua, uc, rfl, e2, e3⟩
theorem open_FsU {H : Type} {enc : TypeId × Value → H} {W : World} {r : Reach} {b0 : Nat} {v : Value} {d : DataW H} {p : List MemPlace} (hv : Value.okWide Tryz.prog W r b0 25 v) (h : DataW.Trod enc Tryz.prog W 0 (fun _ => true) true 25 v d p) :
    ∃ v0 v1 fd, v = .agg #[v0, v1] ∧ FsR W v0 v1 fd := by
  obtain ⟨cs, rfl, hsz⟩ := okWide_struct Tryz.underlying25 hv
  obtain ⟨c0, c1, rfl⟩ := array2 (hsz.trans Tryz.cellsFsF)
  obtain ⟨fuel, hf⟩ := h
  obtain ⟨xs, k, hk, hxy, _, hxl, hg⟩ := DataW.trod_struct Tryz.underlying25 hf
  match xs, hxl with
  | [y0, y1], _ =>
    have g0 : DataW.trod enc Tryz.prog W 0 (fun _ => true) true k 22 [c0] = some y0 := by simpa [Value.cells, Tryz.cellsInosF] using hg 0 _ rfl
    have g1 : DataW.trod enc Tryz.prog W 0 (fun _ => true) true k 23 [c1] = some y1 := by simpa [Value.cells, Tryz.cellsBytsF] using hg 1 _ rfl
    obtain ⟨ds, hds⟩ := open_Inos g0
    obtain ⟨zss, hz⟩ := open_Byts Tryz.underlying23 Tryz.underlying26 Tryz.underlying5 Tryz.cellsBytF Tryz.cellsByteF g1
    exact ⟨c0, c1, (ds, zss), rfl, hds, hz⟩
end Go.Proofs.YtjabimfinanjoabGreat

namespace Go.Proofs.YtjabimfinanjoabGreat
open Go.ChangeShapes Go.WideShapes Go.ChangeAt Go.RowKit Go.Joins
set_option maxRecDepth 100000

theorem trodAll_five {H : Type} {enc : TypeId × Value → H} {P : Program} {w : World} {base : Nat} {spare : Nat → Bool} {held : Bool} {t0 t1 t2 t3 t4 : TypeId} {args : Array Value} {ds : List (DataW H)} {ps : List MemPlace} (h : DataW.TrodAll enc P w base spare held [t0, t1, t2, t3, t4] args.toList ds ps) :
    ∃ v0 v1 v2 v3 v4 d0 d1 d2 d3 d4 p0 p1 p2 p3 p4, args = #[v0, v1, v2, v3, v4] ∧ ds = [d0, d1, d2, d3, d4] ∧ ps = p0 ++ p1 ++ p2 ++ p3 ++ p4 ∧ DataW.Trod enc P w base spare held t0 v0 d0 p0 ∧ DataW.Trod enc P w base spare held t1 v1 d1 p1 ∧ DataW.Trod enc P w base spare held t2 v2 d2 p2 ∧ DataW.Trod enc P w base spare held t3 v3 d3 p3 ∧ DataW.Trod enc P w base spare held t4 v4 d4 p4 := by
  obtain ⟨v0, l0, d0, e0, p0, q0, ha, rfl, rfl, h0, r0⟩ := trodAll_cons h
  obtain ⟨v1, l1, d1, e1, p1, q1, rfl, rfl, rfl, h1, r1⟩ := trodAll_cons r0
  obtain ⟨v2, l2, d2, e2, p2, q2, rfl, rfl, rfl, h2, r2⟩ := trodAll_cons r1
  obtain ⟨v3, l3, d3, e3, p3, q3, rfl, rfl, rfl, h3, r3⟩ := trodAll_cons r2
  obtain ⟨v4, l4, d4, e4, p4, q4, rfl, rfl, rfl, h4, r4⟩ := trodAll_cons r3
  obtain ⟨rfl, rfl, rfl⟩ := trodAll_nil r4
  refine ⟨v0, v1, v2, v3, v4, d0, d1, d2, d3, d4, p0, p1, p2, p3, p4, ?_, rfl, by simp, h0, h1, h2, h3, h4⟩
  cases args
  simp_all
theorem trodAll_mk5 {H : Type} {enc : TypeId × Value → H} {P : Program} {w : World} {base : Nat} {spare : Nat → Bool} {held : Bool} {t0 t1 t2 t3 t4 : TypeId} {v0 v1 v2 v3 v4 : Value} {d0 d1 d2 d3 d4 : DataW H} {p0 p1 p2 p3 p4 : List MemPlace} (h0 : DataW.Trod enc P w base spare held t0 v0 d0 p0) (h1 : DataW.Trod enc P w base spare held t1 v1 d1 p1) (h2 : DataW.Trod enc P w base spare held t2 v2 d2 p2) (h3 : DataW.Trod enc P w base spare held t3 v3 d3 p3) (h4 : DataW.Trod enc P w base spare held t4 v4 d4 p4) : DataW.TrodAll enc P w base spare held [t0, t1, t2, t3, t4] [v0, v1, v2, v3, v4] [d0, d1, d2, d3, d4] (p0 ++ (p1 ++ (p2 ++ (p3 ++ p4)))) := ⟨p0, p1 ++ (p2 ++ (p3 ++ p4)), h0, trodAll_mk4 h1 h2 h3 h4, rfl⟩
end Go.Proofs.YtjabimfinanjoabGreat

namespace Go.Proofs.YtjabimfinanjoabGreat
open Go.RowKit
set_option maxRecDepth 100000

theorem bl_irr : ∀ x : List UInt8, Op.bytesLess x x = false
  | [] => by simp [Op.bytesLess]
  | a :: x => by
    have h : ¬ a < a := by rw [UInt8.lt_iff_toNat_lt]; omega
    simp [Op.bytesLess, bl_irr x, h]
theorem bl_trans : ∀ {x y z : List UInt8}, Op.bytesLess x y = true → Op.bytesLess y z = true → Op.bytesLess x z = true
  | [], [], _, h1, _ => by simp [Op.bytesLess] at h1
  | [], _ :: _, [], _, h2 => by simp [Op.bytesLess] at h2
  | [], _ :: _, _ :: _, _, _ => by simp [Op.bytesLess]
  | _ :: _, [], _, h1, _ => by simp [Op.bytesLess] at h1
  | _ :: _, _ :: _, [], _, h2 => by simp [Op.bytesLess] at h2
  | a :: x, b :: y, c :: z, h1, h2 => by
    simp only [Op.bytesLess, Bool.or_eq_true, Bool.and_eq_true, decide_eq_true_eq, beq_iff_eq] at h1 h2 ⊢
    rcases h1 with h1 | ⟨rfl, h1⟩
    · rcases h2 with h2 | ⟨rfl, h2⟩
      · left; rw [UInt8.lt_iff_toNat_lt] at h1 h2 ⊢; omega
      · exact Or.inl h1
    · rcases h2 with h2 | ⟨rfl, h2⟩
      · exact Or.inl h2
      · exact Or.inr ⟨rfl, bl_trans h1 h2⟩
theorem bl_total : ∀ {x y : List UInt8}, Op.bytesLess x y = false → (x == y) = false → Op.bytesLess y x = true
  | [], [], _, h2 => by simp at h2
  | [], _ :: _, h1, _ => by simp [Op.bytesLess] at h1
  | _ :: _, [], _, _ => by simp [Op.bytesLess]
  | a :: x, b :: y, h1, h2 => by
    simp only [Op.bytesLess, Bool.or_eq_false_iff, Bool.and_eq_false_iff, decide_eq_false_iff_not] at h1
    simp only [Op.bytesLess, Bool.or_eq_true, Bool.and_eq_true, decide_eq_true_eq, beq_iff_eq]
    obtain ⟨h1, h3⟩ := h1
    by_cases e : a = b
    · subst e
      right
      refine ⟨rfl, bl_total ?_ ?_⟩
      · rcases h3 with h3 | h3
        · simp at h3
        · exact h3
      · simpa using h2
    · left
      rw [UInt8.lt_iff_toNat_lt] at h1 ⊢
      have : a.toNat ≠ b.toNat := fun h => e (UInt8.toNat_inj.1 h)
      omega
/-- The name of an entry is s; it is not below s. -/
def eqE (s : ByteArray) (e : EN) : Bool := e.1.toList == s.toList
def geE (s : ByteArray) (e : EN) : Bool := !(Op.bytesLess e.1.toList s.toList)
def idxE (es : List EN) (s : ByteArray) : Nat := es.findIdx (eqE s)
def plcE (es : List EN) (s : ByteArray) : Nat := es.findIdx (geE s)
def fndB (es : List EN) (s : ByteArray) : Bool := decide (plcE es s < es.length) && eqE s (es[plcE es s]?.getD en0)
theorem getD_el {es : List EN} {k : Nat} (h : k < es.length) : es[k]?.getD en0 = es[k] := by rw [List.getElem?_eq_getElem h]; rfl
theorem findIdx_is {p : EN → Bool} {es : List EN} {k : Nat} (hk : k < es.length) (h : p (es[k]?.getD en0) = true) (ha : ∀ j, j < k → p (es[j]?.getD en0) = false) : es.findIdx p = k := by
  rw [List.findIdx_eq hk]
  exact ⟨by rw [← getD_el hk]; exact h, fun j hj => by have := ha j hj; rw [getD_el (by omega)] at this; exact this⟩
theorem findIdx_no {p : EN → Bool} {es : List EN} (ha : ∀ j, j < es.length → p (es[j]?.getD en0) = false) : es.findIdx p = es.length := by
  rw [List.findIdx_eq_length]
  intro e he
  obtain ⟨j, hj, rfl⟩ := List.mem_iff_getElem.1 he
  have := ha j hj
  rw [getD_el hj] at this
  exact this
theorem findIdx_le {p : EN → Bool} (es : List EN) : es.findIdx p ≤ es.length := List.findIdx_le_length
theorem findIdx_at {p : EN → Bool} {es : List EN} (h : es.findIdx p < es.length) : p (es[es.findIdx p]?.getD en0) = true := by
  rw [getD_el h]; exact List.findIdx_getElem
theorem findIdx_lt {p : EN → Bool} {es : List EN} {j : Nat} (h : j < es.findIdx p) : p (es[j]?.getD en0) = false := by
  have := findIdx_le (p := p) es
  rw [getD_el (by omega)]
  have := List.not_of_lt_findIdx h
  simpa using this
/-- The names rise. -/
def Rises (es : List EN) : Prop := ∀ i, i + 1 < es.length → Op.bytesLess (es[i]?.getD en0).1.toList (es[i + 1]?.getD en0).1.toList = true
theorem Rises.lt {es : List EN} (h : Rises es) : ∀ {i k : Nat}, i < k → k < es.length → Op.bytesLess (es[i]?.getD en0).1.toList (es[k]?.getD en0).1.toList = true := by
  intro i k
  induction k with
  | zero => intro h0; omega
  | succ k ih =>
    intro h1 h2
    have h3 := h k h2
    by_cases e : i = k
    · subst e; exact h3
    · exact bl_trans (ih (by omega) (by omega)) h3
theorem eqE_self {s : ByteArray} {e : EN} (h : eqE s e = true) : e.1.toList = s.toList := by simpa [eqE] using h
theorem idx_plc {es : List EN} (h : Rises es) {s : ByteArray} (hi : idxE es s < es.length) : plcE es s = idxE es s := by
  have he := eqE_self (findIdx_at hi)
  refine findIdx_is hi ?_ fun j hj => ?_
  · unfold geE
    have h1 : (es[idxE es s]?.getD en0).1.toList = s.toList := he
    rw [h1, bl_irr]; rfl
  · unfold geE
    have h1 : (es[idxE es s]?.getD en0).1.toList = s.toList := he
    rw [← h1, h.lt hj hi]; rfl
theorem fnd_iff {es : List EN} (h : Rises es) (s : ByteArray) : fndB es s = decide (idxE es s < es.length) := by
  by_cases hi : idxE es s < es.length
  · rw [decide_eq_true hi]
    unfold fndB
    rw [idx_plc h hi, decide_eq_true hi]
    exact findIdx_at hi
  · rw [decide_eq_false hi]
    unfold fndB
    by_cases hp : plcE es s < es.length
    · rw [decide_eq_true hp, Bool.true_and]
      by_cases he : eqE s (es[plcE es s]?.getD en0) = true
      · exfalso
        apply hi
        have h1 : es.findIdx (eqE s) ≤ plcE es s := by
          by_cases h2 : plcE es s < es.findIdx (eqE s)
          · have := findIdx_lt h2; rw [he] at this; exact absurd this (by decide)
          · omega
        have h2 : idxE es s = es.findIdx (eqE s) := rfl
        omega
      · simpa using he
    · rw [decide_eq_false hp]; rfl

/-- The entries of the inode at a place. -/
def entA (d : FD) (j : Nat) : List EN := (d.1[j]?.getD id0).2.2.2.2
/-- What functions of directories ask alike. -/
def dirQ (d : FD) (x : Int) : Int := if fsE d = 0 then (if 0 ≤ x ∧ x < (d.1.length : Int) then (if kindAt d.1 x.toNat = 2 then 0 else 9) else 3) else fsE d
def dirN (d : FD) (x : Int) (s : ByteArray) : Int := if dirQ d x = 0 then nameF s else dirQ d x
/-- IsEmptyDir, LookName, NamesIn. -/
def emptyB (d : FD) (x : Int) : Bool := decide (dirQ d x = 0) && decide ((entA d x.toNat).length = 0)
def lookR (d : FD) (x : Int) (s : ByteArray) : Int × Int := if dirN d x s = 0 then (if idxE (entA d x.toNat) s < (entA d x.toNat).length then (0, ((entA d x.toNat)[idxE (entA d x.toNat) s]?.getD en0).2) else (4, 0)) else (dirN d x s, 0)
def namesD (d : FD) (x : Int) : Int × List (List UInt8) := if dirQ d x = 0 then (0, (entA d x.toNat).map fun e => e.1.toList) else (dirQ d x, [])
/-- What stands where a directory is told. -/
structure DirS (d : FD) (j : Nat) : Prop where
  fs : fsE d = 0
  lt : j < d.1.length
  ten : d.1.length ≤ 10
  dat : d.2.length = 20
  eight : ∀ i : Nat, (d.2[i]?.getD []).length ≤ 8
  kind : (d.1[j]?.getD id0).1 = 2
  six : (entA d j).length ≤ 6
  rises : Rises (entA d j)
  names : ∀ k : Nat, k < (entA d j).length → nameF ((entA d j)[k]?.getD en0).1 = 0
  ins : insF d.1 = 0
  leads : ∀ j, j < d.1.length → ∀ k, k < (d.1[j]?.getD id0).2.2.2.2.length → 0 ≤ ((d.1[j]?.getD id0).2.2.2.2[k]?.getD en0).2 ∧ ((d.1[j]?.getD id0).2.2.2.2[k]?.getD en0).2 < (d.1.length : Int)
theorem dirQ_in {d : FD} {x : Int} (h : dirQ d x = 0) : fsE d = 0 ∧ (0 ≤ x ∧ x < (d.1.length : Int)) ∧ kindAt d.1 x.toNat = 2 := by
  unfold dirQ at h
  by_cases hf : fsE d = 0
  · rw [if_pos hf] at h
    by_cases hp : 0 ≤ x ∧ x < (d.1.length : Int)
    · rw [if_pos hp] at h
      by_cases hk : kindAt d.1 x.toNat = 2
      · exact ⟨hf, hp, hk⟩
      · rw [if_neg hk] at h; omega
    · rw [if_neg hp] at h; omega
  · rw [if_neg hf] at h; exact absurd h hf
theorem ino_dir {x : ID} (h : inoF x = 0) (hk : x.1 = 2) : dirF x.2.2.2.2 = 0 := by
  unfold inoF at h
  rw [if_neg (by omega), if_neg (by omega), if_pos hk] at h
  by_cases hd : fpB x = true
  · rw [if_pos hd] at h; omega
  · rw [if_neg hd] at h; exact h
theorem dir_rises {es : List EN} (h : dirF es = 0) : Rises es ∧ (∀ k : Nat, k < es.length → nameF (es[k]?.getD en0).1 = 0) ∧ es.length ≤ 6 := by
  unfold dirF at h
  by_cases h6 : 6 < es.length
  · rw [if_pos h6] at h; omega
  · rw [if_neg h6] at h
    have hz := fstNZ_inv h
    have hn : ∀ k : Nat, k < es.length → nameF (es[k]?.getD en0).1 = 0 := fun k hk => by
      have := hz k hk
      unfold entF at this
      by_cases e : nameF (es[k]?.getD en0).1 = 0
      · exact e
      · rw [if_neg e] at this; exact absurd this e
    refine ⟨fun i hi => ?_, hn, by omega⟩
    have := hz (i + 1) hi
    unfold entF at this
    rw [if_pos (hn _ hi)] at this
    by_cases e : 0 ≤ (es[i + 1]?.getD en0).2 ∧ (es[i + 1]?.getD en0).2 ≤ 9
    · rw [if_pos e] at this
      by_cases e2 : 0 < i + 1 ∧ strLe (es[i + 1]?.getD en0).1 (es[i + 1 - 1]?.getD en0).1 = true
      · rw [if_pos e2] at this; omega
      · have e3 : strLe (es[i + 1]?.getD en0).1 (es[i]?.getD en0).1 = false := by
          rw [show i + 1 - 1 = i by omega] at e2
          simpa using e2
        unfold strLe at e3
        rw [Bool.or_eq_false_iff] at e3
        obtain ⟨e4, e5⟩ := e3
        exact bl_total e4 e5
    · rw [if_neg e] at this; omega
theorem dirS {d : FD} {x : Int} (h : dirQ d x = 0) : DirS d x.toNat := by
  obtain ⟨hf, hp, hk⟩ := dirQ_in h
  obtain ⟨h1, g2, h3, _, h5⟩ := fsE_zero hf
  obtain ⟨_, _, g3⟩ := formB_no g2
  have hj : x.toNat < d.1.length := by omega
  have hd := dir_rises (ino_dir (ins_ino h1 x.toNat hj) hk)
  exact ⟨hf, hj, insF_ten h1, g3, many_eight h3, hk, hd.2.2, hd.1, hd.2.1, h1, lost_in h1 h5⟩
end Go.Proofs.YtjabimfinanjoabGreat

namespace Go.Proofs.YtjabimfinanjoabGreat
open Go.RowKit
set_option maxRecDepth 100000

set_option maxHeartbeats 3200000 in
theorem dirPlaceFault_any (w : World) (a1 : Option Addr) (n1 c1 : Nat) (a2 : Option Addr) (n2 c2 : Nat) (d : FD) (x : Int) (h : FsR w (.slice a1 n1 c1) (.slice a2 n2 c2) d) (hsi : sizeInos d.1 ≤ 1048576) :
    Calls Tryz.prog 101 #[.agg #[.slice a1 n1 c1, .slice a2 n2 c2], .int .i64 x] w fun e w' => e = .returned (.int .i64 (dirQ d x)) ∧ Below w.heap.size w w' := by
  have HF : Hid (∀ W, Below w.heap.size w W → Calls Tryz.prog 128 #[.agg #[.slice a1 n1 c1, .slice a2 n2 c2]] W fun e w' => e = .returned (.int .i64 (fsE d)) ∧ Below W.heap.size W w') := fun W hW => reachFault_any W _ _ _ _ _ _ d (h.later hW) hsi
  have HX : Hid (Bx (w.alloc (.cells #[.slice a1 n1 c1, .slice a2 n2 c2] 31)) w.heap.size [.slice a1 n1 c1, .slice a2 n2 c2]) := Bx.new w [.slice a1 n1 c1, .slice a2 n2 c2] _
  have HR : Hid (dirQ d x = if fsE d = 0 then (if 0 ≤ x ∧ x < (d.1.length : Int) then (if kindAt d.1 x.toNat = 2 then 0 else 9) else 3) else fsE d) := rfl
  obtain ⟨_, _, e1, hm1, hAt⟩ := h.1.open'
  obtain ⟨_, _, e2, hm2, hBt⟩ := h.2.open'
  simp only [Value.slice.injEq] at e1 e2
  obtain ⟨rfl, rfl, rfl⟩ := e1
  obtain ⟨rfl, rfl, rfl⟩ := e2
  have HIN : Hid (∀ W, Calls Tryz.prog 93 #[.agg #[.slice a1 d.1.length c1, .slice a2 d.2.length c2], .int .i64 x] W fun e w' => e = .returned (.bool (decide (0 ≤ x ∧ x < (d.1.length : Int)))) ∧ Below W.heap.size W w') := fun W => isInode_any W _ _ _ _ _ _ x
  clear h hm1 hm2 hBt
  by_cases hf : fsE d = 0
  rotate_left
  · have HQ : Hid (dirQ d x = fsE d) := by unfold Hid; rw [HR.out, if_neg hf]
    rw [HQ.out]
    have hb : (fsE d != 0) = true := by simpa using hf
    clear hf hAt HR HQ HIN
    generalize fsE d = r at *
    generalize d.1.length = n at *
    generalize d.2.length = m at *
    go_enter Tryz.func101, Tryz.ntmps101
    go_wp2_with fail
    refine (HF.out _ (later1 _ _)).mono ?_
    rintro e w1 ⟨rfl, hb1⟩
    have HB1 : Hid (Below w.heap.size w w1) := (later1 _ _).trans (hb1.mono (by simp))
    clear hb1
    go_wp2
    go_ret
    exact ⟨rfl, HB1.out⟩
  · rw [hf] at HF
    by_cases hpl : 0 ≤ x ∧ x < (d.1.length : Int)
    rotate_left
    · have HQ : Hid (dirQ d x = 3) := by unfold Hid; rw [HR.out, if_pos hf, if_neg hpl]
      rw [HQ.out]
      rw [decide_eq_false hpl] at HIN
      clear hf hAt HR HQ hpl
      generalize d.1.length = n at *
      generalize d.2.length = m at *
      go_enter Tryz.func101, Tryz.ntmps101
      go_wp2_with fail
      refine (HF.out _ (later1 _ _)).mono ?_
      rintro e w1 ⟨rfl, hb1⟩
      have HB1 : Hid (Below w.heap.size w w1) := (later1 _ _).trans (hb1.mono (by simp))
      have y0 := (HX.out.later hb1) 0 _ rfl
      have y1 := (HX.out.later hb1) 1 _ rfl
      clear hb1
      go_wp2_with fail
      refine (HIN.out _).mono ?_
      rintro e w2 ⟨rfl, hb2⟩
      have HB2 : Hid (Below w.heap.size w w2) := HB1.out.trans (hb2.mono HB1.out.size)
      clear hb2 y0 y1
      go_wp2
      go_ret
      exact ⟨rfl, HB2.out⟩
    · rw [decide_eq_true hpl] at HIN
      obtain ⟨j, rfl⟩ : ∃ j : Nat, x = (j : Int) := ⟨x.toNat, by omega⟩
      have hj : j < d.1.length := by omega
      have HQ : Hid (dirQ d (j : Int) = if (d.1[j]?.getD id0).1 = 2 then 0 else 9) := by unfold Hid; rw [HR.out, if_pos hf, if_pos hpl]; rfl
      rw [HQ.out]
      have hjn : (j : Int) < ((d.1.length : Nat) : Int) := by omega
      obtain ⟨b0, o0, rfl, hI⟩ := hAt j hj
      obtain ⟨aB, cB, _, _, kc, _⟩ := hI
      have HKC : Hid (_ = some (Value.int .i64 (d.1[j]?.getD id0).1)) := kc
      clear kc hAt HR HQ hpl hf
      generalize (d.1[j]?.getD id0).1 = kd at *
      generalize d.1.length = n at *
      generalize d.2.length = m at *
      by_cases hk : kd = 2
      · rw [if_pos hk]
        have hb2 : (kd != 2) = false := by simpa using hk
        clear hk
        go_enter Tryz.func101, Tryz.ntmps101
        go_wp2_with fail
        refine (HF.out _ (later1 _ _)).mono ?_
        rintro e w1 ⟨rfl, hb1⟩
        have HB1 : Hid (Below w.heap.size w w1) := (later1 _ _).trans (hb1.mono (by simp))
        have HX1 : Hid (Bx w1 w.heap.size _) := HX.out.later hb1
        have y0 := HX1.out 0 _ rfl
        have y1 := HX1.out 1 _ rfl
        clear hb1
        go_wp2_with fail
        refine (HIN.out _).mono ?_
        rintro e w2 ⟨rfl, hb2⟩
        have HB2 : Hid (Below w.heap.size w w2) := HB1.out.trans (hb2.mono HB1.out.size)
        have z0 := (HX1.out.later hb2) 0 _ rfl
        have z1 := (HX1.out.later hb2) 1 _ rfl
        have kc2 := cell_later HB2.out HKC.out
        clear hb2 y0 y1
        go_wp2
        go_ret
        exact ⟨rfl, HB2.out⟩
      · rw [if_neg hk]
        have hb2 : (kd != 2) = true := by simpa using hk
        clear hk
        go_enter Tryz.func101, Tryz.ntmps101
        go_wp2_with fail
        refine (HF.out _ (later1 _ _)).mono ?_
        rintro e w1 ⟨rfl, hb1⟩
        have HB1 : Hid (Below w.heap.size w w1) := (later1 _ _).trans (hb1.mono (by simp))
        have HX1 : Hid (Bx w1 w.heap.size _) := HX.out.later hb1
        have y0 := HX1.out 0 _ rfl
        have y1 := HX1.out 1 _ rfl
        clear hb1
        go_wp2_with fail
        refine (HIN.out _).mono ?_
        rintro e w2 ⟨rfl, hb2⟩
        have HB2 : Hid (Below w.heap.size w w2) := HB1.out.trans (hb2.mono HB1.out.size)
        have z0 := (HX1.out.later hb2) 0 _ rfl
        have z1 := (HX1.out.later hb2) 1 _ rfl
        have kc2 := cell_later HB2.out HKC.out
        clear hb2 y0 y1
        go_wp2
        go_ret
        exact ⟨rfl, HB2.out⟩

set_option maxHeartbeats 1600000 in
theorem dirNameFault_any (w : World) (a1 : Option Addr) (n1 c1 : Nat) (a2 : Option Addr) (n2 c2 : Nat) (d : FD) (x : Int) (s : ByteArray) (h : FsR w (.slice a1 n1 c1) (.slice a2 n2 c2) d) (hsi : sizeInos d.1 ≤ 1048576) (hs : s.size ≤ maxLen) :
    Calls Tryz.prog 59 #[.agg #[.slice a1 n1 c1, .slice a2 n2 c2], .int .i64 x, .string s] w fun e w' => e = .returned (.int .i64 (dirN d x s)) ∧ Below w.heap.size w w' := by
  have HF : Hid (∀ W, Below w.heap.size w W → Calls Tryz.prog 101 #[.agg #[.slice a1 n1 c1, .slice a2 n2 c2], .int .i64 x] W fun e w' => e = .returned (.int .i64 (dirQ d x)) ∧ Below W.heap.size W w') := fun W hW => dirPlaceFault_any W _ _ _ _ _ _ d x (h.later hW) hsi
  have HN : Hid (∀ W, Calls Tryz.prog 102 #[.string s] W fun e w' => e = .returned (.int .i64 (nameF s)) ∧ w' = W) := fun W => implName_any W s hs
  have HR : Hid (dirN d x s = if dirQ d x = 0 then nameF s else dirQ d x) := rfl
  rw [HR.out]
  clear h hsi hs HR
  generalize dirQ d x = r at *
  generalize nameF s = q at *
  by_cases hr : r = 0
  · rw [if_pos hr]
    subst hr
    go_enter Tryz.func59, Tryz.ntmps59
    go_wp2_with fail
    first
      | refine (HF.out _ (later1 _ _)).mono ?_
      | refine (HF.out _ (Below.refl _ _)).mono ?_
    rintro e w1 ⟨rfl, hb1⟩
    have HB1 : Hid (Below w.heap.size w w1) := by first | exact (later1 _ _).trans (hb1.mono (by simp)) | exact hb1
    clear hb1
    go_wp2_with fail
    refine (HN.out _).mono ?_
    rintro e w2 ⟨rfl, rfl⟩
    go_wp2
    go_ret
    exact ⟨rfl, HB1.out⟩
  · rw [if_neg hr]
    have hb : (r != 0) = true := by simpa using hr
    clear hr
    go_enter Tryz.func59, Tryz.ntmps59
    go_wp2_with fail
    first
      | refine (HF.out _ (later1 _ _)).mono ?_
      | refine (HF.out _ (Below.refl _ _)).mono ?_
    rintro e w1 ⟨rfl, hb1⟩
    have HB1 : Hid (Below w.heap.size w w1) := by first | exact (later1 _ _).trans (hb1.mono (by simp)) | exact hb1
    clear hb1
    go_wp2
    go_ret
    exact ⟨rfl, HB1.out⟩

set_option maxHeartbeats 3200000 in
theorem l8Asked_any (w : World) (b o : Nat) (d : FD) (aI : Option Addr) (cI : Nat) (aD : Option Addr) (cD : Nat) (x : Int) (h : FsX w b o d aI cI aD cD) (hs : sizeInos d.1 ≤ 1048576) :
    Calls Tryz.prog 97 #[.pointer (some ⟨b, o, none⟩), .int .i64 x] w fun e w' => e = .returned (.int .i64 (dirQ d x)) ∧ Below w.heap.size w w' := by
  have HF : Hid (Calls Tryz.prog 131 #[.pointer (some ⟨b, o, none⟩)] w fun e w' => e = .returned (.int .i64 (fsE d)) ∧ Below w.heap.size w w') := l6Entries_any w b o d _ _ _ _ h hs
  have HP : Hid (∀ W, Below w.heap.size w W → Calls Tryz.prog 99 #[.pointer (some ⟨b, o, none⟩), .int .i64 x] W fun e w' => e = .returned (.bool (decide (0 ≤ x ∧ x < (d.1.length : Int)))) ∧ w' = W) := fun W hW => l6Place_any W b o d _ _ _ _ x (h.later hW)
  have HR : Hid (dirQ d x = if fsE d = 0 then (if 0 ≤ x ∧ x < (d.1.length : Int) then (if kindAt d.1 x.toNat = 2 then 0 else 9) else 3) else fsE d) := rfl
  by_cases hf : fsE d = 0
  rotate_left
  · have HQ : Hid (dirQ d x = fsE d) := by unfold Hid; rw [HR.out, if_neg hf]
    rw [HQ.out]
    have hb : (fsE d != 0) = true := by simpa using hf
    clear hf h HR HQ HP
    generalize fsE d = r at *
    go_enter Tryz.func97, Tryz.ntmps97
    go_wp2_with fail
    refine HF.out.mono ?_
    rintro e w1 ⟨rfl, hb1⟩
    have HB1 : Hid (Below w.heap.size w w1) := hb1
    clear hb1
    go_wp2
    go_ret
    exact ⟨rfl, HB1.out⟩
  · rw [hf] at HF
    by_cases hpl : 0 ≤ x ∧ x < (d.1.length : Int)
    rotate_left
    · have HQ : Hid (dirQ d x = 3) := by unfold Hid; rw [HR.out, if_pos hf, if_neg hpl]
      rw [HQ.out]
      rw [decide_eq_false hpl] at HP
      clear hf h HR HQ hpl
      go_enter Tryz.func97, Tryz.ntmps97
      go_wp2_with fail
      refine HF.out.mono ?_
      rintro e w1 ⟨rfl, hb1⟩
      have HB1 : Hid (Below w.heap.size w w1) := hb1
      clear hb1
      go_wp2_with fail
      refine (HP.out _ HB1.out).mono ?_
      rintro e w2 ⟨rfl, rfl⟩
      go_wp2
      go_ret
      exact ⟨rfl, HB1.out⟩
    · rw [decide_eq_true hpl] at HP
      obtain ⟨j, rfl⟩ : ∃ j : Nat, x = (j : Int) := ⟨x.toNat, by omega⟩
      have hj : j < d.1.length := by omega
      have HQ : Hid (dirQ d (j : Int) = if (d.1[j]?.getD id0).1 = 2 then 0 else 9) := by unfold Hid; rw [HR.out, if_pos hf, if_pos hpl]; rfl
      rw [HQ.out]
      have hjn : (j : Int) < ((d.1.length : Nat) : Int) := by omega
      obtain ⟨_, _, q1, _, hAt⟩ := h.ins.open'
      simp only [Value.slice.injEq] at q1
      obtain ⟨rfl, -, rfl⟩ := q1
      obtain ⟨b0, o0, rfl, hI⟩ := hAt j hj
      obtain ⟨aB, cB, _, _, kc, _⟩ := hI
      have HKC : Hid (_ = some (Value.int .i64 (d.1[j]?.getD id0).1)) := kc
      have HC0 : Hid (_ = _) := h.c0
      clear kc hAt HR HQ hpl hf h
      generalize (d.1[j]?.getD id0).1 = kd at *
      generalize d.1.length = n at *
      by_cases hk : kd = 2
      · rw [if_pos hk]
        have hb2 : (kd != 2) = false := by simpa using hk
        clear hk
        go_enter Tryz.func97, Tryz.ntmps97
        go_wp2_with fail
        refine HF.out.mono ?_
        rintro e w1 ⟨rfl, hb1⟩
        have HB1 : Hid (Below w.heap.size w w1) := hb1
        have kc1 := cell_later hb1 HKC.out
        have c01 := cell_later hb1 HC0.out
        clear hb1
        go_wp2_with fail
        refine (HP.out _ HB1.out).mono ?_
        rintro e w2 ⟨rfl, rfl⟩
        go_wp2
        go_ret
        exact ⟨rfl, HB1.out⟩
      · rw [if_neg hk]
        have hb2 : (kd != 2) = true := by simpa using hk
        clear hk
        go_enter Tryz.func97, Tryz.ntmps97
        go_wp2_with fail
        refine HF.out.mono ?_
        rintro e w1 ⟨rfl, hb1⟩
        have HB1 : Hid (Below w.heap.size w w1) := hb1
        have kc1 := cell_later hb1 HKC.out
        have c01 := cell_later hb1 HC0.out
        clear hb1
        go_wp2_with fail
        refine (HP.out _ HB1.out).mono ?_
        rintro e w2 ⟨rfl, rfl⟩
        go_wp2
        go_ret
        exact ⟨rfl, HB1.out⟩

set_option maxHeartbeats 1600000 in
theorem l8Name_any (w : World) (b o : Nat) (d : FD) (aI : Option Addr) (cI : Nat) (aD : Option Addr) (cD : Nat) (x : Int) (s : ByteArray) (h : FsX w b o d aI cI aD cD) (hsi : sizeInos d.1 ≤ 1048576) (hs : s.size ≤ maxLen) :
    Calls Tryz.prog 57 #[.pointer (some ⟨b, o, none⟩), .int .i64 x, .string s] w fun e w' => e = .returned (.int .i64 (dirN d x s)) ∧ Below w.heap.size w w' := by
  have HF : Hid (Calls Tryz.prog 97 #[.pointer (some ⟨b, o, none⟩), .int .i64 x] w fun e w' => e = .returned (.int .i64 (dirQ d x)) ∧ Below w.heap.size w w') := l8Asked_any w b o d _ _ _ _ x h hsi
  have HN : Hid (∀ W, Calls Tryz.prog 98 #[.string s] W fun e w' => e = .returned (.int .i64 (nameF s)) ∧ w' = W) := fun W => specName_any W s hs
  have HR : Hid (dirN d x s = if dirQ d x = 0 then nameF s else dirQ d x) := rfl
  rw [HR.out]
  clear h hsi hs HR
  generalize dirQ d x = r at *
  generalize nameF s = q at *
  by_cases hr : r = 0
  · rw [if_pos hr]
    subst hr
    go_enter Tryz.func57, Tryz.ntmps57
    go_wp2_with fail
    refine HF.out.mono ?_
    rintro e w1 ⟨rfl, hb1⟩
    have HB1 : Hid (Below w.heap.size w w1) := hb1
    clear hb1
    go_wp2_with fail
    refine (HN.out _).mono ?_
    rintro e w2 ⟨rfl, rfl⟩
    go_wp2
    go_ret
    exact ⟨rfl, HB1.out⟩
  · rw [if_neg hr]
    have hb : (r != 0) = true := by simpa using hr
    clear hr
    go_enter Tryz.func57, Tryz.ntmps57
    go_wp2_with fail
    refine HF.out.mono ?_
    rintro e w1 ⟨rfl, hb1⟩
    have HB1 : Hid (Below w.heap.size w w1) := hb1
    clear hb1
    go_wp2
    go_ret
    exact ⟨rfl, HB1.out⟩
end Go.Proofs.YtjabimfinanjoabGreat

namespace Go.Proofs.YtjabimfinanjoabGreat
open Go.RowKit
set_option maxRecDepth 100000

set_option maxHeartbeats 1600000 in
theorem placeOf_any (w : World) (a : Option Addr) (n c : Nat) (es : List EN) (s : ByteArray) (hn : es.length = n) (hm : n ≤ 4294967296) (hat : AtN w a n es) :
    Calls Tryz.prog 60 #[.slice a n c, .string s] w fun e w' => e = .returned (.tuple #[.int .i64 ((plcE es s : Nat) : Int), .bool (fndB es s)]) ∧ Below w.heap.size w w' := by
  have HAT : Hid (AtN w a n es) := hat
  have HN : Hid (es.length = n) := hn
  clear hat hn
  go_enter Tryz.func60, Tryz.ntmps60
  go_wp2
  go_loopw [10] (fun i wr => ∃ k : Nat, k ≤ n ∧ i = .int .i64 k ∧ Below w.heap.size w wr ∧ ∀ j, j < k → geE s (es[j]?.getD en0) = false) (fun i _ => n - (intOf i).toNat)
  case atStart => exact ⟨0, Nat.zero_le _, rfl, Below.refl _ _, fun j hj => by omega⟩
  case round =>
    obtain ⟨k, hk, rfl, hbl, hz⟩ := hrel
    have HBL : Hid (Below w.heap.size w wr) := hbl
    have HZ : Hid (∀ j, j < k → geE s (es[j]?.getD en0) = false) := hz
    clear hbl hz
    by_cases hlt : k < n
    · obtain ⟨b, off, rfl, c0, c1⟩ := HAT.out k hlt
      replace c0 := cell_later HBL.out c0
      replace c1 := cell_later HBL.out c1
      have HBX : Hid (∀ o : Obj, Below w.heap.size w (wr.alloc o)) := fun o => HBL.out.trans ((later1 _ _).mono HBL.out.size)
      cases hge : geE s (es[k]?.getD en0) with
      | false =>
        have HNX : Hid (∀ j, j < k + 1 → geE s (es[j]?.getD en0) = false) := fun j hj => by
          by_cases e : j = k
          · rw [e]; exact hge
          · exact HZ.out j (by omega)
        have hlt2 : Op.bytesLess (es[k]?.getD en0).1.toList s.toList = true := by unfold geE at hge; simpa using hge
        clear hge HZ
        generalize (es[k]?.getD en0).1 = x at *
        generalize (es[k]?.getD en0).2 = y at *
        go_wp2
        go_roundw
        case rel => exact ⟨k + 1, by omega, by go_num, HBX.out _, HNX.out⟩
        case measure => simp [intOf]; omega
      | true =>
        have HP : Hid (plcE es s = k) := findIdx_is (by rw [HN.out]; exact hlt) hge HZ.out
        have HF : Hid (fndB es s = ((es[k]?.getD en0).1.toList == s.toList)) := by
          unfold Hid fndB
          rw [HP.out, decide_eq_true (by rw [HN.out]; exact hlt), Bool.true_and]
          rfl
        have hlt2 : Op.bytesLess (es[k]?.getD en0).1.toList s.toList = false := by unfold geE at hge; simpa using hge
        clear hge HZ
        generalize (es[k]?.getD en0).1 = x at *
        generalize (es[k]?.getD en0).2 = y at *
        go_wp2_with fail
        go_quiet (fail)
        go_wp2
        go_ret2
        exact ⟨by rw [HP.out, HF.out]; rfl, below_drewN (HBX.out _) _⟩
    · have e : k = n := by omega
      have HP : Hid (plcE es s = n) := by
        have := findIdx_no (p := geE s) (es := es) fun j hj => HZ.out j (by rw [HN.out] at hj; omega)
        rw [HN.out] at this
        exact this
      have HF : Hid (fndB es s = false) := by unfold Hid fndB; rw [HP.out, decide_eq_false (by rw [HN.out]; omega)]; rfl
      subst e
      clear HZ
      go_wp2
      go_ret2
      exact ⟨by rw [HP.out, HF.out]; rfl, HBL.out⟩

/-- Where a name stands among entries, or -1. -/
def at8 (es : List EN) (s : ByteArray) : Int := if idxE es s < es.length then ((idxE es s : Nat) : Int) else -1
set_option maxHeartbeats 1600000 in
theorem l8At_any (w : World) (a : Option Addr) (n c : Nat) (es : List EN) (s : ByteArray) (hn : es.length = n) (hm : n ≤ 4294967296) (hat : AtN w a n es) :
    Calls Tryz.prog 66 #[.slice a n c, .string s] w fun e w' => e = .returned (.int .i64 (at8 es s)) ∧ w' = w := by
  have HAT : Hid (AtN w a n es) := hat
  have HN : Hid (es.length = n) := hn
  clear hat hn
  go_enter Tryz.func66, Tryz.ntmps66
  go_wp2
  go_loop [5] (fun i => ∃ k : Nat, k ≤ n ∧ i = .int .i64 k ∧ ∀ j, j < k → eqE s (es[j]?.getD en0) = false) (fun i => n - (intOf i).toNat)
  case atStart => exact ⟨0, Nat.zero_le _, rfl, fun j hj => by omega⟩
  case round =>
    obtain ⟨k, hk, rfl, hz⟩ := hrel
    have HZ : Hid (∀ j, j < k → eqE s (es[j]?.getD en0) = false) := hz
    clear hz
    by_cases hlt : k < n
    · obtain ⟨b, off, rfl, c0, c1⟩ := HAT.out k hlt
      cases hge : eqE s (es[k]?.getD en0) with
      | false =>
        have HNX : Hid (∀ j, j < k + 1 → eqE s (es[j]?.getD en0) = false) := fun j hj => by
          by_cases e : j = k
          · rw [e]; exact hge
          · exact HZ.out j (by omega)
        have hlt2 : ((es[k]?.getD en0).1.toList == s.toList) = false := hge
        clear hge HZ c1
        generalize (es[k]?.getD en0).1 = x at *
        go_wp2
        go_round
        case rel => exact ⟨k + 1, by omega, by go_num, HNX.out⟩
        case measure => simp [intOf]; omega
      | true =>
        have HP : Hid (at8 es s = (k : Int)) := by
          have h1 : idxE es s = k := findIdx_is (by rw [HN.out]; exact hlt) hge HZ.out
          unfold Hid at8
          rw [h1, if_pos (by rw [HN.out]; exact hlt)]
        have hlt2 : ((es[k]?.getD en0).1.toList == s.toList) = true := hge
        clear hge HZ c1
        generalize (es[k]?.getD en0).1 = x at *
        go_wp2
        go_ret
        exact ⟨ret_int HP.out.symm, rfl⟩
    · have HP : Hid (at8 es s = -1) := by
        have h1 : idxE es s = es.length := findIdx_no (p := eqE s) (es := es) fun j hj => HZ.out j (by rw [HN.out] at hj; omega)
        unfold Hid at8
        rw [h1, if_neg (by omega)]
      clear HZ
      go_wp2
      go_ret
      exact ⟨ret_int HP.out.symm, rfl⟩

/-- What lies at the place of a directory: its entries. -/
theorem FsR.dir {w : World} {a1 : Option Addr} {n1 c1 : Nat} {v2 : Value} {d : FD} (h : FsR w (.slice a1 n1 c1) v2 d) {j : Nat} (hj : j < d.1.length) : ∃ b0 o0 aE cE, a1 = some ⟨b0, o0, none⟩ ∧ n1 = d.1.length ∧ w.cell? ⟨b0, o0 + j * 5 + 4, none⟩ = some (.slice aE (entA d j).length cE) ∧ Ents w (.slice aE (entA d j).length cE) (entA d j) := by
  obtain ⟨_, _, e1, _, hAt⟩ := h.1.open'
  simp only [Value.slice.injEq] at e1
  obtain ⟨rfl, rfl, rfl⟩ := e1
  obtain ⟨b0, o0, rfl, hI⟩ := hAt j hj
  obtain ⟨aB, cB, aE, cE, _, _, _, _, k4, hR⟩ := hI
  exact ⟨b0, o0, aE, cE, rfl, rfl, k4, hR.2.2⟩

end Go.Proofs.YtjabimfinanjoabGreat

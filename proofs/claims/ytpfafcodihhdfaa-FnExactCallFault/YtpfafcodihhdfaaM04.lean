/- The law's copy of a call. From the reading of an argument to the lists that it holds. No program is named here. What the rows of this seat share: how a disk that came in is opened. How inodes that came in are opened. Lists of inodes: how they read, what they own. No program is named here. How lists of inodes that came in are opened. The walks of the laws' functions over lists of inodes: how great they are, copied, held against each other. -/
import Derived.Test.YtpfafcodihhdfaaM03
import Derived.Test.YtpfafcodihhdfaaM00
import Derived.ProofKit
import Derived.Deep.Slices
import Derived.Deep.SlicePairs
import Derived.Lib.SmallJoins
import Derived.Test.YtpfafcodihhdfaaRows
import Derived.Test.YtpfafcodihhdfaaM02
namespace Go.Proofs.Ytpfafcodihhdfaa
open Go.RowKit
set_option maxRecDepth 100000

def cv6 (z0 : Int) (t1 t2 : ByteArray) (z3 z4 : Int) (v : Value) : List Value := [.int .i64 z0, .string t1, .string t2, .int .i64 z3, .int .i64 z4, v]
theorem row6 (w : World) (o1 o2 : Obj) (t : TypeId) (z0 : Int) (t1 t2 : ByteArray) (z3 z4 : Int) (v : Value) :
    OwnRow (((w.alloc o1).alloc o2).alloc (.cells #[.int .i64 z0, .string t1, .string t2, .int .i64 z3, .int .i64 z4, v] t)) (w.heap.size + 1 + 1) 6 (fun i => (cv6 z0 t1 t2 z3 z4 v)[i]?.getD (.int .i64 0)) := by
  have h := OwnRow.newV ((w.alloc o1).alloc o2) (cv6 z0 t1 t2 z3 z4 v) t
  simp only [World.size_alloc] at h
  exact h
theorem row6' (w : World) (o1 o3 : Obj) (t : TypeId) (z0 : Int) (t1 t2 : ByteArray) (z3 z4 : Int) (v : Value) :
    OwnRow (((w.alloc o1).alloc (.cells #[.int .i64 z0, .string t1, .string t2, .int .i64 z3, .int .i64 z4, v] t)).alloc o3) (w.heap.size + 1) 6 (fun i => (cv6 z0 t1 t2 z3 z4 v)[i]?.getD (.int .i64 0)) := by
  have h := (OwnRow.newV (w.alloc o1) (cv6 z0 t1 t2 z3 z4 v) t).later (later1 _ o3)
  simp only [World.size_alloc] at h
  exact h

set_option maxHeartbeats 3200000 in
theorem toCallU (w : World) (z0 : Int) (t1 t2 : ByteArray) (z3 z4 : Int) (aD : Option Addr) (nD cD : Nat) (d : CalD) (h : CalR w (.int .i64 z0) (.string t1) (.string t2) (.int .i64 z3) (.int .i64 z4) (.slice aD nD cD) d) (hs : sizeCal d ≤ 1048576) :
    Calls Try.prog 16 #[.agg #[.int .i64 z0, .string t1, .string t2, .int .i64 z3, .int .i64 z4, .slice aD nD cD]] w fun e w' => ∃ y0 y1 y2 y3 y4 dB eB fB, e = .returned (.agg #[.int .i64 y0, .string y1, .string y2, .int .i64 y3, .int .i64 y4, .slice dB eB fB]) ∧ Below w.heap.size w w' ∧ CalU w' (.int .i64 y0) (.string y1) (.string y2) (.int .i64 y3) (.int .i64 y4) (.slice dB eB fB) d (fresh w w') := by
  have H0 : Hid (_ ∧ _) := h.1
  have H1 : Hid (Byt w (.slice aD nD cD) d.2.2.2.2.2) := h.2
  have L1 : Hid (d.2.2.2.2.2.length ≤ 1048576) := by unfold sizeCal at hs; unfold Hid; omega
  clear h hs
  go_enter Try.func16, Try.ntmps16
  go_wp2_with fail
  have O2 := row6 w (Obj.cells #[.int .i64 z0, .string t1, .string t2, .int .i64 z3, .int .i64 z4, .slice aD nD cD] 42) (Obj.cells #[.int .i64 0, .string ⟨#[]⟩, .string ⟨#[]⟩, .int .i64 0, .int .i64 0, .slice none 0 0] 45) 45 z0 t1 t2 z3 z4 (.slice none 0 0)
  have O1 := row6' w (Obj.cells #[.int .i64 z0, .string t1, .string t2, .int .i64 z3, .int .i64 z4, .slice aD nD cD] 42) (Obj.cells #[.int .i64 z0, .string t1, .string t2, .int .i64 z3, .int .i64 z4, .slice none 0 0] 45) 45 0 ⟨#[]⟩ ⟨#[]⟩ 0 0 (.slice none 0 0)
  have HBA : Hid (Below w.heap.size w (((w.alloc (Obj.cells #[.int .i64 z0, .string t1, .string t2, .int .i64 z3, .int .i64 z4, .slice aD nD cD] 42)).alloc (Obj.cells #[.int .i64 0, .string ⟨#[]⟩, .string ⟨#[]⟩, .int .i64 0, .int .i64 0, .slice none 0 0] 45)).alloc (Obj.cells #[.int .i64 z0, .string t1, .string t2, .int .i64 z3, .int .i64 z4, .slice none 0 0] 45))) := later3 _ _ _ _
  have hWs : (((w.alloc (Obj.cells #[.int .i64 z0, .string t1, .string t2, .int .i64 z3, .int .i64 z4, .slice aD nD cD] 42)).alloc (Obj.cells #[.int .i64 0, .string ⟨#[]⟩, .string ⟨#[]⟩, .int .i64 0, .int .i64 0, .slice none 0 0] 45)).alloc (Obj.cells #[.int .i64 z0, .string t1, .string t2, .int .i64 z3, .int .i64 z4, .slice none 0 0] 45)).heap.size = w.heap.size + 3 := by simp
  generalize hW : (((w.alloc (Obj.cells #[.int .i64 z0, .string t1, .string t2, .int .i64 z3, .int .i64 z4, .slice aD nD cD] 42)).alloc (Obj.cells #[.int .i64 0, .string ⟨#[]⟩, .string ⟨#[]⟩, .int .i64 0, .int .i64 0, .slice none 0 0] 45)).alloc (Obj.cells #[.int .i64 z0, .string t1, .string t2, .int .i64 z3, .int .i64 z4, .slice none 0 0] 45)) = W at *
  clear hW
  have hz0 := O2.lt
  refine (toBytU (H1.out.later HBA.out) L1.out).mono ?_
  rintro e w1 ⟨dB, eB, fB, rfl, hb1, ho1⟩
  have HB1 : Hid (Below w.heap.size w w1) := HBA.out.trans (hb1.mono HBA.out.size)
  replace O2 := O2.later hb1
  replace O1 := O1.later hb1
  have HO1 : Hid (BytO w1 (.slice dB eB fB) d.2.2.2.2.2 (fun b => w.heap.size + 3 ≤ b ∧ b < w1.heap.size)) := ho1.mono fun b hb => ⟨by have := hb.1; omega, hb.2⟩
  clear hb1 ho1
  have q0 : w1.cell? ⟨w.heap.size + 1 + 1, 0, none⟩ = some (.int .i64 z0) := O2.cell (i := 0) (by omega)
  have q1 : w1.cell? ⟨w.heap.size + 1 + 1, 1, none⟩ = some (.string t1) := O2.cell (i := 1) (by omega)
  have q2 : w1.cell? ⟨w.heap.size + 1 + 1, 2, none⟩ = some (.string t2) := O2.cell (i := 2) (by omega)
  have q3 : w1.cell? ⟨w.heap.size + 1 + 1, 3, none⟩ = some (.int .i64 z3) := O2.cell (i := 3) (by omega)
  have q4 : w1.cell? ⟨w.heap.size + 1 + 1, 4, none⟩ = some (.int .i64 z4) := O2.cell (i := 4) (by omega)
  have q5 : w1.cell? ⟨w.heap.size + 1 + 1, 5, none⟩ = some (.slice none 0 0) := O2.cell (i := 5) (by omega)
  have qf := O2.frozen 5
  have t0 : w1.cell? ⟨w.heap.size + 1, 0, none⟩ = some (.int .i64 0) := O1.cell (i := 0) (by omega)
  have u1 : w1.cell? ⟨w.heap.size + 1, 1, none⟩ = some (.string ⟨#[]⟩) := O1.cell (i := 1) (by omega)
  have u2 : w1.cell? ⟨w.heap.size + 1, 2, none⟩ = some (.string ⟨#[]⟩) := O1.cell (i := 2) (by omega)
  have t3 : w1.cell? ⟨w.heap.size + 1, 3, none⟩ = some (.int .i64 0) := O1.cell (i := 3) (by omega)
  have t4 : w1.cell? ⟨w.heap.size + 1, 4, none⟩ = some (.int .i64 0) := O1.cell (i := 4) (by omega)
  have t5 : w1.cell? ⟨w.heap.size + 1, 5, none⟩ = some (.slice none 0 0) := O1.cell (i := 5) (by omega)
  have s0 := O1.frozen 0
  have s1 := O1.frozen 1
  have s2 := O1.frozen 2
  have s3 := O1.frozen 3
  have s4 := O1.frozen 4
  have s5 := O1.frozen 5
  have hz1 : w.heap.size + 1 + 1 < w1.heap.size := O2.lt
  clear O1 O2
  go_wp2
  refine bodyPost_ret (v := .agg #[.int .i64 z0, .string t1, .string t2, .int .i64 z3, .int .i64 z4, .slice dB eB fB]) (by simp [results, Try.results16, go_sem, t0, u1, u2, t3, t4, t5]) rfl ⟨_, _, _, _, _, _, _, _, rfl, ?_, ?_⟩
  · exact ((((((HB1.out.setCell (by simp; omega) _).setCell (by simp) _).setCell (by simp) _).setCell (by simp) _).setCell (by simp) _).setCell (by simp) _).setCell (by simp) _
  · refine ⟨H0.out, (HO1.out.keep fun b hb hlt => ?_).mono fun b hb => ?_⟩
    · rw [Below.heap_setCell _ _ _ _ (by simp; omega), Below.heap_setCell _ _ _ _ (by simp; omega), Below.heap_setCell _ _ _ _ (by simp; omega), Below.heap_setCell _ _ _ _ (by simp; omega), Below.heap_setCell _ _ _ _ (by simp; omega), Below.heap_setCell _ _ _ _ (by simp; omega), Below.heap_setCell _ _ _ _ (by simp; omega)]
    · unfold fresh
      simp only [World.setCell, Array.size_modify]
      omega
end Go.Proofs.Ytpfafcodihhdfaa

namespace Go.Proofs.Ytpfafcodihhdfaa
open Go.ChangeShapes Go.WideShapes Go.ChangeAt Go.RowKit Go.Deep
set_option maxRecDepth 100000

section
variable {H : Type} {enc : TypeId × Value → H} {P : Program} {w : World} {base : Nat} {held : Bool}

theorem addr_of {a : Addr} {v : Value} (h : w.cell? (a.add 0) = some v) : a = ⟨a.block, a.off, none⟩ := by
  obtain ⟨b, o, s⟩ := a
  have : s = none := by simpa [Addr.add] using World.cell?_spot h
  subst this; rfl
theorem add_plain (b off k : Nat) : (⟨b, off, none⟩ : Addr).add k = ⟨b, off + k, none⟩ := by
  by_cases h : k = 0
  · subst h; simp [Addr.add]
  · simp [Addr.add, h]

theorem open_Ints {t e : TypeId} {fuel : Nat} {v : Value} {x : DataW H × List MemPlace} (ht : P.underlying t = some (.slice e)) (he : P.underlying e = some (.int .i64)) (ce : P.cellsOf e = 1) (h : DataW.trod enc P w base (fun _ => true) held fuel t [v] = some x) :
    ∃ zs, Ints w v zs := by
  rcases open_ints ht he ce h with ⟨hcs, _⟩ | ⟨a, len, cap, zs, hcs, _, hl, hm, hz, _, hcell, _⟩
  · simp only [List.cons.injEq, and_true] at hcs
    exact ⟨[], Or.inl ⟨rfl, none, 0, hcs⟩⟩
  · simp only [List.cons.injEq, and_true] at hcs
    simp only [if_true] at hz
    by_cases h0 : len = 0
    · subst h0; exact ⟨[], Or.inl ⟨rfl, some a, cap, hcs⟩⟩
    · have ha := addr_of (hcell 0 (by omega))
      refine ⟨zs.take len, Or.inr ⟨a.block, a.off, cap, ?_, ?_, fun k hk => ?_⟩⟩
      · rw [hcs, List.length_take, Nat.min_eq_left (by omega), ← ha]
      · rw [List.length_take]; omega
      · rw [List.length_take] at hk
        have h1 := hcell k (by omega)
        rw [ha, add_plain] at h1
        rw [h1, List.getElem?_take, if_pos (by omega)]
        rfl

theorem open_IntsS {t e q : TypeId} {fuel : Nat} {v : Value} {x : DataW H × List MemPlace} (ht : P.underlying t = some (.slice e)) (he : P.underlying e = some (.slice q)) (hq : P.underlying q = some (.int .i64)) (ce : P.cellsOf e = 1) (cq : P.cellsOf q = 1)
    (h : DataW.trod enc P w base (fun _ => true) held fuel t [v] = some x) : ∃ zss, IntsS w v zss := by
  rcases open_slice1 ht ce h with ⟨hcs, _⟩ | ⟨a, len, cap, m, n, V, D, Pl, hcs, _, hl, hm, hmm, _, hx⟩
  · simp only [List.cons.injEq, and_true] at hcs
    exact ⟨[], Or.inl ⟨rfl, none, 0, hcs⟩⟩
  · simp only [List.cons.injEq, and_true] at hcs
    simp only [if_true] at hmm
    by_cases h0 : len = 0
    · subst h0; exact ⟨[], Or.inl ⟨rfl, some a, cap, hcs⟩⟩
    · have ha := addr_of (hx 0 (by omega)).1
      obtain ⟨Z, hZ⟩ := choose_lt (α := List Int) (n := m) (p := fun i zs => Ints w (V i) zs) fun i hi => open_Ints he hq cq (hx i hi).2
      refine ⟨(List.range len).map Z, Or.inr ⟨a.block, a.off, cap, V, ?_, ?_, fun k hk => ?_⟩⟩
      · simp only [List.length_map, List.length_range]; rw [hcs, ← ha]
      · simp only [List.length_map, List.length_range]; omega
      · simp only [List.length_map, List.length_range] at hk
        have h1 := (hx k (by omega)).1
        rw [ha, add_plain] at h1
        refine ⟨h1, ?_⟩
        have := hZ k (by omega)
        simpa [hk] using this

theorem open_Puts {t e q : TypeId} {f0 f1 : Field} {fuel : Nat} {v : Value} {x : DataW H × List MemPlace} (ht : P.underlying t = some (.slice e)) (he : P.underlying e = some (.struct #[f0, f1]))
    (ce : P.cellsOf e = 2) (o0 : f0.offset = 0) (o1 : f1.offset = 1) (c0 : P.cellsOf f0.type = 1) (c1 : P.cellsOf f1.type = 1) (h0 : P.underlying f0.type = some (.int .i64)) (h1 : P.underlying f1.type = some (.slice q)) (hq : P.underlying q = some (.int .i64)) (cq : P.cellsOf q = 1)
    (h : DataW.trod enc P w base (fun _ => true) held fuel t [v] = some x) : ∃ ps, Puts w v ps := by
  rcases open_slice_pairs ht he ce o0 o1 c0 c1 h with ⟨hcs, _⟩ | ⟨a, len, cap, m, n, V0, V1, D0, D1, P0, P1, hcs, _, hl, hm, hmm, _, hx⟩
  · simp only [List.cons.injEq, and_true] at hcs
    exact ⟨[], Or.inl ⟨rfl, none, 0, hcs⟩⟩
  · simp only [List.cons.injEq, and_true] at hcs
    simp only [if_true] at hmm
    by_cases hl0 : len = 0
    · subst hl0; exact ⟨[], Or.inl ⟨rfl, some a, cap, hcs⟩⟩
    · have ha := addr_of (by simpa using (hx 0 (by omega)).1)
      obtain ⟨Z, hZ⟩ := choose_lt (α := Int × List Int) (n := m) (p := fun i z => V0 i = .int .i64 z.1 ∧ Ints w (V1 i) z.2) fun i hi => by
        obtain ⟨_, _, g0, g1⟩ := hx i hi
        obtain ⟨zs, hzs⟩ := open_Ints h1 hq cq g1
        obtain ⟨y, hy, _⟩ := DataW.trod_int h0 g0
        simp only [List.cons.injEq, and_true] at hy
        exact ⟨(y, zs), hy, hzs⟩
      refine ⟨(List.range len).map Z, Or.inr ⟨a.block, a.off, cap, V1, ?_, ?_, fun k hk => ?_⟩⟩
      · simp only [List.length_map, List.length_range]; rw [hcs, ← ha]
      · simp only [List.length_map, List.length_range]; omega
      · simp only [List.length_map, List.length_range] at hk
        obtain ⟨e0, e1, _, _⟩ := hx k (by omega)
        rw [ha, add_plain] at e0 e1
        obtain ⟨g0, g1⟩ := hZ k (by omega)
        rw [g0] at e0
        have hg : ((List.range len).map Z)[k]?.getD (0, []) = Z k := by simp [hk]
        rw [hg]
        exact ⟨e0, e1, g1⟩
end

end Go.Proofs.Ytpfafcodihhdfaa

namespace Go.Proofs.Ytpfafcodihhdfaa
open Go.ChangeShapes Go.WideShapes Go.ChangeAt Go.RowKit Go.Joins
set_option maxRecDepth 100000

theorem Try.own : ownKnob Try.prog.godebug = none := by kernel_rfl
theorem Try.laidOut : laidOutB Try.prog = true := by kernel_rfl
theorem Try.cellsInt : Try.prog.cellsOf 2 = 1 := by kernel_rfl
theorem Try.cellsInts : Try.prog.cellsOf 73 = 1 := by kernel_rfl

end Go.Proofs.Ytpfafcodihhdfaa

namespace Go.Proofs.Ytpfafcodihhdfaa
open Go.ChangeShapes Go.WideShapes Go.ChangeAt Go.RowKit Go.Joins Go.Deep
set_option maxRecDepth 100000

theorem open_Ents {H : Type} {enc : TypeId × Value → H} {P : Program} {w : World} {base : Nat} {held : Bool} {t e : TypeId} {f0 f1 : Field} {fuel : Nat} {v : Value} {x : DataW H × List MemPlace} (ht : P.underlying t = some (.slice e)) (he : P.underlying e = some (.struct #[f0, f1]))
    (ce : P.cellsOf e = 2) (o0 : f0.offset = 0) (o1 : f1.offset = 1) (c0 : P.cellsOf f0.type = 1) (c1 : P.cellsOf f1.type = 1) (h0 : P.underlying f0.type = some .string) (h1 : P.underlying f1.type = some (.int .i64))
    (h : DataW.trod enc P w base (fun _ => true) held fuel t [v] = some x) : ∃ es, Ents w v es := by
  rcases open_slice ht h with ⟨hcs, _⟩ | ⟨a, len, cap, m, n, D, Pl, hcs, hb, hl, hm, hmm, _, hx⟩
  · simp only [List.cons.injEq, and_true] at hcs
    exact ⟨[], by rw [hcs]; exact Ents.nil w none 0⟩
  · simp only [List.cons.injEq, and_true] at hcs
    simp only [if_true] at hmm
    by_cases hl0 : len = 0
    · subst hl0; exact ⟨[], by rw [hcs]; exact Ents.nil w (some a) cap⟩
    · have each : ∀ i, i < m → ∃ q : EN, w.cell? (a.add (i * 2)) = some (.string q.1) ∧ w.cell? (a.add (i * 2 + 1)) = some (.int .i64 q.2) ∧ q.1.size ≤ maxLen := by
        intro i hi
        obtain ⟨cs', k1, k2⟩ := hx i hi
        rw [ce] at k1
        obtain ⟨_, hlen, hcell⟩ := World.cells?_some k1
        obtain ⟨xs, k, hk, hxy, _, hxl, hf⟩ := DataW.trod_struct he k2
        match xs, hxl, cs', hlen with
        | [y0, y1], _, [v0, v1], _ =>
          have g0 := hf 0 f0 rfl
          have g1 := hf 1 f1 rfl
          simp [o0, o1, c0, c1] at g0 g1
          have e0 := hcell 0 (by omega)
          have e1 := hcell 1 (by omega)
          rw [add_add] at e0 e1
          obtain ⟨z0, hz0, _, hs⟩ := DataW.trod_string h0 g0
          obtain ⟨z1, hz1, _⟩ := DataW.trod_int h1 g1
          simp only [List.cons.injEq, and_true] at hz0 hz1
          subst hz0 hz1
          exact ⟨(z0, z1), by simpa using e0, by simpa using e1, hs⟩
      obtain ⟨q, hq⟩ := choose_lt each
      have ha := addr_of (by simpa using (hq 0 (by omega)).1)
      refine ⟨(List.range len).map q, some a, cap, ?_, ?_, fun k hk => ?_⟩
      · simp only [List.length_map, List.length_range]; exact hcs
      · simp only [List.length_map, List.length_range]
        refine ⟨by omega, by omega, fun k => ?_⟩
        by_cases hk : k < len
        · have hg : ((List.range len).map q)[k]?.getD en0 = q k := by simp [hk]
          rw [hg]
          exact (hq k (by omega)).2.2
        · rw [List.getElem?_eq_none (by simpa using Nat.le_of_not_lt hk)]
          simp [en0, ByteArray.size]
      · simp only [List.length_map, List.length_range] at hk
        obtain ⟨e0, e1, _⟩ := hq k (by omega)
        rw [ha, add_plain] at e0 e1
        have hg : ((List.range len).map q)[k]?.getD en0 = q k := by simp [hk]
        rw [hg]
        exact ⟨a.block, a.off, by rw [← ha], e0, e1⟩

theorem open_cap {H : Type} {enc : TypeId × Value → H} {P : Program} {w : World} {base : Nat} {held : Bool} {t e : TypeId} {fuel : Nat} {v : Value} {x : DataW H × List MemPlace} (ht : P.underlying t = some (.slice e)) (h : DataW.trod enc P w base (fun _ => true) held fuel t [v] = some x) : capOK v := by
  rcases DataW.trod_slice ht h with ⟨hcs, _⟩ | ⟨a, len, cap, _, _, _, _, hcs, _, _, hl, _⟩
  · simp only [List.cons.injEq, and_true] at hcs
    exact ⟨none, 0, 0, hcs, Nat.le_refl _⟩
  · simp only [List.cons.injEq, and_true] at hcs
    exact ⟨some a, len, cap, hcs, hl⟩
theorem Try.cellsStr : Try.prog.cellsOf 9 = 1 := by kernel_rfl
theorem Try.cellsEnt : Try.prog.cellsOf 112 = 2 := by kernel_rfl
theorem Try.cellsEnts : Try.prog.cellsOf 74 = 1 := by kernel_rfl
theorem Try.cellsIno : Try.prog.cellsOf 76 = 5 := by kernel_rfl
theorem array5 {α : Type} {a : Array α} (h : a.size = 5) : ∃ x0 x1 x2 x3 x4, a = #[x0, x1, x2, x3, x4] := by
  obtain ⟨l⟩ := a
  match l, h with
  | [x0, x1, x2, x3, x4], _ => exact ⟨x0, x1, x2, x3, x4, rfl⟩
theorem open_InoU {H : Type} {enc : TypeId × Value → H} {W : World} {r : Reach} {b0 : Nat} {v : Value} {d : DataW H} {p : List MemPlace} (hv : Value.okWide Try.prog W r b0 76 v) (h : DataW.Trod enc Try.prog W 0 (fun _ => true) true 76 v d p) :
    ∃ v0 v1 v2 vB vE id, v = .agg #[v0, v1, v2, vB, vE] ∧ InoR W v0 v1 v2 vB vE id := by
  obtain ⟨cs, rfl, hsz⟩ := okWide_struct Try.underlying76 hv
  obtain ⟨c0, c1, c2, c3, c4, rfl⟩ := array5 (hsz.trans Try.cellsIno)
  obtain ⟨fuel, hf⟩ := h
  obtain ⟨xs, k, hk, hxy, _, hxl, hg⟩ := DataW.trod_struct Try.underlying76 hf
  match xs, hxl with
  | [y0, y1, y2, y3, y4], _ =>
    have g0 : DataW.trod enc Try.prog W 0 (fun _ => true) true k 2 [c0] = some y0 := by simpa [Value.cells, Try.cellsInt] using hg 0 _ rfl
    have g1 : DataW.trod enc Try.prog W 0 (fun _ => true) true k 2 [c1] = some y1 := by simpa [Value.cells, Try.cellsInt] using hg 1 _ rfl
    have g2 : DataW.trod enc Try.prog W 0 (fun _ => true) true k 2 [c2] = some y2 := by simpa [Value.cells, Try.cellsInt] using hg 2 _ rfl
    have g3 : DataW.trod enc Try.prog W 0 (fun _ => true) true k 73 [c3] = some y3 := by simpa [Value.cells, Try.cellsInts] using hg 3 _ rfl
    have g4 : DataW.trod enc Try.prog W 0 (fun _ => true) true k 74 [c4] = some y4 := by simpa [Value.cells, Try.cellsEnts] using hg 4 _ rfl
    obtain ⟨z0, hz0, _⟩ := DataW.trod_int Try.underlying2 g0
    obtain ⟨z1, hz1, _⟩ := DataW.trod_int Try.underlying2 g1
    obtain ⟨z2, hz2, _⟩ := DataW.trod_int Try.underlying2 g2
    simp only [List.cons.injEq, and_true] at hz0 hz1 hz2
    obtain ⟨bs, hbs⟩ := open_Ints Try.underlying73 Try.underlying2 Try.cellsInt g3
    obtain ⟨es, hes⟩ := open_Ents Try.underlying74 Try.underlying112 Try.cellsEnt rfl rfl Try.cellsStr Try.cellsInt Try.underlying9 Try.underlying2 g4
    exact ⟨c0, c1, c2, c3, c4, (z0, z1, z2, bs, es), rfl, ⟨hz0, hz1, hz2, open_cap Try.underlying73 g3⟩, hbs, hes⟩
end Go.Proofs.Ytpfafcodihhdfaa

namespace Go.Proofs.Ytpfafcodihhdfaa
open Go.RowKit
set_option maxRecDepth 100000

def id0 : ID := (0, 0, 0, [], [])
/-- The cells of a row of inodes. -/
def inCell (ds : List ID) (u : Nat → Value × Value) (j : Nat) : Value :=
  if j % 5 = 0 then .int .i64 (ds[j / 5]?.getD id0).1 else if j % 5 = 1 then .int .i64 (ds[j / 5]?.getD id0).2.1 else if j % 5 = 2 then .int .i64 (ds[j / 5]?.getD id0).2.2.1 else if j % 5 = 3 then (u (j / 5)).1 else (u (j / 5)).2
theorem inCell_0 (ds : List ID) (u : Nat → Value × Value) (k : Nat) : inCell ds u (k * 5) = .int .i64 (ds[k]?.getD id0).1 := by
  unfold inCell; rw [if_pos (by omega), show k * 5 / 5 = k by omega]
theorem inCell_1 (ds : List ID) (u : Nat → Value × Value) (k : Nat) : inCell ds u (k * 5 + 1) = .int .i64 (ds[k]?.getD id0).2.1 := by
  unfold inCell; rw [if_neg (by omega), if_pos (by omega), show (k * 5 + 1) / 5 = k by omega]
theorem inCell_2 (ds : List ID) (u : Nat → Value × Value) (k : Nat) : inCell ds u (k * 5 + 2) = .int .i64 (ds[k]?.getD id0).2.2.1 := by
  unfold inCell; rw [if_neg (by omega), if_neg (by omega), if_pos (by omega), show (k * 5 + 2) / 5 = k by omega]
theorem inCell_3 (ds : List ID) (u : Nat → Value × Value) (k : Nat) : inCell ds u (k * 5 + 3) = (u k).1 := by
  unfold inCell; rw [if_neg (by omega), if_neg (by omega), if_neg (by omega), if_pos (by omega), show (k * 5 + 3) / 5 = k by omega]
theorem inCell_4 (ds : List ID) (u : Nat → Value × Value) (k : Nat) : inCell ds u (k * 5 + 4) = (u k).2 := by
  unfold inCell; rw [if_neg (by omega), if_neg (by omega), if_neg (by omega), if_neg (by omega), show (k * 5 + 4) / 5 = k by omega]

/-- Inode d lies at block b, place o. -/
def InoAt (w : World) (b o : Nat) (d : ID) : Prop :=
  ∃ aB cB aE cE, w.cell? ⟨b, o, none⟩ = some (.int .i64 d.1) ∧ w.cell? ⟨b, o + 1, none⟩ = some (.int .i64 d.2.1) ∧ w.cell? ⟨b, o + 2, none⟩ = some (.int .i64 d.2.2.1) ∧
    w.cell? ⟨b, o + 3, none⟩ = some (.slice aB d.2.2.2.1.length cB) ∧ w.cell? ⟨b, o + 4, none⟩ = some (.slice aE d.2.2.2.2.length cE) ∧
    InoR w (.int .i64 d.1) (.int .i64 d.2.1) (.int .i64 d.2.2.1) (.slice aB d.2.2.2.1.length cB) (.slice aE d.2.2.2.2.length cE) d
theorem InoAt.later {w w' : World} {b o : Nat} {d : ID} (h : InoAt w b o d) (hb : Below w.heap.size w w') : InoAt w' b o d := by
  obtain ⟨aB, cB, aE, cE, h0, h1, h2, h3, h4, h5⟩ := h
  exact ⟨aB, cB, aE, cE, cell_later hb h0, cell_later hb h1, cell_later hb h2, cell_later hb h3, cell_later hb h4, h5.later hb⟩
theorem InoAt.mk' {w : World} {b o : Nat} {d : ID} {vB vE : Value} (h0 : w.cell? ⟨b, o, none⟩ = some (.int .i64 d.1)) (h1 : w.cell? ⟨b, o + 1, none⟩ = some (.int .i64 d.2.1)) (h2 : w.cell? ⟨b, o + 2, none⟩ = some (.int .i64 d.2.2.1)) (h3 : w.cell? ⟨b, o + 3, none⟩ = some vB) (h4 : w.cell? ⟨b, o + 4, none⟩ = some vE)
    (h : InoR w (.int .i64 d.1) (.int .i64 d.2.1) (.int .i64 d.2.2.1) vB vE d) : InoAt w b o d := by
  obtain ⟨aB, cB, eB, _, _⟩ := h.2.1.open'
  obtain ⟨aE, cE, eE, _, _⟩ := h.2.2.open'
  subst eB eE
  exact ⟨aB, cB, aE, cE, h0, h1, h2, h3, h4, h⟩

/-- Where the inodes of a list lie. -/
def AtI (w : World) (a : Option Addr) (n : Nat) (ds : List ID) : Prop :=
  ∀ k, k < n → ∃ b o, a = some ⟨b, o, none⟩ ∧ InoAt w b (o + k * 5) (ds[k]?.getD id0)
theorem AtI.later {w w' : World} {a : Option Addr} {n : Nat} {ds : List ID} (h : AtI w a n ds) (hb : Below w.heap.size w w') : AtI w' a n ds := fun k hk => by
  obtain ⟨b, o, e, h1⟩ := h k hk
  exact ⟨b, o, e, h1.later hb⟩
/-- The slice v reads as the inodes ds. -/
def Inos (w : World) (v : Value) (ds : List ID) : Prop := ∃ a cap, v = .slice a ds.length cap ∧ (ds.length ≤ maxLen ∧ ds.length ≤ cap) ∧ AtI w a ds.length ds
theorem Inos.later {w w' : World} {v : Value} {ds : List ID} (h : Inos w v ds) (hb : Below w.heap.size w w') : Inos w' v ds := by
  obtain ⟨a, cap, h1, h2, h3⟩ := h
  exact ⟨a, cap, h1, h2, h3.later hb⟩
theorem Inos.nil (w : World) (a : Option Addr) (cap : Nat) : Inos w (.slice a 0 cap) [] := ⟨a, cap, rfl, ⟨by simp, by simp⟩, fun k hk => by simp at hk⟩
theorem Inos.open' {w : World} {v : Value} {ds : List ID} (h : Inos w v ds) : ∃ a cap, v = .slice a ds.length cap ∧ (ds.length ≤ maxLen ∧ ds.length ≤ cap) ∧ AtI w a ds.length ds := h

/-- The slice v holds the inodes ds; no two of their lists, nor the outer one, lie in one block. -/
def InosO (w : World) (v : Value) (ds : List ID) (F : Nat → Prop) : Prop :=
  (ds = [] ∧ ∃ a cap, v = .slice a 0 cap) ∨
  (∃ b cap, ∃ u : Nat → Value × Value, ∃ G : Nat → Nat → Prop, F b ∧ (∀ i c, G i c → F c ∧ c ≠ b) ∧ (∀ i j c, i ≠ j → G i c → ¬ G j c) ∧
    v = .slice (some ⟨b, 0, none⟩) ds.length cap ∧ (ds.length ≤ maxLen ∧ ds.length ≤ cap) ∧ OwnRow w b (ds.length * 5) (inCell ds u) ∧
    ∀ i, i < ds.length → InoU w (.int .i64 (ds[i]?.getD id0).1) (.int .i64 (ds[i]?.getD id0).2.1) (.int .i64 (ds[i]?.getD id0).2.2.1) (u i).1 (u i).2 (ds[i]?.getD id0) (G i))
theorem InosO.reads {w : World} {v : Value} {ds : List ID} {F : Nat → Prop} (h : InosO w v ds F) : Inos w v ds := by
  rcases h with ⟨rfl, a, cap, rfl⟩ | ⟨b, cap, u, G, _, _, _, h1, h2, h3, h4⟩
  · exact Inos.nil w a cap
  · refine ⟨_, cap, h1, h2, fun k hk => ⟨b, 0, rfl, ?_⟩⟩
    rw [Nat.zero_add]
    have e0 := h3.cell (i := k * 5) (by omega)
    have e1 := h3.cell (i := k * 5 + 1) (by omega)
    have e2 := h3.cell (i := k * 5 + 2) (by omega)
    have e3 := h3.cell (i := k * 5 + 3) (by omega)
    have e4 := h3.cell (i := k * 5 + 4) (by omega)
    rw [inCell_0] at e0
    rw [inCell_1] at e1
    rw [inCell_2] at e2
    rw [inCell_3] at e3
    rw [inCell_4] at e4
    exact InoAt.mk' e0 e1 e2 e3 e4 (h4 k hk).reads
theorem InosO.keep {w w' : World} {v : Value} {ds : List ID} {F : Nat → Prop} (h : InosO w v ds F) (e : ∀ b, F b → b < w.heap.size → w'.heap[b]? = w.heap[b]?) : InosO w' v ds F := by
  rcases h with h | ⟨b, cap, u, G, hF, hG, hGG, h1, h2, h3, h4⟩
  · exact Or.inl h
  · exact Or.inr ⟨b, cap, u, G, hF, hG, hGG, h1, h2, h3.block (e b hF h3.lt), fun i hi => (h4 i hi).keep fun c hc => e c (hG i c hc).1⟩
theorem InosO.mono {w : World} {v : Value} {ds : List ID} {F F' : Nat → Prop} (h : InosO w v ds F) (e : ∀ b, F b → F' b) : InosO w v ds F' := by
  rcases h with h | ⟨b, cap, u, G, hF, hG, h1⟩
  · exact Or.inl h
  · exact Or.inr ⟨b, cap, u, G, e b hF, fun i c hc => ⟨e c (hG i c hc).1, (hG i c hc).2⟩, h1⟩
theorem InosO.later {w w' : World} {v : Value} {ds : List ID} {F : Nat → Prop} (h : InosO w v ds F) (hb : Below w.heap.size w w') : InosO w' v ds F := h.keep fun b _ hlt => hb.block b hlt
theorem InosO.chg {w w' : World} {v : Value} {ds : List ID} {F G : Nat → Prop} (h : InosO w v ds F) (hc : Chg G w w') (hd : ∀ b, F b → ¬ G b) : InosO w' v ds F := h.keep fun b hb hlt => hc.block b hlt (hd b hb)

/-- How great lists of inodes are, and how far they are marked. -/
def isz (ds : List ID) : List Nat := ds.map sizeIno
theorem isz_length (ds : List ID) : (isz ds).length = ds.length := by simp [isz]
theorem isz_get (ds : List ID) (i : Nat) : (isz ds)[i]?.getD 0 = sizeIno (ds[i]?.getD id0) := by
  unfold isz; rw [List.getElem?_map]; cases ds[i]? <;> rfl
def sizeInos (ds : List ID) : Nat := ds.length + (isz ds).sum
def isp (ds : List ID) : List Nat := ds.map fun d => 3 + spanIno d
theorem isp_length (ds : List ID) : (isp ds).length = ds.length := by simp [isp]
theorem isp_get (ds : List ID) (i : Nat) (h : i < ds.length) : (isp ds)[i]?.getD 0 = 3 + spanIno (ds[i]?.getD id0) := by
  unfold isp; rw [List.getElem?_map, List.getElem?_eq_getElem h]; rfl
def spanInos (ds : List ID) : Nat := (isp ds).sum
theorem spanInos_le (ds : List ID) : spanInos ds ≤ 3 * sizeInos ds := by
  unfold spanInos sizeInos isp isz
  induction ds with
  | nil => simp
  | cons d ds ih =>
    have := spanIno_le d
    simp only [List.map_cons, List.sum_cons, List.length_cons] at ih ⊢
    omega
theorem isz_le (ds : List ID) (k : Nat) : sizeIno (ds[k]?.getD id0) ≤ (isz ds).sum := by
  by_cases h : k < ds.length
  · have h1 := upto_succ (isz ds) k (by rw [isz_length]; exact h)
    rw [isz_get] at h1
    have h2 := upto_le (isz ds) (k + 1)
    omega
  · rw [List.getElem?_eq_none (by omega)]; simp [sizeIno, sizeN, nlens, id0]

/-- The first j inodes stand, inode i in the blocks from s i up to s (i + 1), none below lo. -/
structure BuiltI (w : World) (lo j : Nat) (u : Nat → Value × Value) (f : Nat → ID) (s : Nat → Nat) : Prop where
  lo : lo ≤ s 0
  mono : ∀ i, i < j → s i ≤ s (i + 1)
  hi : s j ≤ w.heap.size
  at' : ∀ i, i < j → InoU w (.int .i64 (f i).1) (.int .i64 (f i).2.1) (.int .i64 (f i).2.2.1) (u i).1 (u i).2 (f i) (fun b => s i ≤ b ∧ b < s (i + 1))
theorem BuiltI.nil {w : World} {lo : Nat} (u : Nat → Value × Value) (f : Nat → ID) (h : lo ≤ w.heap.size) : BuiltI w lo 0 u f (fun _ => w.heap.size) :=
  ⟨h, fun i hi => by omega, Nat.le_refl _, fun i hi => by omega⟩
theorem BuiltI.le {w : World} {lo j : Nat} {u : Nat → Value × Value} {f : Nat → ID} {s : Nat → Nat} (h : BuiltI w lo j u f s) : ∀ i k, i ≤ k → k ≤ j → s i ≤ s k := by
  intro i k hik
  induction k with
  | zero => intro _; have : i = 0 := by omega
            subst this; exact Nat.le_refl _
  | succ k ih =>
    intro hk
    by_cases e : i = k + 1
    · subst e; exact Nat.le_refl _
    · exact Nat.le_trans (ih (by omega) (by omega)) (h.mono k (by omega))
theorem BuiltI.low {w : World} {lo j : Nat} {u : Nat → Value × Value} {f : Nat → ID} {s : Nat → Nat} (h : BuiltI w lo j u f s) (i : Nat) (hi : i ≤ j) : lo ≤ s i := Nat.le_trans h.lo (h.le 0 i (Nat.zero_le _) hi)
theorem BuiltI.keep {w w' : World} {lo j : Nat} {u : Nat → Value × Value} {f : Nat → ID} {s : Nat → Nat} (h : BuiltI w lo j u f s) (hs : w.heap.size ≤ w'.heap.size) (e : ∀ b, lo ≤ b → b < w.heap.size → w'.heap[b]? = w.heap[b]?) : BuiltI w' lo j u f s :=
  ⟨h.lo, h.mono, Nat.le_trans h.hi hs, fun i hi => (h.at' i hi).keep fun b hb hlt => e b (Nat.le_trans (h.low i (by omega)) hb.1) hlt⟩
theorem BuiltI.later {w w' : World} {lo j : Nat} {u : Nat → Value × Value} {f : Nat → ID} {s : Nat → Nat} (h : BuiltI w lo j u f s) (hb : Below w.heap.size w w') : BuiltI w' lo j u f s := h.keep hb.size fun b _ hlt => hb.block b hlt
theorem BuiltI.store {w : World} {lo j : Nat} {u : Nat → Value × Value} {f : Nat → ID} {s : Nat → Nat} (h : BuiltI w lo j u f s) {p : Addr} (hp : p.block < lo) (v : Value) : BuiltI (w.setCell p v) lo j u f s :=
  h.keep (by simp [World.setCell]) fun b hb _ => Below.heap_setCell _ _ _ _ (by omega)
theorem BuiltI.next {w w' : World} {lo j : Nat} {u : Nat → Value × Value} {f : Nat → ID} {s : Nat → Nat} {vB vE : Value} (h : BuiltI w lo j u f s) (hb : Below w.heap.size w w') (hv : InoU w' (.int .i64 (f j).1) (.int .i64 (f j).2.1) (.int .i64 (f j).2.2.1) vB vE (f j) (fresh w w')) :
    BuiltI w' lo (j + 1) (fun i => if i = j then (vB, vE) else u i) f (fun i => if i ≤ j then s i else w'.heap.size) := by
  have h' := h.later hb
  have en : ∀ i : Nat, ¬ i + 1 ≤ i := fun i => by omega
  refine ⟨by simpa using h.lo, fun i hi => ?_, by simp [en], fun i hi => ?_⟩
  · by_cases e : i = j
    · subst e; simp [en]; exact h'.hi
    · simp [show i ≤ j by omega, show i + 1 ≤ j by omega]; exact h.mono i (by omega)
  · by_cases e : i = j
    · subst e
      simp [en]
      exact hv.mono fun b hb => ⟨Nat.le_trans h.hi hb.1, hb.2⟩
    · simp [e, show i ≤ j by omega, show i + 1 ≤ j by omega]
      exact h'.at' i (by omega)
theorem BuiltI.apart {w : World} {lo n : Nat} {u : Nat → Value × Value} {f : Nat → ID} {s : Nat → Nat} (h : BuiltI w lo n u f s) (i j c : Nat) (e : i ≠ j) (h1 : i < n ∧ s i ≤ c ∧ c < s (i + 1)) (h2 : j < n ∧ s j ≤ c ∧ c < s (j + 1)) : False := by
  rcases Nat.lt_or_gt_of_ne e with h3 | h3
  · have := h.le (i + 1) j (by omega) (by omega); omega
  · have := h.le (j + 1) i (by omega) (by omega); omega
theorem BuiltI.inos {w : World} {lo n b cap : Nat} {u : Nat → Value × Value} {s : Nat → Nat} (ds : List ID) (h : BuiltI w lo n u (fun i => ds[i]?.getD id0) s) (hn : ds.length = n) (hm : n ≤ maxLen ∧ n ≤ cap) (hb : b < lo) (hr : OwnRow w b (n * 5) (inCell ds u)) (F : Nat → Prop) (hF : F b) (hF' : ∀ c, lo ≤ c → c < w.heap.size → F c) :
    InosO w (.slice (some ⟨b, 0, none⟩) n cap) ds F := by
  subst hn
  refine Or.inr ⟨b, cap, u, fun i c => i < ds.length ∧ s i ≤ c ∧ c < s (i + 1), hF, fun i c hc => ?_, fun i j c e h1 h2 => h.apart i j c e h1 h2, rfl, hm, hr, fun i hi => ?_⟩
  · have h1 := h.low i (by omega)
    have h2 := h.le (i + 1) ds.length (by omega) (Nat.le_refl _)
    have h3 := h.hi
    exact ⟨hF' c (by omega) (by omega), by omega⟩
  · exact (h.at' i hi).mono fun c hc => ⟨hi, hc⟩

/-- The cells of a row of inodes of which the first j stand. -/
def zeroI (j : Nat) : Value := if j % 5 < 3 then .int .i64 0 else .slice none 0 0
def partI (ds : List ID) (u : Nat → Value × Value) (j c : Nat) : Value := if c < j * 5 then inCell ds u c else zeroI c
theorem partI_next (ds : List ID) (u : Nat → Value × Value) (j c : Nat) (vB vE : Value) :
    (if c = j * 5 + 4 then vE else if c = j * 5 + 3 then vB else if c = j * 5 + 2 then .int .i64 (ds[j]?.getD id0).2.2.1 else if c = j * 5 + 1 then .int .i64 (ds[j]?.getD id0).2.1 else if c = j * 5 then .int .i64 (ds[j]?.getD id0).1 else partI ds u j c) = partI ds (fun i => if i = j then (vB, vE) else u i) (j + 1) c := by
  unfold partI
  by_cases e4 : c = j * 5 + 4
  · subst e4; rw [if_pos rfl, if_pos (by omega), inCell_4]; simp
  · rw [if_neg e4]
    by_cases e3 : c = j * 5 + 3
    · subst e3; rw [if_pos rfl, if_pos (by omega), inCell_3]; simp
    · rw [if_neg e3]
      by_cases e2 : c = j * 5 + 2
      · subst e2; rw [if_pos rfl, if_pos (by omega), inCell_2]
      · rw [if_neg e2]
        by_cases e1 : c = j * 5 + 1
        · subst e1; rw [if_pos rfl, if_pos (by omega), inCell_1]
        · rw [if_neg e1]
          by_cases e0 : c = j * 5
          · subst e0; rw [if_pos rfl, if_pos (by omega), inCell_0]
          · rw [if_neg e0]
            by_cases e : c < j * 5
            · rw [if_pos e, if_pos (by omega)]
              unfold inCell
              dsimp only
              rw [if_neg (show ¬ c / 5 = j by omega)]
            · rw [if_neg e, if_neg (by omega)]

/-- 'make' of n inodes. -/
theorem run_make_five {P : Program} (t e : TypeId) (x0 x1 x2 x3 x4 : Value) (bytes : Nat) (ht : P.underlying t = some (.slice e)) (hinfo : (P.info? e).map (fun i => (i.zero, i.size, i.bytes)) = some (some (.agg #[x0, x1, x2, x3, x4]), 5, bytes)) (hz : (Value.agg #[x0, x1, x2, x3, x4]).cells = #[x0, x1, x2, x3, x4])
    (kl kc : IntKind) (n : Nat) (hbytes : bytes * n ≤ 281474976710656) (h63 : n ≤ 9223372036854775807) (w : World) :
    (Instr.makeSlice t (.int kl (n : Int)) (.int kc (n : Int))).run P w = .ok (.slice (some ⟨w.heap.size, 0, none⟩) n n) (w.alloc (.cells (madeCells #[x0, x1, x2, x3, x4] (n * 5)) e)) := by
  obtain ⟨i, hi, hzz⟩ := Option.map_eq_some_iff.1 hinfo
  simp only [Prod.mk.injEq] at hzz
  obtain ⟨h1, h2, h3⟩ := hzz
  have hb' : (i.bytes : Int) * (n : Int) ≤ 281474976710656 := by
    have h : ((i.bytes * n : Nat) : Int) ≤ 281474976710656 := by rw [h3]; omega
    rwa [Int.natCast_mul] at h
  have hr := run_make (P := P) w t e i _ ht hi h1 kl kc n n (by omega) (Int.le_refl _) hb' (by omega)
  simp only [Int.toNat_natCast, h2, hz] at hr
  exact hr
theorem OwnRow.madeFive (w : World) (n : Nat) (t : TypeId) : OwnRow (w.alloc (.cells (madeCells #[.int .i64 0, .int .i64 0, .int .i64 0, .slice none 0 0, .slice none 0 0] (n * 5)) t)) w.heap.size (n * 5) zeroI := by
  refine ⟨_, t, Go.Deep.blk_alloc_new _ _, by rw [size_madeCells]; exact Nat.le_refl _, fun i hi => ?_⟩
  unfold madeCells zeroI
  rw [Array.getElem?_map]
  have h1 : (Array.range (n * 5))[i]? = some i := by simp [hi]
  rw [h1]
  have : i % 5 = 0 ∨ i % 5 = 1 ∨ i % 5 = 2 ∨ i % 5 = 3 ∨ i % 5 = 4 := by omega
  rcases this with h | h | h | h | h <;> simp [h]
end Go.Proofs.Ytpfafcodihhdfaa

namespace Go.Proofs.Ytpfafcodihhdfaa
open Go.ChangeShapes Go.WideShapes Go.ChangeAt Go.RowKit Go.Joins Go.Deep
set_option maxRecDepth 100000

theorem open_Inos {H : Type} {enc : TypeId × Value → H} {w : World} {base : Nat} {held : Bool} {fuel : Nat} {v : Value} {x : DataW H × List MemPlace}
    (h : DataW.trod enc Try.prog w base (fun _ => true) held fuel 22 [v] = some x) : ∃ ds, Inos w v ds := by
  rcases open_slice Try.underlying22 h with ⟨hcs, _⟩ | ⟨a, len, cap, m, n, D, Pl, hcs, hb, hl, hm, hmm, _, hx⟩
  · simp only [List.cons.injEq, and_true] at hcs
    exact ⟨[], by rw [hcs]; exact Inos.nil w none 0⟩
  · simp only [List.cons.injEq, and_true] at hcs
    simp only [if_true] at hmm
    by_cases hl0 : len = 0
    · subst hl0; exact ⟨[], by rw [hcs]; exact Inos.nil w (some a) cap⟩
    · have each : ∀ i, i < m → ∃ q : ID, ∃ vB vE, w.cell? (a.add (i * 5)) = some (.int .i64 q.1) ∧ w.cell? (a.add (i * 5 + 1)) = some (.int .i64 q.2.1) ∧ w.cell? (a.add (i * 5 + 2)) = some (.int .i64 q.2.2.1) ∧ w.cell? (a.add (i * 5 + 3)) = some vB ∧ w.cell? (a.add (i * 5 + 4)) = some vE ∧ InoR w (.int .i64 q.1) (.int .i64 q.2.1) (.int .i64 q.2.2.1) vB vE q := by
        intro i hi
        obtain ⟨cs', k1, k2⟩ := hx i hi
        rw [Try.cellsIno] at k1
        obtain ⟨_, hlen, hcell⟩ := World.cells?_some k1
        obtain ⟨xs, k, hk, hxy, _, hxl, hg⟩ := DataW.trod_struct Try.underlying76 k2
        match xs, hxl, cs', hlen with
        | [y0, y1, y2, y3, y4], _, [c0, c1, c2, c3, c4], _ =>
          have g0 : DataW.trod enc Try.prog w base (fun _ => true) held k 2 [c0] = some y0 := by simpa [Try.cellsInt] using hg 0 _ rfl
          have g1 : DataW.trod enc Try.prog w base (fun _ => true) held k 2 [c1] = some y1 := by simpa [Try.cellsInt] using hg 1 _ rfl
          have g2 : DataW.trod enc Try.prog w base (fun _ => true) held k 2 [c2] = some y2 := by simpa [Try.cellsInt] using hg 2 _ rfl
          have g3 : DataW.trod enc Try.prog w base (fun _ => true) held k 73 [c3] = some y3 := by simpa [Try.cellsInts] using hg 3 _ rfl
          have g4 : DataW.trod enc Try.prog w base (fun _ => true) held k 74 [c4] = some y4 := by simpa [Try.cellsEnts] using hg 4 _ rfl
          have e0 := hcell 0 (by omega)
          have e1 := hcell 1 (by omega)
          have e2 := hcell 2 (by omega)
          have e3 := hcell 3 (by omega)
          have e4 := hcell 4 (by omega)
          rw [add_add] at e0 e1 e2 e3 e4
          obtain ⟨z0, hz0, _⟩ := DataW.trod_int Try.underlying2 g0
          obtain ⟨z1, hz1, _⟩ := DataW.trod_int Try.underlying2 g1
          obtain ⟨z2, hz2, _⟩ := DataW.trod_int Try.underlying2 g2
          simp only [List.cons.injEq, and_true] at hz0 hz1 hz2
          subst hz0 hz1 hz2
          obtain ⟨bs, hbs⟩ := open_Ints Try.underlying73 Try.underlying2 Try.cellsInt g3
          obtain ⟨es, hes⟩ := open_Ents Try.underlying74 Try.underlying112 Try.cellsEnt rfl rfl Try.cellsStr Try.cellsInt Try.underlying9 Try.underlying2 g4
          exact ⟨(z0, z1, z2, bs, es), c3, c4, by simpa using e0, by simpa using e1, by simpa using e2, by simpa using e3, by simpa using e4, ⟨rfl, rfl, rfl, open_cap Try.underlying73 g3⟩, hbs, hes⟩
      obtain ⟨q, hq⟩ := choose_lt each
      obtain ⟨_, _, hq0, _⟩ := hq 0 (by omega)
      have ha := addr_of (by simpa using hq0)
      refine ⟨(List.range len).map q, some a, cap, ?_, ?_, fun k hk => ?_⟩
      · simp only [List.length_map, List.length_range]; exact hcs
      · simp only [List.length_map, List.length_range]
        exact ⟨by omega, by omega⟩
      · simp only [List.length_map, List.length_range] at hk
        obtain ⟨vB, vE, e0, e1, e2, e3, e4, hR⟩ := hq k (by omega)
        rw [ha, add_plain] at e0 e1 e2 e3 e4
        have hg : ((List.range len).map q)[k]?.getD id0 = q k := by simp [hk]
        rw [hg]
        exact ⟨a.block, a.off, by rw [← ha], InoAt.mk' e0 e1 e2 e3 e4 hR⟩
end Go.Proofs.Ytpfafcodihhdfaa

namespace Go.Proofs.Ytpfafcodihhdfaa
open Go.RowKit
set_option maxRecDepth 100000

set_option maxHeartbeats 400000 in
theorem szInos_many (w : World) (a : Option Addr) (n cap : Nat) (left : Int) (h0 : 0 ≤ left) (h1 : left ≤ 1048576) (hn : n ≤ maxLen) (h : left < (n : Int)) :
    Calls Try.prog 19 #[.slice a n cap, .int .i64 left] w fun e w' => e = .returned (.int .i64 (-1)) ∧ w' = w := by
  unfold maxLen at hn
  have h' : left - (n : Int) < 0 := by omega
  go_enter Try.func19, Try.ntmps19
  go_wp2
  go_ret
  exact ⟨rfl, rfl⟩

set_option maxHeartbeats 1600000 in
theorem szInos_walk (w : World) (a : Option Addr) (cap n : Nat) (left : Int) (ds : List ID) (hzn : ds.length = n) (h0 : 0 ≤ left) (h1 : left ≤ 1048576) (h2 : ¬ left < (n : Int)) (hc : AtI w a n ds) :
    Calls Try.prog 19 #[.slice a n cap, .int .i64 left] w fun e w' => e = .returned (.int .i64 (szf left (n + (isz ds).sum))) ∧ Below w.heap.size w w' := by
  have HN : Hid (ds.length = n) := hzn
  have h2' : ¬ left - (n : Int) < 0 := by omega
  have HC : Hid (AtI w a n ds) := hc
  clear hzn hc
  go_enter Try.func19, Try.ntmps19
  go_wp2
  go_loopw [1, 5] (fun q i wr => ∃ j : Nat, j ≤ n ∧ i = .int .i64 j ∧ q = .int .i64 (left - (n : Int) - (upto (isz ds) j : Nat)) ∧ 0 ≤ left - (n : Int) - (upto (isz ds) j : Nat) ∧ Below w.heap.size w wr) (fun _ i _ => n - (intOf i).toNat)
  case atStart => exact ⟨0, Nat.zero_le _, rfl, by simp [upto_zero], by simp [upto_zero]; omega, Below.refl _ _⟩
  case round =>
    obtain ⟨j, hj, rfl, rfl, hq, hbl⟩ := hrel
    by_cases hlt : j < n
    · obtain ⟨b, o, rfl, hI⟩ := HC.out j hlt
      obtain ⟨aB, cB, aE, cE, c0, c1, c2, c3, c4, hR⟩ := hI.later hbl
      have hs := upto_succ (isz ds) j (by rw [isz_length, HN.out]; exact hlt)
      rw [isz_get] at hs
      have hle := upto_le (isz ds) (j + 1)
      have HS : Hid (upto (isz ds) (j + 1) = upto (isz ds) j + sizeIno (ds[j]?.getD id0)) := hs
      clear hs hI HC
      generalize upto (isz ds) j = U at *
      generalize ds[j]?.getD id0 = d at *
      have HI : Hid (InoR wr _ _ _ _ _ d) := hR
      have HBL : Hid (Below w.heap.size w wr) := hbl
      clear hR hbl
      by_cases hm : left - (n : Int) - (U : Int) < ((sizeIno d : Nat) : Int)
      · have HM : Hid (szf left (n + (isz ds).sum) = -1) := szf_no (by have := HS.out; omega)
        have HR' : Hid (szf (left - (n : Int) - (U : Int)) (sizeIno d) = -1) := szf_no hm
        go_wp2_with fail
        refine (szInodeU _ _ _ _ _ _ _ _ _ _ d HI.out _ hq (by omega)).mono ?_
        rw [HR'.out]
        rintro e w' ⟨rfl, hb⟩
        have HB : Hid (Below w.heap.size w w') := HBL.out.trans (hb.mono HBL.out.size)
        clear hb
        go_wp2
        go_ret
        exact ⟨ret_int HM.out.symm, HB.out⟩
      · have HR' : Hid (szf (left - (n : Int) - (U : Int)) (sizeIno d) = left - (n : Int) - (U : Int) - ((sizeIno d : Nat) : Int)) := szf_yes hm
        have hpos : ¬ (left - (n : Int) - (U : Int) - ((sizeIno d : Nat) : Int) < 0) := by omega
        go_wp2_with fail
        refine (szInodeU _ _ _ _ _ _ _ _ _ _ d HI.out _ hq (by omega)).mono ?_
        rw [HR'.out]
        rintro e w' ⟨rfl, hb⟩
        have HB : Hid (Below w.heap.size w w') := HBL.out.trans (hb.mono HBL.out.size)
        clear hb
        go_wp2
        go_roundw
        case rel => exact ⟨j + 1, by omega, by go_num, by rw [HS.out]; go_num, by rw [HS.out]; omega, HB.out⟩
        case measure => simp [intOf]; omega
    · go_wp2
      go_ret
      have e : j = n := by omega
      subst e
      have ha := upto_all (isz ds)
      rw [isz_length, HN.out] at ha
      refine ⟨ret_int ?_, hbl⟩
      rw [ha] at hq ⊢
      rw [szf_yes (by omega)]
      omega

theorem szInosU (w : World) (a : Option Addr) (n c : Nat) (d : List ID) (h : Inos w (.slice a n c) d) (left : Int) (l0 : 0 ≤ left) (l1 : left ≤ 1048576) :
    Calls Try.prog 19 #[.slice a n c, .int .i64 left] w fun e w' => e = .returned (.int .i64 (szf left (sizeInos d))) ∧ Below w.heap.size w w' := by
  obtain ⟨a', cap, e, hm, hc⟩ := h.open'
  simp only [Value.slice.injEq] at e
  obtain ⟨rfl, rfl, rfl⟩ := e
  by_cases h : left < (d.length : Int)
  · refine (szInos_many w _ d.length _ left l0 l1 hm.1 h).mono fun e w' ⟨he, hw⟩ => ⟨he.trans (ret_int ?_), hw ▸ Below.refl _ _⟩
    rw [szf_no (by unfold sizeInos; omega)]
  · exact szInos_walk w _ _ d.length left d rfl l0 l1 h hc

theorem toInodeV (w : World) (aB : Option Addr) (nB cB : Nat) (aE : Option Addr) (nE cE : Nat) (d : ID) (h : InoR w (.int .i64 d.1) (.int .i64 d.2.1) (.int .i64 d.2.2.1) (.slice aB nB cB) (.slice aE nE cE) d) (hs : sizeIno d ≤ 1048576) :
    Calls Try.prog 46 #[.agg #[.int .i64 d.1, .int .i64 d.2.1, .int .i64 d.2.2.1, .slice aB nB cB, .slice aE nE cE]] w fun e w' => ∃ dB eB fB dE eE fE, e = .returned (.agg #[.int .i64 d.1, .int .i64 d.2.1, .int .i64 d.2.2.1, .slice dB eB fB, .slice dE eE fE]) ∧ Below w.heap.size w w' ∧ InoU w' (.int .i64 d.1) (.int .i64 d.2.1) (.int .i64 d.2.2.1) (.slice dB eB fB) (.slice dE eE fE) d (fresh w w') := by
  refine (toInodeU w _ _ _ aB nB cB aE nE cE d h hs).mono ?_
  rintro e w' ⟨y0, y1, y2, dB, eB, fB, dE, eE, fE, rfl, hb, ⟨⟨e0, e1, e2, hcap⟩, hu⟩⟩
  simp only [Value.int.injEq, true_and] at e0 e1 e2
  subst e0 e1 e2
  exact ⟨dB, eB, fB, dE, eE, fE, rfl, hb, ⟨rfl, rfl, rfl, hcap⟩, hu⟩

theorem Try.infoIno : (Try.prog.info? 81).map (fun i => (i.zero, i.size, i.bytes)) = some (some (.agg #[.int .i64 0, .int .i64 0, .int .i64 0, .slice none 0 0, .slice none 0 0]), 5, 72) := by kernel_rfl

set_option maxHeartbeats 3200000 in
theorem toInos_walk (w : World) (a : Option Addr) (cap n : Nat) (ds : List ID) (hn : n ≤ 1048576) (hz : ∀ k : Nat, sizeIno (ds[k]?.getD id0) ≤ 1048576) (hc : AtI w a n ds) :
    Calls Try.prog 23 #[.slice a n cap] w fun e w' => e = .returned (.slice (some ⟨w.heap.size, 0, none⟩) n n) ∧ Below w.heap.size w w' ∧
      ∃ u s, OwnRow w' w.heap.size (n * 5) (inCell ds u) ∧ BuiltI w' (w.heap.size + 1) n u (fun i => ds[i]?.getD id0) s := by
  have hmk := fun w => run_make_five (P := Try.prog) 31 81 (.int .i64 0) (.int .i64 0) (.int .i64 0) (.slice none 0 0) (.slice none 0 0) 72 Try.underlying31 Try.infoIno rfl .i64 .i64 n (by omega) (by omega) w
  have HZ : Hid (∀ k : Nat, sizeIno (ds[k]?.getD id0) ≤ 1048576) := hz
  have HC : Hid (AtI w a n ds) := hc
  clear hz hc
  go_enter Try.func23, Try.ntmps23
  go_wp2
  clear hmk
  go_loopw [4] (fun i wr => ∃ j : Nat, j ≤ n ∧ i = .int .i64 j ∧ Below w.heap.size w wr ∧ ∃ u s, OwnRow wr w.heap.size (n * 5) (partI ds u j) ∧ BuiltI wr (w.heap.size + 1) j u (fun i => ds[i]?.getD id0) s) (fun i _ => n - (intOf i).toNat)
  case atStart => exact ⟨0, Nat.zero_le _, rfl, later1 _ _, fun _ => (.slice none 0 0, .slice none 0 0), _, (OwnRow.madeFive w n 81).congr fun i _ => by simp [partI], BuiltI.nil _ _ (by simp)⟩
  case round =>
    obtain ⟨j, hj, rfl, hbl, u, s, hrow, hbt⟩ := hrel
    by_cases hlt : j < n
    · obtain ⟨b, o, rfl, hI⟩ := HC.out j hlt
      obtain ⟨aB, cB, aE, cE, c0, c1, c2, c3, c4, hR⟩ := hI.later hbl
      have HI : Hid (InoR wr _ _ _ _ _ (ds[j]?.getD id0)) := hR
      have HBL : Hid (Below w.heap.size w wr) := hbl
      have HROW : Hid (OwnRow wr w.heap.size (n * 5) (partI ds u j)) := hrow
      have HBT : Hid (BuiltI wr (w.heap.size + 1) j u (fun i => ds[i]?.getD id0) s) := hbt
      clear hI hR hbl hrow hbt HC
      go_wp2_with fail
      refine (toInodeV _ _ _ _ _ _ _ _ HI.out (HZ.out j)).mono ?_
      rintro e w1 ⟨dB, eB, fB, dE, eE, fE, rfl, hb1, ho1⟩
      have HB1 : Hid (Below wr.heap.size wr w1) := hb1
      have HO1 : Hid (InoU w1 _ _ _ (.slice dB eB fB) (.slice dE eE fE) (ds[j]?.getD id0) (fresh wr w1)) := ho1
      have HROW1 : Hid (OwnRow w1 w.heap.size (n * 5) (partI ds u j)) := HROW.out.block (hb1.block _ HROW.out.lt)
      have zz : ∀ q, q < 5 → partI ds u j (j * 5 + q) = zeroI q := fun q hq => by unfold partI zeroI; rw [if_neg (by omega), show (j * 5 + q) % 5 = q % 5 by omega]
      have d0 : w1.cell? ⟨w.heap.size, j * 5, none⟩ = some (.int .i64 0) := by rw [HROW1.out.cell (by omega)]; exact congrArg some (zz 0 (by omega))
      have d1 : w1.cell? ⟨w.heap.size, j * 5 + 1, none⟩ = some (.int .i64 0) := by rw [HROW1.out.cell (by omega), zz 1 (by omega)]; rfl
      have d2 : w1.cell? ⟨w.heap.size, j * 5 + 2, none⟩ = some (.int .i64 0) := by rw [HROW1.out.cell (by omega), zz 2 (by omega)]; rfl
      have d3 : w1.cell? ⟨w.heap.size, j * 5 + 3, none⟩ = some (.slice none 0 0) := by rw [HROW1.out.cell (by omega), zz 3 (by omega)]; rfl
      have d4 : w1.cell? ⟨w.heap.size, j * 5 + 4, none⟩ = some (.slice none 0 0) := by rw [HROW1.out.cell (by omega), zz 4 (by omega)]; rfl
      have f0 := HROW1.out.frozen (j * 5)
      have f1 := HROW1.out.frozen (j * 5 + 1)
      have f2 := HROW1.out.frozen (j * 5 + 2)
      have f3 := HROW1.out.frozen (j * 5 + 3)
      have f4 := HROW1.out.frozen (j * 5 + 4)
      clear hb1 ho1 zz c0 c1 c2 c3 c4
      go_wp2
      go_roundw
      case rel =>
        refine ⟨j + 1, by omega, by go_num, (((((HBL.out.trans (HB1.out.mono HBL.out.size)).setCell (Nat.le_refl _) _).setCell (Nat.le_refl _) _).setCell (Nat.le_refl _) _).setCell (Nat.le_refl _) _).setCell (Nat.le_refl _) _, _, _, (((((HROW1.out.set (j * 5) _).set (j * 5 + 1) _).set (j * 5 + 2) _).set (j * 5 + 3) _).set (j * 5 + 4) _).congr fun c _ => partI_next ds u j c _ _, (((((HBT.out.next HB1.out HO1.out).store (by simp) _).store (by simp) _).store (by simp) _).store (by simp) _).store (by simp) _⟩
      case measure => simp [intOf]; omega
    · go_wp2
      go_ret
      have e : j = n := by omega
      subst e
      exact ⟨rfl, hbl, u, s, hrow.congr fun i hi => by simp [partI, hi], hbt⟩

theorem toInosU {w : World} {v : Value} {ds : List ID} (h : Inos w v ds) (hn : sizeInos ds ≤ 1048576) :
    Calls Try.prog 23 #[v] w fun e w' => ∃ a n c, e = .returned (.slice a n c) ∧ Below w.heap.size w w' ∧ InosO w' (.slice a n c) ds (fresh w w') := by
  obtain ⟨a, cap, rfl, hm, hc⟩ := h.open'
  unfold sizeInos at hn
  refine (toInos_walk w a cap ds.length ds (by omega) (fun k => by have := isz_le ds k; omega) hc).mono fun e w' ⟨he, hb, u, s, hr, hbt⟩ => ⟨_, _, _, he, hb, ?_⟩
  exact BuiltI.inos ds hbt rfl ⟨hm.1, Nat.le_refl _⟩ (Nat.lt_succ_self _) hr _ ⟨Nat.le_refl _, hr.lt⟩ (fun c h1 h2 => ⟨by omega, h2⟩)

set_option maxHeartbeats 3200000 in
theorem eqInos_walk (w : World) (a a' : Option Addr) (cap cap' n : Nat) (ds : List ID) (hn : n ≤ maxLen) (hc : AtI w a n ds) (hc' : AtI w a' n ds) :
    Calls Try.prog 28 #[.slice a n cap, .slice a' n cap'] w fun e w' => e = .returned (.bool true) ∧ Below w.heap.size w w' := by
  unfold maxLen at hn
  have HC : Hid (AtI w a n ds) := hc
  have HC' : Hid (AtI w a' n ds) := hc'
  clear hc hc'
  go_enter Try.func28, Try.ntmps28
  go_wp2
  go_loopw [5] (fun i wr => ∃ k : Nat, k ≤ n ∧ i = .int .i64 k ∧ Below w.heap.size w wr) (fun i _ => n - (intOf i).toNat)
  case atStart => exact ⟨0, Nat.zero_le _, rfl, Below.refl _ _⟩
  case round =>
    obtain ⟨j, hj, rfl, hbl⟩ := hrel
    by_cases hlt : j < n
    · obtain ⟨b, o, rfl, hI⟩ := HC.out j hlt
      obtain ⟨b', o', rfl, hI'⟩ := HC'.out j hlt
      obtain ⟨aB, cB, aE, cE, c0, c1, c2, c3, c4, hR⟩ := hI.later hbl
      obtain ⟨aB', cB', aE', cE', d0, d1, d2, d3, d4, hR'⟩ := hI'.later hbl
      clear hI hI' HC HC'
      have HI : Hid (InoR wr _ _ _ _ _ (ds[j]?.getD id0)) := hR
      have HI' : Hid (InoR wr _ _ _ _ _ (ds[j]?.getD id0)) := hR'
      have HBL : Hid (Below w.heap.size w wr) := hbl
      clear hbl hR hR'
      generalize ds[j]?.getD id0 = d at *
      have HEQ : Hid (∀ W, Below wr.heap.size wr W → Calls Try.prog 51 #[.agg #[.int .i64 d.1, .int .i64 d.2.1, .int .i64 d.2.2.1, .slice aB d.2.2.2.1.length cB, .slice aE d.2.2.2.2.length cE], .agg #[.int .i64 d.1, .int .i64 d.2.1, .int .i64 d.2.2.1, .slice aB' d.2.2.2.1.length cB', .slice aE' d.2.2.2.2.length cE']] W fun e w' => e = .returned (.bool true) ∧ Below W.heap.size W w') := fun W hW => eqInodeU W _ _ _ _ _ _ _ _ _ _ d (HI.out.later hW) (HI'.out.later hW)
      clear HI HI'
      generalize d.2.2.2.1.length = m1 at *
      generalize d.2.2.2.2.length = m2 at *
      generalize d.1 = z0 at *
      generalize d.2.1 = z1 at *
      generalize d.2.2.1 = z2 at *
      go_wp2_with fail
      go_region_with ((go_at_call 51; refine (HEQ.out _ (Below.refl _ _).drew).mono ?_; rintro e w' ⟨rfl, hb2⟩))
      all_goals
        go_wp2
        go_roundw
        case rel => exact ⟨j + 1, by omega, by go_num, (HBL.out.drew).trans (hb2.mono HBL.out.size)⟩
        case measure => simp [intOf]; omega
    · go_wp2
      go_ret
      exact ⟨rfl, hbl⟩
theorem eqInosU {w : World} {v v' : Value} {ds : List ID} (h : Inos w v ds) (h' : Inos w v' ds) : Calls Try.prog 28 #[v, v'] w fun e w' => e = .returned (.bool true) ∧ Below w.heap.size w w' := by
  obtain ⟨a, cap, rfl, hm, hc⟩ := h.open'
  obtain ⟨a', cap', rfl, _, hc'⟩ := h'.open'
  exact eqInos_walk w a a' cap cap' ds.length ds hm.1 hc hc'
end Go.Proofs.Ytpfafcodihhdfaa

/- How file systems that came in are opened. What a row that lists errors.errorType gives a walk; a world that meets it. After the kit's worked toy of errors.As. The program's WalkParent. The specification's WalkParent. -/
import Derived.Test.YtmlfpikhencgcanGreatDoorM15
import Derived.Test.YtmlfpikhencgcanGreatDoorM04
import Derived.Test.YtmlfpikhencgcanGreatDoorRows
import Derived.Test.YtmlfpikhencgcanGreatDoorM14
import Derived.ChangeSame
import Derived.ChangeVars
import Derived.JoinedOf
import Derived.LaidLaws
import Derived.LaidHandle
import Derived.Stop.Joined
import Derived.Deep.Cut
import Derived.Deep.CutRange
namespace Go.Proofs.YtmlfpikhencgcanGreatDoor
open Go.ChangeShapes Go.WideShapes Go.ChangeAt Go.RowKit Go.Joins Go.Deep
set_option maxRecDepth 100000

theorem Tryz.cellsByteF : Tryz.prog.cellsOf 5 = 1 := by kernel_rfl
theorem Tryz.cellsBytF : Tryz.prog.cellsOf 64 = 1 := by kernel_rfl
theorem Tryz.cellsBytsF : Tryz.prog.cellsOf 23 = 1 := by kernel_rfl
theorem Tryz.cellsInosF : Tryz.prog.cellsOf 22 = 1 := by kernel_rfl
theorem Tryz.cellsFsF : Tryz.prog.cellsOf 25 = 2 := by kernel_rfl
theorem open_Byt {H : Type} {enc : TypeId × Value → H} {P : Program} {w : World} {base : Nat} {held : Bool} {t e : TypeId} {fuel : Nat} {v : Value} {x : DataW H × List MemPlace} (ht : P.underlying t = some (.slice e)) (he : P.underlying e = some (.int .u8)) (ce : P.cellsOf e = 1) (h : DataW.trod enc P w base (fun _ => true) held fuel t [v] = some x) :
    ∃ zs, Byt w v zs := by
  rcases open_slice1 ht ce h with ⟨hcs, _⟩ | ⟨a, len, cap, m, n, V, D, Pl, hcs, _, hl, hm, hmm, _, hx⟩
  · simp only [List.cons.injEq, and_true] at hcs
    exact ⟨[], by rw [hcs]; exact Byt.nil w none 0⟩
  · simp only [List.cons.injEq, and_true] at hcs
    simp only [if_true] at hmm
    by_cases h0 : len = 0
    · subst h0; exact ⟨[], by rw [hcs]; exact Byt.nil w (some a) cap⟩
    · have ha := addr_of (hx 0 (by omega)).1
      obtain ⟨Z, hZ⟩ := choose_lt (α := UInt8) (n := m) (p := fun i b => V i = .int .u8 ((b.toNat : Nat) : Int)) fun i hi => by
        obtain ⟨z, h1, _, hw⟩ := DataW.trod_int he (hx i hi).2
        have hz0 : IntKind.u8.min ≤ z ∧ z ≤ IntKind.u8.max := by simpa [Lit.wf] using hw
        have hz : 0 ≤ z ∧ z ≤ 255 := hz0
        refine ⟨UInt8.ofNat z.toNat, ?_⟩
        simp only [List.cons.injEq, and_true] at h1
        rw [h1]
        congr 1
        have : (UInt8.ofNat z.toNat).toNat = z.toNat := by simp; omega
        rw [this]; omega
      refine ⟨(List.range len).map Z, some a, cap, ?_, ?_, fun k hk => ?_⟩
      · simp only [List.length_map, List.length_range]; exact hcs
      · simp only [List.length_map, List.length_range]; exact ⟨by omega, by omega⟩
      · simp only [List.length_map, List.length_range] at hk
        have h1 := (hx k (by omega)).1
        rw [ha, add_plain] at h1
        refine ⟨a.block, a.off, by rw [← ha], ?_⟩
        rw [h1, hZ k (by omega)]
        simp [hk]
theorem open_Byts {H : Type} {enc : TypeId × Value → H} {P : Program} {w : World} {base : Nat} {held : Bool} {t e q : TypeId} {fuel : Nat} {v : Value} {x : DataW H × List MemPlace} (ht : P.underlying t = some (.slice e)) (he : P.underlying e = some (.slice q)) (hq : P.underlying q = some (.int .u8)) (ce : P.cellsOf e = 1) (cq : P.cellsOf q = 1)
    (h : DataW.trod enc P w base (fun _ => true) held fuel t [v] = some x) : ∃ zss, Byts w v zss := by
  rcases open_slice1 ht ce h with ⟨hcs, _⟩ | ⟨a, len, cap, m, n, V, D, Pl, hcs, _, hl, hm, hmm, _, hx⟩
  · simp only [List.cons.injEq, and_true] at hcs
    exact ⟨[], by rw [hcs]; exact Byts.nil w none 0⟩
  · simp only [List.cons.injEq, and_true] at hcs
    simp only [if_true] at hmm
    by_cases h0 : len = 0
    · subst h0; exact ⟨[], by rw [hcs]; exact Byts.nil w (some a) cap⟩
    · have ha := addr_of (hx 0 (by omega)).1
      obtain ⟨Z, hZ⟩ := choose_lt (α := List UInt8) (n := m) (p := fun i zs => Byt w (V i) zs) fun i hi => open_Byt he hq cq (hx i hi).2
      refine ⟨(List.range len).map Z, some a, cap, ?_, ?_, fun k hk => ?_⟩
      · simp only [List.length_map, List.length_range]; exact hcs
      · simp only [List.length_map, List.length_range]; exact ⟨by omega, by omega⟩
      · simp only [List.length_map, List.length_range] at hk
        have h1 := (hx k (by omega)).1
        rw [ha, add_plain] at h1
        have hg : ((List.range len).map Z)[k]?.getD [] = Z k := by simp [hk]
        rw [hg]
        obtain ⟨ua, uc, e1, e2, e3⟩ := hZ k (by omega)
        rw [e1] at h1
        exact ⟨a.block, a.off, ua, uc, by rw [← ha], h1, ua, uc, rfl, e2, e3⟩
theorem open_FsU {H : Type} {enc : TypeId × Value → H} {W : World} {r : Reach} {b0 : Nat} {v : Value} {d : DataW H} {p : List MemPlace} (hv : Value.okWide Tryz.prog W r b0 25 v) (h : DataW.Trod enc Tryz.prog W 0 (fun _ => true) true 25 v d p) :
    ∃ v0 v1 fd, v = .agg #[v0, v1] ∧ FsR W v0 v1 fd := by
  obtain ⟨cs, rfl, hsz⟩ := okWide_struct Tryz.underlying25 hv
  obtain ⟨c0, c1, rfl⟩ := array2 (hsz.trans Tryz.cellsFsF)
  obtain ⟨fuel, hf⟩ := h
  obtain ⟨xs, k, hk, hxy, _, hxl, hg⟩ := DataW.trod_struct Tryz.underlying25 hf
  match xs, hxl with
  | [y0, y1], _ =>
    have g0 : DataW.trod enc Tryz.prog W 0 (fun _ => true) true k 22 [c0] = some y0 := by simpa [Value.cells, Tryz.cellsInosF] using hg 0 _ rfl
    have g1 : DataW.trod enc Tryz.prog W 0 (fun _ => true) true k 23 [c1] = some y1 := by simpa [Value.cells, Tryz.cellsBytsF] using hg 1 _ rfl
    obtain ⟨ds, hds⟩ := open_Inos g0
    obtain ⟨zss, hz⟩ := open_Byts Tryz.underlying23 Tryz.underlying64 Tryz.underlying5 Tryz.cellsBytF Tryz.cellsByteF g1
    exact ⟨c0, c1, (ds, zss), rfl, hds, hz⟩
end Go.Proofs.YtmlfpikhencgcanGreatDoor

namespace Go.Proofs.YtmlfpikhencgcanGreatDoor
open Go.ChangeShapes Go.WideShapes Go.RowKit
set_option maxRecDepth 100000

set_option maxRecDepth 100000
theorem Tryz.et : Tryz.prog.globalNamed "errors.errorType" = some 0 := by kernel_rfl
theorem Tryz.rt : (Tryz.prog.cutTypes.find? (·.1 == "internal/reflectlite.rtype")).map (·.2) = some 143 := by kernel_rfl
theorem Tryz.oneRow : ((List.range 199).filter fun t => Tryz.prog.rowNamed t [101, 114, 114, 111, 114]) = [74] := by kernel_rfl
theorem Tryz.typesN : Tryz.prog.types.size = 199 := by kernel_rfl
theorem gl_of_laid {W : World} (h : laidMetH Tryz.prog [("errors.errorType", Rows.laid_errors_errorType)] W) : Gl W := by
  have h' : laidMet Tryz.prog [] W ∧ handlesMet Tryz.prog [("errors.errorType", Rows.laid_errors_errorType)] W := h
  obtain ⟨name, u, ty, e1, e2, e3, e4, e5⟩ := h'.2 _ (List.mem_singleton.2 rfl)
  have en : name = [101, 114, 114, 111, 114] := (Option.some.inj e1).symm
  subst en
  obtain rfl := Option.some.inj (Tryz.rt.symm.trans e2)
  have hm : ty ∈ (List.range 199).filter fun t => Tryz.prog.rowNamed t [101, 114, 114, 111, 114] := List.mem_filter.2 ⟨List.mem_range.2 (by rw [← Tryz.typesN]; exact e3), e4⟩
  rw [Tryz.oneRow] at hm
  obtain rfl := List.mem_singleton.1 hm
  have hh : typeHandle Tryz.prog 74 = .pointer (some ⟨2, 74, none⟩) := by kernel_rfl
  rw [hh] at e5
  have := World.var?_cell Tryz.et e5 0
  unfold Gl
  simpa using this
noncomputable def laidWorld (os : Os) : World :=
  let w0 := World.holding Tryz.prog os ⟨#[], #[], []⟩
  { w0 with heap := w0.heap.modify 0 fun
      | .cells _ t frozen => .cells #[.iface 143 (.agg #[.pointer (some ⟨2, 74, none⟩)])] t frozen
      | o => o }
theorem laidWorld_met (os : Os) (args : Array Value) : laidMetH Tryz.prog [("errors.errorType", Rows.laid_errors_errorType)] ((laidWorld os).forCall (fun _ _ => 0) ⟨#[], args, []⟩).memory :=
  laidMetH_of_parts (laidMet_nil _ _) (by kernel_rfl)
end Go.Proofs.YtmlfpikhencgcanGreatDoor

namespace Go.Proofs.YtmlfpikhencgcanGreatDoor
open Go.RowKit
set_option maxRecDepth 100000

/-- The directory of a path's last name: a code, or a place; WalkParent. -/
def dirK (d : FD) (r : Int × Int) : Int × Int := if r.1 = 0 then (if kindAt d.1 r.2.toNat = 2 then r else (9, 0)) else r
def parR (d : FD) (p : List UInt8) : Int × Int := if pathF p = 0 then (if (splitL p).length = 0 then (4, 0) else dirK d (wkR d.1 0 ((splitL p).take ((splitL p).length - 1)))) else (pathF p, 0)
def wparR (d : FD) (s : ByteArray) : Int × Int := if ntwC d s.data.toList = 0 then (if (splitL s.data.toList).length = 0 then (4, 0) else dirK d (wkR d.1 0 ((splitL s.data.toList).take ((splitL s.data.toList).length - 1)))) else (ntwC d s.data.toList, 0)
theorem wpar_par (d : FD) (s : ByteArray) : wparR d s = if fsF d = 0 then parR d s.data.toList else (fsF d, 0) := by
  unfold wparR ntwC parR
  by_cases h0 : fsF d = 0
  · rw [if_pos h0, if_pos h0]
  · rw [if_neg h0, if_neg h0, if_neg h0]
theorem AtT.take {w : World} {a : Option Addr} {n : Nat} {xs : List (List UInt8)} (h : AtT w a n xs) (m : Nat) (hm : m ≤ n) : AtT w a m (xs.take m) := fun k hk => by
  obtain ⟨b, off, e, c⟩ := h k (by omega)
  exact ⟨b, off, e, by rw [List.getElem?_take, if_pos hk]; exact c⟩
set_option maxHeartbeats 6400000 in
theorem implParentU (w : World) (a1 : Option Addr) (n1 c1 : Nat) (a2 : Option Addr) (n2 c2 : Nat) (d : FD) (s : ByteArray) (h : FsR w (.slice a1 n1 c1) (.slice a2 n2 c2) d) (hs : sizeFs d ≤ 1048576) (hl : s.size ≤ 1048576) (hgl : Gl w) :
    Calls Tryz.prog 12 #[.agg #[.slice a1 n1 c1, .slice a2 n2 c2], .string s] w fun e w' => e = .returned (.agg #[.int .i64 (wparR d s).1, .int .i64 (wparR d s).2]) ∧ Below w.heap.size w w' := by
  have HB0 : Hid (Below w.heap.size w ((w.alloc (.cells #[.slice a1 n1 c1, .slice a2 n2 c2] 32)).alloc (.cells #[.int .i64 0, .int .i64 0] 28))) := later2 _ _ _
  have HX : Hid (Bx ((w.alloc (.cells #[.slice a1 n1 c1, .slice a2 n2 c2] 32)).alloc (.cells #[.int .i64 0, .int .i64 0] 28)) w.heap.size [.slice a1 n1 c1, .slice a2 n2 c2]) := (Bx.new w [.slice a1 n1 c1, .slice a2 n2 c2] _).later (later1 _ _)
  have HRS : Hid (OwnRow ((w.alloc (.cells #[.slice a1 n1 c1, .slice a2 n2 c2] 32)).alloc (.cells #[.int .i64 0, .int .i64 0] 28)) (w.heap.size + 1) 2 (fun _ => .int .i64 0)) := by
    have p2 := zeros2 (w.alloc (.cells #[.slice a1 n1 c1, .slice a2 n2 c2] 32)) 28
    rw [World.size_alloc] at p2
    exact p2
  have hsp : s.data.toList.length = s.size := Array.length_toList
  have HN : Hid (∀ W, Below w.heap.size w W → Calls Tryz.prog 20 #[.agg #[.slice a1 n1 c1, .slice a2 n2 c2], .string s] W fun e w' => ∃ a n c, e = .returned (.agg #[.int .i64 (ntwC d s.data.toList), .slice a n c]) ∧ Below W.heap.size W w' ∧ TxF w' W.heap.size a n c (ntwL d s.data.toList)) := fun W hW => by
    have := namesToWalk_any W a1 n1 c1 a2 n2 c2 d s.data.toList (h.later hW) hs (by omega)
    rw [mkB_data] at this
    exact this
  have HR : Hid (wparR d s = if ntwC d s.data.toList = 0 then (if (splitL s.data.toList).length = 0 then (4, 0) else dirK d (wkR d.1 0 ((splitL s.data.toList).take ((splitL s.data.toList).length - 1)))) else (ntwC d s.data.toList, 0)) := rfl
  rw [HR.out]
  clear HR
  by_cases hf : ntwC d s.data.toList = 0
  rotate_left
  · rw [if_neg hf]
    have hb : (ntwC d s.data.toList != 0) = true := by simpa using hf
    clear hf h hs hl hsp hgl
    generalize ntwC d s.data.toList = r at *
    have x0 := HX.out 0 _ rfl
    have x1 := HX.out 1 _ rfl
    go_enter Tryz.func12, Tryz.ntmps12
    go_wp2_with fail
    generalize ((w.alloc (.cells #[.slice a1 n1 c1, .slice a2 n2 c2] 32)).alloc (.cells #[.int .i64 0, .int .i64 0] 28)) = W0 at *
    refine (HN.out _ HB0.out).mono ?_
    rintro e w1 ⟨a, n, c, rfl, hb1, -⟩
    have HB1 : Hid (Below w.heap.size w w1) := HB0.out.trans (hb1.mono HB0.out.size)
    have hrr := HRS.out.later hb1
    have hz1 : w.heap.size + 1 < w1.heap.size := hrr.lt
    have t0 : w1.cell? ⟨w.heap.size + 1, 0, none⟩ = some (.int .i64 0) := hrr.cell (i := 0) (by omega)
    have t1 : w1.cell? ⟨w.heap.size + 1, 1, none⟩ = some (.int .i64 0) := hrr.cell (i := 1) (by omega)
    have s0 := hrr.frozen 0
    have s1 := hrr.frozen 1
    clear hb1 hrr x0 x1
    go_wp2
    exact bodyPost_ret (v := intRV (r, 0)) (by simp [results, Tryz.results12, go_sem, t0, t1, hz1]) rfl ⟨rfl, ((HB1.out.setCell (p := ⟨w.heap.size + 1, 0, none⟩) (by show w.heap.size ≤ w.heap.size + 1; omega) _).setCell (p := ⟨w.heap.size + 1, 1, none⟩) (by show w.heap.size ≤ w.heap.size + 1; omega) _).alloc (by have := HB1.out.size; simpa [World.setCell] using this) _⟩
  · rw [if_pos hf]
    obtain ⟨hfs, _⟩ := ntw_ok hf
    have hL : ntwL d s.data.toList = splitL s.data.toList := if_pos hfs
    have hok := fsE_ok (fsF_E hfs)
    have hb : (ntwC d s.data.toList != 0) = false := by simpa using hf
    rw [hL] at HN
    have hln := splitL_len s.data.toList (by omega)
    by_cases hz : (splitL s.data.toList).length = 0
    · rw [if_pos hz]
      clear hf h hs hl hsp hgl hL hok hfs hln
      generalize ntwC d s.data.toList = r at *
      generalize splitL s.data.toList = xs at *
      have HZ : Hid (xs.length = 0) := hz
      clear hz
      have x0 := HX.out 0 _ rfl
      have x1 := HX.out 1 _ rfl
      go_enter Tryz.func12, Tryz.ntmps12
      go_wp2_with fail
      generalize ((w.alloc (.cells #[.slice a1 n1 c1, .slice a2 n2 c2] 32)).alloc (.cells #[.int .i64 0, .int .i64 0] 28)) = W0 at *
      refine (HN.out _ HB0.out).mono ?_
      rintro e w1 ⟨a, n, c, rfl, hb1, htx⟩
      have hn0 : n = 0 := by have := htx.2.1; have := HZ.out; omega
      subst hn0
      have HB1 : Hid (Below w.heap.size w w1) := HB0.out.trans (hb1.mono HB0.out.size)
      have hrr := HRS.out.later hb1
      have hz1 : w.heap.size + 1 < w1.heap.size := hrr.lt
      have t0 : w1.cell? ⟨w.heap.size + 1, 0, none⟩ = some (.int .i64 0) := hrr.cell (i := 0) (by omega)
      have t1 : w1.cell? ⟨w.heap.size + 1, 1, none⟩ = some (.int .i64 0) := hrr.cell (i := 1) (by omega)
      have s0 := hrr.frozen 0
      have s1 := hrr.frozen 1
      clear hb1 hrr x0 x1 htx
      go_wp2
      exact bodyPost_ret (v := intRV (4, 0)) (by simp [results, Tryz.results12, go_sem, t0, t1, hz1]) rfl ⟨rfl, ((HB1.out.setCell (p := ⟨w.heap.size + 1, 0, none⟩) (by show w.heap.size ≤ w.heap.size + 1; omega) _).setCell (p := ⟨w.heap.size + 1, 1, none⟩) (by show w.heap.size ≤ w.heap.size + 1; omega) _).alloc (by have := HB1.out.size; simpa [World.setCell] using this) _⟩
    · rw [if_neg hz]
      obtain ⟨m, hm⟩ : ∃ m, (splitL s.data.toList).length = m + 1 := ⟨(splitL s.data.toList).length - 1, by omega⟩
      have HW : Hid (∀ (W : World) (a : Option Addr) (c : Nat), Below w.heap.size w W → AtT W a (m + 1) (splitL s.data.toList) → Calls Tryz.prog 21 #[.agg #[.slice a1 n1 c1, .slice a2 n2 c2], .slice a m c] W fun e w' => e = .returned (.agg #[.int .i64 (wkR d.1 0 ((splitL s.data.toList).take m)).1, .int .i64 (wkR d.1 0 ((splitL s.data.toList).take m)).2]) ∧ Below W.heap.size W w') := fun W a c hW hat =>
        walkNamesU W a1 n1 c1 a2 n2 c2 d (h.later hW) hok (hgl.later hW) a m c ((splitL s.data.toList).take m) (by rw [List.length_take]; omega) (by omega) (hat.take m (by omega))
      have HK : Hid ((wkR d.1 0 ((splitL s.data.toList).take m)).1 = 0 → ∃ y : Nat, (wkR d.1 0 ((splitL s.data.toList).take m)).2 = (y : Int) ∧ y < d.1.length ∧ ∃ b0 o0, a1 = some ⟨b0, o0, none⟩ ∧ n1 = d.1.length ∧ w.cell? ⟨b0, o0 + y * 5, none⟩ = some (.int .i64 (d.1[y]?.getD id0).1)) := fun h0 => by
        obtain ⟨y, hy, hyl⟩ := wkR_lt hok.rng _ 0 hok.pos h0
        obtain ⟨_, _, e1, -, hAt⟩ := h.1.open'
        simp only [Value.slice.injEq] at e1
        obtain ⟨rfl, rfl, rfl⟩ := e1
        obtain ⟨b0, o0, rfl, hI⟩ := hAt y hyl
        obtain ⟨_, _, _, _, k0, _⟩ := hI
        exact ⟨y, hy, hyl, b0, o0, rfl, rfl, k0⟩
      have hme : (splitL s.data.toList).length - 1 = m := by omega
      rw [hme]
      have HTN : Hid (wkR d.1 0 ((splitL s.data.toList).take m) = wkR d.1 0 ((splitL s.data.toList).take m)) := rfl
      have H2 : Hid (¬ (wkR d.1 0 ((splitL s.data.toList).take m)).1 = 0 → (wkR d.1 0 ((splitL s.data.toList).take m)).2 = 0) := wkR_two _ 0
      have HM : Hid ((splitL s.data.toList).length = m + 1) := hm
      have hten := hok.ten
      have hm7 : m + 1 ≤ 1048577 := by omega
      clear hf h hs hl hsp hgl hL hok hfs hln hz hm hme HTN
      generalize ntwC d s.data.toList = r at *
      generalize wkR d.1 0 ((splitL s.data.toList).take m) = wr at *
      generalize splitL s.data.toList = xs at *
      obtain ⟨kc, kv⟩ := wr
      dsimp only at HW HK H2
      obtain ⟨RES, hRES⟩ : ∃ RES, dirK d (kc, kv) = RES := ⟨_, rfl⟩
      have HRES : Hid (dirK d (kc, kv) = RES) := hRES
      rw [hRES]
      clear hRES
      have x0 := HX.out 0 _ rfl
      have x1 := HX.out 1 _ rfl
      go_enter Tryz.func12, Tryz.ntmps12
      go_wp2_with fail
      generalize ((w.alloc (.cells #[.slice a1 n1 c1, .slice a2 n2 c2] 32)).alloc (.cells #[.int .i64 0, .int .i64 0] 28)) = W0 at *
      refine (HN.out _ HB0.out).mono ?_
      rintro e w1 ⟨a, n, c, rfl, hb1, htx⟩
      obtain ⟨nn, hnn⟩ : ∃ nn, n = nn := ⟨_, rfl⟩
      have hn1 : n = m + 1 := by have := htx.2.1; have := HM.out; omega
      have HB1 : Hid (Below w.heap.size w w1) := HB0.out.trans (hb1.mono HB0.out.size)
      have HR1 : Hid (OwnRow w1 (w.heap.size + 1) 2 (fun _ => .int .i64 0)) := HRS.out.later hb1
      have HX1 : Hid (Bx w1 w.heap.size [.slice a1 n1 c1, .slice a2 n2 c2]) := HX.out.later hb1
      have HAT : Hid (AtT w1 a (m + 1) xs) := by rw [← hn1]; exact htx.1
      have hmc : m ≤ c := by have := htx.2.2.1; omega
      have hwr : IntKind.i64.wrap ((n : Int) - 1) = (m : Int) := by
        rw [show (n : Int) - 1 = (m : Int) by omega]
        exact wrap_in _ (by omega) (by omega)
      have hnz : ((n : Int) == 0) = false := beq_eq_false_iff_ne.2 (by omega)
      have y0 := HX1.out 0 _ rfl
      have y1 := HX1.out 1 _ rfl
      have hz1 : w.heap.size + 1 < w1.heap.size := HR1.out.lt
      have hz2 : w.heap.size < w1.heap.size := by omega
      have hmI : (m : Int) ≤ (n : Int) := by omega
      have hmN : m ≤ n := by omega
      clear hb1 htx x0 x1 hn1 hnn
      go_wp2_with fail
      have z0 : (w1.alloc (.cells #[.int .i64 r, .slice a n c] 48)).cell? ⟨w.heap.size, 0, none⟩ = some (.slice a1 n1 c1) := (HX1.out.later (later1 _ _)) 0 _ rfl
      have z1 : (w1.alloc (.cells #[.int .i64 r, .slice a n c] 48)).cell? ⟨w.heap.size, 1, none⟩ = some (.slice a2 n2 c2) := (HX1.out.later (later1 _ _)) 1 _ rfl
      have v1 : (w1.alloc (.cells #[.int .i64 r, .slice a n c] 48)).cell? ⟨w1.heap.size, 1, none⟩ = some (.slice a n c) := by rw [new_cell]; rfl
      have HL2 : Hid (∀ W, Below (w1.alloc (.cells #[.int .i64 r, .slice a n c] 48)).heap.size (w1.alloc (.cells #[.int .i64 r, .slice a n c] 48)) W → Below w.heap.size w W ∧ AtT W a (m + 1) xs ∧ OwnRow W (w.heap.size + 1) 2 (fun _ => .int .i64 0) ∧ Bx W w.heap.size [.slice a1 n1 c1, .slice a2 n2 c2]) := fun W hW => by
        have h1 : Below w1.heap.size w1 W := (later1 _ _).trans (hW.mono (by simp))
        exact ⟨HB1.out.trans (h1.mono HB1.out.size), HAT.out.later h1, HR1.out.later h1, HX1.out.later h1⟩
      have hs2 : (w1.alloc (.cells #[.int .i64 r, .slice a n c] 48)).heap.size = w1.heap.size + 1 := by simp
      generalize (w1.alloc (.cells #[.int .i64 r, .slice a n c] 48)) = W2 at *
      have HS2 : Hid (W2.heap.size = w1.heap.size + 1) := hs2
      have q1 : w1.heap.size < W2.heap.size := by omega
      have q2 : w.heap.size < W2.heap.size := by omega
      have q3 : w.heap.size + 1 < W2.heap.size := by omega
      clear y0 y1 HB1 HR1 HX1 HAT hs2
      have HA1 : Hid (Below W2.heap.size W2 W2.drew) := (Below.refl _ _).drew
      have HA2 : Hid (Below W2.heap.size W2 (W2.drew.alloc (.cells #[.int .i64 0, .int .i64 0] 28))) := (Below.refl _ _).drew.trans (later1 W2.drew _)
      have HZ2 : Hid (OwnRow (W2.drew.alloc (.cells #[.int .i64 0, .int .i64 0] 28)) W2.heap.size 2 (fun _ => .int .i64 0)) := zeros2 W2.drew _
      go_cut [6] from 21 (fun s6 wx => ∃ g, s6 = .pointer (some ⟨g, 0, none⟩) ∧ Below W2.heap.size W2 wx ∧ wx.cell? ⟨g, 0, none⟩ = some (.int .i64 kc) ∧ wx.cell? ⟨g, 1, none⟩ = some (.int .i64 kv))
      case first =>
        go_wp2_with fail
        go_region_law (first
          | (try go_simp; go_at_call 21
             refine (HW.out W2.drew a c (HL2.out _ HA1.out).1 (HL2.out _ HA1.out).2.1).mono ?_
             rintro e w3 ⟨rfl, hb3⟩
             have HB3 : Hid (Below W2.heap.size W2 w3) := HA1.out.trans (hb3.mono HA1.out.size)
             clear hb3)
          | (try go_simp; go_at_call 21
             refine (HW.out (W2.drew.alloc (.cells #[.int .i64 0, .int .i64 0] 28)) a c (HL2.out _ HA2.out).1 (HL2.out _ HA2.out).2.1).mono ?_
             rintro e w3 ⟨rfl, hb3⟩
             have HB3 : Hid (Below W2.heap.size W2 w3) := HA2.out.trans (hb3.mono HA2.out.size)
             have HRZ : Hid (OwnRow w3 W2.heap.size 2 (fun _ => .int .i64 0)) := HZ2.out.later hb3
             have u0 : w3.cell? ⟨W2.heap.size, 0, none⟩ = some (.int .i64 0) := HRZ.out.cell (i := 0) (by omega)
             have u1 : w3.cell? ⟨W2.heap.size, 1, none⟩ = some (.int .i64 0) := HRZ.out.cell (i := 1) (by omega)
             have uf0 := HRZ.out.frozen 0
             have uf1 := HRZ.out.frozen 1
             clear hb3)
          | fail)
        all_goals
          go_wp2
          go_meet
          case rel => first
            | exact ⟨_, rfl, HB3.out.trans ((later1 _ _).mono HB3.out.size), by rw [new_cell]; rfl, by rw [new_cell]; rfl⟩
            | exact ⟨W2.heap.size, rfl, (HB3.out.setCell (p := ⟨W2.heap.size, 0, none⟩) (Nat.le_refl _) _).setCell (p := ⟨W2.heap.size, 1, none⟩) (Nat.le_refl _) _, ((HRZ.out.set 0 (.int .i64 kc)).set 1 (.int .i64 kv)).cell (i := 0) (by omega), ((HRZ.out.set 0 (.int .i64 kc)).set 1 (.int .i64 kv)).cell (i := 1) (by omega)⟩
      case rest =>
        obtain ⟨g, rfl, hbW, g0, g1⟩ := hcut
        obtain ⟨hbF, -, hrr, hxx⟩ := HL2.out _ hbW
        have HBF : Hid (Below w.heap.size w wc) := hbF
        have t0 : wc.cell? ⟨w.heap.size + 1, 0, none⟩ = some (.int .i64 0) := hrr.cell (i := 0) (by omega)
        have t1 : wc.cell? ⟨w.heap.size + 1, 1, none⟩ = some (.int .i64 0) := hrr.cell (i := 1) (by omega)
        have s0 := hrr.frozen 0
        have s1 := hrr.frozen 1
        have y0 := hxx 0 _ rfl
        have y1 := hxx 1 _ rfl
        have HEND : Hid (∀ u v : Value, Below w.heap.size w ((wc.setCell ⟨w.heap.size + 1, 0, none⟩ u).setCell ⟨w.heap.size + 1, 1, none⟩ v)) := fun u v => (hbF.setCell (p := ⟨w.heap.size + 1, 0, none⟩) (by show w.heap.size ≤ w.heap.size + 1; omega) _).setCell (p := ⟨w.heap.size + 1, 1, none⟩) (by show w.heap.size ≤ w.heap.size + 1; omega) _
        clear hbW hrr hxx hbF HW HL2 HA1 HA2 HZ2 z0 z1 v1 q1 q2 q3 HN
        by_cases hk : kc = 0
        rotate_left
        · have hkb : (kc != 0) = true := by simpa using hk
          have HR : Hid (RES = (kc, kv)) := by unfold Hid; rw [← HRES.out]; exact if_neg hk
          clear hk HK H2
          go_wp2
          exact bodyPost_ret (v := intRV (kc, kv)) (by simp [results, Tryz.results12, go_sem, t0, t1]) rfl ⟨by rw [HR.out], HEND.out _ _⟩
        · have hkb : (kc != 0) = false := by simpa using hk
          obtain ⟨y, hy, hyl, b0, o0, rfl, rfl, k0⟩ := HK.out hk
          subst hy
          have k1 := cell_later HBF.out k0
          have hyI : (y : Int) < ((d.1.length : Nat) : Int) := by omega
          have HRR : Hid (RES = if (d.1[y]?.getD id0).1 = 2 then (kc, (y : Int)) else (9, 0)) := by
            unfold Hid
            rw [← HRES.out]
            show (if kc = 0 then (if kindAt d.1 (y : Int).toNat = 2 then (kc, (y : Int)) else (9, 0)) else (kc, (y : Int))) = _
            rw [if_pos hk, Int.toNat_natCast]; rfl
          clear hk HK H2 HRES k0
          generalize (d.1[y]?.getD id0).1 = kd at *
          generalize d.1.length = nn at *
          by_cases h2 : kd = 2
          · have h2b : (kd != 2) = false := by simpa using h2
            have HR : Hid (RES = (kc, (y : Int))) := by unfold Hid; rw [HRR.out, if_pos h2]
            clear h2 HRR
            go_wp2
            exact bodyPost_ret (v := intRV (kc, (y : Int))) (by simp [results, Tryz.results12, go_sem, t0, t1]) rfl ⟨by rw [HR.out], HEND.out _ _⟩
          · have h2b : (kd != 2) = true := by simpa using h2
            have HR : Hid (RES = (9, 0)) := by unfold Hid; rw [HRR.out, if_neg h2]
            clear h2 HRR
            go_wp2
            exact bodyPost_ret (v := intRV (9, 0)) (by simp [results, Tryz.results12, go_sem, t0, t1]) rfl ⟨by rw [HR.out], HEND.out _ _⟩
end Go.Proofs.YtmlfpikhencgcanGreatDoor

namespace Go.Proofs.YtmlfpikhencgcanGreatDoor
open Go.RowKit
set_option maxRecDepth 100000

/-- The last name, where there is a directory for it. -/
def lnmP (d : FD) (p : List UInt8) : ByteArray := if (parR d p).1 = 0 then mkB ((splitL p)[(splitL p).length - 1]?.getD []) else ⟨#[]⟩
theorem dirK_two {d : FD} {r : Int × Int} (h : ¬ r.1 = 0 → r.2 = 0) (hd : ¬ (dirK d r).1 = 0) : (dirK d r).2 = 0 := by
  unfold dirK at hd ⊢
  by_cases h0 : r.1 = 0
  · rw [if_pos h0] at hd ⊢
    by_cases hk : kindAt d.1 r.2.toNat = 2
    · rw [if_pos hk] at hd; exact absurd h0 hd
    · rw [if_neg hk]
  · rw [if_neg h0]; exact h h0
theorem par_two (d : FD) (p : List UInt8) (h : ¬ (parR d p).1 = 0) : (parR d p).2 = 0 := by
  unfold parR at h ⊢
  by_cases h0 : pathF p = 0
  · rw [if_pos h0] at h ⊢
    by_cases h1 : (splitL p).length = 0
    · rw [if_pos h1]
    · rw [if_neg h1] at h ⊢
      exact dirK_two (wkR_two _ 0) h
  · rw [if_neg h0]
theorem par_int (d : FD) (p : List UInt8) : (if (parR d p).1 = 0 then (0, (parR d p).2) else ((parR d p).1, 0)) = parR d p := by
  by_cases h0 : (parR d p).1 = 0
  · rw [if_pos h0]; exact Prod.ext h0.symm rfl
  · rw [if_neg h0]; exact Prod.ext rfl (par_two d p h0).symm
set_option maxHeartbeats 6400000 in
theorem l9Parent_any (w : World) (b : Nat) (d : FD) (aI : Option Addr) (cI : Nat) (aD : Option Addr) (cD : Nat) (hx : FsX w b 0 d aI cI aD cD) (hok : FsOk d) (p : List UInt8) (hp : p.length ≤ 1048576) :
    Calls Tryz.prog 24 #[.pointer (some ⟨b, 0, none⟩), .string (mkB p)] w fun e w' => e = .returned (.tuple #[.int .i64 (parR d p).2, .string (lnmP d p), .int .i64 (parR d p).1]) ∧ Below w.heap.size w w' := by
  have HP : Hid (parR d p = if pathF p = 0 then (if (splitL p).length = 0 then (4, 0) else dirK d (wkR d.1 0 ((splitL p).take ((splitL p).length - 1)))) else (pathF p, 0)) := rfl
  have HLN : Hid (lnmP d p = if (parR d p).1 = 0 then mkB ((splitL p)[(splitL p).length - 1]?.getD []) else ⟨#[]⟩) := rfl
  by_cases h0 : pathF p = 0
  rotate_left
  · have e1 : parR d p = (pathF p, 0) := by rw [HP.out, if_neg h0]
    rw [HLN.out, e1, if_neg h0]
    have HS : Hid (Calls Tryz.prog 41 #[.string (mkB p)] w fun e w' => e = .returned (.tuple #[.slice none 0 0, .string ⟨#[]⟩, .int .i64 (pathF p)]) ∧ Below w.heap.size w w') := l3Last_bad w p h0
    have hb : (pathF p != 0) = true := by simpa using h0
    clear hx hok hp h0 e1 HP HLN
    generalize mkB p = s at *
    generalize pathF p = pc at *
    go_enter Tryz.func24, Tryz.ntmps24
    go_wp2_with fail
    refine HS.out.mono ?_
    rintro e w1 ⟨rfl, hb1⟩
    have HB1 : Hid (Below w.heap.size w w1) := hb1
    clear hb1
    go_wp2
    go_ret3
    exact ⟨rfl, HB1.out⟩
  · have hsl : splitL p = namesL p := if_pos h0
    by_cases hz : (namesL p).length = 0
    · have e1 : parR d p = (4, 0) := by rw [HP.out, if_pos h0, hsl, if_pos hz]
      rw [HLN.out, e1, if_neg (by decide)]
      have HS : Hid (Calls Tryz.prog 41 #[.string (mkB p)] w fun e w' => e = .returned (.tuple #[.slice none 0 0, .string ⟨#[]⟩, .int .i64 4]) ∧ Below w.heap.size w w') := l3Last_none w p h0 hz
      clear hx hok hp h0 e1 HP HLN hsl hz
      generalize mkB p = s at *
      go_enter Tryz.func24, Tryz.ntmps24
      go_wp2_with fail
      refine HS.out.mono ?_
      rintro e w1 ⟨rfl, hb1⟩
      have HB1 : Hid (Below w.heap.size w w1) := hb1
      clear hb1
      go_wp2
      go_ret3
      exact ⟨rfl, HB1.out⟩
    · obtain ⟨m, hm⟩ : ∃ m, (namesL p).length = m + 1 := ⟨(namesL p).length - 1, by omega⟩
      have hln := splitL_len p hp
      rw [hsl] at hln
      have e1 : parR d p = dirK d (wkR d.1 0 ((namesL p).take m)) := by rw [HP.out, if_pos h0, hsl, if_neg hz, show (namesL p).length - 1 = m by omega]
      have e2 : lnmP d p = if (dirK d (wkR d.1 0 ((namesL p).take m))).1 = 0 then mkB ((namesL p)[m]?.getD []) else ⟨#[]⟩ := by rw [HLN.out, e1, hsl, show (namesL p).length - 1 = m by omega]
      rw [e2, e1]
      have HS : Hid (Calls Tryz.prog 41 #[.string (mkB p)] w fun e w' => ∃ A C, e = .returned (.tuple #[.slice A m C, .string (mkB ((namesL p)[m]?.getD [])), .int .i64 0]) ∧ Below w.heap.size w w' ∧ AtT w' A m (namesL p)) := l3Last_ok w p h0 m hm
      have HW : Hid (∀ (W : World) (A : Option Addr) (C : Nat), Below w.heap.size w W → AtT W A m (namesL p) → Calls Tryz.prog 31 #[.pointer (some ⟨b, 0, none⟩), .slice A m C] W fun e w' => e = .returned (.tuple #[.int .i64 (wkR d.1 0 ((namesL p).take m)).2, .int .i64 (wkR d.1 0 ((namesL p).take m)).1]) ∧ Below W.heap.size W w') := fun W A C hW hat => by
        refine (l9Walk_any W b d aI cI aD cD (hx.later hW) hok A m C ((namesL p).take m) (by rw [List.length_take]; omega) (by omega) (hat.take m (Nat.le_refl _))).mono ?_
        rintro e w' ⟨rfl, q, rfl⟩
        exact ⟨rfl, below_drewN (Below.refl _ _) q⟩
      have HK : Hid ((wkR d.1 0 ((namesL p).take m)).1 = 0 → ∃ y : Nat, (wkR d.1 0 ((namesL p).take m)).2 = (y : Int) ∧ y < d.1.length ∧ ∃ b0 o0, aI = some ⟨b0, o0, none⟩ ∧ w.cell? ⟨b, 0, none⟩ = some (.slice (some ⟨b0, o0, none⟩) d.1.length cI) ∧ w.cell? ⟨b0, o0 + y * 5, none⟩ = some (.int .i64 (d.1[y]?.getD id0).1)) := fun hk0 => by
        obtain ⟨y, hy, hyl⟩ := wkR_lt hok.rng _ 0 hok.pos hk0
        obtain ⟨f0, -, hI, -⟩ := hx
        obtain ⟨_, _, e9, -, hAt⟩ := hI.open'
        simp only [Value.slice.injEq] at e9
        obtain ⟨rfl, -, rfl⟩ := e9
        obtain ⟨b0, o0, rfl, hIt⟩ := hAt y hyl
        obtain ⟨_, _, _, _, k0, _⟩ := hIt
        exact ⟨y, hy, hyl, b0, o0, rfl, f0, k0⟩
      have H2 : Hid (¬ (wkR d.1 0 ((namesL p).take m)).1 = 0 → (wkR d.1 0 ((namesL p).take m)).2 = 0) := wkR_two _ 0
      have hten := hok.ten
      clear hx hok hp h0 e1 e2 HP HLN hsl hz hm hln
      generalize mkB ((namesL p)[m]?.getD []) = lst at *
      generalize wkR d.1 0 ((namesL p).take m) = wr at *
      generalize namesL p = xs at *
      generalize mkB p = s at *
      obtain ⟨kc, kv⟩ := wr
      dsimp only at HW HK H2
      have HDK : Hid (∀ r, dirK d r = if r.1 = 0 then (if kindAt d.1 r.2.toNat = 2 then r else (9, 0)) else r) := fun _ => rfl
      by_cases hk : kc = 0
      rotate_left
      · have e3 : dirK d (kc, kv) = (kc, kv) := by rw [HDK.out]; exact if_neg hk
        rw [e3, if_neg hk]
        have h20 := H2.out hk
        subst h20
        have hkb : (kc != 0) = true := by simpa using hk
        clear hk HK H2 HDK e3
        go_enter Tryz.func24, Tryz.ntmps24
        go_wp2_with fail
        refine HS.out.mono ?_
        rintro e w1 ⟨A, C, rfl, hb1, hat⟩
        have HB1 : Hid (Below w.heap.size w w1) := hb1
        have HAT : Hid (AtT w1 A m xs) := hat
        clear hb1 hat
        go_wp2_with fail
        refine (HW.out _ A C HB1.out HAT.out).mono ?_
        rintro e w2 ⟨rfl, hb2⟩
        have HB2 : Hid (Below w.heap.size w w2) := HB1.out.trans (hb2.mono HB1.out.size)
        clear hb2
        go_wp2
        go_ret3
        exact ⟨rfl, HB2.out⟩
      · have hkb : (kc != 0) = false := by simpa using hk
        obtain ⟨y, hy, hyl, b0, o0, rfl, f0, k0⟩ := HK.out hk
        subst hy
        subst hk
        have hyI : (y : Int) < ((d.1.length : Nat) : Int) := by omega
        have HF0 : Hid (_ = _) := f0
        have HK0 : Hid (_ = _) := k0
        clear HK H2 f0 k0
        by_cases h2 : (d.1[y]?.getD id0).1 = 2
        · have e3 : dirK d (0, (y : Int)) = (0, (y : Int)) := by
            rw [HDK.out, if_pos rfl]
            show (if kindAt d.1 (y : Int).toNat = 2 then ((0 : Int), (y : Int)) else (9, 0)) = _
            rw [Int.toNat_natCast]; exact if_pos h2
          rw [e3, if_pos rfl]
          have h2b : ((d.1[y]?.getD id0).1 != 2) = false := by simpa using h2
          clear h2 HDK e3
          generalize (d.1[y]?.getD id0).1 = kd at *
          generalize d.1.length = nn at *
          go_enter Tryz.func24, Tryz.ntmps24
          go_wp2_with fail
          refine HS.out.mono ?_
          rintro e w1 ⟨A, C, rfl, hb1, hat⟩
          have HB1 : Hid (Below w.heap.size w w1) := hb1
          have HAT : Hid (AtT w1 A m xs) := hat
          clear hb1 hat
          go_wp2_with fail
          refine (HW.out _ A C HB1.out HAT.out).mono ?_
          rintro e w2 ⟨rfl, hb2⟩
          have HB2 : Hid (Below w.heap.size w w2) := HB1.out.trans (hb2.mono HB1.out.size)
          have g0 := cell_later HB2.out HF0.out
          have g1 := cell_later HB2.out HK0.out
          clear hb2
          go_wp2
          go_ret3
          exact ⟨rfl, HB2.out⟩
        · have e3 : dirK d (0, (y : Int)) = (9, 0) := by
            rw [HDK.out, if_pos rfl]
            show (if kindAt d.1 (y : Int).toNat = 2 then ((0 : Int), (y : Int)) else (9, 0)) = _
            rw [Int.toNat_natCast]; exact if_neg h2
          rw [e3, if_neg (by decide)]
          have h2b : ((d.1[y]?.getD id0).1 != 2) = true := by simpa using h2
          clear h2 HDK e3
          generalize (d.1[y]?.getD id0).1 = kd at *
          generalize d.1.length = nn at *
          go_enter Tryz.func24, Tryz.ntmps24
          go_wp2_with fail
          refine HS.out.mono ?_
          rintro e w1 ⟨A, C, rfl, hb1, hat⟩
          have HB1 : Hid (Below w.heap.size w w1) := hb1
          have HAT : Hid (AtT w1 A m xs) := hat
          clear hb1 hat
          go_wp2_with fail
          refine (HW.out _ A C HB1.out HAT.out).mono ?_
          rintro e w2 ⟨rfl, hb2⟩
          have HB2 : Hid (Below w.heap.size w w2) := HB1.out.trans (hb2.mono HB1.out.size)
          have g0 := cell_later HB2.out HF0.out
          have g1 := cell_later HB2.out HK0.out
          clear hb2
          go_wp2
          go_ret3
          exact ⟨rfl, HB2.out⟩
set_option maxHeartbeats 3200000 in
theorem specParentU (w : World) (a1 : Option Addr) (n1 c1 : Nat) (a2 : Option Addr) (n2 c2 : Nat) (d : FD) (s : ByteArray) (h : FsR w (.slice a1 n1 c1) (.slice a2 n2 c2) d) (hs : sizeFs d ≤ 1048576) (hl : s.size ≤ 1048576) :
    Calls Tryz.prog 11 #[.agg #[.slice a1 n1 c1, .slice a2 n2 c2], .string s] w fun e w' => e = .returned (intRV (wparR d s)) ∧ Below w.heap.size w w' := by
  obtain ⟨hx0, -, -⟩ := FsX.box h 32
  have HB0 : Hid (Below w.heap.size w ((w.alloc (.cells #[.slice a1 n1 c1, .slice a2 n2 c2] 32)).alloc (.cells #[.int .i64 0, .int .i64 0] 28))) := later2 _ _ _
  have HRS : Hid (OwnRow ((w.alloc (.cells #[.slice a1 n1 c1, .slice a2 n2 c2] 32)).alloc (.cells #[.int .i64 0, .int .i64 0] 28)) (w.heap.size + 1) 2 (fun _ => .int .i64 0)) := by
    have p2 := zeros2 (w.alloc (.cells #[.slice a1 n1 c1, .slice a2 n2 c2] 32)) 28
    rw [World.size_alloc] at p2
    exact p2
  have hsp : s.data.toList.length = s.size := Array.length_toList
  have HF : Hid (Calls Tryz.prog 15 #[.pointer (some ⟨w.heap.size, 0, none⟩)] ((w.alloc (.cells #[.slice a1 n1 c1, .slice a2 n2 c2] 32)).alloc (.cells #[.int .i64 0, .int .i64 0] 28)) fun e w' => e = .returned (.int .i64 (fsF d)) ∧ Below ((w.alloc (.cells #[.slice a1 n1 c1, .slice a2 n2 c2] 32)).alloc (.cells #[.int .i64 0, .int .i64 0] 28)).heap.size ((w.alloc (.cells #[.slice a1 n1 c1, .slice a2 n2 c2] 32)).alloc (.cells #[.int .i64 0, .int .i64 0] 28)) w') := l6Fault_any _ _ _ d _ _ _ _ (hx0.later (later1 _ _)) (by unfold sizeFs at hs; omega)
  have HP : Hid (fsF d = 0 → ∀ W, Below ((w.alloc (.cells #[.slice a1 n1 c1, .slice a2 n2 c2] 32)).alloc (.cells #[.int .i64 0, .int .i64 0] 28)).heap.size ((w.alloc (.cells #[.slice a1 n1 c1, .slice a2 n2 c2] 32)).alloc (.cells #[.int .i64 0, .int .i64 0] 28)) W → Calls Tryz.prog 24 #[.pointer (some ⟨w.heap.size, 0, none⟩), .string s] W fun e w' => e = .returned (.tuple #[.int .i64 (parR d s.data.toList).2, .string (lnmP d s.data.toList), .int .i64 (parR d s.data.toList).1]) ∧ Below W.heap.size W w') := fun hf W hW => by
    have := l9Parent_any W w.heap.size d _ _ _ _ ((hx0.later (later1 _ _)).later hW) (fsE_ok (fsF_E hf)) s.data.toList (by omega)
    rw [mkB_data] at this
    exact this
  have HI : Hid (∀ W, Calls Tryz.prog 17 #[.int .i64 (parR d s.data.toList).2, .int .i64 (parR d s.data.toList).1] W fun e w' => e = .returned (intRV (parR d s.data.toList)) ∧ Below W.heap.size W w') := fun W => by
    have := l9Int_any W (parR d s.data.toList).1 (parR d s.data.toList).2
    rw [par_int] at this
    exact this
  rw [wpar_par]
  clear h hs hl hsp hx0
  generalize parR d s.data.toList = pr at *
  generalize lnmP d s.data.toList = ln at *
  generalize fsF d = r at *
  by_cases hf : r = 0
  rotate_left
  · rw [if_neg hf]
    have hb : (r != 0) = true := by simpa using hf
    clear hf HP HI
    go_enter Tryz.func11, Tryz.ntmps11
    go_wp2_with fail
    generalize ((w.alloc (.cells #[.slice a1 n1 c1, .slice a2 n2 c2] 32)).alloc (.cells #[.int .i64 0, .int .i64 0] 28)) = W0 at *
    refine HF.out.mono ?_
    rintro e w1 ⟨rfl, hb1⟩
    have HB1 : Hid (Below w.heap.size w w1) := HB0.out.trans (hb1.mono HB0.out.size)
    have hrr := HRS.out.later hb1
    have t0 : w1.cell? ⟨w.heap.size + 1, 0, none⟩ = some (.int .i64 0) := hrr.cell (i := 0) (by omega)
    have t1 : w1.cell? ⟨w.heap.size + 1, 1, none⟩ = some (.int .i64 0) := hrr.cell (i := 1) (by omega)
    have s0 := hrr.frozen 0
    have s1 := hrr.frozen 1
    clear hb1 hrr
    go_wp2
    exact bodyPost_ret (v := intRV (r, 0)) (by simp [results, Tryz.results11, go_sem, t0, t1]) rfl ⟨rfl, (HB1.out.setCell (p := ⟨w.heap.size + 1, 0, none⟩) (by show w.heap.size ≤ w.heap.size + 1; omega) _).setCell (p := ⟨w.heap.size + 1, 1, none⟩) (by show w.heap.size ≤ w.heap.size + 1; omega) _⟩
  · rw [if_pos hf]
    have hb : (r != 0) = false := by simpa using hf
    have HP2 := HP.out hf
    have HPP : Hid (∀ W, Below ((w.alloc (.cells #[.slice a1 n1 c1, .slice a2 n2 c2] 32)).alloc (.cells #[.int .i64 0, .int .i64 0] 28)).heap.size ((w.alloc (.cells #[.slice a1 n1 c1, .slice a2 n2 c2] 32)).alloc (.cells #[.int .i64 0, .int .i64 0] 28)) W → Calls Tryz.prog 24 #[.pointer (some ⟨w.heap.size, 0, none⟩), .string s] W fun e w' => e = .returned (.tuple #[.int .i64 pr.2, .string ln, .int .i64 pr.1]) ∧ Below W.heap.size W w') := HP2
    clear hf HP HP2
    obtain ⟨pc, pv⟩ := pr
    dsimp only at HPP HI
    go_enter Tryz.func11, Tryz.ntmps11
    go_wp2_with fail
    generalize ((w.alloc (.cells #[.slice a1 n1 c1, .slice a2 n2 c2] 32)).alloc (.cells #[.int .i64 0, .int .i64 0] 28)) = W0 at *
    refine HF.out.mono ?_
    rintro e w1 ⟨rfl, hb1⟩
    have HBW : Hid (Below W0.heap.size W0 w1) := hb1
    clear hb1
    go_wp2_with fail
    refine (HPP.out _ HBW.out).mono ?_
    rintro e w2 ⟨rfl, hb2⟩
    have HB2 : Hid (Below W0.heap.size W0 w2) := HBW.out.trans (hb2.mono HBW.out.size)
    clear hb2
    go_wp2_with fail
    refine (HI.out _).mono ?_
    rintro e w3 ⟨rfl, hb3⟩
    have HB3 : Hid (Below W0.heap.size W0 w3) := HB2.out.trans (hb3.mono HB2.out.size)
    have hrr := HRS.out.later HB3.out
    have t0 : w3.cell? ⟨w.heap.size + 1, 0, none⟩ = some (.int .i64 0) := hrr.cell (i := 0) (by omega)
    have t1 : w3.cell? ⟨w.heap.size + 1, 1, none⟩ = some (.int .i64 0) := hrr.cell (i := 1) (by omega)
    have s0 := hrr.frozen 0
    have s1 := hrr.frozen 1
    have HBF : Hid (Below w.heap.size w w3) := HB0.out.trans (HB3.out.mono HB0.out.size)
    clear hb3 hrr
    go_wp2
    exact bodyPost_ret (v := intRV (pc, pv)) (by simp [results, Tryz.results11, go_sem, t0, t1]) rfl ⟨rfl, (HBF.out.setCell (p := ⟨w.heap.size + 1, 0, none⟩) (by show w.heap.size ≤ w.heap.size + 1; omega) _).setCell (p := ⟨w.heap.size + 1, 1, none⟩) (by show w.heap.size ≤ w.heap.size + 1; omega) _⟩
theorem specParentV (w : World) (a1 : Option Addr) (n1 c1 : Nat) (a2 : Option Addr) (n2 c2 : Nat) (d : FD) (s : ByteArray) (h : FsR w (.slice a1 n1 c1) (.slice a2 n2 c2) d) (hs : sizeFs d ≤ 1048576) (hl : s.size ≤ 1048576) :
    Calls Tryz.prog 11 #[.agg #[.slice a1 n1 c1, .slice a2 n2 c2], .string s] w fun e w' => e = .returned (.agg #[.int .i64 (wparR d s).1, .int .i64 (wparR d s).2]) ∧ Below w.heap.size w w' := specParentU w a1 n1 c1 a2 n2 c2 d s h hs hl
end Go.Proofs.YtmlfpikhencgcanGreatDoor

/- How file systems that came in are opened. -/
import Derived.Test.YtjabimfinanjoaaGreatM20
import Derived.Test.YtjabimfinanjoaaGreatM05
namespace Go.Proofs.YtjabimfinanjoaaGreat
open Go.ChangeShapes Go.WideShapes Go.ChangeAt Go.RowKit Go.Joins Go.Deep
set_option maxRecDepth 100000

theorem Tryz.cellsByteF : Tryz.prog.cellsOf 5 = 1 := by kernel_rfl
theorem Tryz.cellsBytF : Tryz.prog.cellsOf 26 = 1 := by kernel_rfl
theorem Tryz.cellsBytsF : Tryz.prog.cellsOf 23 = 1 := by kernel_rfl
theorem Tryz.cellsInosF : Tryz.prog.cellsOf 22 = 1 := by kernel_rfl
theorem Tryz.cellsFsF : Tryz.prog.cellsOf 25 = 2 := by kernel_rfl
theorem open_Byt {H : Type} {enc : TypeId × Value → H} {P : Program} {w : World} {base : Nat} {held : Bool} {t e : TypeId} {fuel : Nat} {v : Value} {x : DataW H × List MemPlace} (ht : P.underlying t = some (.slice e)) (he : P.underlying e = some (.int .u8)) (ce : P.cellsOf e = 1) (h : DataW.trod enc P w base (fun _ => true) held fuel t [v] = some x) :
    ∃ zs, Byt w v zs := by
  rcases open_slice1 ht ce h with ⟨hcs, _⟩ | ⟨a, len, cap, m, n, V, D, Pl, hcs, _, hl, hm, hmm, _, hx⟩
  · simp only [List.cons.injEq, and_true] at hcs
    exact ⟨[], by rw [hcs]; exact Byt.nil w none 0⟩
  · simp only [List.cons.injEq, and_true] at hcs
    simp only [if_true] at hmm
    by_cases h0 : len = 0
    · subst h0; exact ⟨[], by rw [hcs]; exact Byt.nil w (some a) cap⟩
    · have ha := addr_of (hx 0 (by omega)).1
      obtain ⟨Z, hZ⟩ := choose_lt (α := UInt8) (n := m) (p := fun i b => V i = .int .u8 ((b.toNat : Nat) : Int)) fun i hi => by
        obtain ⟨z, h1, _, hw⟩ := DataW.trod_int he (hx i hi).2
        have hz0 : IntKind.u8.min ≤ z ∧ z ≤ IntKind.u8.max := by simpa [Lit.wf] using hw
        have hz : 0 ≤ z ∧ z ≤ 255 := hz0
        refine ⟨UInt8.ofNat z.toNat, ?_⟩
        simp only [List.cons.injEq, and_true] at h1
        rw [h1]
        congr 1
        have : (UInt8.ofNat z.toNat).toNat = z.toNat := by simp; omega
        rw [this]; omega
      refine ⟨(List.range len).map Z, some a, cap, ?_, ?_, fun k hk => ?_⟩
      · simp only [List.length_map, List.length_range]; exact hcs
      · simp only [List.length_map, List.length_range]; exact ⟨by omega, by omega⟩
      · simp only [List.length_map, List.length_range] at hk
        have h1 := (hx k (by omega)).1
        rw [ha, add_plain] at h1
        refine ⟨a.block, a.off, by rw [← ha], ?_⟩
        rw [h1, hZ k (by omega)]
        simp [hk]
theorem open_Byts {H : Type} {enc : TypeId × Value → H} {P : Program} {w : World} {base : Nat} {held : Bool} {t e q : TypeId} {fuel : Nat} {v : Value} {x : DataW H × List MemPlace} (ht : P.underlying t = some (.slice e)) (he : P.underlying e = some (.slice q)) (hq : P.underlying q = some (.int .u8)) (ce : P.cellsOf e = 1) (cq : P.cellsOf q = 1)
    (h : DataW.trod enc P w base (fun _ => true) held fuel t [v] = some x) : ∃ zss, Byts w v zss := by
  rcases open_slice1 ht ce h with ⟨hcs, _⟩ | ⟨a, len, cap, m, n, V, D, Pl, hcs, _, hl, hm, hmm, _, hx⟩
  · simp only [List.cons.injEq, and_true] at hcs
    exact ⟨[], by rw [hcs]; exact Byts.nil w none 0⟩
  · simp only [List.cons.injEq, and_true] at hcs
    simp only [if_true] at hmm
    by_cases h0 : len = 0
    · subst h0; exact ⟨[], by rw [hcs]; exact Byts.nil w (some a) cap⟩
    · have ha := addr_of (hx 0 (by omega)).1
      obtain ⟨Z, hZ⟩ := choose_lt (α := List UInt8) (n := m) (p := fun i zs => Byt w (V i) zs) fun i hi => open_Byt he hq cq (hx i hi).2
      refine ⟨(List.range len).map Z, some a, cap, ?_, ?_, fun k hk => ?_⟩
      · simp only [List.length_map, List.length_range]; exact hcs
      · simp only [List.length_map, List.length_range]; exact ⟨by omega, by omega⟩
      · simp only [List.length_map, List.length_range] at hk
        have h1 := (hx k (by omega)).1
        rw [ha, add_plain] at h1
        have hg : ((List.range len).map Z)[k]?.getD [] = Z k := by simp [hk]
        rw [hg]
        obtain ⟨ua, uc, e1, e2, e3⟩ := hZ k (by omega)
        rw [e1] at h1
        exact ⟨a.block, a.off, ua, uc, by rw [← ha], h1, ua, uc, rfl, e2, e3⟩
theorem open_FsU {H : Type} {enc : TypeId × Value → H} {W : World} {r : Reach} {b0 : Nat} {v : Value} {d : DataW H} {p : List MemPlace} (hv : Value.okWide Tryz.prog W r b0 25 v) (h : DataW.Trod enc Tryz.prog W 0 (fun _ => true) true 25 v d p) :
    ∃ v0 v1 fd, v = .agg #[v0, v1] ∧ FsR W v0 v1 fd := by
  obtain ⟨cs, rfl, hsz⟩ := okWide_struct Tryz.underlying25 hv
  obtain ⟨c0, c1, rfl⟩ := array2 (hsz.trans Tryz.cellsFsF)
  obtain ⟨fuel, hf⟩ := h
  obtain ⟨xs, k, hk, hxy, _, hxl, hg⟩ := DataW.trod_struct Tryz.underlying25 hf
  match xs, hxl with
  | [y0, y1], _ =>
    have g0 : DataW.trod enc Tryz.prog W 0 (fun _ => true) true k 22 [c0] = some y0 := by simpa [Value.cells, Tryz.cellsInosF] using hg 0 _ rfl
    have g1 : DataW.trod enc Tryz.prog W 0 (fun _ => true) true k 23 [c1] = some y1 := by simpa [Value.cells, Tryz.cellsBytsF] using hg 1 _ rfl
    obtain ⟨ds, hds⟩ := open_Inos g0
    obtain ⟨zss, hz⟩ := open_Byts Tryz.underlying23 Tryz.underlying26 Tryz.underlying5 Tryz.cellsBytF Tryz.cellsByteF g1
    exact ⟨c0, c1, (ds, zss), rfl, hds, hz⟩
end Go.Proofs.YtjabimfinanjoaaGreat

/- Directories: LookName, of the program and of the specification. Entries that grow by append; cells of an inode of a file system in own memory that turn. The program's AddName: an entry put into its place. The program's AddName: what it asks; places of a file system that are told. AddName: how great what is answered is; append within a region, its answer told by a property. The specification's AddName: an entry put into its place. -/
import Derived.Test.YtjabimfinanjoabGreatM23
import Derived.Test.YtjabimfinanjoabGreatM01
import Derived.Test.YtjabimfinanjoabGreatM02
import Derived.Test.YtjabimfinanjoabGreatM18
import Derived.ArgAppend
import Derived.Deep.DeepAppendWide
import Derived.Test.YtjabimfinanjoabGreatM21
import Derived.BigQuiet
namespace Go.Proofs.YtjabimfinanjoabGreat
open Go.RowKit
set_option maxRecDepth 100000

theorem dirN_in {d : FD} {x : Int} {s : ByteArray} (h : dirN d x s = 0) : dirQ d x = 0 := by
  unfold dirN at h
  by_cases e : dirQ d x = 0
  · exact e
  · rw [if_neg e] at h; exact absurd h e
theorem dirN_name {d : FD} {x : Int} {s : ByteArray} (h : dirN d x s = 0) : nameF s = 0 := by
  have h' := dirN_in h
  unfold dirN at h
  rw [if_pos h'] at h
  exact h
set_option maxHeartbeats 3200000 in
theorem implLookU (w : World) (a1 : Option Addr) (n1 c1 : Nat) (a2 : Option Addr) (n2 c2 : Nat) (d : FD) (x : Int) (s : ByteArray) (h : FsR w (.slice a1 n1 c1) (.slice a2 n2 c2) d) (hs : sizeFs d ≤ 1048576) (hl : s.size ≤ 1048576) :
    Calls Tryz.prog 69 #[.agg #[.slice a1 n1 c1, .slice a2 n2 c2], .int .i64 x, .string s] w fun e w' => e = .returned (.agg #[.int .i64 (lookR d x s).1, .int .i64 (lookR d x s).2]) ∧ Below w.heap.size w w' := by
  have hml : s.size ≤ maxLen := by unfold maxLen; omega
  have HB0 : Hid (Below w.heap.size w ((w.alloc (.cells #[.slice a1 n1 c1, .slice a2 n2 c2] 31)).alloc (.cells #[.int .i64 0, .int .i64 0] 94))) := later2 _ _ _
  have HX : Hid (Bx ((w.alloc (.cells #[.slice a1 n1 c1, .slice a2 n2 c2] 31)).alloc (.cells #[.int .i64 0, .int .i64 0] 94)) w.heap.size [.slice a1 n1 c1, .slice a2 n2 c2]) := (Bx.new w [.slice a1 n1 c1, .slice a2 n2 c2] _).later (later1 _ _)
  have HRB : Hid (OwnRow ((w.alloc (.cells #[.slice a1 n1 c1, .slice a2 n2 c2] 31)).alloc (.cells #[.int .i64 0, .int .i64 0] 94)) (w.heap.size + 1) 2 (fun i => if i = 0 then .int .i64 0 else .int .i64 0)) := by
    have := OwnRow.newS (w.alloc (.cells #[.slice a1 n1 c1, .slice a2 n2 c2] 31)) (.int .i64 0) (.int .i64 0) 94
    rw [World.size_alloc] at this
    exact this
  have HF : Hid (∀ W, Below w.heap.size w W → Calls Tryz.prog 59 #[.agg #[.slice a1 n1 c1, .slice a2 n2 c2], .int .i64 x, .string s] W fun e w' => e = .returned (.int .i64 (dirN d x s)) ∧ Below W.heap.size W w') := fun W hW => dirNameFault_any W _ _ _ _ _ _ d x s (h.later hW) (by unfold sizeFs at hs; omega) hml
  have HRR : Hid (lookR d x s = if dirN d x s = 0 then (if idxE (entA d x.toNat) s < (entA d x.toNat).length then (0, ((entA d x.toNat)[idxE (entA d x.toNat) s]?.getD en0).2) else (4, 0)) else (dirN d x s, 0)) := rfl
  rw [HRR.out]
  clear HRR
  by_cases hq : dirN d x s = 0
  rotate_left
  · rw [if_neg hq]
    have hb : (dirN d x s != 0) = true := by simpa using hq
    clear hq h hs
    generalize dirN d x s = r at *
    go_enter Tryz.func69, Tryz.ntmps69
    go_wp2_with fail
    generalize ((w.alloc (.cells #[.slice a1 n1 c1, .slice a2 n2 c2] 31)).alloc (.cells #[.int .i64 0, .int .i64 0] 94)) = W0 at *
    refine (HF.out _ HB0.out).mono ?_
    rintro e w1 ⟨rfl, hb1⟩
    have HB1 : Hid (Below w.heap.size w w1) := HB0.out.trans (hb1.mono HB0.out.size)
    have hrow := HRB.out.later hb1
    have t0 := hrow.cell (i := 0) (by omega)
    have t1 := hrow.cell (i := 1) (by omega)
    have s0 := hrow.frozen 0
    have s1 := hrow.frozen 1
    simp only [ite_self] at t0 t1
    clear hb1 hrow
    go_wp2
    exact bodyPost_ret (v := .agg #[.int .i64 r, .int .i64 0]) (by simp [results, Tryz.results69, go_sem, t0, t1]) rfl ⟨rfl, (HB1.out.setCell (by simp) _).setCell (by simp) _⟩
  · rw [if_pos hq]
    have hq0 : dirQ d x = 0 := dirN_in hq
    have hds := dirS hq0
    obtain ⟨_, hp, _⟩ := dirQ_in hq0
    obtain ⟨j, rfl⟩ : ∃ j : Nat, x = (j : Int) := ⟨x.toNat, by omega⟩
    rw [Int.toNat_natCast] at hds ⊢
    obtain ⟨b0, o0, aE, cE, rfl, rfl, k4, hE⟩ := h.dir hds.lt
    have HK4 : Hid (_ = _) := k4
    have hjn : (j : Int) < ((d.1.length : Nat) : Int) := by omega
    have hlt := hds.lt
    have h6 := hds.six
    obtain ⟨_, _, eE, _, _, hAt⟩ := hE.open'
    simp only [Value.slice.injEq] at eE
    obtain ⟨rfl, -, rfl⟩ := eE
    rw [hq] at HF
    have HPL : Hid (∀ W, Below w.heap.size w W → Calls Tryz.prog 60 #[.slice aE (entA d j).length cE, .string s] W fun e w' => e = .returned (.tuple #[.int .i64 ((plcE (entA d j) s : Nat) : Int), .bool (fndB (entA d j) s)]) ∧ Below W.heap.size W w') := fun W hW => placeOf_any W aE _ cE (entA d j) s rfl (by omega) (hAt.later hW)
    rw [fnd_iff hds.rises] at HPL
    by_cases hi : idxE (entA d j) s < (entA d j).length
    · rw [if_pos hi]
      rw [decide_eq_true hi, idx_plc hds.rises hi] at HPL
      obtain ⟨bE, oE, rfl, _, l1⟩ := hAt _ hi
      have HL1 : Hid (_ = _) := l1
      clear hq hds hp hE k4 h hAt l1 hq0
      generalize ((entA d j)[idxE (entA d j) s]?.getD en0).2 = y at *
      generalize idxE (entA d j) s = i at *
      generalize (entA d j).length = m at *
      generalize d.1.length = n at *
      have hiI : (i : Int) < (m : Int) := by omega
      go_enter Tryz.func69, Tryz.ntmps69
      go_wp2_with fail
      generalize ((w.alloc (.cells #[.slice (some ⟨b0, o0, none⟩) n c1, .slice a2 n2 c2] 31)).alloc (.cells #[.int .i64 0, .int .i64 0] 94)) = W0 at *
      refine (HF.out _ HB0.out).mono ?_
      rintro e w1 ⟨rfl, hb1⟩
      have HB1 : Hid (Below w.heap.size w w1) := HB0.out.trans (hb1.mono HB0.out.size)
      have HR1 : Hid (OwnRow w1 (w.heap.size + 1) 2 _) := HRB.out.later hb1
      have y0 := (HX.out.later hb1) 0 _ rfl
      have y1 := (HX.out.later hb1) 1 _ rfl
      have k1 := cell_later HB1.out HK4.out
      have l1 := cell_later HB1.out HL1.out
      clear hb1
      go_wp2_with fail
      refine (HPL.out _ HB1.out).mono ?_
      rintro e w2 ⟨rfl, hb2⟩
      have HB2 : Hid (Below w.heap.size w w2) := HB1.out.trans (hb2.mono HB1.out.size)
      have l2 := cell_later hb2 l1
      have hrow := HR1.out.later hb2
      have t0 := hrow.cell (i := 0) (by omega)
      have t1 := hrow.cell (i := 1) (by omega)
      have s0 := hrow.frozen 0
      have s1 := hrow.frozen 1
      simp only [ite_self] at t0 t1
      clear hb2 hrow y0 y1 k1 l1
      go_wp2
      exact bodyPost_ret (v := .agg #[.int .i64 0, .int .i64 y]) (by simp [results, Tryz.results69, go_sem, t0, t1]) rfl ⟨rfl, (HB2.out.setCell (by simp) _).setCell (by simp) _⟩
    · rw [if_neg hi]
      rw [decide_eq_false hi] at HPL
      clear hq hds hp hE k4 h hAt hq0 hi
      generalize plcE (entA d j) s = i at *
      generalize (entA d j).length = m at *
      generalize d.1.length = n at *
      go_enter Tryz.func69, Tryz.ntmps69
      go_wp2_with fail
      generalize ((w.alloc (.cells #[.slice (some ⟨b0, o0, none⟩) n c1, .slice a2 n2 c2] 31)).alloc (.cells #[.int .i64 0, .int .i64 0] 94)) = W0 at *
      refine (HF.out _ HB0.out).mono ?_
      rintro e w1 ⟨rfl, hb1⟩
      have HB1 : Hid (Below w.heap.size w w1) := HB0.out.trans (hb1.mono HB0.out.size)
      have HR1 : Hid (OwnRow w1 (w.heap.size + 1) 2 _) := HRB.out.later hb1
      have y0 := (HX.out.later hb1) 0 _ rfl
      have y1 := (HX.out.later hb1) 1 _ rfl
      have k1 := cell_later HB1.out HK4.out
      clear hb1
      go_wp2_with fail
      refine (HPL.out _ HB1.out).mono ?_
      rintro e w2 ⟨rfl, hb2⟩
      have HB2 : Hid (Below w.heap.size w w2) := HB1.out.trans (hb2.mono HB1.out.size)
      have hrow := HR1.out.later hb2
      have t0 := hrow.cell (i := 0) (by omega)
      have t1 := hrow.cell (i := 1) (by omega)
      have s0 := hrow.frozen 0
      have s1 := hrow.frozen 1
      simp only [ite_self] at t0 t1
      clear hb2 hrow y0 y1 k1
      go_wp2
      exact bodyPost_ret (v := .agg #[.int .i64 4, .int .i64 0]) (by simp [results, Tryz.results69, go_sem, t0, t1]) rfl ⟨rfl, (HB2.out.setCell (by simp) _).setCell (by simp) _⟩

end Go.Proofs.YtjabimfinanjoabGreat

namespace Go.Proofs.YtjabimfinanjoabGreat
open Go.RowKit
set_option maxRecDepth 100000

/-- Entries in memory that the call made since n₀. -/
def WdE (w : World) (n₀ : Nat) (v : Value) (es : List EN) : Prop := w.ownsRow n₀ 127 2 v es.length (enCells es)
theorem WdE.later {w w' : World} {n₀ : Nat} {v : Value} {es : List EN} (h : WdE w n₀ v es) (hb : Below w.heap.size w w') : WdE w' n₀ v es := ownsRow_later h hb
theorem WdE.shape {w : World} {n₀ : Nat} {v : Value} {es : List EN} (h : WdE w n₀ v es) : ∃ a c, v = .slice a es.length c := ownsRow_shape h
theorem WdE.nil (w : World) (n₀ : Nat) : WdE w n₀ (.slice none 0 0) [] := ⟨by simp [enCells], Or.inl ⟨rfl, rfl⟩⟩
theorem WdE.lit0 (w : World) (n₀ : Nat) (h : n₀ ≤ w.heap.size) : WdE (w.alloc (.cells #[] 127)) n₀ (.slice (some ⟨w.heap.size, 0, none⟩) 0 0) [] :=
  ⟨by simp [enCells], Or.inr ⟨w.heap.size, 0, #[], rfl, h, Go.Deep.blk_alloc_new _ _, Nat.le_refl _, by unfold maxLen; omega, by simp, by simp [enCells]⟩⟩
theorem WdE.own {w : World} {n₀ : Nat} {v : Value} {es : List EN} (h : WdE w n₀ v es) (hz : ∀ k : Nat, (es[k]?.getD en0).1.size ≤ maxLen) : EntsO w v es (fun b => n₀ ≤ b ∧ b < w.heap.size) := by
  obtain ⟨hl, h | ⟨g, cap, cur, rfl, hb, hh, hnc, hcm, hcs, htake⟩⟩ := h
  · exact Or.inl ⟨List.eq_nil_of_length_eq_zero h.2, _, _, by rw [h.1]⟩
  · refine Or.inr ⟨g, cap, ⟨hb, (Array.getElem?_eq_some_iff.1 hh).1⟩, rfl, ⟨by omega, hnc, hz⟩, cur, _, hh, by rw [hcs]; exact Nat.mul_le_mul_right 2 hnc, fun k hk => ?_⟩
    have h1 := enCells_get es k hk
    rw [← htake, List.getElem?_take, if_pos hk, Array.getElem?_toList] at h1
    exact h1
/-- Entries behind those that are there. -/
theorem WdE.push (w : World) (ty : TypeId) (n₀ : Nat) (v : Value) (es fs : List EN) (h : WdE w n₀ v es) (hn₀ : n₀ ≤ w.heap.size) (a : Option Addr) (m c : Nat) (hm : fs.length = m) (hc : AtN w a m fs) (hl : es.length + m ≤ 1048576) :
    ∃ v' X, (Builtin.append_ #[84, 84] ty #[v, .slice a m c]).run Tryz.prog w = .ok v' X ∧ WdE X n₀ v' (es ++ fs) ∧ Below n₀ w X := by
  subst hm
  obtain ⟨i, hi, h1, h2, h3⟩ := Tryz.infoEnt'
  by_cases h0 : fs.length = 0
  · have hfs : fs = [] := List.eq_nil_of_length_eq_zero h0
    subst hfs
    obtain ⟨av, cv, rfl⟩ := h.shape
    refine ⟨_, w, ?_, by rw [List.append_nil]; exact h, Below.refl _ _⟩
    have hcv : es.length ≤ cv := by
      obtain ⟨_, h | ⟨g, cap, cur, e, hb, hh, hnc, _⟩⟩ := h
      · have := h.2; omega
      · simp only [Value.slice.injEq] at e; omega
    cases a <;> cases av <;> simp [Builtin.append_, run_underlying Tryz.underlying84, sizeOf, typeInfo, hi, Builtin.lenOf, Builtin.firstCells, storeCells, loadCells, loadCellsFrom, hcv]
  · obtain ⟨b, off, rfl, _⟩ := hc 0 (by omega)
    obtain ⟨v', X, hr, ho, hg, _⟩ := run_append_own_wide (P := Tryz.prog) w n₀ 84 ty 127 i _ 2 24 Tryz.underlying84 hi h1 h2 h3 rfl (by decide) v es.length (enCells es) h ⟨b, off, none⟩ fs.length c (enCells fs) (enCells_length fs) (fun j u hu => hc.cells rfl j u hu) (enCells_one fs) (by unfold maxLen; omega) (by omega) hn₀
    refine ⟨v', X, hr, ?_, below_grown hg hn₀ (fun k hk => ?_)⟩
    · unfold WdE
      rw [List.length_append, enCells_append]
      exact ho
    · rcases h.2 with ⟨rfl, _⟩ | ⟨g, cap, cur, rfl, hb, _⟩
      · simp [Value.ownBlock] at hk
      · simp [Value.ownBlock] at hk; omega
/-- Entries behind others that have no room: new memory. -/
theorem push_ahead (w : World) (ty : TypeId) (es fs : List EN) (a : Option Addr) (n : Nat) (hn : es.length = n) (he : AtN w a n es) (ha : a = none → n = 0) (a' : Option Addr) (m c : Nat) (hm : fs.length = m) (hm0 : 0 < m) (hc : AtN w a' m fs) (hl : n + m ≤ 1048576) :
    ∃ v' X, (Builtin.append_ #[84, 84] ty #[.slice a n n, .slice a' m c]).run Tryz.prog w = .ok v' X ∧ WdE X w.heap.size v' (es ++ fs) ∧ Below w.heap.size w X := by
  cases a with
  | none =>
    have h0 := ha rfl
    have hes : es = [] := List.eq_nil_of_length_eq_zero (by omega)
    subst hes
    subst h0
    exact WdE.push w ty w.heap.size (.slice none 0 0) [] fs (WdE.nil _ _) (Nat.le_refl _) a' m c hm hc (by simpa using hl)
  | some p =>
    obtain ⟨i, hi, h1, h2, h3⟩ := Tryz.infoEnt'
    subst hn hm
    obtain ⟨b', off', rfl, _⟩ := hc 0 hm0
    have hp : ∀ j u, (enCells es)[j]? = some u → w.cell? (p.add j) = some u := fun j u hu => by
      have hj : j < es.length * 2 := by rw [← enCells_length]; exact (List.getElem?_eq_some_iff.1 hu).1
      obtain ⟨b, off, e, _⟩ := he 0 (by omega)
      simp only [Option.some.injEq] at e
      subst e
      exact he.cells rfl j u hu
    obtain ⟨v', X, hr, ho, hg⟩ := run_append_arg_grows (P := Tryz.prog) w 84 ty 127 i _ 2 24 Tryz.underlying84 hi h1 h2 h3 rfl (by decide) p es.length es.length (enCells es) (enCells_length es) hp ⟨b', off', none⟩ fs.length c (enCells fs) (enCells_length fs) (fun j u hu => hc.cells rfl j u hu) (by omega) (by unfold maxLen; omega) (by omega)
    refine ⟨v', X, hr, ?_, below_grown hg (Nat.le_refl _) (fun k hk => by simp at hk)⟩
    unfold WdE
    rw [List.length_append, enCells_append]
    exact ho
/-- One entry that was just built. -/
theorem lit1_E (w : World) (s : ByteArray) (y : Int) : AtN (w.alloc (.cells #[.string s, .int .i64 y] 127)) (some ⟨w.heap.size, 0, none⟩) 1 [(s, y)] := fun k hk => ⟨w.heap.size, 0, rfl, by
    have h0 : k = 0 := by omega
    subst h0
    rw [new_cell]
    rfl, by
    have h0 : k = 0 := by omega
    subst h0
    rw [new_cell]
    rfl⟩
theorem AtN.take {w : World} {a : Option Addr} {n : Nat} {es : List EN} (h : AtN w a n es) (k : Nat) (hk : k ≤ n) : AtN w a k (es.take k) := fun i hi => by
  obtain ⟨b, off, e, c0, c1⟩ := h i (by omega)
  exact ⟨b, off, e, by rw [List.getElem?_take, if_pos hi]; exact c0, by rw [List.getElem?_take, if_pos hi]; exact c1⟩
theorem AtN.drop {w : World} {b off n : Nat} {es : List EN} (h : AtN w (some ⟨b, off, none⟩) n es) (k : Nat) : AtN w (some ⟨b, off + k * 2, none⟩) (n - k) (es.drop k) := fun i hi => by
  obtain ⟨b', off', e, c0, c1⟩ := h (k + i) (by omega)
  simp only [Option.some.injEq, Addr.mk.injEq, and_true] at e
  obtain ⟨rfl, rfl⟩ := e
  refine ⟨b, off + k * 2, rfl, ?_, ?_⟩
  · rw [List.getElem?_drop, show off + k * 2 + i * 2 = off + (k + i) * 2 by omega]; exact c0
  · rw [List.getElem?_drop, show off + k * 2 + i * 2 + 1 = off + (k + i) * 2 + 1 by omega]; exact c1

/-- The entries of an inode without blocks stored. -/
theorem FsS.entS {w : World} {bI n cI bD cD : Nat} {d : FD} {F G : Nat → Prop} (hfs : FsS w bI n cI bD 20 cD d F) (j : Nat) (hj : j < n) (hblk : (d.1[j]?.getD id0).2.2.2.1 = []) (es : List EN) (vE : Value) (hE : EntsO w vE es G) (hG : ∀ c, G c → ¬ F c ∧ c < w.heap.size) :
    FsS (w.setCell ⟨bI, j * 5 + 4, none⟩ vE) bI n cI bD 20 cD (d.1.set j ((d.1[j]?.getD id0).1, (d.1[j]?.getD id0).2.1, (d.1[j]?.getD id0).2.2.1, [], es), d.2) (fun c => F c ∨ G c) := by
  have hne := hfs.ne
  have hl := hfs.len.1
  obtain ⟨aB, cB, aE, cE, i0, i1, i2, i3, i4, i5, _, _⟩ := hfs.ino j hj
  rw [hblk] at i3
  have h1 : Chg (fun c => c = bI) w (w.setCell ⟨bI, j * 5 + 4, none⟩ vE) := Chg.set (F := fun c => c = bI) (Chg.refl _ w) rfl (j * 5 + 4) vE
  refine hfs.putI j hj _ (.slice aB 0 cB) vE (fun u hu => ?_) h1 ?_ (fun c hc => ⟨(hG c hc).1, by simpa [World.setCell] using (hG c hc).2⟩)
  · have c0 := hu.cell (i := j * 5) (by omega)
    have c1 := hu.cell (i := j * 5 + 1) (by omega)
    have c2 := hu.cell (i := j * 5 + 2) (by omega)
    have c3 := hu.cell (i := j * 5 + 3) (by omega)
    rw [i0] at c0
    rw [i1] at c1
    rw [i2] at c2
    rw [i3] at c3
    have e0 := (Option.some.inj c0).symm
    have e1 := (Option.some.inj c1).symm
    have e2 := (Option.some.inj c2).symm
    have e3 := (Option.some.inj c3).symm
    refine (hu.set (j * 5 + 4) _).congr fun c _ => ?_
    rw [inCell_set d.1 u j (by omega)]
    by_cases q4 : c = j * 5 + 4
    · rw [if_pos q4, if_neg (by omega), if_neg (by omega), if_neg (by omega), if_neg (by omega)]
    · rw [if_neg q4]
      by_cases q0 : c = j * 5
      · rw [if_pos q0, q0, e0]
      · rw [if_neg q0]
        by_cases q1 : c = j * 5 + 1
        · rw [if_pos q1, q1, e1]
        · rw [if_neg q1]
          by_cases q2 : c = j * 5 + 2
          · rw [if_pos q2, q2, e2]
          · rw [if_neg q2]
            by_cases q3 : c = j * 5 + 3
            · rw [if_pos q3, q3, e3]; rfl
            · rw [if_neg q3]
  · exact ⟨⟨rfl, rfl, rfl, aB, 0, cB, rfl, Nat.zero_le _⟩, fun _ => False, G, Or.inl ⟨rfl, aB, cB, rfl⟩, hE.keep fun c hc hlt => h1.block c hlt fun e => (hG c hc).1 (e ▸ hne.2.1.1), fun _ hh => hh.elim, fun b hh => hh.elim False.elim id⟩
/-- The links of an inode stored. -/
theorem FsS.lnkS {w : World} {bI n cI bD cD : Nat} {d : FD} {F : Nat → Prop} (hfs : FsS w bI n cI bD 20 cD d F) (j : Nat) (hj : j < n) (l : Int) :
    FsS (w.setCell ⟨bI, j * 5 + 1, none⟩ (.int .i64 l)) bI n cI bD 20 cD (d.1.set j ((d.1[j]?.getD id0).1, l, (d.1[j]?.getD id0).2.2), d.2) F := by
  have h1 : Chg (fun c => c = bI) w (w.setCell ⟨bI, j * 5 + 1, none⟩ (.int .i64 l)) := Chg.set (F := fun c => c = bI) (Chg.refl _ w) rfl (j * 5 + 1) _
  obtain ⟨F1, G1, ⟨g0, gm, u, G, g1, g2, g3, g4, g5⟩, h2, h3, h4⟩ := hfs
  refine ⟨F1, G1, ⟨by simpa using g0, gm, u, G, g1, g2, g3, ?_, fun i hi => ?_⟩, h2.keep fun c hc hlt => h1.block c hlt fun e => h3 bI g1 (e ▸ hc), h3, fun b hb => ⟨(h4 b hb).1, by simpa [World.setCell] using (h4 b hb).2⟩⟩
  · refine (g4.set (j * 5 + 1) _).congr fun c _ => ?_
    have e := inCell_set d.1 u j (by omega) ((d.1[j]?.getD id0).1, l, (d.1[j]?.getD id0).2.2) (u j).1 (u j).2 c
    have eu : (fun i => if i = j then ((u j).1, (u j).2) else u i) = u := by
      funext i
      by_cases h : i = j
      · rw [if_pos h, h]
      · rw [if_neg h]
    rw [eu] at e
    rw [e]
    by_cases q1 : c = j * 5 + 1
    · rw [if_pos q1, if_neg (by omega), if_pos q1]
    · rw [if_neg q1]
      by_cases q0 : c = j * 5
      · rw [if_pos q0, q0, inCell_0]
      · rw [if_neg q0, if_neg q1]
        by_cases q2 : c = j * 5 + 2
        · rw [if_pos q2, q2, inCell_2]
        · rw [if_neg q2]
          by_cases q3 : c = j * 5 + 3
          · rw [if_pos q3, q3, inCell_3]
          · rw [if_neg q3]
            by_cases q4 : c = j * 5 + 4
            · rw [if_pos q4, q4, inCell_4]
            · rw [if_neg q4]
  · rw [set_getD _ _ _ _ _ (by omega)]
    have hk : ∀ c, G i c → c < w.heap.size → (w.setCell ⟨bI, j * 5 + 1, none⟩ (.int .i64 l)).heap[c]? = w.heap[c]? := fun c hc hlt => h1.block c hlt fun e => (g2 i c hc).2 e
    by_cases e : i = j
    · rw [if_pos e]
      have hv := (g5 i hi).keep hk
      rw [e] at hv ⊢
      obtain ⟨⟨_, _, _, hcap⟩, hrest⟩ := hv
      exact ⟨⟨rfl, rfl, rfl, hcap⟩, hrest⟩
    · rw [if_neg e]
      exact (g5 i hi).keep hk
theorem FsS.boundF {w : World} {bI n cI bD m cD : Nat} {d : FD} {F : Nat → Prop} (h : FsS w bI n cI bD m cD d F) : FsS w bI n cI bD m cD d (fun c => F c ∧ c < w.heap.size) := by
  obtain ⟨F1, G1, h1, h2, h3, h4⟩ := h
  exact ⟨F1, G1, h1, h2, h3, fun b hb => ⟨h4 b hb, (h4 b hb).2⟩⟩
end Go.Proofs.YtjabimfinanjoabGreat

namespace Go.Proofs.YtjabimfinanjoabGreat
open Go.RowKit
set_option maxRecDepth 100000

/-- An entry in its place; entries and links of an inode turned. -/
def insE (es : List EN) (k : Nat) (e : EN) : List EN := es.take k ++ [e] ++ es.drop k
def entD (d : FD) (j : Nat) (es : List EN) : FD := (d.1.set j ((d.1[j]?.getD id0).1, (d.1[j]?.getD id0).2.1, (d.1[j]?.getD id0).2.2.1, [], es), d.2)
def lnkD (d : FD) (j : Nat) (l : Int) : FD := (d.1.set j ((d.1[j]?.getD id0).1, l, (d.1[j]?.getD id0).2.2), d.2)
def addD (d : FD) (j : Nat) (s : ByteArray) (y : Nat) : FD := if kindAt d.1 y = 1 then lnkD (entD d j (insE (entA d j) (plcE (entA d j) s) (s, (y : Int)))) y ((d.1[y]?.getD id0).2.1 + 1) else entD d j (insE (entA d j) (plcE (entA d j) s) (s, (y : Int)))
/-- AddName behind its first codes; AddName. -/
def addQ (d : FD) (j : Nat) (s : ByteArray) (y : Int) : Int × FD :=
  if idxE (entA d j) s < (entA d j).length then noFs 7 else if 0 ≤ y ∧ y < (d.1.length : Int) ∧ ¬ kindAt d.1 y.toNat = 0 then (if (entA d j).length = 6 ∨ (kindAt d.1 y.toNat = 1 ∧ 60 ≤ (d.1[y.toNat]?.getD id0).2.1) then noFs 2 else (0, addD d j s y.toNat)) else noFs 4
def addR (d : FD) (x : Int) (s : ByteArray) (y : Int) : Int × FD := if dirN d x s = 0 then addQ d x.toNat s y else noFs (dirN d x s)

set_option maxHeartbeats 800000 in
theorem entriesAhead_any (w : World) (aE : Option Addr) (n cE k : Nat) (hk : k ≤ n) (hc : n ≤ cE) (_hn : n ≤ 1048576) :
    Calls Tryz.prog 133 #[.slice aE n cE, .int .i64 (k : Int)] w fun e w' => e = .returned (.slice aE k k) ∧ w' = w := by
  have hkc : k ≤ cE := by omega
  go_enter Tryz.func133, Tryz.ntmps133
  go_wp2
  go_ret
  exact ⟨rfl, rfl⟩

/-- Where the entries from a place on lie, as the walk has it. -/
def tailE (aE : Option Addr) (cE k : Nat) : Option Addr := if cE = k then aE else Option.map (fun x => x.add (k * 2)) aE
theorem AtN.tail {w : World} {aE : Option Addr} {n cE k : Nat} {es : List EN} (h : AtN w aE n es) (hc : n ≤ cE) : AtN w (tailE aE cE k) (n - k) (es.drop k) := fun i hi => by
  obtain ⟨b, off, rfl, _⟩ := h 0 (by omega)
  unfold tailE
  rw [if_neg (by omega), Option.map_some, add_plain']
  exact h.drop k i hi
set_option maxHeartbeats 3200000 in
theorem withEntry_any (w : World) (aE : Option Addr) (n cE k : Nat) (es : List EN) (s : ByteArray) (y : Int) (hn : es.length = n) (hc : n ≤ cE) (hk : k ≤ n) (h6 : n ≤ 6) (hat : AtN w aE n es) (ha : aE = none → n = 0) :
    Calls Tryz.prog 103 #[.slice aE n cE, .int .i64 (k : Int), .agg #[.string s, .int .i64 y]] w fun e w' => ∃ v, e = .returned v ∧ WdE w' w.heap.size v (insE es k (s, y)) ∧ Below w.heap.size w w' := by
  have HEA : Hid (∀ W, Calls Tryz.prog 133 #[.slice aE n cE, .int .i64 (k : Int)] W fun e w' => e = .returned (.slice aE k k) ∧ w' = W) := fun W => entriesAhead_any W aE n cE k hk hc (by omega)
  have hb1 : Below w.heap.size w (((w.alloc (.cells #[.string s, .int .i64 y] 127)).drew).alloc (.cells #[.string s, .int .i64 y] 127)) := ((later1 _ _).drew).trans ((later1 _ _).mono (by simp))
  have hlit := lit1_E (w.alloc (.cells #[.string s, .int .i64 y] 127)).drew s y
  obtain ⟨v1, X1, hr1, hw1, hbx1⟩ := push_ahead _ 84 (es.take k) [(s, y)] aE k (by rw [List.length_take]; omega) ((hat.take k hk).later hb1) (fun e => by have := ha e; omega) _ 1 1 rfl (by omega) hlit (by omega)
  have hbx1' : Below w.heap.size w X1 := hb1.trans (hbx1.mono hb1.size)
  obtain ⟨v2, X2, hr2, hw2, hbx2⟩ := WdE.push X1 84 _ v1 _ (es.drop k) hw1 hbx1.size (tailE aE cE k) (n - k) (cE - k) (by rw [List.length_drop]; omega) ((hat.tail hc).later hbx1') (by rw [List.length_append, List.length_take]; simp; omega)
  rw [show (w.alloc (.cells #[.string s, .int .i64 y] 127)).drew.heap.size = w.heap.size + 1 by simp] at hr1
  have HR1 : Hid ((Builtin.append_ #[84, 84] 84 #[.slice aE k k, .slice (some ⟨w.heap.size + 1, 0, none⟩) 1 1]).run Tryz.prog (((w.alloc (.cells #[.string s, .int .i64 y] 127)).alloc (.cells #[.string s, .int .i64 y] 127)).drew) = .ok v1 X1) := hr1
  unfold tailE at hr2
  have HR2 : Hid (_ = _) := hr2
  obtain ⟨a1', c1', rfl⟩ := hw1.shape
  have hlen : (es.take k ++ [(s, y)]).length = k + 1 := by rw [List.length_append, List.length_take]; simp; omega
  rw [hlen] at HR1 HR2
  have HW2 : Hid (WdE X2 w.heap.size v2 (insE es k (s, y))) := by
    unfold Hid insE
    exact ownsRow_base hw2 hb1.size
  have HB2 : Hid (Below w.heap.size w X2) := hbx1'.trans (hbx2.mono hb1.size)
  have hkI : (k : Int) ≤ (n : Int) := by omega
  clear hb1 hlit hr1 hr2 hw1 hbx1 hbx1' hw2 hbx2 hat ha hn hlen
  go_enter Tryz.func103, Tryz.ntmps103
  go_wp2_with fail
  go_region_law (first
    | (refine step_append_run rfl _ _ 84 rfl _ _ rfl rfl _ _ HR1.out ?_; clear HR1)
    | (refine step_append_run rfl _ _ 84 rfl _ _ rfl rfl _ _ HR2.out ?_; clear HR2)
    | (try go_simp; go_at_call 133; refine (HEA.out _).mono ?_; rintro e w2 ⟨rfl, rfl⟩)
    | fail)
  all_goals
    go_wp2
    all_goals
      go_ret
      exact ⟨_, rfl, HW2.out, HB2.out⟩
end Go.Proofs.YtjabimfinanjoabGreat

namespace Go.Proofs.YtjabimfinanjoabGreat
open Go.RowKit
set_option maxRecDepth 100000

theorem cloneS_any (w : World) (s : ByteArray) (hs : s.size ≤ 1048576) : Calls Tryz.prog 65 #[.string s] w fun e w' => e = .returned (.string s) ∧ Below w.heap.size w w' := by
  have := clone_any w s.data.toList (by have : s.data.toList.length = s.size := Array.length_toList; omega)
  rw [mkB_data] at this
  exact this
set_option maxHeartbeats 800000 in
theorem takesLink_any (w : World) (x0 x1 x2 : Int) (v3 v4 : Value) : Calls Tryz.prog 63 #[.agg #[.int .i64 x0, .int .i64 x1, .int .i64 x2, v3, v4]] w fun e w' => e = .returned (.bool (decide (¬ (x0 = 1 ∧ 60 ≤ x1)))) ∧ Below w.heap.size w w' := by
  by_cases h1 : x0 = 1
  · have hb : (x0 != 1) = false := by simpa using h1
    have HE : Hid (decide (x1 < 60) = decide (¬ (x0 = 1 ∧ 60 ≤ x1))) := by
      unfold Hid
      by_cases h2 : x1 < 60
      · rw [decide_eq_true h2, decide_eq_true (by omega)]
      · rw [decide_eq_false h2, decide_eq_false (by omega)]
    clear h1
    go_enter Tryz.func63, Tryz.ntmps63
    go_wp2
    go_ret
    exact ⟨ret_bool HE.out, later1 _ _⟩
  · have hb : (x0 != 1) = true := by simpa using h1
    have HE : Hid (decide (¬ (x0 = 1 ∧ 60 ≤ x1)) = true) := by unfold Hid; exact decide_eq_true (by omega)
    clear h1
    go_enter Tryz.func63, Tryz.ntmps63
    go_wp2
    go_ret
    exact ⟨ret_bool HE.out.symm, later1 _ _⟩
/-- What lies at a place. -/
theorem FsR.five {w : World} {b0 o0 n1 c1 : Nat} {v2 : Value} {d : FD} (h : FsR w (.slice (some ⟨b0, o0, none⟩) n1 c1) v2 d) {j : Nat} (hj : j < d.1.length) : ∃ aB cB aE cE, w.cell? ⟨b0, o0 + j * 5, none⟩ = some (.int .i64 (d.1[j]?.getD id0).1) ∧ w.cell? ⟨b0, o0 + j * 5 + 1, none⟩ = some (.int .i64 (d.1[j]?.getD id0).2.1) ∧ w.cell? ⟨b0, o0 + j * 5 + 2, none⟩ = some (.int .i64 (d.1[j]?.getD id0).2.2.1) ∧ w.cell? ⟨b0, o0 + j * 5 + 3, none⟩ = some (.slice aB (d.1[j]?.getD id0).2.2.2.1.length cB) ∧ w.cell? ⟨b0, o0 + j * 5 + 4, none⟩ = some (.slice aE (entA d j).length cE) ∧ Ents w (.slice aE (entA d j).length cE) (entA d j) := by
  obtain ⟨_, _, e1, _, hAt⟩ := h.1.open'
  simp only [Value.slice.injEq] at e1
  obtain ⟨rfl, rfl, rfl⟩ := e1
  obtain ⟨b, o, e, hI⟩ := hAt j hj
  simp only [Option.some.injEq, Addr.mk.injEq, and_true] at e
  obtain ⟨rfl, rfl⟩ := e
  obtain ⟨aB, cB, aE, cE, k0, k1, k2, k3, k4, hR⟩ := hI
  exact ⟨aB, cB, aE, cE, k0, k1, k2, k3, k4, hR.2.2⟩
theorem Ents.cap {w : World} {a : Option Addr} {n c : Nat} {es : List EN} (h : Ents w (.slice a n c) es) : es.length = n ∧ n ≤ c ∧ AtN w a n es ∧ (a = none → n = 0) ∧ ∀ k : Nat, (es[k]?.getD en0).1.size ≤ maxLen := by
  obtain ⟨a', c', e, ⟨_, h2, h3⟩, h4⟩ := h
  simp only [Value.slice.injEq] at e
  obtain ⟨rfl, rfl, rfl⟩ := e
  refine ⟨rfl, h2, h4, fun e => ?_, h3⟩
  by_cases h0 : es.length = 0
  · exact h0
  · obtain ⟨b, off, e2, _⟩ := h4 0 (by omega)
    rw [e] at e2
    simp at e2
theorem dir_blk {x : ID} (h : inoF x = 0) (hk : x.1 = 2) : x.2.2.2.1 = [] := by
  unfold inoF at h
  rw [if_neg (by omega), if_neg (by omega), if_pos hk] at h
  by_cases hd : fpB x = true
  · rw [if_pos hd] at h; omega
  · unfold fpB at hd
    simp at hd
    exact hd.2
theorem insE_size {es : List EN} {k : Nat} {s : ByteArray} {y : Int} (hz : ∀ k : Nat, (es[k]?.getD en0).1.size ≤ maxLen) (hs : s.size ≤ maxLen) (i : Nat) : ((insE es k (s, y))[i]?.getD en0).1.size ≤ maxLen := by
  have h0 : (en0 : EN).1.size ≤ maxLen := by simp [en0, ByteArray.size]
  have hm : ∀ e ∈ insE es k (s, y), e.1.size ≤ maxLen := fun e he => by
    unfold insE at he
    have hall : ∀ e ∈ es, e.1.size ≤ maxLen := fun e he => by
      obtain ⟨i, hi, rfl⟩ := List.mem_iff_getElem.1 he
      have := hz i
      rw [List.getElem?_eq_getElem hi] at this
      exact this
    rcases List.mem_append.1 he with he | he
    · rcases List.mem_append.1 he with he | he
      · exact hall e (List.mem_of_mem_take he)
      · simp at he; rw [he]; exact hs
    · exact hall e (List.mem_of_mem_drop he)
  cases hq : (insE es k (s, y))[i]? with
  | none => exact h0
  | some e => exact hm e (List.mem_of_getElem? hq)

theorem ino_lnk {x : ID} (h : inoF x = 0) (hk : x.1 = 1) : 1 ≤ x.2.1 ∧ x.2.1 ≤ 60 := by
  unfold inoF at h
  rw [if_neg (by omega), if_pos hk] at h
  by_cases hd : dpB x = true
  · rw [if_pos hd] at h; omega
  · rw [if_neg hd] at h
    unfold fileF at h
    by_cases hl : linkB x.2.1 = true ∧ sizeB x.2.2.1 = true
    · have := hl.1
      unfold linkB at this
      simpa using this
    · rw [if_neg hl] at h; omega
theorem entD_kind (d : FD) (j z : Nat) (es : List EN) (hj : j < d.1.length) : ((entD d j es).1[z]?.getD id0).1 = (d.1[z]?.getD id0).1 ∧ ((entD d j es).1[z]?.getD id0).2.1 = (d.1[z]?.getD id0).2.1 := by
  unfold entD
  dsimp only
  rw [set_getD _ _ _ _ _ hj]
  by_cases e : z = j
  · rw [if_pos e, e]; exact ⟨rfl, rfl⟩
  · rw [if_neg e]; exact ⟨rfl, rfl⟩
/-- What is answered where a file system in own memory is in a box. -/
theorem AnsFR.box {w W : World} {bI n cI bD cD rb : Nat} {d : FD} {F : Nat → Prop} (hB : Below w.heap.size w W) (hrb : w.heap.size ≤ rb) (h : FsS W bI n cI bD 20 cD d F) (hF : ∀ c, F c → w.heap.size ≤ c ∧ c ≠ rb) (x y z : Value) : AnsFR w (0, d) (.returned (.agg #[.int .i64 0, .slice (some ⟨bI, 0, none⟩) n cI, .slice (some ⟨bD, 0, none⟩) 20 cD])) (((W.setCell ⟨rb, 0, none⟩ x).setCell ⟨rb, 1, none⟩ y).setCell ⟨rb, 2, none⟩ z) :=
  AnsFR.put hB hrb (h.fsB.mono fun b hb => ⟨(hF b hb.1).1, hb.2, (hF b hb.1).2⟩) x y z
end Go.Proofs.YtjabimfinanjoabGreat

namespace Go.Proofs.YtjabimfinanjoabGreat
open Go.RowKit
set_option maxRecDepth 100000

theorem ins_spans {ds : List ID} (h1 : insF ds = 0) (i : Nat) : spanIno (ds[i]?.getD id0) ≤ 16 := by
  by_cases hi : i < ds.length
  · have hz := ino_size (ins_ino h1 i hi)
    have h6 := ino_six (ins_ino h1 i hi)
    unfold spanIno
    omega
  · rw [List.getElem?_eq_none (by omega)]
    simp [spanIno, id0]
theorem insE_len (es : List EN) (k : Nat) (e : EN) : (insE es k e).length = es.length + 1 := by
  unfold insE
  rw [List.length_append, List.length_append, List.length_take, List.length_drop]
  simp
  omega
theorem addR_span (d : FD) (x : Int) (s : ByteArray) (y : Int) : spanFs (addR d x s y).2 ≤ 1000 := by
  unfold addR
  by_cases hc : dirN d x s = 0
  · rw [if_pos hc]
    have hs := dirS (dirN_in hc)
    generalize x.toNat = j at *
    unfold addQ
    by_cases h1 : idxE (entA d j) s < (entA d j).length
    · rw [if_pos h1, noFs_span]; omega
    · rw [if_neg h1]
      by_cases h2 : 0 ≤ y ∧ y < (d.1.length : Int) ∧ ¬ kindAt d.1 y.toNat = 0
      · rw [if_pos h2]
        by_cases h3 : (entA d j).length = 6 ∨ (kindAt d.1 y.toNat = 1 ∧ 60 ≤ (d.1[y.toNat]?.getD id0).2.1)
        · rw [if_pos h3, noFs_span]; omega
        · rw [if_neg h3]
          show spanFs (addD d j s y.toNat) ≤ 1000
          have hl := insE_len (entA d j) (plcE (entA d j) s) (s, ((y.toNat : Nat) : Int))
          have h6 := hs.six
          have e1 := set_span (ins_spans hs.ins) j ((d.1[j]?.getD id0).1, (d.1[j]?.getD id0).2.1, (d.1[j]?.getD id0).2.2.1, [], insE (entA d j) (plcE (entA d j) s) (s, ((y.toNat : Nat) : Int))) (by unfold spanIno; simp only [List.length_nil]; rw [hl]; omega)
          have e2 := ylens_eight hs.eight
          have hd := hs.dat
          have ht := hs.ten
          unfold addD
          by_cases h4 : kindAt d.1 y.toNat = 1
          · rw [if_pos h4]
            unfold lnkD entD spanFs
            dsimp only
            have e3 := spanInos_each (set_span e1 y.toNat (((d.1.set j ((d.1[j]?.getD id0).1, (d.1[j]?.getD id0).2.1, (d.1[j]?.getD id0).2.2.1, [], insE (entA d j) (plcE (entA d j) s) (s, ((y.toNat : Nat) : Int))))[y.toNat]?.getD id0).1, (d.1[y.toNat]?.getD id0).2.1 + 1, ((d.1.set j ((d.1[j]?.getD id0).1, (d.1[j]?.getD id0).2.1, (d.1[j]?.getD id0).2.2.1, [], insE (entA d j) (plcE (entA d j) s) (s, ((y.toNat : Nat) : Int))))[y.toNat]?.getD id0).2.2) (by have := e1 y.toNat; unfold spanIno at this ⊢; exact this))
            rw [List.length_set, List.length_set] at e3
            omega
          · rw [if_neg h4]
            unfold entD spanFs
            dsimp only
            have e3 := spanInos_each e1
            rw [List.length_set] at e3
            omega
      · rw [if_neg h2, noFs_span]; omega
  · rw [if_neg hc, noFs_span]; omega
section
variable {P : Program} {w : World}
/-- append within a region that draws its order: what it comes to is told by a property. -/
theorem step_append_ex {ops : Array Oper} {o : Oper} {a : Act} {K : Act → World → Prop} {Q : Exit → Act → World → Prop} {E : Prop} (hgd : o.guard = none) (s x : Operand) (t : TypeId)
    (ho : o.op = .call { callee := .builtin .append, args := #[s, x], argTypes := #[t, t] }) (v y : Value) (hs : a.eval s = v) (hx : a.eval x = y) (R : Value → World → Prop)
    (hr : ∃ v' w', (Builtin.append_ #[t, t] o.type #[v, y]).run P w = .ok v' w' ∧ R v' w') (h : ∀ v' w', R v' w' → K (a.put o.dst v') w') : if Region.wanted o (yielded ops a.tmps) = true then Oper.wp P o a w K Q else E := by
  obtain ⟨v', w', h1, h2⟩ := hr
  exact step_append_run hgd s x t ho v y hs hx v' w' h1 (h v' w' h2)
end
end Go.Proofs.YtjabimfinanjoabGreat

namespace Go.Proofs.YtjabimfinanjoabGreat
open Go.RowKit
set_option maxRecDepth 100000

theorem AtN.keepB {w X : World} {b n : Nat} {es : List EN} (h : AtN w (some ⟨b, 0, none⟩) n es) (e : X.heap[b]? = w.heap[b]?) : AtN X (some ⟨b, 0, none⟩) n es := fun k hk => by
  obtain ⟨b', off, e1, c0, c1⟩ := h k hk
  simp only [Option.some.injEq, Addr.mk.injEq, and_true] at e1
  obtain ⟨rfl, rfl⟩ := e1
  exact ⟨b, 0, rfl, (World.cell?_of_block (w := w) e).trans c0, (World.cell?_of_block (w := w) e).trans c1⟩
/-- Entries behind those that are there; all other blocks are as they were. -/
theorem WdE.pushO (w : World) (ty : TypeId) (n₀ : Nat) (v : Value) (es fs : List EN) (h : WdE w n₀ v es) (hn₀ : n₀ ≤ w.heap.size) (a : Option Addr) (m c : Nat) (hm : fs.length = m) (hc : AtN w a m fs) (hl : es.length + m ≤ 1048576) :
    ∃ v' X, (Builtin.append_ #[84, 84] ty #[v, .slice a m c]).run Tryz.prog w = .ok v' X ∧ (WdE X n₀ v' (es ++ fs) ∧ Below n₀ w X ∧ ∀ b, b < w.heap.size → ¬ v.ownBlock = some b → X.heap[b]? = w.heap[b]?) := by
  subst hm
  obtain ⟨i, hi, h1, h2, h3⟩ := Tryz.infoEnt'
  by_cases h0 : fs.length = 0
  · have hfs : fs = [] := List.eq_nil_of_length_eq_zero h0
    subst hfs
    obtain ⟨av, cv, rfl⟩ := h.shape
    refine ⟨_, w, ?_, by rw [List.append_nil]; exact h, Below.refl _ _, fun _ _ _ => rfl⟩
    have hcv : es.length ≤ cv := by
      obtain ⟨_, h | ⟨g, cap, cur, e, hb, hh, hnc, _⟩⟩ := h
      · have := h.2; omega
      · simp only [Value.slice.injEq] at e; omega
    cases a <;> cases av <;> simp [Builtin.append_, run_underlying Tryz.underlying84, sizeOf, typeInfo, hi, Builtin.lenOf, Builtin.firstCells, storeCells, loadCells, loadCellsFrom, hcv]
  · obtain ⟨b, off, rfl, _⟩ := hc 0 (by omega)
    obtain ⟨v', X, hr, ho, hg, _⟩ := run_append_own_wide (P := Tryz.prog) w n₀ 84 ty 127 i _ 2 24 Tryz.underlying84 hi h1 h2 h3 rfl (by decide) v es.length (enCells es) h ⟨b, off, none⟩ fs.length c (enCells fs) (enCells_length fs) (fun j u hu => hc.cells rfl j u hu) (enCells_one fs) (by unfold maxLen; omega) (by omega) hn₀
    refine ⟨v', X, hr, ?_, below_grown hg hn₀ (fun k hk => ?_), fun b hb hne => hg.block b hb (fun e => hne e.symm)⟩
    · unfold WdE
      rw [List.length_append, enCells_append]
      exact ho
    · rcases h.2 with ⟨rfl, _⟩ | ⟨g, cap, cur, rfl, hb, _⟩
      · simp [Value.ownBlock] at hk
      · simp [Value.ownBlock] at hk; omega

set_option maxHeartbeats 6400000 in
theorem l8Put_any (w : World) (aE : Option Addr) (n cE : Nat) (es : List EN) (s : ByteArray) (y : Int) (hn : es.length = n) (hc : n ≤ cE) (h6 : n ≤ 6) (hat : AtN w aE n es) :
    Calls Tryz.prog 100 #[.slice aE n cE, .agg #[.string s, .int .i64 y]] w fun e w' => ∃ v, e = .returned v ∧ WdE w' w.heap.size v (insE es (plcE es s) (s, y)) ∧ Below w.heap.size w w' := by
  have HAT : Hid (AtN w aE n es) := hat
  have HN : Hid (es.length = n) := hn
  have bx0 : (w.alloc (.cells #[.string s, .int .i64 y] 127)).cell? ⟨w.heap.size, 0, none⟩ = some (.string s) := by rw [new_cell]; rfl
  have bx1 : (w.alloc (.cells #[.string s, .int .i64 y] 127)).cell? ⟨w.heap.size, 1, none⟩ = some (.int .i64 y) := by rw [new_cell]; rfl
  clear hat hn
  go_enter Tryz.func100, Tryz.ntmps100
  go_wp2_with fail
  go_loopw [5] (fun i wr => ∃ k q : Nat, k ≤ n ∧ i = .int .i64 k ∧ wr = (w.alloc (.cells #[.string s, .int .i64 y] 127)).drewN q ∧ ∀ j, j < k → geE s (es[j]?.getD en0) = false) (fun i _ => n - (intOf i).toNat)
  case atStart => exact ⟨0, 0, Nat.zero_le _, rfl, rfl, fun j hj => by omega⟩
  case round =>
    obtain ⟨k, q, hk, rfl, rfl, hz⟩ := hrel
    have HZ : Hid (∀ j, j < k → geE s (es[j]?.getD en0) = false) := hz
    clear hz
    by_cases hlt : k < n
    · obtain ⟨b, off, rfl, c0, _⟩ := HAT.out k hlt
      replace c0 := cell_later (later1 w (.cells #[.string s, .int .i64 y] 127)) c0
      have hd : decide ((k : Int) < (n : Int)) = true := by simpa using hlt
      cases hge : geE s (es[k]?.getD en0) with
      | false =>
        have HNX : Hid (∀ j, j < k + 1 → geE s (es[j]?.getD en0) = false) := fun j hj => by
          by_cases e : j = k
          · rw [e]; exact hge
          · exact HZ.out j (by omega)
        have hlt2 : Op.bytesLess (es[k]?.getD en0).1.toList s.toList = true := by unfold geE at hge; simpa using hge
        clear hge HZ
        generalize (es[k]?.getD en0).1 = x at *
        go_wp2_with fail
        go_quiet (fail)
        go_wp2
        go_roundw
        case rel => exact ⟨k + 1, _, by omega, by go_num, by first | rfl | rw [World.drewN_drewN], HNX.out⟩
        case measure => simp [intOf]; omega
      | true =>
        have HP : Hid (plcE es s = k) := findIdx_is (by rw [HN.out]; exact hlt) hge HZ.out
        have hlt2 : Op.bytesLess (es[k]?.getD en0).1.toList s.toList = false := by unfold geE at hge; simpa using hge
        clear hge HZ
        generalize (es[k]?.getD en0).1 = x at *
        go_wp2_with fail
        go_quiet (fail)
        go_wp2_with fail
        have hlt1 : (es.take k).length = k := by rw [List.length_take, HN.out]; omega
        have HL1 : Hid ((es.take k).length = k) := hlt1
        have HL2 : Hid ((es.take k ++ [(s, y)]).length = k + 1) := by unfold Hid; rw [List.length_append, hlt1]; rfl
        have HTK : Hid (∀ W, Below w.heap.size w W → AtN W (some ⟨b, off, none⟩) k (es.take k)) := fun W hW => ((HAT.out.take k hk).later hW)
        have HTL : Hid (∀ W, Below w.heap.size w W → AtN W (some ⟨b, off + k * 2, none⟩) (n - k) (es.drop k)) := fun W hW => (HAT.out.drop k).later hW
        have HDL : Hid ((es.drop k).length = n - k) := by unfold Hid; rw [List.length_drop, HN.out]
        have HWB : Hid (Below w.heap.size w (((w.alloc (.cells #[.string s, .int .i64 y] 127)).drewN q).drewN nq)) := below_drewN (below_drewN (later1 _ _) q) nq
        have HSB : Hid (w.heap.size ≤ ((((w.alloc (.cells #[.string s, .int .i64 y] 127)).drewN q).drewN nq)).heap.size) := HWB.out.size
        have bw0 : ((((w.alloc (.cells #[.string s, .int .i64 y] 127)).drewN q).drewN nq)).cell? ⟨w.heap.size, 0, none⟩ = some (.string s) := bx0
        have bw1 : ((((w.alloc (.cells #[.string s, .int .i64 y] 127)).drewN q).drewN nq)).cell? ⟨w.heap.size, 1, none⟩ = some (.int .i64 y) := bx1
        have hkc : k ≤ cE := by omega
        have hcne : ¬ cE = k := by omega
        have hkI : (k : Int) ≤ (n : Int) := by omega
        have HF1 : Hid True := trivial
        clear hlt1 bx0 bx1
        generalize (((w.alloc (.cells #[.string s, .int .i64 y] 127)).drewN q).drewN nq) = WB at *
        have hlw : w.heap.size < WB.heap.size := World.block_lt_of_cell? _ _ bw0
        have HA1 : Hid (WdE (WB.drew.alloc (.cells #[] 127)) WB.heap.size (.slice (some ⟨WB.heap.size, 0, none⟩) 0 0) []) := WdE.lit0 WB.drew WB.heap.size (Nat.le_refl _)
        have HA2 : Hid (WdE ((WB.drew.alloc (.cells #[.string s, .int .i64 y] 127)).alloc (.cells #[] 127)) WB.heap.size (.slice (some ⟨WB.heap.size + 1, 0, none⟩) 0 0) []) := by
          have := WdE.lit0 (WB.drew.alloc (.cells #[.string s, .int .i64 y] 127)) WB.heap.size (by simp)
          rw [show (WB.drew.alloc (.cells #[.string s, .int .i64 y] 127)).heap.size = WB.heap.size + 1 by simp] at this
          exact this
        have HC1 : Hid (AtN ((WB.drew.alloc (.cells #[] 127)).alloc (.cells #[.string s, .int .i64 y] 127)) (some ⟨WB.heap.size + 1, 0, none⟩) 1 [(s, y)]) := by
          have := lit1_E (WB.drew.alloc (.cells #[] 127)) s y
          rw [show (WB.drew.alloc (.cells #[] 127)).heap.size = WB.heap.size + 1 by simp] at this
          exact this
        have HC2 : Hid (AtN ((WB.drew.alloc (.cells #[.string s, .int .i64 y] 127)).alloc (.cells #[] 127)) (some ⟨WB.heap.size, 0, none⟩) 1 [(s, y)]) := (lit1_E WB.drew s y).later (later1 _ _)
        go_region_law (first
          | (have f1 := HF1.out; clear HF1 f1
             refine step_append_ex rfl _ _ 84 rfl _ _ rfl rfl _ (WdE.pushO _ 84 WB.heap.size _ [] (es.take k) (by first | exact HA1.out | exact HA1.out.later (later1 _ _) | exact HA2.out) (by first | (simp; done) | (simp; omega)) _ _ _ HL1.out (HTK.out _ (by first | exact HWB.out.drew.trans ((later1 _ _).mono HSB.out) | exact HWB.out.drew.trans ((later2 _ _ _).mono HSB.out))) (by simp; omega)) ?_
             rintro v1 X1 ⟨hw1, hb1, ho1⟩
             rw [List.nil_append] at hw1
             obtain ⟨p1, c1, e1⟩ := hw1.shape
             rw [HL1.out] at e1
             subst e1
             have HW1 : Hid (WdE X1 WB.heap.size (.slice p1 k c1) (es.take k)) := hw1
             have HX1 : Hid (Below WB.heap.size WB X1) := by first | exact (Below.refl _ _).drew.trans (((later1 WB.drew _).mono (Nat.le_refl _)).trans hb1) | exact (Below.refl _ _).drew.trans (((later2 WB.drew _ _).mono (Nat.le_refl _)).trans hb1)
             try (have HBB : Hid (AtN X1 (some ⟨WB.heap.size + 1, 0, none⟩) 1 [(s, y)]) := HC1.out.keepB (ho1 (WB.heap.size + 1) (by first | (simp; done) | (simp; omega)) (show ¬ (some WB.heap.size = some (WB.heap.size + 1)) by simp)))
             try (have HBB : Hid (AtN X1 (some ⟨WB.heap.size, 0, none⟩) 1 [(s, y)]) := HC2.out.keepB (ho1 WB.heap.size (by first | (simp; done) | (simp; omega)) (show ¬ (some (WB.heap.size + 1) = some WB.heap.size) by simp)))
             have cb0 := (World.cell?_of_block (w := WB) (HX1.out.block w.heap.size hlw)).trans bw0
             have cb1 := (World.cell?_of_block (w := WB) (HX1.out.block w.heap.size hlw)).trans bw1
             have hlx : w.heap.size < X1.heap.size := Nat.lt_of_lt_of_le hlw HX1.out.size
             clear hw1 hb1 ho1)
          | (have f2 := HW1.out; clear HW1
             refine step_append_ex rfl _ _ 84 rfl _ _ rfl rfl _ (WdE.pushO _ 84 WB.heap.size _ (es.take k) [(s, y)] (by first | exact f2 | exact f2.later (later1 _ _)) (by have := HX1.out.size; first | exact this | (simp; omega)) _ 1 1 rfl (by first | exact HBB.out | exact lit1_E _ s y) (by rw [HL1.out]; omega)) ?_
             rintro v2 X2 ⟨hw2, hb2, _⟩
             obtain ⟨p2, c2, e2⟩ := hw2.shape
             rw [HL2.out] at e2
             subst e2
             have HW2 : Hid (WdE X2 WB.heap.size (.slice p2 (k + 1) c2) (es.take k ++ [(s, y)])) := hw2
             have HX2 : Hid (Below WB.heap.size WB X2) := by first | exact HX1.out.trans hb2 | exact HX1.out.trans (((later1 _ _).mono HX1.out.size).trans hb2)
             clear hw2 hb2 f2)
          | (have f3 := HW2.out; clear HW2
             refine step_append_ex rfl _ _ 84 rfl _ _ rfl rfl _ (WdE.pushO _ 84 WB.heap.size _ (es.take k ++ [(s, y)]) (es.drop k) f3 HX2.out.size _ _ _ HDL.out (HTL.out _ (HWB.out.trans (HX2.out.mono HSB.out))) (by rw [HL2.out]; omega)) ?_
             rintro v3 X3 ⟨hw3, hb3, _⟩
             have HW3 : Hid (WdE X3 w.heap.size v3 (insE es (plcE es s) (s, y))) := by
               unfold Hid insE
               rw [HP.out]
               exact ownsRow_base hw3 HSB.out
             have HX3 : Hid (Below w.heap.size w X3) := HWB.out.trans ((HX2.out.trans hb3).mono HSB.out)
             clear hw3 hb3 f3)
          | fail)
        all_goals
          go_wp2
          all_goals
            go_ret
            exact ⟨_, rfl, HW3.out, HX3.out⟩
    · have e : n = k := by omega
      subst e
      have hd : decide ((n : Int) < (n : Int)) = false := by simp
      have HP : Hid (plcE es s = n) := by
        have := findIdx_no (p := geE s) (es := es) fun j hj => HZ.out j (by rw [HN.out] at hj; omega)
        rw [HN.out] at this
        exact this
      clear HZ hlt
      go_wp2_with fail
      go_quiet (fail)
      go_wp2_with fail
      have hlt1 : (es.take n).length = n := by rw [List.length_take, HN.out]; omega
      have HL1 : Hid ((es.take n).length = n) := hlt1
      have HL2 : Hid ((es.take n ++ [(s, y)]).length = n + 1) := by unfold Hid; rw [List.length_append, hlt1]; rfl
      have HTK : Hid (∀ W, Below w.heap.size w W → AtN W aE n (es.take n)) := fun W hW => ((HAT.out.take n hk).later hW)
      have HTL : Hid (∀ W, Below w.heap.size w W → ∀ A, AtN W A 0 (es.drop n)) := fun W _ A i hi => by omega
      have HDL : Hid ((es.drop n).length = 0) := by unfold Hid; rw [List.length_drop, HN.out]; omega
      have HWB : Hid (Below w.heap.size w (((w.alloc (.cells #[.string s, .int .i64 y] 127)).drewN q).drewN nq)) := below_drewN (below_drewN (later1 _ _) q) nq
      have HSB : Hid (w.heap.size ≤ ((((w.alloc (.cells #[.string s, .int .i64 y] 127)).drewN q).drewN nq)).heap.size) := HWB.out.size
      have bw0 : ((((w.alloc (.cells #[.string s, .int .i64 y] 127)).drewN q).drewN nq)).cell? ⟨w.heap.size, 0, none⟩ = some (.string s) := bx0
      have bw1 : ((((w.alloc (.cells #[.string s, .int .i64 y] 127)).drewN q).drewN nq)).cell? ⟨w.heap.size, 1, none⟩ = some (.int .i64 y) := bx1
      have hkc : n ≤ cE := by omega
      have hkI : (n : Int) ≤ (n : Int) := by omega
      have HF1 : Hid True := trivial
      clear hlt1 bx0 bx1
      generalize (((w.alloc (.cells #[.string s, .int .i64 y] 127)).drewN q).drewN nq) = WB at *
      have hlw : w.heap.size < WB.heap.size := World.block_lt_of_cell? _ _ bw0
      have HA1 : Hid (WdE (WB.drew.alloc (.cells #[] 127)) WB.heap.size (.slice (some ⟨WB.heap.size, 0, none⟩) 0 0) []) := WdE.lit0 WB.drew WB.heap.size (Nat.le_refl _)
      have HA2 : Hid (WdE ((WB.drew.alloc (.cells #[.string s, .int .i64 y] 127)).alloc (.cells #[] 127)) WB.heap.size (.slice (some ⟨WB.heap.size + 1, 0, none⟩) 0 0) []) := by
        have := WdE.lit0 (WB.drew.alloc (.cells #[.string s, .int .i64 y] 127)) WB.heap.size (by simp)
        rw [show (WB.drew.alloc (.cells #[.string s, .int .i64 y] 127)).heap.size = WB.heap.size + 1 by simp] at this
        exact this
      have HC1 : Hid (AtN ((WB.drew.alloc (.cells #[] 127)).alloc (.cells #[.string s, .int .i64 y] 127)) (some ⟨WB.heap.size + 1, 0, none⟩) 1 [(s, y)]) := by
        have := lit1_E (WB.drew.alloc (.cells #[] 127)) s y
        rw [show (WB.drew.alloc (.cells #[] 127)).heap.size = WB.heap.size + 1 by simp] at this
        exact this
      have HC2 : Hid (AtN ((WB.drew.alloc (.cells #[.string s, .int .i64 y] 127)).alloc (.cells #[] 127)) (some ⟨WB.heap.size, 0, none⟩) 1 [(s, y)]) := (lit1_E WB.drew s y).later (later1 _ _)
      go_region_law (first
        | (have f1 := HF1.out; clear HF1 f1
           refine step_append_ex rfl _ _ 84 rfl _ _ rfl rfl _ (WdE.pushO _ 84 WB.heap.size _ [] (es.take n) (by first | exact HA1.out | exact HA1.out.later (later1 _ _) | exact HA2.out) (by first | (simp; done) | (simp; omega)) _ _ _ HL1.out (HTK.out _ (by first | exact HWB.out.drew.trans ((later1 _ _).mono HSB.out) | exact HWB.out.drew.trans ((later2 _ _ _).mono HSB.out))) (by simp; omega)) ?_
           rintro v1 X1 ⟨hw1, hb1, ho1⟩
           rw [List.nil_append] at hw1
           obtain ⟨p1, c1, e1⟩ := hw1.shape
           rw [HL1.out] at e1
           subst e1
           have HW1 : Hid (WdE X1 WB.heap.size (.slice p1 n c1) (es.take n)) := hw1
           have HX1 : Hid (Below WB.heap.size WB X1) := by first | exact (Below.refl _ _).drew.trans (((later1 WB.drew _).mono (Nat.le_refl _)).trans hb1) | exact (Below.refl _ _).drew.trans (((later2 WB.drew _ _).mono (Nat.le_refl _)).trans hb1)
           try (have HBB : Hid (AtN X1 (some ⟨WB.heap.size + 1, 0, none⟩) 1 [(s, y)]) := HC1.out.keepB (ho1 (WB.heap.size + 1) (by first | (simp; done) | (simp; omega)) (show ¬ (some WB.heap.size = some (WB.heap.size + 1)) by simp)))
           try (have HBB : Hid (AtN X1 (some ⟨WB.heap.size, 0, none⟩) 1 [(s, y)]) := HC2.out.keepB (ho1 WB.heap.size (by first | (simp; done) | (simp; omega)) (show ¬ (some (WB.heap.size + 1) = some WB.heap.size) by simp)))
           have cb0 := (World.cell?_of_block (w := WB) (HX1.out.block w.heap.size hlw)).trans bw0
           have cb1 := (World.cell?_of_block (w := WB) (HX1.out.block w.heap.size hlw)).trans bw1
           have hlx : w.heap.size < X1.heap.size := Nat.lt_of_lt_of_le hlw HX1.out.size
           clear hw1 hb1 ho1)
        | (have f2 := HW1.out; clear HW1
           refine step_append_ex rfl _ _ 84 rfl _ _ rfl rfl _ (WdE.pushO _ 84 WB.heap.size _ (es.take n) [(s, y)] (by first | exact f2 | exact f2.later (later1 _ _)) (by have := HX1.out.size; first | exact this | (simp; omega)) _ 1 1 rfl (by first | exact HBB.out | exact lit1_E _ s y) (by rw [HL1.out]; omega)) ?_
           rintro v2 X2 ⟨hw2, hb2, _⟩
           obtain ⟨p2, c2, e2⟩ := hw2.shape
           rw [HL2.out] at e2
           subst e2
           have HW2 : Hid (WdE X2 WB.heap.size (.slice p2 (n + 1) c2) (es.take n ++ [(s, y)])) := hw2
           have HX2 : Hid (Below WB.heap.size WB X2) := by first | exact HX1.out.trans hb2 | exact HX1.out.trans (((later1 _ _).mono HX1.out.size).trans hb2)
           clear hw2 hb2 f2)
        | (have f3 := HW2.out; clear HW2
           refine step_append_ex rfl _ _ 84 rfl _ _ rfl rfl _ (WdE.pushO _ 84 WB.heap.size _ (es.take n ++ [(s, y)]) (es.drop n) f3 HX2.out.size _ _ _ HDL.out (HTL.out _ (HWB.out.trans (HX2.out.mono HSB.out)) _) (by rw [HL2.out]; omega)) ?_
           rintro v3 X3 ⟨hw3, hb3, _⟩
           have HW3 : Hid (WdE X3 w.heap.size v3 (insE es (plcE es s) (s, y))) := by
             unfold Hid insE
             rw [HP.out]
             exact ownsRow_base hw3 HSB.out
           have HX3 : Hid (Below w.heap.size w X3) := HWB.out.trans ((HX2.out.trans hb3).mono HSB.out)
           clear hw3 hb3 f3)
        | fail)
      all_goals
        go_wp2
        all_goals
          go_ret
          exact ⟨_, rfl, HW3.out, HX3.out⟩
end Go.Proofs.YtjabimfinanjoabGreat

/- Directories: LookName, of the program and of the specification. Entries that grow by append; cells of an inode of a file system in own memory that turn. The program's AddName: an entry put into its place. Directories: what stays right where an entry goes; how great right inodes are. No program is named here. The program's DropName: an entry taken out of its place. The program's DropName: a file that an entry less leads to. -/
import Derived.Test.YtjabimfinanjoabGreatM23
import Derived.Test.YtjabimfinanjoabGreatM01
import Derived.Test.YtjabimfinanjoabGreatM02
import Derived.Test.YtjabimfinanjoabGreatM18
import Derived.ArgAppend
import Derived.Deep.DeepAppendWide
import Derived.Test.YtjabimfinanjoabGreatM16
namespace Go.Proofs.YtjabimfinanjoabGreat
open Go.RowKit
set_option maxRecDepth 100000

theorem dirN_in {d : FD} {x : Int} {s : ByteArray} (h : dirN d x s = 0) : dirQ d x = 0 := by
  unfold dirN at h
  by_cases e : dirQ d x = 0
  · exact e
  · rw [if_neg e] at h; exact absurd h e
theorem dirN_name {d : FD} {x : Int} {s : ByteArray} (h : dirN d x s = 0) : nameF s = 0 := by
  have h' := dirN_in h
  unfold dirN at h
  rw [if_pos h'] at h
  exact h
set_option maxHeartbeats 3200000 in
theorem implLookU (w : World) (a1 : Option Addr) (n1 c1 : Nat) (a2 : Option Addr) (n2 c2 : Nat) (d : FD) (x : Int) (s : ByteArray) (h : FsR w (.slice a1 n1 c1) (.slice a2 n2 c2) d) (hs : sizeFs d ≤ 1048576) (hl : s.size ≤ 1048576) :
    Calls Tryz.prog 69 #[.agg #[.slice a1 n1 c1, .slice a2 n2 c2], .int .i64 x, .string s] w fun e w' => e = .returned (.agg #[.int .i64 (lookR d x s).1, .int .i64 (lookR d x s).2]) ∧ Below w.heap.size w w' := by
  have hml : s.size ≤ maxLen := by unfold maxLen; omega
  have HB0 : Hid (Below w.heap.size w ((w.alloc (.cells #[.slice a1 n1 c1, .slice a2 n2 c2] 31)).alloc (.cells #[.int .i64 0, .int .i64 0] 94))) := later2 _ _ _
  have HX : Hid (Bx ((w.alloc (.cells #[.slice a1 n1 c1, .slice a2 n2 c2] 31)).alloc (.cells #[.int .i64 0, .int .i64 0] 94)) w.heap.size [.slice a1 n1 c1, .slice a2 n2 c2]) := (Bx.new w [.slice a1 n1 c1, .slice a2 n2 c2] _).later (later1 _ _)
  have HRB : Hid (OwnRow ((w.alloc (.cells #[.slice a1 n1 c1, .slice a2 n2 c2] 31)).alloc (.cells #[.int .i64 0, .int .i64 0] 94)) (w.heap.size + 1) 2 (fun i => if i = 0 then .int .i64 0 else .int .i64 0)) := by
    have := OwnRow.newS (w.alloc (.cells #[.slice a1 n1 c1, .slice a2 n2 c2] 31)) (.int .i64 0) (.int .i64 0) 94
    rw [World.size_alloc] at this
    exact this
  have HF : Hid (∀ W, Below w.heap.size w W → Calls Tryz.prog 59 #[.agg #[.slice a1 n1 c1, .slice a2 n2 c2], .int .i64 x, .string s] W fun e w' => e = .returned (.int .i64 (dirN d x s)) ∧ Below W.heap.size W w') := fun W hW => dirNameFault_any W _ _ _ _ _ _ d x s (h.later hW) (by unfold sizeFs at hs; omega) hml
  have HRR : Hid (lookR d x s = if dirN d x s = 0 then (if idxE (entA d x.toNat) s < (entA d x.toNat).length then (0, ((entA d x.toNat)[idxE (entA d x.toNat) s]?.getD en0).2) else (4, 0)) else (dirN d x s, 0)) := rfl
  rw [HRR.out]
  clear HRR
  by_cases hq : dirN d x s = 0
  rotate_left
  · rw [if_neg hq]
    have hb : (dirN d x s != 0) = true := by simpa using hq
    clear hq h hs
    generalize dirN d x s = r at *
    go_enter Tryz.func69, Tryz.ntmps69
    go_wp2_with fail
    generalize ((w.alloc (.cells #[.slice a1 n1 c1, .slice a2 n2 c2] 31)).alloc (.cells #[.int .i64 0, .int .i64 0] 94)) = W0 at *
    refine (HF.out _ HB0.out).mono ?_
    rintro e w1 ⟨rfl, hb1⟩
    have HB1 : Hid (Below w.heap.size w w1) := HB0.out.trans (hb1.mono HB0.out.size)
    have hrow := HRB.out.later hb1
    have t0 := hrow.cell (i := 0) (by omega)
    have t1 := hrow.cell (i := 1) (by omega)
    have s0 := hrow.frozen 0
    have s1 := hrow.frozen 1
    simp only [ite_self] at t0 t1
    clear hb1 hrow
    go_wp2
    exact bodyPost_ret (v := .agg #[.int .i64 r, .int .i64 0]) (by simp [results, Tryz.results69, go_sem, t0, t1]) rfl ⟨rfl, (HB1.out.setCell (by simp) _).setCell (by simp) _⟩
  · rw [if_pos hq]
    have hq0 : dirQ d x = 0 := dirN_in hq
    have hds := dirS hq0
    obtain ⟨_, hp, _⟩ := dirQ_in hq0
    obtain ⟨j, rfl⟩ : ∃ j : Nat, x = (j : Int) := ⟨x.toNat, by omega⟩
    rw [Int.toNat_natCast] at hds ⊢
    obtain ⟨b0, o0, aE, cE, rfl, rfl, k4, hE⟩ := h.dir hds.lt
    have HK4 : Hid (_ = _) := k4
    have hjn : (j : Int) < ((d.1.length : Nat) : Int) := by omega
    have hlt := hds.lt
    have h6 := hds.six
    obtain ⟨_, _, eE, _, _, hAt⟩ := hE.open'
    simp only [Value.slice.injEq] at eE
    obtain ⟨rfl, -, rfl⟩ := eE
    rw [hq] at HF
    have HPL : Hid (∀ W, Below w.heap.size w W → Calls Tryz.prog 60 #[.slice aE (entA d j).length cE, .string s] W fun e w' => e = .returned (.tuple #[.int .i64 ((plcE (entA d j) s : Nat) : Int), .bool (fndB (entA d j) s)]) ∧ Below W.heap.size W w') := fun W hW => placeOf_any W aE _ cE (entA d j) s rfl (by omega) (hAt.later hW)
    rw [fnd_iff hds.rises] at HPL
    by_cases hi : idxE (entA d j) s < (entA d j).length
    · rw [if_pos hi]
      rw [decide_eq_true hi, idx_plc hds.rises hi] at HPL
      obtain ⟨bE, oE, rfl, _, l1⟩ := hAt _ hi
      have HL1 : Hid (_ = _) := l1
      clear hq hds hp hE k4 h hAt l1 hq0
      generalize ((entA d j)[idxE (entA d j) s]?.getD en0).2 = y at *
      generalize idxE (entA d j) s = i at *
      generalize (entA d j).length = m at *
      generalize d.1.length = n at *
      have hiI : (i : Int) < (m : Int) := by omega
      go_enter Tryz.func69, Tryz.ntmps69
      go_wp2_with fail
      generalize ((w.alloc (.cells #[.slice (some ⟨b0, o0, none⟩) n c1, .slice a2 n2 c2] 31)).alloc (.cells #[.int .i64 0, .int .i64 0] 94)) = W0 at *
      refine (HF.out _ HB0.out).mono ?_
      rintro e w1 ⟨rfl, hb1⟩
      have HB1 : Hid (Below w.heap.size w w1) := HB0.out.trans (hb1.mono HB0.out.size)
      have HR1 : Hid (OwnRow w1 (w.heap.size + 1) 2 _) := HRB.out.later hb1
      have y0 := (HX.out.later hb1) 0 _ rfl
      have y1 := (HX.out.later hb1) 1 _ rfl
      have k1 := cell_later HB1.out HK4.out
      have l1 := cell_later HB1.out HL1.out
      clear hb1
      go_wp2_with fail
      refine (HPL.out _ HB1.out).mono ?_
      rintro e w2 ⟨rfl, hb2⟩
      have HB2 : Hid (Below w.heap.size w w2) := HB1.out.trans (hb2.mono HB1.out.size)
      have l2 := cell_later hb2 l1
      have hrow := HR1.out.later hb2
      have t0 := hrow.cell (i := 0) (by omega)
      have t1 := hrow.cell (i := 1) (by omega)
      have s0 := hrow.frozen 0
      have s1 := hrow.frozen 1
      simp only [ite_self] at t0 t1
      clear hb2 hrow y0 y1 k1 l1
      go_wp2
      exact bodyPost_ret (v := .agg #[.int .i64 0, .int .i64 y]) (by simp [results, Tryz.results69, go_sem, t0, t1]) rfl ⟨rfl, (HB2.out.setCell (by simp) _).setCell (by simp) _⟩
    · rw [if_neg hi]
      rw [decide_eq_false hi] at HPL
      clear hq hds hp hE k4 h hAt hq0 hi
      generalize plcE (entA d j) s = i at *
      generalize (entA d j).length = m at *
      generalize d.1.length = n at *
      go_enter Tryz.func69, Tryz.ntmps69
      go_wp2_with fail
      generalize ((w.alloc (.cells #[.slice (some ⟨b0, o0, none⟩) n c1, .slice a2 n2 c2] 31)).alloc (.cells #[.int .i64 0, .int .i64 0] 94)) = W0 at *
      refine (HF.out _ HB0.out).mono ?_
      rintro e w1 ⟨rfl, hb1⟩
      have HB1 : Hid (Below w.heap.size w w1) := HB0.out.trans (hb1.mono HB0.out.size)
      have HR1 : Hid (OwnRow w1 (w.heap.size + 1) 2 _) := HRB.out.later hb1
      have y0 := (HX.out.later hb1) 0 _ rfl
      have y1 := (HX.out.later hb1) 1 _ rfl
      have k1 := cell_later HB1.out HK4.out
      clear hb1
      go_wp2_with fail
      refine (HPL.out _ HB1.out).mono ?_
      rintro e w2 ⟨rfl, hb2⟩
      have HB2 : Hid (Below w.heap.size w w2) := HB1.out.trans (hb2.mono HB1.out.size)
      have hrow := HR1.out.later hb2
      have t0 := hrow.cell (i := 0) (by omega)
      have t1 := hrow.cell (i := 1) (by omega)
      have s0 := hrow.frozen 0
      have s1 := hrow.frozen 1
      simp only [ite_self] at t0 t1
      clear hb2 hrow y0 y1 k1
      go_wp2
      exact bodyPost_ret (v := .agg #[.int .i64 4, .int .i64 0]) (by simp [results, Tryz.results69, go_sem, t0, t1]) rfl ⟨rfl, (HB2.out.setCell (by simp) _).setCell (by simp) _⟩

end Go.Proofs.YtjabimfinanjoabGreat

namespace Go.Proofs.YtjabimfinanjoabGreat
open Go.RowKit
set_option maxRecDepth 100000

/-- Entries in memory that the call made since n₀. -/
def WdE (w : World) (n₀ : Nat) (v : Value) (es : List EN) : Prop := w.ownsRow n₀ 127 2 v es.length (enCells es)
theorem WdE.later {w w' : World} {n₀ : Nat} {v : Value} {es : List EN} (h : WdE w n₀ v es) (hb : Below w.heap.size w w') : WdE w' n₀ v es := ownsRow_later h hb
theorem WdE.shape {w : World} {n₀ : Nat} {v : Value} {es : List EN} (h : WdE w n₀ v es) : ∃ a c, v = .slice a es.length c := ownsRow_shape h
theorem WdE.nil (w : World) (n₀ : Nat) : WdE w n₀ (.slice none 0 0) [] := ⟨by simp [enCells], Or.inl ⟨rfl, rfl⟩⟩
theorem WdE.lit0 (w : World) (n₀ : Nat) (h : n₀ ≤ w.heap.size) : WdE (w.alloc (.cells #[] 127)) n₀ (.slice (some ⟨w.heap.size, 0, none⟩) 0 0) [] :=
  ⟨by simp [enCells], Or.inr ⟨w.heap.size, 0, #[], rfl, h, Go.Deep.blk_alloc_new _ _, Nat.le_refl _, by unfold maxLen; omega, by simp, by simp [enCells]⟩⟩
theorem WdE.own {w : World} {n₀ : Nat} {v : Value} {es : List EN} (h : WdE w n₀ v es) (hz : ∀ k : Nat, (es[k]?.getD en0).1.size ≤ maxLen) : EntsO w v es (fun b => n₀ ≤ b ∧ b < w.heap.size) := by
  obtain ⟨hl, h | ⟨g, cap, cur, rfl, hb, hh, hnc, hcm, hcs, htake⟩⟩ := h
  · exact Or.inl ⟨List.eq_nil_of_length_eq_zero h.2, _, _, by rw [h.1]⟩
  · refine Or.inr ⟨g, cap, ⟨hb, (Array.getElem?_eq_some_iff.1 hh).1⟩, rfl, ⟨by omega, hnc, hz⟩, cur, _, hh, by rw [hcs]; exact Nat.mul_le_mul_right 2 hnc, fun k hk => ?_⟩
    have h1 := enCells_get es k hk
    rw [← htake, List.getElem?_take, if_pos hk, Array.getElem?_toList] at h1
    exact h1
/-- Entries behind those that are there. -/
theorem WdE.push (w : World) (ty : TypeId) (n₀ : Nat) (v : Value) (es fs : List EN) (h : WdE w n₀ v es) (hn₀ : n₀ ≤ w.heap.size) (a : Option Addr) (m c : Nat) (hm : fs.length = m) (hc : AtN w a m fs) (hl : es.length + m ≤ 1048576) :
    ∃ v' X, (Builtin.append_ #[84, 84] ty #[v, .slice a m c]).run Tryz.prog w = .ok v' X ∧ WdE X n₀ v' (es ++ fs) ∧ Below n₀ w X := by
  subst hm
  obtain ⟨i, hi, h1, h2, h3⟩ := Tryz.infoEnt'
  by_cases h0 : fs.length = 0
  · have hfs : fs = [] := List.eq_nil_of_length_eq_zero h0
    subst hfs
    obtain ⟨av, cv, rfl⟩ := h.shape
    refine ⟨_, w, ?_, by rw [List.append_nil]; exact h, Below.refl _ _⟩
    have hcv : es.length ≤ cv := by
      obtain ⟨_, h | ⟨g, cap, cur, e, hb, hh, hnc, _⟩⟩ := h
      · have := h.2; omega
      · simp only [Value.slice.injEq] at e; omega
    cases a <;> cases av <;> simp [Builtin.append_, run_underlying Tryz.underlying84, sizeOf, typeInfo, hi, Builtin.lenOf, Builtin.firstCells, storeCells, loadCells, loadCellsFrom, hcv]
  · obtain ⟨b, off, rfl, _⟩ := hc 0 (by omega)
    obtain ⟨v', X, hr, ho, hg, _⟩ := run_append_own_wide (P := Tryz.prog) w n₀ 84 ty 127 i _ 2 24 Tryz.underlying84 hi h1 h2 h3 rfl (by decide) v es.length (enCells es) h ⟨b, off, none⟩ fs.length c (enCells fs) (enCells_length fs) (fun j u hu => hc.cells rfl j u hu) (enCells_one fs) (by unfold maxLen; omega) (by omega) hn₀
    refine ⟨v', X, hr, ?_, below_grown hg hn₀ (fun k hk => ?_)⟩
    · unfold WdE
      rw [List.length_append, enCells_append]
      exact ho
    · rcases h.2 with ⟨rfl, _⟩ | ⟨g, cap, cur, rfl, hb, _⟩
      · simp [Value.ownBlock] at hk
      · simp [Value.ownBlock] at hk; omega
/-- Entries behind others that have no room: new memory. -/
theorem push_ahead (w : World) (ty : TypeId) (es fs : List EN) (a : Option Addr) (n : Nat) (hn : es.length = n) (he : AtN w a n es) (ha : a = none → n = 0) (a' : Option Addr) (m c : Nat) (hm : fs.length = m) (hm0 : 0 < m) (hc : AtN w a' m fs) (hl : n + m ≤ 1048576) :
    ∃ v' X, (Builtin.append_ #[84, 84] ty #[.slice a n n, .slice a' m c]).run Tryz.prog w = .ok v' X ∧ WdE X w.heap.size v' (es ++ fs) ∧ Below w.heap.size w X := by
  cases a with
  | none =>
    have h0 := ha rfl
    have hes : es = [] := List.eq_nil_of_length_eq_zero (by omega)
    subst hes
    subst h0
    exact WdE.push w ty w.heap.size (.slice none 0 0) [] fs (WdE.nil _ _) (Nat.le_refl _) a' m c hm hc (by simpa using hl)
  | some p =>
    obtain ⟨i, hi, h1, h2, h3⟩ := Tryz.infoEnt'
    subst hn hm
    obtain ⟨b', off', rfl, _⟩ := hc 0 hm0
    have hp : ∀ j u, (enCells es)[j]? = some u → w.cell? (p.add j) = some u := fun j u hu => by
      have hj : j < es.length * 2 := by rw [← enCells_length]; exact (List.getElem?_eq_some_iff.1 hu).1
      obtain ⟨b, off, e, _⟩ := he 0 (by omega)
      simp only [Option.some.injEq] at e
      subst e
      exact he.cells rfl j u hu
    obtain ⟨v', X, hr, ho, hg⟩ := run_append_arg_grows (P := Tryz.prog) w 84 ty 127 i _ 2 24 Tryz.underlying84 hi h1 h2 h3 rfl (by decide) p es.length es.length (enCells es) (enCells_length es) hp ⟨b', off', none⟩ fs.length c (enCells fs) (enCells_length fs) (fun j u hu => hc.cells rfl j u hu) (by omega) (by unfold maxLen; omega) (by omega)
    refine ⟨v', X, hr, ?_, below_grown hg (Nat.le_refl _) (fun k hk => by simp at hk)⟩
    unfold WdE
    rw [List.length_append, enCells_append]
    exact ho
/-- One entry that was just built. -/
theorem lit1_E (w : World) (s : ByteArray) (y : Int) : AtN (w.alloc (.cells #[.string s, .int .i64 y] 127)) (some ⟨w.heap.size, 0, none⟩) 1 [(s, y)] := fun k hk => ⟨w.heap.size, 0, rfl, by
    have h0 : k = 0 := by omega
    subst h0
    rw [new_cell]
    rfl, by
    have h0 : k = 0 := by omega
    subst h0
    rw [new_cell]
    rfl⟩
theorem AtN.take {w : World} {a : Option Addr} {n : Nat} {es : List EN} (h : AtN w a n es) (k : Nat) (hk : k ≤ n) : AtN w a k (es.take k) := fun i hi => by
  obtain ⟨b, off, e, c0, c1⟩ := h i (by omega)
  exact ⟨b, off, e, by rw [List.getElem?_take, if_pos hi]; exact c0, by rw [List.getElem?_take, if_pos hi]; exact c1⟩
theorem AtN.drop {w : World} {b off n : Nat} {es : List EN} (h : AtN w (some ⟨b, off, none⟩) n es) (k : Nat) : AtN w (some ⟨b, off + k * 2, none⟩) (n - k) (es.drop k) := fun i hi => by
  obtain ⟨b', off', e, c0, c1⟩ := h (k + i) (by omega)
  simp only [Option.some.injEq, Addr.mk.injEq, and_true] at e
  obtain ⟨rfl, rfl⟩ := e
  refine ⟨b, off + k * 2, rfl, ?_, ?_⟩
  · rw [List.getElem?_drop, show off + k * 2 + i * 2 = off + (k + i) * 2 by omega]; exact c0
  · rw [List.getElem?_drop, show off + k * 2 + i * 2 + 1 = off + (k + i) * 2 + 1 by omega]; exact c1

/-- The entries of an inode without blocks stored. -/
theorem FsS.entS {w : World} {bI n cI bD cD : Nat} {d : FD} {F G : Nat → Prop} (hfs : FsS w bI n cI bD 20 cD d F) (j : Nat) (hj : j < n) (hblk : (d.1[j]?.getD id0).2.2.2.1 = []) (es : List EN) (vE : Value) (hE : EntsO w vE es G) (hG : ∀ c, G c → ¬ F c ∧ c < w.heap.size) :
    FsS (w.setCell ⟨bI, j * 5 + 4, none⟩ vE) bI n cI bD 20 cD (d.1.set j ((d.1[j]?.getD id0).1, (d.1[j]?.getD id0).2.1, (d.1[j]?.getD id0).2.2.1, [], es), d.2) (fun c => F c ∨ G c) := by
  have hne := hfs.ne
  have hl := hfs.len.1
  obtain ⟨aB, cB, aE, cE, i0, i1, i2, i3, i4, i5, _, _⟩ := hfs.ino j hj
  rw [hblk] at i3
  have h1 : Chg (fun c => c = bI) w (w.setCell ⟨bI, j * 5 + 4, none⟩ vE) := Chg.set (F := fun c => c = bI) (Chg.refl _ w) rfl (j * 5 + 4) vE
  refine hfs.putI j hj _ (.slice aB 0 cB) vE (fun u hu => ?_) h1 ?_ (fun c hc => ⟨(hG c hc).1, by simpa [World.setCell] using (hG c hc).2⟩)
  · have c0 := hu.cell (i := j * 5) (by omega)
    have c1 := hu.cell (i := j * 5 + 1) (by omega)
    have c2 := hu.cell (i := j * 5 + 2) (by omega)
    have c3 := hu.cell (i := j * 5 + 3) (by omega)
    rw [i0] at c0
    rw [i1] at c1
    rw [i2] at c2
    rw [i3] at c3
    have e0 := (Option.some.inj c0).symm
    have e1 := (Option.some.inj c1).symm
    have e2 := (Option.some.inj c2).symm
    have e3 := (Option.some.inj c3).symm
    refine (hu.set (j * 5 + 4) _).congr fun c _ => ?_
    rw [inCell_set d.1 u j (by omega)]
    by_cases q4 : c = j * 5 + 4
    · rw [if_pos q4, if_neg (by omega), if_neg (by omega), if_neg (by omega), if_neg (by omega)]
    · rw [if_neg q4]
      by_cases q0 : c = j * 5
      · rw [if_pos q0, q0, e0]
      · rw [if_neg q0]
        by_cases q1 : c = j * 5 + 1
        · rw [if_pos q1, q1, e1]
        · rw [if_neg q1]
          by_cases q2 : c = j * 5 + 2
          · rw [if_pos q2, q2, e2]
          · rw [if_neg q2]
            by_cases q3 : c = j * 5 + 3
            · rw [if_pos q3, q3, e3]; rfl
            · rw [if_neg q3]
  · exact ⟨⟨rfl, rfl, rfl, aB, 0, cB, rfl, Nat.zero_le _⟩, fun _ => False, G, Or.inl ⟨rfl, aB, cB, rfl⟩, hE.keep fun c hc hlt => h1.block c hlt fun e => (hG c hc).1 (e ▸ hne.2.1.1), fun _ hh => hh.elim, fun b hh => hh.elim False.elim id⟩
/-- The links of an inode stored. -/
theorem FsS.lnkS {w : World} {bI n cI bD cD : Nat} {d : FD} {F : Nat → Prop} (hfs : FsS w bI n cI bD 20 cD d F) (j : Nat) (hj : j < n) (l : Int) :
    FsS (w.setCell ⟨bI, j * 5 + 1, none⟩ (.int .i64 l)) bI n cI bD 20 cD (d.1.set j ((d.1[j]?.getD id0).1, l, (d.1[j]?.getD id0).2.2), d.2) F := by
  have h1 : Chg (fun c => c = bI) w (w.setCell ⟨bI, j * 5 + 1, none⟩ (.int .i64 l)) := Chg.set (F := fun c => c = bI) (Chg.refl _ w) rfl (j * 5 + 1) _
  obtain ⟨F1, G1, ⟨g0, gm, u, G, g1, g2, g3, g4, g5⟩, h2, h3, h4⟩ := hfs
  refine ⟨F1, G1, ⟨by simpa using g0, gm, u, G, g1, g2, g3, ?_, fun i hi => ?_⟩, h2.keep fun c hc hlt => h1.block c hlt fun e => h3 bI g1 (e ▸ hc), h3, fun b hb => ⟨(h4 b hb).1, by simpa [World.setCell] using (h4 b hb).2⟩⟩
  · refine (g4.set (j * 5 + 1) _).congr fun c _ => ?_
    have e := inCell_set d.1 u j (by omega) ((d.1[j]?.getD id0).1, l, (d.1[j]?.getD id0).2.2) (u j).1 (u j).2 c
    have eu : (fun i => if i = j then ((u j).1, (u j).2) else u i) = u := by
      funext i
      by_cases h : i = j
      · rw [if_pos h, h]
      · rw [if_neg h]
    rw [eu] at e
    rw [e]
    by_cases q1 : c = j * 5 + 1
    · rw [if_pos q1, if_neg (by omega), if_pos q1]
    · rw [if_neg q1]
      by_cases q0 : c = j * 5
      · rw [if_pos q0, q0, inCell_0]
      · rw [if_neg q0, if_neg q1]
        by_cases q2 : c = j * 5 + 2
        · rw [if_pos q2, q2, inCell_2]
        · rw [if_neg q2]
          by_cases q3 : c = j * 5 + 3
          · rw [if_pos q3, q3, inCell_3]
          · rw [if_neg q3]
            by_cases q4 : c = j * 5 + 4
            · rw [if_pos q4, q4, inCell_4]
            · rw [if_neg q4]
  · rw [set_getD _ _ _ _ _ (by omega)]
    have hk : ∀ c, G i c → c < w.heap.size → (w.setCell ⟨bI, j * 5 + 1, none⟩ (.int .i64 l)).heap[c]? = w.heap[c]? := fun c hc hlt => h1.block c hlt fun e => (g2 i c hc).2 e
    by_cases e : i = j
    · rw [if_pos e]
      have hv := (g5 i hi).keep hk
      rw [e] at hv ⊢
      obtain ⟨⟨_, _, _, hcap⟩, hrest⟩ := hv
      exact ⟨⟨rfl, rfl, rfl, hcap⟩, hrest⟩
    · rw [if_neg e]
      exact (g5 i hi).keep hk
theorem FsS.boundF {w : World} {bI n cI bD m cD : Nat} {d : FD} {F : Nat → Prop} (h : FsS w bI n cI bD m cD d F) : FsS w bI n cI bD m cD d (fun c => F c ∧ c < w.heap.size) := by
  obtain ⟨F1, G1, h1, h2, h3, h4⟩ := h
  exact ⟨F1, G1, h1, h2, h3, fun b hb => ⟨h4 b hb, (h4 b hb).2⟩⟩
end Go.Proofs.YtjabimfinanjoabGreat

namespace Go.Proofs.YtjabimfinanjoabGreat
open Go.RowKit
set_option maxRecDepth 100000

/-- An entry in its place; entries and links of an inode turned. -/
def insE (es : List EN) (k : Nat) (e : EN) : List EN := es.take k ++ [e] ++ es.drop k
def entD (d : FD) (j : Nat) (es : List EN) : FD := (d.1.set j ((d.1[j]?.getD id0).1, (d.1[j]?.getD id0).2.1, (d.1[j]?.getD id0).2.2.1, [], es), d.2)
def lnkD (d : FD) (j : Nat) (l : Int) : FD := (d.1.set j ((d.1[j]?.getD id0).1, l, (d.1[j]?.getD id0).2.2), d.2)
def addD (d : FD) (j : Nat) (s : ByteArray) (y : Nat) : FD := if kindAt d.1 y = 1 then lnkD (entD d j (insE (entA d j) (plcE (entA d j) s) (s, (y : Int)))) y ((d.1[y]?.getD id0).2.1 + 1) else entD d j (insE (entA d j) (plcE (entA d j) s) (s, (y : Int)))
/-- AddName behind its first codes; AddName. -/
def addQ (d : FD) (j : Nat) (s : ByteArray) (y : Int) : Int × FD :=
  if idxE (entA d j) s < (entA d j).length then noFs 7 else if 0 ≤ y ∧ y < (d.1.length : Int) ∧ ¬ kindAt d.1 y.toNat = 0 then (if (entA d j).length = 6 ∨ (kindAt d.1 y.toNat = 1 ∧ 60 ≤ (d.1[y.toNat]?.getD id0).2.1) then noFs 2 else (0, addD d j s y.toNat)) else noFs 4
def addR (d : FD) (x : Int) (s : ByteArray) (y : Int) : Int × FD := if dirN d x s = 0 then addQ d x.toNat s y else noFs (dirN d x s)

set_option maxHeartbeats 800000 in
theorem entriesAhead_any (w : World) (aE : Option Addr) (n cE k : Nat) (hk : k ≤ n) (hc : n ≤ cE) (_hn : n ≤ 1048576) :
    Calls Tryz.prog 133 #[.slice aE n cE, .int .i64 (k : Int)] w fun e w' => e = .returned (.slice aE k k) ∧ w' = w := by
  have hkc : k ≤ cE := by omega
  go_enter Tryz.func133, Tryz.ntmps133
  go_wp2
  go_ret
  exact ⟨rfl, rfl⟩

/-- Where the entries from a place on lie, as the walk has it. -/
def tailE (aE : Option Addr) (cE k : Nat) : Option Addr := if cE = k then aE else Option.map (fun x => x.add (k * 2)) aE
theorem AtN.tail {w : World} {aE : Option Addr} {n cE k : Nat} {es : List EN} (h : AtN w aE n es) (hc : n ≤ cE) : AtN w (tailE aE cE k) (n - k) (es.drop k) := fun i hi => by
  obtain ⟨b, off, rfl, _⟩ := h 0 (by omega)
  unfold tailE
  rw [if_neg (by omega), Option.map_some, add_plain']
  exact h.drop k i hi
set_option maxHeartbeats 3200000 in
theorem withEntry_any (w : World) (aE : Option Addr) (n cE k : Nat) (es : List EN) (s : ByteArray) (y : Int) (hn : es.length = n) (hc : n ≤ cE) (hk : k ≤ n) (h6 : n ≤ 6) (hat : AtN w aE n es) (ha : aE = none → n = 0) :
    Calls Tryz.prog 103 #[.slice aE n cE, .int .i64 (k : Int), .agg #[.string s, .int .i64 y]] w fun e w' => ∃ v, e = .returned v ∧ WdE w' w.heap.size v (insE es k (s, y)) ∧ Below w.heap.size w w' := by
  have HEA : Hid (∀ W, Calls Tryz.prog 133 #[.slice aE n cE, .int .i64 (k : Int)] W fun e w' => e = .returned (.slice aE k k) ∧ w' = W) := fun W => entriesAhead_any W aE n cE k hk hc (by omega)
  have hb1 : Below w.heap.size w (((w.alloc (.cells #[.string s, .int .i64 y] 127)).drew).alloc (.cells #[.string s, .int .i64 y] 127)) := ((later1 _ _).drew).trans ((later1 _ _).mono (by simp))
  have hlit := lit1_E (w.alloc (.cells #[.string s, .int .i64 y] 127)).drew s y
  obtain ⟨v1, X1, hr1, hw1, hbx1⟩ := push_ahead _ 84 (es.take k) [(s, y)] aE k (by rw [List.length_take]; omega) ((hat.take k hk).later hb1) (fun e => by have := ha e; omega) _ 1 1 rfl (by omega) hlit (by omega)
  have hbx1' : Below w.heap.size w X1 := hb1.trans (hbx1.mono hb1.size)
  obtain ⟨v2, X2, hr2, hw2, hbx2⟩ := WdE.push X1 84 _ v1 _ (es.drop k) hw1 hbx1.size (tailE aE cE k) (n - k) (cE - k) (by rw [List.length_drop]; omega) ((hat.tail hc).later hbx1') (by rw [List.length_append, List.length_take]; simp; omega)
  rw [show (w.alloc (.cells #[.string s, .int .i64 y] 127)).drew.heap.size = w.heap.size + 1 by simp] at hr1
  have HR1 : Hid ((Builtin.append_ #[84, 84] 84 #[.slice aE k k, .slice (some ⟨w.heap.size + 1, 0, none⟩) 1 1]).run Tryz.prog (((w.alloc (.cells #[.string s, .int .i64 y] 127)).alloc (.cells #[.string s, .int .i64 y] 127)).drew) = .ok v1 X1) := hr1
  unfold tailE at hr2
  have HR2 : Hid (_ = _) := hr2
  obtain ⟨a1', c1', rfl⟩ := hw1.shape
  have hlen : (es.take k ++ [(s, y)]).length = k + 1 := by rw [List.length_append, List.length_take]; simp; omega
  rw [hlen] at HR1 HR2
  have HW2 : Hid (WdE X2 w.heap.size v2 (insE es k (s, y))) := by
    unfold Hid insE
    exact ownsRow_base hw2 hb1.size
  have HB2 : Hid (Below w.heap.size w X2) := hbx1'.trans (hbx2.mono hb1.size)
  have hkI : (k : Int) ≤ (n : Int) := by omega
  clear hb1 hlit hr1 hr2 hw1 hbx1 hbx1' hw2 hbx2 hat ha hn hlen
  go_enter Tryz.func103, Tryz.ntmps103
  go_wp2_with fail
  go_region_law (first
    | (refine step_append_run rfl _ _ 84 rfl _ _ rfl rfl _ _ HR1.out ?_; clear HR1)
    | (refine step_append_run rfl _ _ 84 rfl _ _ rfl rfl _ _ HR2.out ?_; clear HR2)
    | (try go_simp; go_at_call 133; refine (HEA.out _).mono ?_; rintro e w2 ⟨rfl, rfl⟩)
    | fail)
  all_goals
    go_wp2
    all_goals
      go_ret
      exact ⟨_, rfl, HW2.out, HB2.out⟩
end Go.Proofs.YtjabimfinanjoabGreat

namespace Go.Proofs.YtjabimfinanjoabGreat
open Go.RowKit
set_option maxRecDepth 100000

/-- The entries without the one at a place. -/
def delE (es : List EN) (k : Nat) : List EN := es.take k ++ es.drop (k + 1)
theorem delE_len {es : List EN} {k : Nat} (h : k < es.length) : (delE es k).length = es.length - 1 := by
  unfold delE
  rw [List.length_append, List.length_take, List.length_drop]; omega
theorem delE_last {es : List EN} {k : Nat} (h : k + 1 = es.length) : delE es k = es.take k := by
  unfold delE
  rw [List.drop_of_length_le (by omega), List.append_nil]
theorem delE_get {es : List EN} {k : Nat} (h : k < es.length) (i : Nat) : (delE es k)[i]?.getD en0 = es[if i < k then i else i + 1]?.getD en0 := by
  unfold delE
  by_cases hi : i < k
  · rw [if_pos hi, List.getElem?_append_left (by rw [List.length_take]; omega), List.getElem?_take, if_pos hi]
  · rw [if_neg hi, List.getElem?_append_right (by rw [List.length_take]; omega), List.length_take, List.getElem?_drop, show k + 1 + (i - min k es.length) = i + 1 by omega]
theorem delE_size {es : List EN} {k : Nat} (h : k < es.length) (hz : ∀ k : Nat, (es[k]?.getD en0).1.size ≤ maxLen) (i : Nat) : ((delE es k)[i]?.getD en0).1.size ≤ maxLen := by
  rw [delE_get h]; exact hz _
/-- Entries of a directory that are right. -/
structure DirE (es : List EN) : Prop where
  six : es.length ≤ 6
  names : ∀ i, i < es.length → nameF (es[i]?.getD en0).1 = 0
  nums : ∀ i, i < es.length → 0 ≤ (es[i]?.getD en0).2 ∧ (es[i]?.getD en0).2 ≤ 9
  rises : Rises es
theorem dirF_E {es : List EN} (h : dirF es = 0) : DirE es := by
  obtain ⟨h1, h2, h3⟩ := dir_rises h
  refine ⟨h3, h2, fun i hi => ?_, h1⟩
  unfold dirF at h
  rw [if_neg (by omega)] at h
  have := fstNZ_inv h i hi
  unfold entF at this
  rw [if_pos (h2 i hi)] at this
  by_cases e : 0 ≤ (es[i]?.getD en0).2 ∧ (es[i]?.getD en0).2 ≤ 9
  · exact e
  · rw [if_neg e] at this; omega
theorem DirE.fault {es : List EN} (h : DirE es) : dirF es = 0 := by
  unfold dirF
  rw [if_neg (by have := h.six; omega)]
  refine fstNZ_zero fun i hi => ?_
  unfold entF
  rw [if_pos (h.names i hi), if_pos (h.nums i hi), if_neg]
  rintro ⟨h0, hs⟩
  have hr := h.rises (i - 1) (by omega)
  rw [show i - 1 + 1 = i by omega] at hr
  unfold strLe at hs
  rw [Bool.or_eq_true] at hs
  rcases hs with hs | hs
  · have := bl_trans hr hs
    rw [bl_irr] at this; exact absurd this (by decide)
  · have e : (es[i]?.getD en0).1.toList = (es[i - 1]?.getD en0).1.toList := by simpa using hs
    rw [e, bl_irr] at hr; exact absurd hr (by decide)
theorem DirE.del {es : List EN} (h : DirE es) {k : Nat} (hk : k < es.length) : DirE (delE es k) := by
  have hl := delE_len hk
  refine ⟨by have := h.six; omega, fun i hi => ?_, fun i hi => ?_, fun i hi => ?_⟩
  · rw [delE_get hk]; exact h.names _ (by split <;> omega)
  · rw [delE_get hk]; exact h.nums _ (by split <;> omega)
  · rw [delE_get hk, delE_get hk]
    by_cases h1 : i + 1 < k
    · rw [if_pos h1, if_pos (by omega)]; exact h.rises i (by omega)
    · rw [if_neg h1]
      by_cases h2 : i < k
      · rw [if_pos h2]; exact h.rises.lt (by omega) (by omega)
      · rw [if_neg h2]; exact h.rises (i + 1) (by omega)
/-- The list stays right where one inode turns to a right one. -/
theorem insF_set {ds : List ID} (h : insF ds = 0) (j : Nat) (x : ID) (hx : inoF x = 0) : insF (ds.set j x) = 0 := by
  have ht := insF_ten h
  unfold insF
  rw [List.length_set, if_neg (by omega)]
  refine fstNZ_zero fun i hi => ?_
  rw [List.getElem?_set]
  by_cases e : j = i
  · rw [if_pos e]
    by_cases hl : j < ds.length
    · rw [if_pos (by omega)]; exact hx
    · omega
  · rw [if_neg e]; exact ins_ino h i hi
theorem inoF_dir {x : ID} (hk : x.1 = 2) (h : inoF x = 0) {es : List EN} (he : DirE es) : inoF (x.1, x.2.1, x.2.2.1, [], es) = 0 := by
  unfold inoF at h ⊢
  rw [if_neg (by omega), if_neg (by omega), if_pos hk] at h
  dsimp only
  rw [if_neg (by omega), if_neg (by omega), if_pos hk]
  by_cases hf : fpB x = true
  · rw [if_pos hf] at h; omega
  · have hf2 : fpB (x.1, x.2.1, x.2.2.1, [], es) = false := by
      unfold fpB at hf ⊢
      simp at hf ⊢
      exact hf.1
    rw [hf2]
    exact he.fault
theorem nameF_size {s : ByteArray} (h : nameF s = 0) : s.size ≤ 4 ∧ 1 ≤ s.size := by
  unfold nameF at h
  by_cases h0 : s.size = 0
  · rw [if_pos h0] at h; omega
  · rw [if_neg h0] at h
    by_cases h1 : s.data.toList.all byB = true
    · rw [if_pos h1] at h
      by_cases h2 : 4 < s.size
      · rw [if_pos h2] at h; omega
      · omega
    · rw [if_neg h1] at h; omega
theorem nlens_four {es : List EN} (h : ∀ i, i < es.length → (es[i]?.getD en0).1.size ≤ 4) : (nlens es).sum ≤ 4 * es.length := by
  unfold nlens
  induction es with
  | nil => simp
  | cons x es ih =>
    have h0 := h 0 (by simp)
    have := ih fun i hi => by have := h (i + 1) (by simpa using hi); simpa using this
    simp at h0
    simp only [List.map_cons, List.sum_cons, List.length_cons, Nat.mul_add, Nat.mul_one]
    omega
theorem ino_small {x : ID} (h : inoF x = 0) : sizeIno x ≤ 40 := by
  have h1 := ino_size h
  have h6 := ino_six h
  have h4 : (nlens x.2.2.2.2).sum ≤ 4 * x.2.2.2.2.length := by
    by_cases hk : x.1 = 2
    · exact nlens_four fun i hi => (nameF_size ((dirF_E (ino_dir h hk)).names i hi)).1
    · have he : x.2.2.2.2.length = 0 := by
        unfold inoF at h
        have dp : dpB x = false → x.2.2.2.2.length = 0 := fun hd => by unfold dpB at hd; simp at hd; rw [hd]; rfl
        by_cases h0 : x.1 = 0
        · rw [if_pos h0] at h
          by_cases hd : dpB x = true
          · rw [hd, Bool.or_true, if_pos rfl] at h; omega
          · exact dp (by simpa using hd)
        · rw [if_neg h0] at h
          by_cases h1 : x.1 = 1
          · rw [if_pos h1] at h
            by_cases hd : dpB x = true
            · rw [if_pos hd] at h; omega
            · exact dp (by simpa using hd)
          · rw [if_neg h1, if_neg hk] at h; omega
      rw [List.eq_nil_of_length_eq_zero he]; simp [nlens]
  unfold sizeIno sizeN
  omega
theorem isz_each {ds : List ID} {m : Nat} (h : ∀ i : Nat, i < ds.length → sizeIno (ds[i]?.getD id0) ≤ m) : (isz ds).sum ≤ m * ds.length := by
  unfold isz
  induction ds with
  | nil => simp
  | cons x ds ih =>
    have h0 := h 0 (by simp)
    have := ih fun i hi => by have := h (i + 1) (by simpa using hi); simpa using this
    simp at h0
    simp only [List.map_cons, List.sum_cons, List.length_cons, Nat.mul_add, Nat.mul_one]
    omega
/-- Right inodes are small. -/
theorem ins_small {ds : List ID} (h : insF ds = 0) : sizeInos ds ≤ 410 := by
  have h1 := isz_each fun i hi => ino_small (ins_ino h i hi)
  have h2 := insF_ten h
  unfold sizeInos
  omega
theorem fs_small {d : FD} (h : insF d.1 = 0) (h20 : d.2.length = 20) (h8 : ∀ i : Nat, (d.2[i]?.getD []).length ≤ 8) : sizeFs d ≤ 1000 := by
  have h1 := ins_small h
  have h2 := ylens_eight h8
  unfold sizeFs sizeByts
  omega
end Go.Proofs.YtjabimfinanjoabGreat

namespace Go.Proofs.YtjabimfinanjoabGreat
open Go.RowKit
set_option maxRecDepth 100000

theorem OwnRow.less {w : World} {b n m : Nat} {f : Nat → Value} (h : OwnRow w b n f) (hm : m ≤ n) : OwnRow w b m f := by
  obtain ⟨cur, t, h1, h2, h3⟩ := h
  exact ⟨cur, t, h1, by omega, fun i hi => h3 i (by omega)⟩
/-- A beginning of entries in own memory. -/
theorem EntsO.take {w : World} {a : Option Addr} {n c : Nat} {es : List EN} {F : Nat → Prop} (h : EntsO w (.slice a n c) es F) (k : Nat) (hk : k ≤ n) : EntsO w (.slice a k k) (es.take k) F := by
  rcases h with ⟨rfl, _, _, e⟩ | ⟨b, cap, hF, e, ⟨h1, h2, h3⟩, h4⟩
  · simp only [Value.slice.injEq] at e
    obtain ⟨rfl, rfl, rfl⟩ := e
    have : k = 0 := by omega
    subst this
    exact Or.inl ⟨rfl, _, _, rfl⟩
  · simp only [Value.slice.injEq] at e
    obtain ⟨rfl, rfl, rfl⟩ := e
    have hl : (es.take k).length = k := by rw [List.length_take]; omega
    have hg : ∀ i : Nat, i < k → (es.take k)[i]?.getD en0 = es[i]?.getD en0 := fun i hi => by rw [List.getElem?_take, if_pos hi]
    refine Or.inr ⟨b, k, hF, by rw [hl], ⟨by omega, by omega, fun i => ?_⟩, ?_⟩
    · by_cases hi : i < k
      · rw [hg i hi]; exact h3 i
      · rw [List.getElem?_take, if_neg hi]; simp [en0, ByteArray.size]
    · rw [hl]
      refine (h4.less (by omega)).congr fun i hi => ?_
      unfold enCell
      rw [hg _ (by omega)]
theorem append_none (w : World) (ty : TypeId) (av : Option Addr) (k : Nat) (a : Option Addr) (c : Nat) : (Builtin.append_ #[84, 84] ty #[.slice av k k, .slice a 0 c]).run Tryz.prog w = .ok (.slice av k k) w := by
  obtain ⟨i, hi, _, _, _⟩ := Tryz.infoEnt'
  cases a <;> cases av <;> simp [Builtin.append_, run_underlying Tryz.underlying84, sizeOf, typeInfo, hi, Builtin.lenOf, Builtin.firstCells, storeCells, loadCells, loadCellsFrom]
set_option maxHeartbeats 3200000 in
theorem withoutEntry_any (w : World) (aE : Option Addr) (n cE k : Nat) (es : List EN) (hn : es.length = n) (hc : n ≤ cE) (hk : k < n) (h6 : n ≤ 6) (hat : AtN w aE n es) (ha : aE = none → n = 0) :
    Calls Tryz.prog 106 #[.slice aE n cE, .int .i64 (k : Int)] w fun e w' => ∃ v, e = .returned v ∧ Below w.heap.size w w' ∧ ((k + 1 < n ∧ WdE w' w.heap.size v (delE es k)) ∨ (k + 1 = n ∧ v = .slice aE k k)) := by
  have HEA : Hid (∀ W, Calls Tryz.prog 133 #[.slice aE n cE, .int .i64 (k : Int)] W fun e w' => e = .returned (.slice aE k k) ∧ w' = W) := fun W => entriesAhead_any W aE n cE k (by omega) hc (by omega)
  obtain ⟨v1, X1, hr1, hfin⟩ : ∃ v1 X1, (Builtin.append_ #[84, 84] 84 #[.slice aE k k, .slice (tailE aE cE (k + 1)) (n - (k + 1)) (cE - (k + 1))]).run Tryz.prog w.drew = .ok v1 X1 ∧ (Below w.heap.size w X1 ∧ ((k + 1 < n ∧ WdE X1 w.heap.size v1 (delE es k)) ∨ (k + 1 = n ∧ v1 = .slice aE k k))) := by
    by_cases hl : k + 1 = n
    · have e0 : n - (k + 1) = 0 := by omega
      rw [e0]
      exact ⟨_, w.drew, append_none w.drew _ aE k _ _, (Below.refl _ _).drew, Or.inr ⟨hl, rfl⟩⟩
    · obtain ⟨v1, X1, hr1, hw1, hbx1⟩ := push_ahead w.drew 84 (es.take k) (es.drop (k + 1)) aE k (by rw [List.length_take]; omega) ((hat.take k (by omega)).later (Below.refl _ _).drew) (fun e => by have := ha e; omega) (tailE aE cE (k + 1)) (n - (k + 1)) (cE - (k + 1)) (by rw [List.length_drop]; omega) (by omega) ((hat.tail hc).later (Below.refl _ _).drew) (by omega)
      exact ⟨v1, X1, hr1, (Below.refl _ _).drew.trans hbx1, Or.inl ⟨by omega, hw1⟩⟩
  unfold tailE at hr1
  have HR1 : Hid (_ = _) := hr1
  have HFIN : Hid (Below w.heap.size w X1 ∧ ((k + 1 < n ∧ WdE X1 w.heap.size v1 (delE es k)) ∨ (k + 1 = n ∧ v1 = .slice aE k k))) := hfin
  obtain ⟨k1, hk1⟩ : ∃ k1, k + 1 = k1 := ⟨_, rfl⟩
  have hwr : IntKind.i64.wrap ((k : Int) + 1) = (k1 : Int) := by
    rw [show (k : Int) + 1 = (k1 : Int) by omega]
    exact wrap_in _ (by omega) (by omega)
  have hkI : (k1 : Int) ≤ (n : Int) := by omega
  have hkN : k1 ≤ n := by omega
  rw [hk1] at HR1
  clear hr1 hfin hat ha hn hk1
  go_enter Tryz.func106, Tryz.ntmps106
  go_wp2_with fail
  go_region_law (first
    | (refine step_append_run rfl _ _ 84 rfl _ _ rfl rfl _ _ HR1.out ?_; clear HR1)
    | (try go_simp; go_at_call 133; refine (HEA.out _).mono ?_; rintro e w2 ⟨rfl, rfl⟩)
    | fail)
  all_goals
    go_wp2
    all_goals
      go_ret
      exact ⟨_, rfl, HFIN.out⟩
/-- The entries of an inode cut to a beginning of them, where they lie. -/
theorem FsS.entCut {w : World} {bI n cI bD cD : Nat} {d : FD} {F : Nat → Prop} (hfs : FsS w bI n cI bD 20 cD d F) (j : Nat) (hj : j < n) (hblk : (d.1[j]?.getD id0).2.2.2.1 = []) {aE : Option Addr} {m cE : Nat} (hc4 : w.cell? ⟨bI, j * 5 + 4, none⟩ = some (.slice aE m cE)) (k : Nat) (hk : k ≤ m) :
    FsS (w.setCell ⟨bI, j * 5 + 4, none⟩ (.slice aE k k)) bI n cI bD 20 cD (entD d j ((entA d j).take k)) F := by
  have h1 : Chg (fun c => c = bI) w (w.setCell ⟨bI, j * 5 + 4, none⟩ (.slice aE k k)) := Chg.set (F := fun c => c = bI) (Chg.refl _ w) rfl (j * 5 + 4) _
  obtain ⟨F1, G1, ⟨g0, gm, u, G, g1, g2, g3, g4, g5⟩, h2, h3, h4⟩ := hfs
  have e4 : (u j).2 = .slice aE m cE := by
    have := g4.cell (i := j * 5 + 4) (by omega)
    rw [hc4, inCell_4] at this
    exact (Option.some.inj this).symm
  unfold entD
  refine ⟨F1, G1, ⟨by simpa using g0, gm, fun i => if i = j then ((u j).1, .slice aE k k) else u i, G, g1, g2, g3, ?_, fun i hi => ?_⟩, h2.keep fun c hc hlt => h1.block c hlt fun e => h3 bI g1 (e ▸ hc), h3, fun b hb => ⟨(h4 b hb).1, by simpa [World.setCell] using (h4 b hb).2⟩⟩
  · refine (g4.set (j * 5 + 4) _).congr fun c _ => ?_
    rw [inCell_set d.1 u j (by omega)]
    by_cases q4 : c = j * 5 + 4
    · rw [if_pos q4, if_neg (by omega), if_neg (by omega), if_neg (by omega), if_neg (by omega)]
    · rw [if_neg q4]
      by_cases q0 : c = j * 5
      · rw [if_pos q0, q0, inCell_0]
      · rw [if_neg q0]
        by_cases q1 : c = j * 5 + 1
        · rw [if_pos q1, q1, inCell_1]
        · rw [if_neg q1]
          by_cases q2 : c = j * 5 + 2
          · rw [if_pos q2, q2, inCell_2]
          · rw [if_neg q2]
            by_cases q3 : c = j * 5 + 3
            · rw [if_pos q3, q3, inCell_3]
            · rw [if_neg q3]
  · dsimp only
    rw [set_getD _ _ _ _ _ (by omega)]
    have hk2 : ∀ c, G i c → c < w.heap.size → (w.setCell ⟨bI, j * 5 + 4, none⟩ (.slice aE k k)).heap[c]? = w.heap[c]? := fun c hc hlt => h1.block c hlt fun e => (g2 i c hc).2 e
    by_cases e : i = j
    · rw [if_pos e]
      simp only [e, if_true]
      have hv := (g5 i hi).keep hk2
      rw [e] at hv
      obtain ⟨⟨_, _, _, hcap⟩, P, Q, p1, p2, p3, p4⟩ := hv
      rw [e4] at p2
      rw [hblk] at p1
      exact ⟨⟨rfl, rfl, rfl, hcap⟩, P, Q, p1, p2.take k hk, p3, by rw [e] at *; exact p4⟩
    · rw [if_neg e]
      simp only [e, if_false]
      exact (g5 i hi).keep hk2
end Go.Proofs.YtjabimfinanjoabGreat

namespace Go.Proofs.YtjabimfinanjoabGreat
open Go.RowKit
set_option maxRecDepth 100000

theorem cell_blk {w w' : World} {b o : Nat} {v : Value} (e : w'.heap[b]? = w.heap[b]?) (h : w.cell? ⟨b, o, none⟩ = some v) : w'.cell? ⟨b, o, none⟩ = some v := by
  simp only [World.cell?] at h ⊢
  rw [e]; exact h
/-- A file with one entry less. -/
def unlD (d : FD) (z : Nat) : FD := if 1 < (d.1[z]?.getD id0).2.1 then lnkD d z ((d.1[z]?.getD id0).2.1 - 1) else if (allE d.1).count (z : Int) = 0 then dropD d z else d
theorem lnkD_self (d : FD) (z : Nat) (hz : z < d.1.length) : lnkD d z (d.1[z]?.getD id0).2.1 = d := by
  unfold lnkD
  have e : d.1.set z (d.1[z]?.getD id0) = d.1 := by rw [List.getElem?_eq_getElem hz, Option.getD_some, List.set_getElem_self]
  have : ((d.1[z]?.getD id0).1, (d.1[z]?.getD id0).2.1, (d.1[z]?.getD id0).2.2) = d.1[z]?.getD id0 := rfl
  rw [this, e]
/-- An inode stored as it lies, but for its links. -/
theorem cls_lnk {w : World} {bI n cI bD cD : Nat} {d : FD} {F : Nat → Prop} (hfs : FsS w bI n cI bD 20 cD d F) (j : Nat) (hj : j < n) (l : Int) {vB vE : Value} (h3 : w.cell? ⟨bI, j * 5 + 3, none⟩ = some vB) (h4 : w.cell? ⟨bI, j * 5 + 4, none⟩ = some vE) (va vb : Value) :
    FsS (clsW w bI j ((d.1[j]?.getD id0).1, l, (d.1[j]?.getD id0).2.2) vB vE va vb) bI n cI bD 20 cD (lnkD d j l) F := by
  have h1 := cls_chg w bI j ((d.1[j]?.getD id0).1, l, (d.1[j]?.getD id0).2.2) vB vE va vb
  obtain ⟨F1, G1, ⟨g0, gm, u, G, g1, g2, g3, g4, g5⟩, k2, k3, k4⟩ := hfs
  have e3 : (u j).1 = vB := by
    have := g4.cell (i := j * 5 + 3) (by omega)
    rw [h3, inCell_3] at this
    exact (Option.some.inj this).symm
  have e4 : (u j).2 = vE := by
    have := g4.cell (i := j * 5 + 4) (by omega)
    rw [h4, inCell_4] at this
    exact (Option.some.inj this).symm
  have eu : (fun i => if i = j then (vB, vE) else u i) = u := by
    funext i
    by_cases h : i = j
    · rw [if_pos h, h, ← e3, ← e4]
    · rw [if_neg h]
  unfold lnkD
  have hrow := cls_row w bI j n d.1 ((d.1[j]?.getD id0).1, l, (d.1[j]?.getD id0).2.2) vB vE va vb u (by omega) g4
  rw [eu] at hrow
  refine ⟨F1, G1, ⟨by simpa using g0, gm, u, G, g1, g2, g3, hrow, fun i hi => ?_⟩, k2.keep fun c hc hlt => h1.block c hlt fun e => k3 bI g1 (e ▸ hc), k3, fun b hb => ⟨(k4 b hb).1, Nat.lt_of_lt_of_le (k4 b hb).2 h1.size⟩⟩
  rw [set_getD _ _ _ _ _ (by omega)]
  have hk : ∀ c, G i c → c < w.heap.size → (clsW w bI j ((d.1[j]?.getD id0).1, l, (d.1[j]?.getD id0).2.2) vB vE va vb).heap[c]? = w.heap[c]? := fun c hc hlt => h1.block c hlt fun e => (g2 i c hc).2 e
  by_cases e : i = j
  · rw [if_pos e]
    have hv := (g5 i hi).keep hk
    rw [e] at hv ⊢
    obtain ⟨⟨_, _, _, hcap⟩, hrest⟩ := hv
    exact ⟨⟨rfl, rfl, rfl, hcap⟩, hrest⟩
  · rw [if_neg e]
    exact (g5 i hi).keep hk
/-- A file closed as it was opened, but for its links. -/
theorem close_lnk (w : World) (bf bI n cI bD cD : Nat) (d : FD) (F : Nat → Prop) (j : Nat) (l : Int) (aB : Option Addr) (nB cB : Nat) (aE : Option Addr) (nE cE : Nat) (hbox : OwnRow w bf 8 (cel [.int .i64 (d.1[j]?.getD id0).1, .int .i64 l, .int .i64 (d.1[j]?.getD id0).2.2.1, .slice aB nB cB, .slice aE nE cE, .int .i64 (j : Int), .slice (some ⟨bI, 0, none⟩) n cI, .slice (some ⟨bD, 0, none⟩) 20 cD])) (hfs : FsS w bI n cI bD 20 cD d F) (hbf : bf ≠ bI) (hj : j < n) (hn : n ≤ 10)
    (h3 : w.cell? ⟨bI, j * 5 + 3, none⟩ = some (.slice aB nB cB)) (h4 : w.cell? ⟨bI, j * 5 + 4, none⟩ = some (.slice aE nE cE)) :
    Calls Tryz.prog 56 #[.pointer (some ⟨bf, 0, none⟩)] w fun e w' => e = .returned (.agg #[.slice (some ⟨bI, 0, none⟩) n cI, .slice (some ⟨bD, 0, none⟩) 20 cD]) ∧ (Chg (fun c => c = bI) w w' ∧ FsS w' bI n cI bD 20 cD (lnkD d j l) F) :=
  close_raw w bf bI n cI bD cD d F (fun w' => Chg (fun c => c = bI) w w' ∧ FsS w' bI n cI bD 20 cD (lnkD d j l) F) j ((d.1[j]?.getD id0).1, l, (d.1[j]?.getD id0).2.2) aB nB cB aE nE cE hbox hfs hbf hj hn fun va vb => ⟨cls_chg _ _ _ _ _ _ _ _, cls_lnk hfs j hj l h3 h4 va vb⟩
/-- What a file that an entry less leads to comes to. -/
def AnsUn (w : World) (n : Nat) (d : FD) (e : Ending) (w' : World) : Prop := ∃ bI cI bD cD, e = .returned (.agg #[.slice (some ⟨bI, 0, none⟩) n cI, .slice (some ⟨bD, 0, none⟩) 20 cD]) ∧ Below w.heap.size w w' ∧ FsS w' bI n cI bD 20 cD d (fun c => w.heap.size ≤ c)
theorem AnsUn.put {w W : World} {n bI cI bD cD : Nat} {d : FD} (hB : Below w.heap.size w W) (h : FsS W bI n cI bD 20 cD d (fun c => w.heap.size + 2 ≤ c)) {rb : Nat} (hrb : w.heap.size ≤ rb ∧ rb < w.heap.size + 2) (x y : Value) : AnsUn w n d (.returned (.agg #[.slice (some ⟨bI, 0, none⟩) n cI, .slice (some ⟨bD, 0, none⟩) 20 cD])) ((W.setCell ⟨rb, 0, none⟩ x).setCell ⟨rb, 1, none⟩ y) := by
  have h1 : Chg (fun c => c = rb) W ((W.setCell ⟨rb, 0, none⟩ x).setCell ⟨rb, 1, none⟩ y) := Chg.set (F := fun c => c = rb) (Chg.set (F := fun c => c = rb) (Chg.refl _ W) rfl 0 x) rfl 1 y
  exact ⟨bI, cI, bD, cD, rfl, (hB.setCell hrb.1 _).setCell hrb.1 _, (h.chg h1 fun b hb e => by omega).mono fun c hc => by omega⟩
set_option maxHeartbeats 6400000 in
theorem unlinked_any (w : World) (a1 : Option Addr) (n1 c1 : Nat) (a2 : Option Addr) (n2 c2 : Nat) (d : FD) (z : Nat) (h : FsR w (.slice a1 n1 c1) (.slice a2 n2 c2) d) (hs : sizeFs d ≤ 1048576) (h20 : d.2.length = 20) (hz : z < d.1.length) (h10 : d.1.length ≤ 10) (hins : insF d.1 = 0) (hl1 : 1 ≤ (d.1[z]?.getD id0).2.1) (hl60 : (d.1[z]?.getD id0).2.1 ≤ 60)
    (hr : ∀ k : Nat, k < (blkA d z).length → 0 ≤ (blkA d z)[k]?.getD 0 ∧ (blkA d z)[k]?.getD 0 < 20) (h4 : (blkA d z).length ≤ 4) :
    Calls Tryz.prog 71 #[.agg #[.slice a1 n1 c1, .slice a2 n2 c2], .int .i64 (z : Int)] w fun e w' => AnsUn w d.1.length (unlD d z) e w' := by
  have HOP : Hid (∀ W, Below w.heap.size w W → Calls Tryz.prog 54 #[.agg #[.slice a1 n1 c1, .slice a2 n2 c2], .int .i64 (z : Int)] W fun e w' => ∃ bf bI cI bD cD aB cB aE cE, e = .returned (.pointer (some ⟨bf, 0, none⟩)) ∧ (FileS W w' bf bI d.1.length cI bD cD d z (d.1[z]?.getD id0) aB cB aE cE ∧ w'.cell? ⟨bI, z * 5 + 3, none⟩ = some (.slice aB (d.1[z]?.getD id0).2.2.2.1.length cB) ∧ w'.cell? ⟨bI, z * 5 + 4, none⟩ = some (.slice aE (d.1[z]?.getD id0).2.2.2.2.length cE))) := fun W hW => openFile_row W a1 n1 c1 a2 n2 c2 d z (h.later hW) hs h20 hz h10
  have HLK : Hid (∀ W, Below w.heap.size w W → Calls Tryz.prog 107 #[.slice a1 n1 c1, .int .i64 (z : Int)] W fun e w' => e = .returned (.agg #[.int .i64 0, .int .i64 (((allE d.1).count (z : Int) : Nat) : Int)]) ∧ Below W.heap.size W w') := fun W hW => by
    have := implLnkU W a1 n1 c1 d.1 (z : Int) (h.1.later hW) (by unfold sizeFs at hs; omega)
    unfold lnkR at this
    rw [if_pos hins, if_pos ⟨by omega, by omega⟩] at this
    exact this
  have HX : Hid (Bx ((w.alloc (.cells #[.slice a1 n1 c1, .slice a2 n2 c2] 31)).alloc (.cells #[.slice none 0 0, .slice none 0 0] 31)) w.heap.size [.slice a1 n1 c1, .slice a2 n2 c2]) := (Bx.new w [.slice a1 n1 c1, .slice a2 n2 c2] _).later (later1 _ _)
  have HB0 : Hid (Below w.heap.size w ((w.alloc (.cells #[.slice a1 n1 c1, .slice a2 n2 c2] 31)).alloc (.cells #[.slice none 0 0, .slice none 0 0] 31))) := later2 _ _ _
  have hz0 : ((w.alloc (.cells #[.slice a1 n1 c1, .slice a2 n2 c2] 31)).alloc (.cells #[.slice none 0 0, .slice none 0 0] 31)).heap.size = w.heap.size + 2 := by simp
  have HRS : Hid (OwnRow ((w.alloc (.cells #[.slice a1 n1 c1, .slice a2 n2 c2] 31)).alloc (.cells #[.slice none 0 0, .slice none 0 0] 31)) (w.heap.size + 1) 2 (cel [.slice none 0 0, .slice none 0 0])) := by
    have p2 := newCel (w.alloc (.cells #[.slice a1 n1 c1, .slice a2 n2 c2] 31)) [.slice none 0 0, .slice none 0 0] 31
    rw [World.size_alloc] at p2
    exact p2
  have HU : Hid (unlD d z = if 1 < (d.1[z]?.getD id0).2.1 then lnkD d z ((d.1[z]?.getD id0).2.1 - 1) else if (allE d.1).count (z : Int) = 0 then dropD d z else d) := rfl
  rw [HU.out]
  have HBR : Hid (∀ k : Nat, k < (blkA d z).length → 0 ≤ (blkA d z)[k]?.getD 0 ∧ (blkA d z)[k]?.getD 0 < 20) := hr
  have H4 : Hid ((blkA d z).length ≤ 4) := h4
  clear h hs hins HU hr h4
  generalize hkl : (d.1[z]?.getD id0).2.1 = kl at *
  have HKL : Hid ((d.1[z]?.getD id0).2.1 = kl) := hkl
  clear hkl
  by_cases hl : 1 < kl
  · rw [if_pos hl]
    go_enter Tryz.func71, Tryz.ntmps71
    go_wp2_with fail
    generalize ((w.alloc (.cells #[.slice a1 n1 c1, .slice a2 n2 c2] 31)).alloc (.cells #[.slice none 0 0, .slice none 0 0] 31)) = W0 at *
    refine (HOP.out _ HB0.out).mono ?_
    rintro e w1 ⟨bf, bI, cI, bD, cD, aB, cB, aE, cE, rfl, hfl, r3, r4⟩
    have hne := hfl.fs.ne
    have t1 : w1.cell? ⟨bf, 1, none⟩ = some (.int .i64 kl) := by rw [← HKL.out]; exact hfl.box.cell (i := 1) (by omega)
    have s1 := hfl.box.frozen 1
    have hbfI : bf ≠ bI := fun e => hne.2.1.1.2 e.symm
    have h1 : Chg (fun c => c = bf) w1 (w1.setCell ⟨bf, 1, none⟩ (.int .i64 (kl - 1))) := Chg.set (F := fun c => c = bf) (Chg.refl _ w1) rfl 1 _
    have HBX2 : Hid (OwnRow (w1.setCell ⟨bf, 1, none⟩ (.int .i64 (kl - 1))) bf 8 (cel [.int .i64 (d.1[z]?.getD id0).1, .int .i64 (kl - 1), .int .i64 (d.1[z]?.getD id0).2.2.1, .slice aB (d.1[z]?.getD id0).2.2.2.1.length cB, .slice aE (d.1[z]?.getD id0).2.2.2.2.length cE, .int .i64 (z : Int), .slice (some ⟨bI, 0, none⟩) d.1.length cI, .slice (some ⟨bD, 0, none⟩) 20 cD])) := by
      refine (hfl.box.set 1 _).congr fun i hi => ?_
      match i, hi with
      | 0, _ => rfl
      | 1, _ => rfl
      | 2, _ => rfl
      | 3, _ => rfl
      | 4, _ => rfl
      | 5, _ => rfl
      | 6, _ => rfl
      | 7, _ => rfl
    have HF2 : Hid (FsS (w1.setCell ⟨bf, 1, none⟩ (.int .i64 (kl - 1))) bI d.1.length cI bD 20 cD d (fun c => W0.heap.size ≤ c ∧ c ≠ bf)) := hfl.fs.chg h1 fun b hb e => hb.2 e
    have HBL2 : Hid (Below W0.heap.size W0 (w1.setCell ⟨bf, 1, none⟩ (.int .i64 (kl - 1)))) := hfl.below.setCell (by have := hfl.new; exact this) _
    have HR3 : Hid ((w1.setCell ⟨bf, 1, none⟩ (.int .i64 (kl - 1))).cell? ⟨bI, z * 5 + 3, none⟩ = some (.slice aB (d.1[z]?.getD id0).2.2.2.1.length cB)) := cell_blk (h1.block bI hne.2.1.2 fun e => hbfI e.symm) r3
    have HR4 : Hid ((w1.setCell ⟨bf, 1, none⟩ (.int .i64 (kl - 1))).cell? ⟨bI, z * 5 + 4, none⟩ = some (.slice aE (d.1[z]?.getD id0).2.2.2.2.length cE)) := cell_blk (h1.block bI hne.2.1.2 fun e => hbfI e.symm) r4
    have HCL : Hid (Calls Tryz.prog 56 #[.pointer (some ⟨bf, 0, none⟩)] (w1.setCell ⟨bf, 1, none⟩ (.int .i64 (kl - 1))) _) := close_lnk _ bf bI d.1.length cI bD cD d _ z (kl - 1) aB _ cB aE _ cE HBX2.out HF2.out hbfI hz h10 HR3.out HR4.out
    have hW0 : w.heap.size ≤ W0.heap.size := HB0.out.size
    have hwI : W0.heap.size ≤ bI := hne.2.1.1.1
    clear hfl r3 r4 HOP HLK h1 HBX2 HF2 HR3 HR4 hne
    go_wp2_with fail
    refine HCL.out.mono ?_
    rintro e w3 ⟨rfl, hc3, hf3⟩
    have HBL3 : Hid (Below W0.heap.size W0 w3) := HBL2.out.trans (hc3.below HBL2.out.size fun b hb => by rw [hb]; omega)
    have HB3 : Hid (Below w.heap.size w w3) := HB0.out.trans (HBL3.out.mono HB0.out.size)
    have HF3 : Hid (FsS w3 bI d.1.length cI bD 20 cD (lnkD d z (kl - 1)) (fun c => w.heap.size + 2 ≤ c)) := hf3.mono fun c hc => by have := hc.1; omega
    clear hc3 hf3 t1 s1
    have hrr := HRS.out.later HBL3.out
    have u0 : w3.cell? ⟨w.heap.size + 1, 0, none⟩ = some (.slice none 0 0) := hrr.cell (i := 0) (by omega)
    have u1 : w3.cell? ⟨w.heap.size + 1, 1, none⟩ = some (.slice none 0 0) := hrr.cell (i := 1) (by omega)
    have v0 := hrr.frozen 0
    have v1 := hrr.frozen 1
    clear hrr
    go_wp2
    exact bodyPost_ret (v := .agg #[.slice (some ⟨bI, 0, none⟩) d.1.length cI, .slice (some ⟨bD, 0, none⟩) 20 cD]) (by simp [results, Tryz.results71, go_sem, u0, u1]) rfl (AnsUn.put HB3.out HF3.out (by omega) _ _)
  · rw [if_neg hl]
    by_cases hc : (allE d.1).count (z : Int) = 0
    · rw [if_pos hc]
      have hcb : ((((allE d.1).count (z : Int) : Nat) : Int) == 0) = true := beq_iff_eq.2 (by omega)
      clear hc
      generalize (((allE d.1).count (z : Int) : Nat) : Int) = cnt at *
      go_enter Tryz.func71, Tryz.ntmps71
      go_wp2_with fail
      generalize ((w.alloc (.cells #[.slice a1 n1 c1, .slice a2 n2 c2] 31)).alloc (.cells #[.slice none 0 0, .slice none 0 0] 31)) = W0 at *
      refine (HOP.out _ HB0.out).mono ?_
      rintro e w1 ⟨bf, bI, cI, bD, cD, aB, cB, aE, cE, rfl, hfl, r3, r4⟩
      have HFL : Hid (FileS W0 w1 bf bI d.1.length cI bD cD d z (d.1[z]?.getD id0) aB cB aE cE) := hfl
      have HR3 : Hid (_ = _) := r3
      have HR4 : Hid (_ = _) := r4
      have hne := hfl.fs.ne
      have t1 : w1.cell? ⟨bf, 1, none⟩ = some (.int .i64 kl) := by rw [← HKL.out]; exact hfl.box.cell (i := 1) (by omega)
      have hbfI : bf ≠ bI := fun e => hne.2.1.1.2 e.symm
      have HB1 : Hid (Below w.heap.size w w1) := HB0.out.trans (hfl.below.mono HB0.out.size)
      have x0 := (HX.out.later hfl.below) 0 _ rfl
      have x1 := (HX.out.later hfl.below) 1 _ rfl
      have hW0 : w.heap.size ≤ W0.heap.size := HB0.out.size
      have hwI : W0.heap.size ≤ bI := hne.2.1.1.1
      have hwz : W0.heap.size ≤ w1.heap.size := hfl.below.size
      clear hfl r3 r4 HOP
      go_wp2_with fail
      refine (HLK.out _ HB1.out).mono ?_
      rintro e w2 ⟨rfl, hb2⟩
      have hfd := field_intR 0 cnt
      have HBL2 : Hid (Below W0.heap.size W0 w2) := HFL.out.below.trans (hb2.mono HFL.out.below.size)
      have HFL2 : Hid (FileS W0 w2 bf bI d.1.length cI bD cD d z (d.1[z]?.getD id0) aB cB aE cE) := HFL.out.later hb2
      clear hb2 x0 x1 t1 HFL HR3 HR4 HLK
      go_wp2_with fail
      refine (dropF_any W0 w2 bf bI d.1.length cI bD cD d z (d.1[z]?.getD id0) aB cB aE cE HFL2.out HBR.out H4.out).mono ?_
      rintro e w4 ⟨rfl, hf4⟩
      have HBX4 : Hid (OwnRow w4 bf 8 (cel [.int .i64 id0.1, .int .i64 id0.2.1, .int .i64 id0.2.2.1, .slice none 0 0, .slice none 0 0, .int .i64 (z : Int), .slice (some ⟨bI, 0, none⟩) d.1.length cI, .slice (some ⟨bD, 0, none⟩) 20 cD])) := hf4.box
      have HF4 : Hid (FsS w4 bI d.1.length cI bD 20 cD (d.1, clrK d.2 (blkA d z) (blkA d z).length) (fun c => W0.heap.size ≤ c ∧ c ≠ bf)) := hf4.fs
      have HBL4 : Hid (Below W0.heap.size W0 w4) := hf4.below
      clear hf4 HFL2
      go_wp2_with fail
      refine (close_any w4 bf bI d.1.length cI bD cD _ _ (fun _ => False) z id0 none 0 0 none 0 0 HBX4.out HF4.out hbfI hz h10 (setZ_ino _ _) (fun c hc => hc.elim)).mono ?_
      rintro e w5 ⟨rfl, hc5, hf5⟩
      have HBL5 : Hid (Below W0.heap.size W0 w5) := HBL4.out.trans (hc5.below HBL4.out.size fun b hb => by rw [hb]; omega)
      have HB5 : Hid (Below w.heap.size w w5) := HB0.out.trans (HBL5.out.mono HB0.out.size)
      have HF5 : Hid (FsS w5 bI d.1.length cI bD 20 cD (dropD d z) (fun c => w.heap.size + 2 ≤ c)) := hf5.mono fun c hc => by
        rcases hc with hc | hc
        · have := hc.1; omega
        · exact hc.elim
      clear hc5 hf5
      have hrr := HRS.out.later HBL5.out
      have u0 : w5.cell? ⟨w.heap.size + 1, 0, none⟩ = some (.slice none 0 0) := hrr.cell (i := 0) (by omega)
      have u1 : w5.cell? ⟨w.heap.size + 1, 1, none⟩ = some (.slice none 0 0) := hrr.cell (i := 1) (by omega)
      have v0 := hrr.frozen 0
      have v1 := hrr.frozen 1
      clear hrr
      go_wp2
      exact bodyPost_ret (v := .agg #[.slice (some ⟨bI, 0, none⟩) d.1.length cI, .slice (some ⟨bD, 0, none⟩) 20 cD]) (by simp [results, Tryz.results71, go_sem, u0, u1]) rfl (AnsUn.put HB5.out HF5.out (by omega) _ _)
    · rw [if_neg hc]
      have hcb : ((((allE d.1).count (z : Int) : Nat) : Int) == 0) = false := beq_eq_false_iff_ne.2 (by omega)
      clear hc
      generalize (((allE d.1).count (z : Int) : Nat) : Int) = cnt at *
      go_enter Tryz.func71, Tryz.ntmps71
      go_wp2_with fail
      generalize ((w.alloc (.cells #[.slice a1 n1 c1, .slice a2 n2 c2] 31)).alloc (.cells #[.slice none 0 0, .slice none 0 0] 31)) = W0 at *
      refine (HOP.out _ HB0.out).mono ?_
      rintro e w1 ⟨bf, bI, cI, bD, cD, aB, cB, aE, cE, rfl, hfl, r3, r4⟩
      have HFL : Hid (FileS W0 w1 bf bI d.1.length cI bD cD d z (d.1[z]?.getD id0) aB cB aE cE) := hfl
      have HR3 : Hid (_ = _) := r3
      have HR4 : Hid (_ = _) := r4
      have hne := hfl.fs.ne
      have t1 : w1.cell? ⟨bf, 1, none⟩ = some (.int .i64 kl) := by rw [← HKL.out]; exact hfl.box.cell (i := 1) (by omega)
      have hbfI : bf ≠ bI := fun e => hne.2.1.1.2 e.symm
      have HB1 : Hid (Below w.heap.size w w1) := HB0.out.trans (hfl.below.mono HB0.out.size)
      have x0 := (HX.out.later hfl.below) 0 _ rfl
      have x1 := (HX.out.later hfl.below) 1 _ rfl
      have hW0 : w.heap.size ≤ W0.heap.size := HB0.out.size
      have hwI : W0.heap.size ≤ bI := hne.2.1.1.1
      have hwz : W0.heap.size ≤ w1.heap.size := hfl.below.size
      clear hfl r3 r4 HOP
      go_wp2_with fail
      refine (HLK.out _ HB1.out).mono ?_
      rintro e w2 ⟨rfl, hb2⟩
      have hfd := field_intR 0 cnt
      have HBL2 : Hid (Below W0.heap.size W0 w2) := HFL.out.below.trans (hb2.mono HFL.out.below.size)
      have HFL2 : Hid (FileS W0 w2 bf bI d.1.length cI bD cD d z (d.1[z]?.getD id0) aB cB aE cE) := HFL.out.later hb2
      have HCL : Hid (Calls Tryz.prog 56 #[.pointer (some ⟨bf, 0, none⟩)] w2 _) := close_lnk w2 bf bI d.1.length cI bD cD d _ z (d.1[z]?.getD id0).2.1 aB _ cB aE _ cE HFL2.out.box HFL2.out.fs hbfI hz h10 (cell_later hb2 HR3.out) (cell_later hb2 HR4.out)
      clear hb2 x0 x1 t1 HFL HR3 HR4 HLK
      go_wp2_with fail
      refine HCL.out.mono ?_
      rintro e w5 ⟨rfl, hc5, hf5⟩
      have HBL5 : Hid (Below W0.heap.size W0 w5) := HBL2.out.trans (hc5.below HBL2.out.size fun b hb => by rw [hb]; omega)
      have HB5 : Hid (Below w.heap.size w w5) := HB0.out.trans (HBL5.out.mono HB0.out.size)
      have HF5 : Hid (FsS w5 bI d.1.length cI bD 20 cD d (fun c => w.heap.size + 2 ≤ c)) := by
        unfold Hid
        have := hf5.mono (F' := fun c => w.heap.size + 2 ≤ c) fun c hc => by have := hc.1; omega
        rw [lnkD_self d z hz] at this
        exact this
      clear hc5 hf5
      have hrr := HRS.out.later HBL5.out
      have u0 : w5.cell? ⟨w.heap.size + 1, 0, none⟩ = some (.slice none 0 0) := hrr.cell (i := 0) (by omega)
      have u1 : w5.cell? ⟨w.heap.size + 1, 1, none⟩ = some (.slice none 0 0) := hrr.cell (i := 1) (by omega)
      have v0 := hrr.frozen 0
      have v1 := hrr.frozen 1
      clear hrr
      go_wp2
      exact bodyPost_ret (v := .agg #[.slice (some ⟨bI, 0, none⟩) d.1.length cI, .slice (some ⟨bD, 0, none⟩) 20 cD]) (by simp [results, Tryz.results71, go_sem, u0, u1]) rfl (AnsUn.put HB5.out HF5.out (by omega) _ _)
end Go.Proofs.YtjabimfinanjoabGreat

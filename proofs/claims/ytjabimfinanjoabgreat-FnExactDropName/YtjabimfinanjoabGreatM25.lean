/- The program's AddName: what it asks; places of a file system that are told. A directory's entry that is entered or struck where it lies. The program's DropName. AddName: how great what is answered is; append within a region, its answer told by a property. The specification's AddName: an entry put into its place. -/
import Derived.Test.YtjabimfinanjoabGreatM24
import Derived.Test.YtjabimfinanjoabGreatM21
import Derived.BigQuiet
namespace Go.Proofs.YtjabimfinanjoabGreat
open Go.RowKit
set_option maxRecDepth 100000

theorem cloneS_any (w : World) (s : ByteArray) (hs : s.size ≤ 1048576) : Calls Tryz.prog 65 #[.string s] w fun e w' => e = .returned (.string s) ∧ Below w.heap.size w w' := by
  have := clone_any w s.data.toList (by have : s.data.toList.length = s.size := Array.length_toList; omega)
  rw [mkB_data] at this
  exact this
set_option maxHeartbeats 800000 in
theorem takesLink_any (w : World) (x0 x1 x2 : Int) (v3 v4 : Value) : Calls Tryz.prog 63 #[.agg #[.int .i64 x0, .int .i64 x1, .int .i64 x2, v3, v4]] w fun e w' => e = .returned (.bool (decide (¬ (x0 = 1 ∧ 60 ≤ x1)))) ∧ Below w.heap.size w w' := by
  by_cases h1 : x0 = 1
  · have hb : (x0 != 1) = false := by simpa using h1
    have HE : Hid (decide (x1 < 60) = decide (¬ (x0 = 1 ∧ 60 ≤ x1))) := by
      unfold Hid
      by_cases h2 : x1 < 60
      · rw [decide_eq_true h2, decide_eq_true (by omega)]
      · rw [decide_eq_false h2, decide_eq_false (by omega)]
    clear h1
    go_enter Tryz.func63, Tryz.ntmps63
    go_wp2
    go_ret
    exact ⟨ret_bool HE.out, later1 _ _⟩
  · have hb : (x0 != 1) = true := by simpa using h1
    have HE : Hid (decide (¬ (x0 = 1 ∧ 60 ≤ x1)) = true) := by unfold Hid; exact decide_eq_true (by omega)
    clear h1
    go_enter Tryz.func63, Tryz.ntmps63
    go_wp2
    go_ret
    exact ⟨ret_bool HE.out.symm, later1 _ _⟩
/-- What lies at a place. -/
theorem FsR.five {w : World} {b0 o0 n1 c1 : Nat} {v2 : Value} {d : FD} (h : FsR w (.slice (some ⟨b0, o0, none⟩) n1 c1) v2 d) {j : Nat} (hj : j < d.1.length) : ∃ aB cB aE cE, w.cell? ⟨b0, o0 + j * 5, none⟩ = some (.int .i64 (d.1[j]?.getD id0).1) ∧ w.cell? ⟨b0, o0 + j * 5 + 1, none⟩ = some (.int .i64 (d.1[j]?.getD id0).2.1) ∧ w.cell? ⟨b0, o0 + j * 5 + 2, none⟩ = some (.int .i64 (d.1[j]?.getD id0).2.2.1) ∧ w.cell? ⟨b0, o0 + j * 5 + 3, none⟩ = some (.slice aB (d.1[j]?.getD id0).2.2.2.1.length cB) ∧ w.cell? ⟨b0, o0 + j * 5 + 4, none⟩ = some (.slice aE (entA d j).length cE) ∧ Ents w (.slice aE (entA d j).length cE) (entA d j) := by
  obtain ⟨_, _, e1, _, hAt⟩ := h.1.open'
  simp only [Value.slice.injEq] at e1
  obtain ⟨rfl, rfl, rfl⟩ := e1
  obtain ⟨b, o, e, hI⟩ := hAt j hj
  simp only [Option.some.injEq, Addr.mk.injEq, and_true] at e
  obtain ⟨rfl, rfl⟩ := e
  obtain ⟨aB, cB, aE, cE, k0, k1, k2, k3, k4, hR⟩ := hI
  exact ⟨aB, cB, aE, cE, k0, k1, k2, k3, k4, hR.2.2⟩
theorem Ents.cap {w : World} {a : Option Addr} {n c : Nat} {es : List EN} (h : Ents w (.slice a n c) es) : es.length = n ∧ n ≤ c ∧ AtN w a n es ∧ (a = none → n = 0) ∧ ∀ k : Nat, (es[k]?.getD en0).1.size ≤ maxLen := by
  obtain ⟨a', c', e, ⟨_, h2, h3⟩, h4⟩ := h
  simp only [Value.slice.injEq] at e
  obtain ⟨rfl, rfl, rfl⟩ := e
  refine ⟨rfl, h2, h4, fun e => ?_, h3⟩
  by_cases h0 : es.length = 0
  · exact h0
  · obtain ⟨b, off, e2, _⟩ := h4 0 (by omega)
    rw [e] at e2
    simp at e2
theorem dir_blk {x : ID} (h : inoF x = 0) (hk : x.1 = 2) : x.2.2.2.1 = [] := by
  unfold inoF at h
  rw [if_neg (by omega), if_neg (by omega), if_pos hk] at h
  by_cases hd : fpB x = true
  · rw [if_pos hd] at h; omega
  · unfold fpB at hd
    simp at hd
    exact hd.2
theorem insE_size {es : List EN} {k : Nat} {s : ByteArray} {y : Int} (hz : ∀ k : Nat, (es[k]?.getD en0).1.size ≤ maxLen) (hs : s.size ≤ maxLen) (i : Nat) : ((insE es k (s, y))[i]?.getD en0).1.size ≤ maxLen := by
  have h0 : (en0 : EN).1.size ≤ maxLen := by simp [en0, ByteArray.size]
  have hm : ∀ e ∈ insE es k (s, y), e.1.size ≤ maxLen := fun e he => by
    unfold insE at he
    have hall : ∀ e ∈ es, e.1.size ≤ maxLen := fun e he => by
      obtain ⟨i, hi, rfl⟩ := List.mem_iff_getElem.1 he
      have := hz i
      rw [List.getElem?_eq_getElem hi] at this
      exact this
    rcases List.mem_append.1 he with he | he
    · rcases List.mem_append.1 he with he | he
      · exact hall e (List.mem_of_mem_take he)
      · simp at he; rw [he]; exact hs
    · exact hall e (List.mem_of_mem_drop he)
  cases hq : (insE es k (s, y))[i]? with
  | none => exact h0
  | some e => exact hm e (List.mem_of_getElem? hq)

theorem ino_lnk {x : ID} (h : inoF x = 0) (hk : x.1 = 1) : 1 ≤ x.2.1 ∧ x.2.1 ≤ 60 := by
  unfold inoF at h
  rw [if_neg (by omega), if_pos hk] at h
  by_cases hd : dpB x = true
  · rw [if_pos hd] at h; omega
  · rw [if_neg hd] at h
    unfold fileF at h
    by_cases hl : linkB x.2.1 = true ∧ sizeB x.2.2.1 = true
    · have := hl.1
      unfold linkB at this
      simpa using this
    · rw [if_neg hl] at h; omega
theorem entD_kind (d : FD) (j z : Nat) (es : List EN) (hj : j < d.1.length) : ((entD d j es).1[z]?.getD id0).1 = (d.1[z]?.getD id0).1 ∧ ((entD d j es).1[z]?.getD id0).2.1 = (d.1[z]?.getD id0).2.1 := by
  unfold entD
  dsimp only
  rw [set_getD _ _ _ _ _ hj]
  by_cases e : z = j
  · rw [if_pos e, e]; exact ⟨rfl, rfl⟩
  · rw [if_neg e]; exact ⟨rfl, rfl⟩
/-- What is answered where a file system in own memory is in a box. -/
theorem AnsFR.box {w W : World} {bI n cI bD cD rb : Nat} {d : FD} {F : Nat → Prop} (hB : Below w.heap.size w W) (hrb : w.heap.size ≤ rb) (h : FsS W bI n cI bD 20 cD d F) (hF : ∀ c, F c → w.heap.size ≤ c ∧ c ≠ rb) (x y z : Value) : AnsFR w (0, d) (.returned (.agg #[.int .i64 0, .slice (some ⟨bI, 0, none⟩) n cI, .slice (some ⟨bD, 0, none⟩) 20 cD])) (((W.setCell ⟨rb, 0, none⟩ x).setCell ⟨rb, 1, none⟩ y).setCell ⟨rb, 2, none⟩ z) :=
  AnsFR.put hB hrb (h.fsB.mono fun b hb => ⟨(hF b hb.1).1, hb.2, (hF b hb.1).2⟩) x y z
end Go.Proofs.YtjabimfinanjoabGreat

namespace Go.Proofs.YtjabimfinanjoabGreat
open Go.RowKit
set_option maxRecDepth 100000

set_option maxHeartbeats 800000 in
theorem hasMax_any (w : World) (x0 x1 x2 : Int) (v3 : Value) (a : Option Addr) (n c : Nat) (hn : n ≤ 1048576) : Calls Tryz.prog 62 #[.agg #[.int .i64 x0, .int .i64 x1, .int .i64 x2, v3, .slice a n c]] w fun e w' => e = .returned (.bool (decide (n = 6))) ∧ Below w.heap.size w w' := by
  have hd : decide (n = 6) = ((n : Int) == 6) := by
    by_cases h : n = 6
    · subst h; rfl
    · rw [decide_eq_false h]; exact (beq_eq_false_iff_ne.2 (by omega)).symm
  rw [hd]
  clear hd
  go_enter Tryz.func62, Tryz.ntmps62
  go_wp2
  go_ret
  exact ⟨rfl, later1 _ _⟩

set_option maxHeartbeats 3200000 in
theorem strike_any (w : World) (bI n cI bD cD : Nat) (d : FD) (F : Nat → Prop) (j : Nat) (s : ByteArray) (hfs : FsS w bI n cI bD 20 cD d F) (hj : j < n) (hri : Rises (entA d j)) (h6 : (entA d j).length ≤ 6) (hk : idxE (entA d j) s < (entA d j).length) (hblk : (d.1[j]?.getD id0).2.2.2.1 = []) :
    Calls Tryz.prog 70 #[.pointer (some ⟨bI, j * 5, none⟩), .string s] w fun e w' => e = .returned (.tuple #[]) ∧ FsS w' bI n cI bD 20 cD (entD d j (delE (entA d j) (idxE (entA d j) s))) (fun c => F c ∨ w.heap.size ≤ c) ∧ Chg (fun c => c = bI) w w' := by
  obtain ⟨hlen, -⟩ := hfs.len
  obtain ⟨aB', cB', aE, cE, -, -, -, -, c4, hEn⟩ := FsR.five hfs.fs.reads (j := j) (by omega)
  rw [Nat.zero_add] at c4
  have HEN : Hid (Ents w (.slice aE (entA d j).length cE) (entA d j)) := hEn
  obtain ⟨_, _, _, _, -, -, -, -, -, -, i6, -⟩ := hfs.ino j hj
  have HC4 : Hid (w.cell? ⟨bI, j * 5 + 4, none⟩ = some (Value.slice aE (entA d j).length cE)) := c4
  have HC4F : Hid (w.frozen? ⟨bI, j * 5 + 4, none⟩ = false) := i6 (j * 5 + 4)
  have hbI : bI < w.heap.size := hfs.ne.2.1.2
  have hplc := idx_plc hri hk
  have HPL : Hid (Calls Tryz.prog 60 #[.slice aE (entA d j).length cE, .string s] w fun e w' => e = .returned (.tuple #[.int .i64 ((idxE (entA d j) s : Nat) : Int), .bool true]) ∧ Below w.heap.size w w') := by
    have := placeOf_any w aE _ cE (entA d j) s rfl (by omega) HEN.out.cap.2.2.1
    rw [fnd_iff hri, hplc, decide_eq_true hk] at this
    exact this
  have HWE : Hid (∀ W, Below w.heap.size w W → Calls Tryz.prog 106 #[.slice aE (entA d j).length cE, .int .i64 ((idxE (entA d j) s : Nat) : Int)] W fun e w' => ∃ a m c, e = .returned (.slice a m c) ∧ Below W.heap.size W w' ∧ ((idxE (entA d j) s + 1 < (entA d j).length ∧ WdE w' W.heap.size (.slice a m c) (delE (entA d j) (idxE (entA d j) s))) ∨ (idxE (entA d j) s + 1 = (entA d j).length ∧ (.slice a m c : Value) = .slice aE (idxE (entA d j) s) (idxE (entA d j) s)))) := fun W hW => by
    obtain ⟨_, h2, h3, h4, _⟩ := (HEN.out.later hW).cap
    refine (withoutEntry_any W aE _ cE (idxE (entA d j) s) (entA d j) rfl h2 hk h6 h3 h4).mono ?_
    rintro e w' ⟨v, rfl, hb, hv⟩
    rcases hv with ⟨hv1, hv2⟩ | ⟨hv1, rfl⟩
    · obtain ⟨a, c, rfl⟩ := hv2.shape
      exact ⟨_, _, _, rfl, hb, Or.inl ⟨hv1, hv2⟩⟩
    · exact ⟨_, _, _, rfl, hb, Or.inr ⟨hv1, rfl⟩⟩
  have HEZ : Hid (∀ i : Nat, ((delE (entA d j) (idxE (entA d j) s))[i]?.getD en0).1.size ≤ maxLen) := delE_size hk HEN.out.cap.2.2.2.2
  have HBK : Hid ((d.1[j]?.getD id0).2.2.2.1 = []) := hblk
  have HDL : Hid (idxE (entA d j) s + 1 = (entA d j).length → delE (entA d j) (idxE (entA d j) s) = (entA d j).take (idxE (entA d j) s)) := fun e => delE_last e
  have HFS : Hid (FsS w bI n cI bD 20 cD d F) := hfs
  clear hfs hEn i6 hplc hblk hri hlen c4
  obtain ⟨nes, hnes⟩ : ∃ nes, delE (entA d j) (idxE (entA d j) s) = nes := ⟨_, rfl⟩
  rw [hnes] at HWE HEZ HDL ⊢
  obtain ⟨dn, hdn⟩ : ∃ dn, entD d j nes = dn := ⟨_, rfl⟩
  have HDN : Hid (entD d j nes = dn) := hdn
  have HDT : Hid (idxE (entA d j) s + 1 = (entA d j).length → entD d j ((entA d j).take (idxE (entA d j) s)) = dn) := fun e => by rw [← HDL.out e]; exact hdn
  rw [hdn]
  clear hnes hdn HDL
  generalize idxE (entA d j) s = k at *
  obtain ⟨m, hm⟩ : ∃ m, (entA d j).length = m := ⟨_, rfl⟩
  rw [hm] at HPL HWE HC4 HEN HDT
  have c4 := HC4.out
  clear hm h6 hk
  go_enter Tryz.func70, Tryz.ntmps70
  go_wp2_with fail
  refine HPL.out.mono ?_
  rintro e w1 ⟨rfl, hb1⟩
  have HB1 : Hid (Below w.heap.size w w1) := hb1
  clear c4
  have c4 := cell_later hb1 HC4.out
  clear hb1
  go_wp2_with fail
  refine (HWE.out _ HB1.out).mono ?_
  rintro e w2 ⟨av, mv, cv, rfl, hb2, hv2⟩
  have HB2 : Hid (Below w.heap.size w w2) := HB1.out.trans (hb2.mono HB1.out.size)
  clear c4
  have c4 := cell_later HB2.out HC4.out
  have c4f := (HB2.out.frozen (p := ⟨bI, j * 5 + 4, none⟩) hbI).trans HC4F.out
  have hs1 := HB1.out.size
  have hs2 := HB2.out.size
  have HF3 : Hid (FsS (w2.setCell ⟨bI, j * 5 + 4, none⟩ (.slice av mv cv)) bI n cI bD 20 cD dn (fun c => F c ∨ w.heap.size ≤ c)) := by
    unfold Hid
    have hbd : FsS w2 bI n cI bD 20 cD d (fun c => F c ∧ c < w.heap.size) := (HFS.out.boundF).later HB2.out
    rcases hv2 with ⟨_, hw⟩ | ⟨hk1, e⟩
    · have := (hbd.entS j hj HBK.out nes _ (hw.own HEZ.out) (fun c hc => ⟨fun hh => by have := hh.2; have := hc.1; omega, hc.2⟩)).mono (F' := fun c => F c ∨ w.heap.size ≤ c) fun c hh => by
        rcases hh with hh | hh
        · exact Or.inl hh.1
        · exact Or.inr (by have := hh.1; omega)
      rw [← HDN.out]
      exact this
    · simp only [Value.slice.injEq] at e
      obtain ⟨rfl, rfl, rfl⟩ := e
      have := (hbd.entCut j hj HBK.out c4 cv (by omega)).mono (F' := fun c => F c ∨ w.heap.size ≤ c) fun c hh => Or.inl hh.1
      rw [HDT.out hk1] at this
      exact this
  have HC3 : Hid (Chg (fun c => c = bI) w (w2.setCell ⟨bI, j * 5 + 4, none⟩ (.slice av mv cv))) := (Chg.of_below HB2.out).trans (Chg.set (F := fun c => c = bI) (Chg.refl _ w2) rfl _ _)
  clear hb2 hv2 hs1 hs2
  go_wp2
  first
    | exact bodyPost_ret (results_none rfl _ _ _) rfl ⟨rfl, HF3.out, HC3.out⟩
    | (go_end0; exact ⟨rfl, HF3.out, HC3.out⟩)

set_option maxHeartbeats 3200000 in
theorem enter_any (w : World) (bI n cI bD cD : Nat) (d : FD) (F : Nat → Prop) (j : Nat) (s : ByteArray) (y : Int) (hfs : FsS w bI n cI bD 20 cD d F) (hj : j < n) (h6 : (entA d j).length ≤ 6) (hs : s.size ≤ maxLen) (hblk : (d.1[j]?.getD id0).2.2.2.1 = []) :
    Calls Tryz.prog 64 #[.pointer (some ⟨bI, j * 5, none⟩), .string s, .int .i64 y] w fun e w' => e = .returned (.tuple #[]) ∧ FsS w' bI n cI bD 20 cD (entD d j (insE (entA d j) (plcE (entA d j) s) (s, y))) (fun c => F c ∨ w.heap.size ≤ c) ∧ Chg (fun c => c = bI) w w' := by
  obtain ⟨hlen, -⟩ := hfs.len
  obtain ⟨aB', cB', aE, cE, -, -, -, -, c4, hEn⟩ := FsR.five hfs.fs.reads (j := j) (by omega)
  rw [Nat.zero_add] at c4
  have HEN : Hid (Ents w (.slice aE (entA d j).length cE) (entA d j)) := hEn
  obtain ⟨_, _, _, _, -, -, -, -, -, -, i6, -⟩ := hfs.ino j hj
  have HC4 : Hid (w.cell? ⟨bI, j * 5 + 4, none⟩ = some (Value.slice aE (entA d j).length cE)) := c4
  have HC4F : Hid (w.frozen? ⟨bI, j * 5 + 4, none⟩ = false) := i6 (j * 5 + 4)
  have hbI : bI < w.heap.size := hfs.ne.2.1.2
  have HPL : Hid (Calls Tryz.prog 60 #[.slice aE (entA d j).length cE, .string s] w fun e w' => e = .returned (.tuple #[.int .i64 ((plcE (entA d j) s : Nat) : Int), .bool (fndB (entA d j) s)]) ∧ Below w.heap.size w w') := placeOf_any w aE _ cE (entA d j) s rfl (by omega) HEN.out.cap.2.2.1
  have HWE : Hid (∀ W, Below w.heap.size w W → Calls Tryz.prog 103 #[.slice aE (entA d j).length cE, .int .i64 ((plcE (entA d j) s : Nat) : Int), .agg #[.string s, .int .i64 y]] W fun e w' => ∃ v, e = .returned v ∧ WdE w' W.heap.size v (insE (entA d j) (plcE (entA d j) s) (s, y)) ∧ Below W.heap.size W w') := fun W hW => by
    obtain ⟨_, h2, h3, h4, _⟩ := (HEN.out.later hW).cap
    exact withEntry_any W aE _ cE _ (entA d j) s y rfl h2 (findIdx_le _) h6 h3 h4
  have HEZ : Hid (∀ i : Nat, ((insE (entA d j) (plcE (entA d j) s) (s, y))[i]?.getD en0).1.size ≤ maxLen) := insE_size HEN.out.cap.2.2.2.2 hs
  have HBK : Hid ((d.1[j]?.getD id0).2.2.2.1 = []) := hblk
  have HFS : Hid (FsS w bI n cI bD 20 cD d F) := hfs
  clear hfs hEn i6 hblk hlen c4 hs
  generalize insE (entA d j) (plcE (entA d j) s) (s, y) = nes at *
  obtain ⟨dn, hdn⟩ : ∃ dn, entD d j nes = dn := ⟨_, rfl⟩
  have HDN : Hid (entD d j nes = dn) := hdn
  rw [hdn]
  clear hdn
  generalize plcE (entA d j) s = k at *
  generalize fndB (entA d j) s = fb at *
  obtain ⟨m, hm⟩ : ∃ m, (entA d j).length = m := ⟨_, rfl⟩
  rw [hm] at HPL HWE HC4 HEN
  have c4 := HC4.out
  clear hm h6
  go_enter Tryz.func64, Tryz.ntmps64
  go_wp2_with fail
  refine HPL.out.mono ?_
  rintro e w1 ⟨rfl, hb1⟩
  have HB1 : Hid (Below w.heap.size w w1) := hb1
  clear c4
  have c4 := cell_later hb1 HC4.out
  clear hb1
  go_wp2_with fail
  refine (HWE.out _ HB1.out).mono ?_
  rintro e w2 ⟨v, rfl, hw2, hb2⟩
  obtain ⟨av, cv, rfl⟩ := hw2.shape
  have HB2 : Hid (Below w.heap.size w w2) := HB1.out.trans (hb2.mono HB1.out.size)
  clear c4
  have c4 := cell_later HB2.out HC4.out
  have c4f := (HB2.out.frozen (p := ⟨bI, j * 5 + 4, none⟩) hbI).trans HC4F.out
  have hs1 := HB1.out.size
  have HF3 : Hid (FsS (w2.setCell ⟨bI, j * 5 + 4, none⟩ (.slice av nes.length cv)) bI n cI bD 20 cD dn (fun c => F c ∨ w.heap.size ≤ c)) := by
    unfold Hid
    have hbd : FsS w2 bI n cI bD 20 cD d (fun c => F c ∧ c < w.heap.size) := (HFS.out.boundF).later HB2.out
    have := (hbd.entS j hj HBK.out nes _ (hw2.own HEZ.out) (fun c hc => ⟨fun hh => by have := hh.2; have := hc.1; omega, hc.2⟩)).mono (F' := fun c => F c ∨ w.heap.size ≤ c) fun c hh => by
      rcases hh with hh | hh
      · exact Or.inl hh.1
      · exact Or.inr (by have := hh.1; omega)
    rw [← HDN.out]
    exact this
  have HC3 : Hid (Chg (fun c => c = bI) w (w2.setCell ⟨bI, j * 5 + 4, none⟩ (.slice av nes.length cv))) := (Chg.of_below HB2.out).trans (Chg.set (F := fun c => c = bI) (Chg.refl _ w2) rfl _ _)
  clear hb2 hw2 hs1
  go_wp2
  first
    | exact bodyPost_ret (results_none rfl _ _ _) rfl ⟨rfl, HF3.out, HC3.out⟩
    | (go_end0; exact ⟨rfl, HF3.out, HC3.out⟩)
end Go.Proofs.YtjabimfinanjoabGreat

namespace Go.Proofs.YtjabimfinanjoabGreat
open Go.RowKit
set_option maxRecDepth 100000

/-- An entry gone, and what it led to, if nothing else does; DropName. -/
def delD (d : FD) (j k : Nat) : FD := if kindAt d.1 ((entA d j)[k]?.getD en0).2.toNat = 1 then unlD (entD d j (delE (entA d j) k)) ((entA d j)[k]?.getD en0).2.toNat else entD d j (delE (entA d j) k)
def delR (d : FD) (x : Int) (s : ByteArray) : Int × FD := if (lookR d x s).1 = 0 then (0, delD d x.toNat (idxE (entA d x.toNat) s)) else noFs (lookR d x s).1
theorem lookR_in {d : FD} {x : Int} {s : ByteArray} (h : (lookR d x s).1 = 0) : dirN d x s = 0 ∧ idxE (entA d x.toNat) s < (entA d x.toNat).length ∧ (lookR d x s).2 = ((entA d x.toNat)[idxE (entA d x.toNat) s]?.getD en0).2 := by
  unfold lookR at h ⊢
  by_cases hd : dirN d x s = 0
  · rw [if_pos hd] at h ⊢
    by_cases hi : idxE (entA d x.toNat) s < (entA d x.toNat).length
    · rw [if_pos hi]; exact ⟨hd, hi, rfl⟩
    · rw [if_neg hi] at h; exact absurd h (by decide)
  · rw [if_neg hd] at h; exact absurd h hd
/-- What stands where an entry of a directory is gone. -/
structure DelS (d : FD) (j k z : Nat) (dn : FD) : Prop where
  ins : insF dn.1 = 0
  len : dn.1.length = d.1.length
  dat : dn.2 = d.2
  size : sizeFs dn ≤ 1048576
  kind : (dn.1[z]?.getD id0).1 = (d.1[z]?.getD id0).1
  lnk : (dn.1[z]?.getD id0).2.1 = (d.1[z]?.getD id0).2.1
  file : (d.1[z]?.getD id0).1 = 1 → 1 ≤ (dn.1[z]?.getD id0).2.1 ∧ (dn.1[z]?.getD id0).2.1 ≤ 60
  blk : ∀ i : Nat, i < (blkA dn z).length → 0 ≤ (blkA dn z)[i]?.getD 0 ∧ (blkA dn z)[i]?.getD 0 < 20
  four : (blkA dn z).length ≤ 4
theorem delS {d : FD} {j k z : Nat} (h : DirS d j) (hk : k < (entA d j).length) (hz : z < d.1.length) : DelS d j k z (entD d j (delE (entA d j) k)) := by
  have hins : insF (entD d j (delE (entA d j) k)).1 = 0 := insF_set h.ins j _ (inoF_dir h.kind (ins_ino h.ins j h.lt) ((dirF_E (ino_dir (ins_ino h.ins j h.lt) h.kind)).del hk))
  have hlen : (entD d j (delE (entA d j) k)).1.length = d.1.length := by unfold entD; exact List.length_set
  have hek := entD_kind d j z (delE (entA d j) k) h.lt
  have hzi := ins_ino hins z (by omega)
  refine ⟨hins, hlen, rfl, ?_, hek.1, hek.2, fun e => ino_lnk hzi (by rw [hek.1]; exact e), fun i hi => ins_blk hins z i (by omega) hi, ?_⟩
  · have := fs_small (d := entD d j (delE (entA d j) k)) hins h.dat h.eight
    omega
  · have := ino_size hzi
    unfold blkA
    omega

set_option maxHeartbeats 12800000 in
theorem implDelU (w : World) (a1 : Option Addr) (n1 c1 : Nat) (a2 : Option Addr) (n2 c2 : Nat) (d : FD) (x : Int) (s : ByteArray) (h : FsR w (.slice a1 n1 c1) (.slice a2 n2 c2) d) (hs : sizeFs d ≤ 1048576) (hl : s.size ≤ 1048576) :
    Calls Tryz.prog 30 #[.agg #[.slice a1 n1 c1, .slice a2 n2 c2], .int .i64 x, .string s] w (AnsFR w (delR d x s)) := by
  have HB0 : Hid (Below w.heap.size w ((w.alloc (.cells #[.slice a1 n1 c1, .slice a2 n2 c2] 31)).alloc (.cells #[.int .i64 0, .slice none 0 0, .slice none 0 0] 33))) := later2 _ _ _
  have HBX : Hid (Bx ((w.alloc (.cells #[.slice a1 n1 c1, .slice a2 n2 c2] 31)).alloc (.cells #[.int .i64 0, .slice none 0 0, .slice none 0 0] 33)) w.heap.size [.slice a1 n1 c1, .slice a2 n2 c2]) := (Bx.new w [.slice a1 n1 c1, .slice a2 n2 c2] _).later (later1 _ _)
  have HRS : Hid (OwnRow ((w.alloc (.cells #[.slice a1 n1 c1, .slice a2 n2 c2] 31)).alloc (.cells #[.int .i64 0, .slice none 0 0, .slice none 0 0] 33)) (w.heap.size + 1) 3 (cel zero3)) := by
    have p2 := row3 (w.alloc (.cells #[.slice a1 n1 c1, .slice a2 n2 c2] 31)) 33
    rw [World.size_alloc] at p2
    exact p2
  have HLK : Hid (∀ W, Below w.heap.size w W → Calls Tryz.prog 69 #[.agg #[.slice a1 n1 c1, .slice a2 n2 c2], .int .i64 x, .string s] W fun e w' => e = .returned (.agg #[.int .i64 (lookR d x s).1, .int .i64 (lookR d x s).2]) ∧ Below W.heap.size W w') := fun W hW => implLookU W _ _ _ _ _ _ d x s (h.later hW) hs hl
  have HRR : Hid (delR d x s = if (lookR d x s).1 = 0 then (0, delD d x.toNat (idxE (entA d x.toNat) s)) else noFs (lookR d x s).1) := rfl
  rw [HRR.out]
  clear HRR
  by_cases hq : (lookR d x s).1 = 0
  rotate_left
  · rw [if_neg hq]
    have hb : ((lookR d x s).1 != 0) = true := by simpa using hq
    clear hq h hs
    generalize (lookR d x s).1 = r at *
    generalize (lookR d x s).2 = r2 at *
    go_enter Tryz.func30, Tryz.ntmps30
    go_wp2_with fail
    generalize ((w.alloc (.cells #[.slice a1 n1 c1, .slice a2 n2 c2] 31)).alloc (.cells #[.int .i64 0, .slice none 0 0, .slice none 0 0] 33)) = W0 at *
    refine (HLK.out _ HB0.out).mono ?_
    rintro e w1 ⟨rfl, hb1⟩
    have HB1 : Hid (Below w.heap.size w w1) := HB0.out.trans (hb1.mono HB0.out.size)
    have hrr := HRS.out.later hb1
    have t0 : w1.cell? ⟨w.heap.size + 1, 0, none⟩ = some (.int .i64 0) := hrr.cell (i := 0) (by omega)
    have t1 : w1.cell? ⟨w.heap.size + 1, 1, none⟩ = some (.slice none 0 0) := hrr.cell (i := 1) (by omega)
    have t2 : w1.cell? ⟨w.heap.size + 1, 2, none⟩ = some (.slice none 0 0) := hrr.cell (i := 2) (by omega)
    have s0 := hrr.frozen 0
    have s1 := hrr.frozen 1
    have s2 := hrr.frozen 2
    have hlw : w.heap.size + 1 < w1.heap.size := hrr.lt
    clear hb1 hrr
    go_wp2
    exact bodyPost_ret (v := .agg #[.int .i64 r, .slice none 0 0, .slice none 0 0]) (by simp [results, Tryz.results30, go_sem, t0, t1, t2, hlw]) rfl ((AnsFR.none' r HB1.out (by omega) _ _ _).later (later1 _ _))
  · rw [if_pos hq]
    obtain ⟨hdn, hidx, hval⟩ := lookR_in hq
    have hq0 : dirQ d x = 0 := dirN_in hdn
    have hds := dirS hq0
    obtain ⟨-, hp, -⟩ := dirQ_in hq0
    obtain ⟨j, rfl⟩ : ∃ j : Nat, x = (j : Int) := ⟨x.toNat, by omega⟩
    rw [Int.toNat_natCast] at hds hidx hval ⊢
    have hld : 0 ≤ ((entA d j)[idxE (entA d j) s]?.getD en0).2 ∧ ((entA d j)[idxE (entA d j) s]?.getD en0).2 < (d.1.length : Int) := hds.leads j hds.lt _ hidx
    obtain ⟨z, hzz⟩ : ∃ z : Nat, ((entA d j)[idxE (entA d j) s]?.getD en0).2 = (z : Int) := ⟨((entA d j)[idxE (entA d j) s]?.getD en0).2.toNat, by omega⟩
    have hzn : z < d.1.length := by omega
    rw [hzz] at hval
    rw [hq, hval] at HLK
    have hplc := idx_plc hds.rises hidx
    have hdel := delS (z := z) hds hidx hzn
    have HDEL : Hid (DelS d j (idxE (entA d j) s) z (entD d j (delE (entA d j) (idxE (entA d j) s)))) := hdel
    have HDD : Hid (delD d j (idxE (entA d j) s) = if (d.1[z]?.getD id0).1 = 1 then unlD (entD d j (delE (entA d j) (idxE (entA d j) s))) z else entD d j (delE (entA d j) (idxE (entA d j) s))) := by
      unfold Hid delD
      rw [hzz, Int.toNat_natCast]; rfl
    rw [HDD.out]
    have HCF : Hid (∀ W, Below w.heap.size w W → Calls Tryz.prog 42 #[.agg #[.slice a1 n1 c1, .slice a2 n2 c2]] W (AnsFs W d)) := fun W hW => copyOfFs_any W _ _ _ _ _ _ d (h.later hW) hs (by have := hds.dat; omega)
    have HBK : Hid ((d.1[j]?.getD id0).2.2.2.1 = []) := dir_blk (ins_ino hds.ins j hds.lt) hds.kind
    have HRI : Hid (Rises (entA d j) ∧ (entA d j).length ≤ 6 ∧ idxE (entA d j) s < (entA d j).length) := ⟨hds.rises, hds.six, hidx⟩
    have HSD : Hid (entD d j (delE (entA d j) (idxE (entA d j) s)) = entD d j (delE (entA d j) (idxE (entA d j) s))) := rfl
    have HDAT : Hid (d.2.length = 20) := hds.dat
    have hjl := hds.lt
    have hten := hds.ten
    have hsix := hds.six
    obtain ⟨n, hn⟩ : ∃ n, d.1.length = n := ⟨_, rfl⟩
    have HN : Hid (d.1.length = n) := hn
    rw [hn] at hjl hten hzn
    clear h hs hq hdn hq0 hds hp hld hzz hval hplc hdel HDD hn
    obtain ⟨dn, hdn⟩ : ∃ dn, entD d j (delE (entA d j) (idxE (entA d j) s)) = dn := ⟨_, rfl⟩
    have HDN : Hid (entD d j (delE (entA d j) (idxE (entA d j) s)) = dn) := hdn
    rw [hdn] at HDEL ⊢
    clear hdn HSD hidx hsix
    generalize hkd : (d.1[z]?.getD id0).1 = kd at *
    have HKD : Hid ((d.1[z]?.getD id0).1 = kd) := hkd
    clear hkd
    generalize hRES : (if kd = 1 then unlD dn z else dn) = RES
    have HRES : Hid ((if kd = 1 then unlD dn z else dn) = RES) := hRES
    clear hRES
    have hjI : (j : Int) < (n : Int) := by omega
    have hzI : (z : Int) < (n : Int) := by omega
    go_enter Tryz.func30, Tryz.ntmps30
    go_wp2_with fail
    generalize ((w.alloc (.cells #[.slice a1 n1 c1, .slice a2 n2 c2] 31)).alloc (.cells #[.int .i64 0, .slice none 0 0, .slice none 0 0] 33)) = W0 at *
    refine (HLK.out _ HB0.out).mono ?_
    rintro e w1 ⟨rfl, hb1⟩
    have HB1 : Hid (Below w.heap.size w (w1.alloc (.cells #[.int .i64 0, .int .i64 (z : Int)] 94))) := (HB0.out.trans (hb1.mono HB0.out.size)).trans ((later1 _ _).mono (HB0.out.trans (hb1.mono HB0.out.size)).size)
    have HR1 : Hid (OwnRow (w1.alloc (.cells #[.int .i64 0, .int .i64 (z : Int)] 94)) (w.heap.size + 1) 3 (cel zero3)) := (HRS.out.later hb1).later (later1 _ _)
    have HX1 : Hid (Bx (w1.alloc (.cells #[.int .i64 0, .int .i64 (z : Int)] 94)) w.heap.size [.slice a1 n1 c1, .slice a2 n2 c2]) := (HBX.out.later hb1).later (later1 _ _)
    have HI1 : Hid (Bx (w1.alloc (.cells #[.int .i64 0, .int .i64 (z : Int)] 94)) w1.heap.size [.int .i64 0, .int .i64 (z : Int)]) := Bx.new w1 [.int .i64 0, .int .i64 (z : Int)] _
    have hsw : w.heap.size + 1 < w1.heap.size := (HRS.out.later hb1).lt
    have hsw1 : (w1.alloc (.cells #[.int .i64 0, .int .i64 (z : Int)] 94)).heap.size = w1.heap.size + 1 := by simp
    have x0 := HX1.out 0 _ rfl
    have x1 := HX1.out 1 _ rfl
    clear hb1
    go_wp2_with fail
    refine (HCF.out _ HB1.out).mono ?_
    rintro e w2 ⟨q1, m1, cI, q2, m2, cD, rfl, hb2, hf2⟩
    generalize (w1.alloc (.cells #[.int .i64 0, .int .i64 (z : Int)] 94)) = W1 at *
    obtain ⟨bI, e1, bD, e2, eI, eD, hfs⟩ := FsS.of hf2 (by have := HN.out; omega) (by have := HDAT.out; omega)
    simp only [Value.slice.injEq] at eI eD
    obtain ⟨rfl, rfl, rfl⟩ := eI
    obtain ⟨rfl, rfl, rfl⟩ := eD
    rw [HDAT.out, HN.out] at hfs
    rw [HDAT.out, HN.out]
    have HL3 : Hid (Below W1.heap.size W1 (w2.alloc (.cells #[.slice (some ⟨bI, 0, none⟩) n cI, .slice (some ⟨bD, 0, none⟩) 20 cD] 31))) := hb2.trans ((later1 _ _).mono hb2.size)
    have HF3 : Hid (FsS (w2.alloc (.cells #[.slice (some ⟨bI, 0, none⟩) n cI, .slice (some ⟨bD, 0, none⟩) 20 cD] 31)) bI n cI bD 20 cD d (fun c => W1.heap.size ≤ c ∧ c < w2.heap.size)) := hfs.later (later1 _ _)
    have HO3 : Hid (OwnRow (w2.alloc (.cells #[.slice (some ⟨bI, 0, none⟩) n cI, .slice (some ⟨bD, 0, none⟩) 20 cD] 31)) w2.heap.size 2 (cel [.slice (some ⟨bI, 0, none⟩) n cI, .slice (some ⟨bD, 0, none⟩) 20 cD])) := newCel w2 [.slice (some ⟨bI, 0, none⟩) n cI, .slice (some ⟨bD, 0, none⟩) 20 cD] 31
    have HS3 : Hid (W1.heap.size ≤ w2.heap.size ∧ (w2.alloc (.cells #[.slice (some ⟨bI, 0, none⟩) n cI, .slice (some ⟨bD, 0, none⟩) 20 cD] 31)).heap.size = w2.heap.size + 1) := ⟨hb2.size, by simp⟩
    clear hb2 hf2 hfs x0 x1 HCF HLK
    have hne := HF3.out.ne
    have HST : Hid (∀ W4, Below (w2.alloc (.cells #[.slice (some ⟨bI, 0, none⟩) n cI, .slice (some ⟨bD, 0, none⟩) 20 cD] 31)).heap.size (w2.alloc (.cells #[.slice (some ⟨bI, 0, none⟩) n cI, .slice (some ⟨bD, 0, none⟩) 20 cD] 31)) W4 → Calls Tryz.prog 70 #[.pointer (some ⟨bI, j * 5, none⟩), .string s] W4 fun e w' => e = .returned (.tuple #[]) ∧ FsS w' bI n cI bD 20 cD dn (fun c => (W1.heap.size ≤ c ∧ c < w2.heap.size) ∨ W4.heap.size ≤ c) ∧ Chg (fun c => c = bI) W4 w') := fun W4 h4 => by
      have := strike_any W4 bI n cI bD cD d _ j s (HF3.out.later h4) hjl HRI.out.1 HRI.out.2.1 HRI.out.2.2 HBK.out
      rw [HDN.out] at this
      exact this
    have o0 : (w2.alloc (.cells #[.slice (some ⟨bI, 0, none⟩) n cI, .slice (some ⟨bD, 0, none⟩) 20 cD] 31)).cell? ⟨w2.heap.size, 0, none⟩ = some (.slice (some ⟨bI, 0, none⟩) n cI) := HO3.out.cell (i := 0) (by omega)
    go_wp2_with fail
    generalize (w2.alloc (.cells #[.slice (some ⟨bI, 0, none⟩) n cI, .slice (some ⟨bD, 0, none⟩) 20 cD] 31)) = W3 at *
    clear o0
    refine (HST.out _ (Below.refl _ _)).mono ?_
    rintro e w5 ⟨rfl, hf5, hC6⟩
    have hS3 := HS3.out
    have HF6 : Hid (FsS w5 bI n cI bD 20 cD dn (fun c => W1.heap.size ≤ c ∧ c ≠ w2.heap.size)) := hf5.mono fun c hh => by
      rcases hh with hh | hh
      · exact ⟨hh.1, by omega⟩
      · exact ⟨by omega, by omega⟩
    have hoI : w2.heap.size ≠ bI := fun e => by have := hne.2.1.1.2; omega
    have hB6 : Below W1.heap.size W1 w5 := HL3.out.trans (hC6.below HL3.out.size (fun b e => by subst e; exact hne.2.1.1.1))
    have HB6 : Hid (Below W1.heap.size W1 w5) := hB6
    have HO6 : Hid (OwnRow w5 w2.heap.size 2 (cel [.slice (some ⟨bI, 0, none⟩) n cI, .slice (some ⟨bD, 0, none⟩) 20 cD])) := HO3.out.block (hC6.block _ HO3.out.lt hoI)
    have p0 : w5.cell? ⟨w2.heap.size, 0, none⟩ = some (.slice (some ⟨bI, 0, none⟩) n cI) := HO6.out.cell (i := 0) (by omega)
    have p1 : w5.cell? ⟨w2.heap.size, 1, none⟩ = some (.slice (some ⟨bD, 0, none⟩) 20 cD) := HO6.out.cell (i := 1) (by omega)
    have y1 := (HI1.out.later hB6) 1 _ rfl
    obtain ⟨_, _, _, _, z0, -, -, -, -, -, -, -⟩ := HF6.out.ino z hzn
    rw [HDEL.out.kind, HKD.out] at z0
    have hS6 : w2.heap.size + 1 ≤ w5.heap.size := by
      have := hC6.size
      omega
    clear hf5 hC6 hB6 HF3 HO3 HST HL3 hS3
    by_cases hk1 : kd = 1
    · have hkb1 : (kd == 1) = true := by simpa using hk1
      have HR : Hid (RES = unlD dn z) := by unfold Hid; rw [← HRES.out, if_pos hk1]
      have hdl := HDEL.out
      have hfl := hdl.file (by rw [HKD.out]; exact hk1)
      have HUN : Hid (Calls Tryz.prog 71 #[.agg #[.slice (some ⟨bI, 0, none⟩) n cI, .slice (some ⟨bD, 0, none⟩) 20 cD], .int .i64 (z : Int)] w5 (AnsUn w5 n (unlD dn z))) := by
        have := unlinked_any w5 _ n cI _ 20 cD dn z HF6.out.fs.reads hdl.size (by rw [hdl.dat]; exact HDAT.out) (by rw [hdl.len, HN.out]; exact hzn) (by rw [hdl.len, HN.out]; exact hten) hdl.ins hfl.1 hfl.2 hdl.blk hdl.four
        rw [hdl.len, HN.out] at this
        exact this
      clear hdl hfl hk1
      go_wp2_with fail
      refine HUN.out.mono ?_
      rintro e w7 ⟨bI2, cI2, bD2, cD2, rfl, hb7, hf7⟩
      have HO7 : Hid (OwnRow w7 w2.heap.size 2 (cel [.slice (some ⟨bI, 0, none⟩) n cI, .slice (some ⟨bD, 0, none⟩) 20 cD])) := HO6.out.later hb7
      have HB7 : Hid (Below W1.heap.size W1 w7) := HB6.out.trans (hb7.mono HB6.out.size)
      have hC8 : Chg (fun c => c = w2.heap.size) w7 ((w7.setCell ⟨w2.heap.size, 0, none⟩ (.slice (some ⟨bI2, 0, none⟩) n cI2)).setCell ⟨w2.heap.size, 1, none⟩ (.slice (some ⟨bD2, 0, none⟩) 20 cD2)) := Chg.set (F := fun c => c = w2.heap.size) (Chg.set (F := fun c => c = w2.heap.size) (Chg.refl _ w7) rfl 0 _) rfl 1 _
      have HF8 : Hid (FsS ((w7.setCell ⟨w2.heap.size, 0, none⟩ (.slice (some ⟨bI2, 0, none⟩) n cI2)).setCell ⟨w2.heap.size, 1, none⟩ (.slice (some ⟨bD2, 0, none⟩) 20 cD2)) bI2 n cI2 bD2 20 cD2 (unlD dn z) (fun c => w5.heap.size ≤ c)) := hf7.chg hC8 fun b hb e => by omega
      have HB8 : Hid (Below W1.heap.size W1 ((w7.setCell ⟨w2.heap.size, 0, none⟩ (.slice (some ⟨bI2, 0, none⟩) n cI2)).setCell ⟨w2.heap.size, 1, none⟩ (.slice (some ⟨bD2, 0, none⟩) 20 cD2))) := (HB7.out.setCell (by show W1.heap.size ≤ w2.heap.size; exact HS3.out.1) _).setCell (by show W1.heap.size ≤ w2.heap.size; exact HS3.out.1) _
      have u0 : w7.cell? ⟨w2.heap.size, 0, none⟩ = some (.slice (some ⟨bI, 0, none⟩) n cI) := HO7.out.cell (i := 0) (by omega)
      have u1 : w7.cell? ⟨w2.heap.size, 1, none⟩ = some (.slice (some ⟨bD, 0, none⟩) 20 cD) := HO7.out.cell (i := 1) (by omega)
      have uf0 := HO7.out.frozen 0
      have uf1 := HO7.out.frozen 1
      have hrr := HR1.out.later HB8.out
      have t0 : ((w7.setCell ⟨w2.heap.size, 0, none⟩ (.slice (some ⟨bI2, 0, none⟩) n cI2)).setCell ⟨w2.heap.size, 1, none⟩ (.slice (some ⟨bD2, 0, none⟩) 20 cD2)).cell? ⟨w.heap.size + 1, 0, none⟩ = some (.int .i64 0) := hrr.cell (i := 0) (by omega)
      have t1 : ((w7.setCell ⟨w2.heap.size, 0, none⟩ (.slice (some ⟨bI2, 0, none⟩) n cI2)).setCell ⟨w2.heap.size, 1, none⟩ (.slice (some ⟨bD2, 0, none⟩) 20 cD2)).cell? ⟨w.heap.size + 1, 1, none⟩ = some (.slice none 0 0) := hrr.cell (i := 1) (by omega)
      have t2 : ((w7.setCell ⟨w2.heap.size, 0, none⟩ (.slice (some ⟨bI2, 0, none⟩) n cI2)).setCell ⟨w2.heap.size, 1, none⟩ (.slice (some ⟨bD2, 0, none⟩) 20 cD2)).cell? ⟨w.heap.size + 1, 2, none⟩ = some (.slice none 0 0) := hrr.cell (i := 2) (by omega)
      have s0 := hrr.frozen 0
      have s1 := hrr.frozen 1
      have s2 := hrr.frozen 2
      clear hrr hC8 hf7 hb7 z0 y1 p0 p1
      have hw1 : w1.heap.size + 1 = W1.heap.size := by omega
      go_wp2
      exact bodyPost_ret (v := .agg #[.int .i64 0, .slice (some ⟨bI2, 0, none⟩) n cI2, .slice (some ⟨bD2, 0, none⟩) 20 cD2]) (by simp [results, Tryz.results30, go_sem, t0, t1, t2]) rfl (by rw [HR.out]; exact AnsFR.box (HB1.out.trans (HB8.out.mono HB1.out.size)) (by omega) HF8.out (fun c hc => ⟨by omega, by omega⟩) _ _ _)
    · have hkb1 : (kd == 1) = false := by simpa using hk1
      have HR : Hid (RES = dn) := by unfold Hid; rw [← HRES.out, if_neg hk1]
      have hrr := HR1.out.later HB6.out
      have t0 : w5.cell? ⟨w.heap.size + 1, 0, none⟩ = some (.int .i64 0) := hrr.cell (i := 0) (by omega)
      have t1 : w5.cell? ⟨w.heap.size + 1, 1, none⟩ = some (.slice none 0 0) := hrr.cell (i := 1) (by omega)
      have t2 : w5.cell? ⟨w.heap.size + 1, 2, none⟩ = some (.slice none 0 0) := hrr.cell (i := 2) (by omega)
      have s0 := hrr.frozen 0
      have s1 := hrr.frozen 1
      have s2 := hrr.frozen 2
      clear hrr hk1
      go_wp2
      exact bodyPost_ret (v := .agg #[.int .i64 0, .slice (some ⟨bI, 0, none⟩) n cI, .slice (some ⟨bD, 0, none⟩) 20 cD]) (by simp [results, Tryz.results30, go_sem, t0, t1, t2]) rfl (by rw [HR.out]; exact AnsFR.box (HB1.out.trans (HB6.out.mono HB1.out.size)) (by omega) HF6.out (fun c hc => ⟨by omega, by omega⟩) _ _ _)
end Go.Proofs.YtjabimfinanjoabGreat

namespace Go.Proofs.YtjabimfinanjoabGreat
open Go.RowKit
set_option maxRecDepth 100000

theorem ins_spans {ds : List ID} (h1 : insF ds = 0) (i : Nat) : spanIno (ds[i]?.getD id0) ≤ 16 := by
  by_cases hi : i < ds.length
  · have hz := ino_size (ins_ino h1 i hi)
    have h6 := ino_six (ins_ino h1 i hi)
    unfold spanIno
    omega
  · rw [List.getElem?_eq_none (by omega)]
    simp [spanIno, id0]
theorem insE_len (es : List EN) (k : Nat) (e : EN) : (insE es k e).length = es.length + 1 := by
  unfold insE
  rw [List.length_append, List.length_append, List.length_take, List.length_drop]
  simp
  omega
theorem addR_span (d : FD) (x : Int) (s : ByteArray) (y : Int) : spanFs (addR d x s y).2 ≤ 1000 := by
  unfold addR
  by_cases hc : dirN d x s = 0
  · rw [if_pos hc]
    have hs := dirS (dirN_in hc)
    generalize x.toNat = j at *
    unfold addQ
    by_cases h1 : idxE (entA d j) s < (entA d j).length
    · rw [if_pos h1, noFs_span]; omega
    · rw [if_neg h1]
      by_cases h2 : 0 ≤ y ∧ y < (d.1.length : Int) ∧ ¬ kindAt d.1 y.toNat = 0
      · rw [if_pos h2]
        by_cases h3 : (entA d j).length = 6 ∨ (kindAt d.1 y.toNat = 1 ∧ 60 ≤ (d.1[y.toNat]?.getD id0).2.1)
        · rw [if_pos h3, noFs_span]; omega
        · rw [if_neg h3]
          show spanFs (addD d j s y.toNat) ≤ 1000
          have hl := insE_len (entA d j) (plcE (entA d j) s) (s, ((y.toNat : Nat) : Int))
          have h6 := hs.six
          have e1 := set_span (ins_spans hs.ins) j ((d.1[j]?.getD id0).1, (d.1[j]?.getD id0).2.1, (d.1[j]?.getD id0).2.2.1, [], insE (entA d j) (plcE (entA d j) s) (s, ((y.toNat : Nat) : Int))) (by unfold spanIno; simp only [List.length_nil]; rw [hl]; omega)
          have e2 := ylens_eight hs.eight
          have hd := hs.dat
          have ht := hs.ten
          unfold addD
          by_cases h4 : kindAt d.1 y.toNat = 1
          · rw [if_pos h4]
            unfold lnkD entD spanFs
            dsimp only
            have e3 := spanInos_each (set_span e1 y.toNat (((d.1.set j ((d.1[j]?.getD id0).1, (d.1[j]?.getD id0).2.1, (d.1[j]?.getD id0).2.2.1, [], insE (entA d j) (plcE (entA d j) s) (s, ((y.toNat : Nat) : Int))))[y.toNat]?.getD id0).1, (d.1[y.toNat]?.getD id0).2.1 + 1, ((d.1.set j ((d.1[j]?.getD id0).1, (d.1[j]?.getD id0).2.1, (d.1[j]?.getD id0).2.2.1, [], insE (entA d j) (plcE (entA d j) s) (s, ((y.toNat : Nat) : Int))))[y.toNat]?.getD id0).2.2) (by have := e1 y.toNat; unfold spanIno at this ⊢; exact this))
            rw [List.length_set, List.length_set] at e3
            omega
          · rw [if_neg h4]
            unfold entD spanFs
            dsimp only
            have e3 := spanInos_each e1
            rw [List.length_set] at e3
            omega
      · rw [if_neg h2, noFs_span]; omega
  · rw [if_neg hc, noFs_span]; omega
section
variable {P : Program} {w : World}
/-- append within a region that draws its order: what it comes to is told by a property. -/
theorem step_append_ex {ops : Array Oper} {o : Oper} {a : Act} {K : Act → World → Prop} {Q : Exit → Act → World → Prop} {E : Prop} (hgd : o.guard = none) (s x : Operand) (t : TypeId)
    (ho : o.op = .call { callee := .builtin .append, args := #[s, x], argTypes := #[t, t] }) (v y : Value) (hs : a.eval s = v) (hx : a.eval x = y) (R : Value → World → Prop)
    (hr : ∃ v' w', (Builtin.append_ #[t, t] o.type #[v, y]).run P w = .ok v' w' ∧ R v' w') (h : ∀ v' w', R v' w' → K (a.put o.dst v') w') : if Region.wanted o (yielded ops a.tmps) = true then Oper.wp P o a w K Q else E := by
  obtain ⟨v', w', h1, h2⟩ := hr
  exact step_append_run hgd s x t ho v y hs hx v' w' h1 (h v' w' h2)
end
end Go.Proofs.YtjabimfinanjoabGreat

namespace Go.Proofs.YtjabimfinanjoabGreat
open Go.RowKit
set_option maxRecDepth 100000

theorem AtN.keepB {w X : World} {b n : Nat} {es : List EN} (h : AtN w (some ⟨b, 0, none⟩) n es) (e : X.heap[b]? = w.heap[b]?) : AtN X (some ⟨b, 0, none⟩) n es := fun k hk => by
  obtain ⟨b', off, e1, c0, c1⟩ := h k hk
  simp only [Option.some.injEq, Addr.mk.injEq, and_true] at e1
  obtain ⟨rfl, rfl⟩ := e1
  exact ⟨b, 0, rfl, (World.cell?_of_block (w := w) e).trans c0, (World.cell?_of_block (w := w) e).trans c1⟩
/-- Entries behind those that are there; all other blocks are as they were. -/
theorem WdE.pushO (w : World) (ty : TypeId) (n₀ : Nat) (v : Value) (es fs : List EN) (h : WdE w n₀ v es) (hn₀ : n₀ ≤ w.heap.size) (a : Option Addr) (m c : Nat) (hm : fs.length = m) (hc : AtN w a m fs) (hl : es.length + m ≤ 1048576) :
    ∃ v' X, (Builtin.append_ #[84, 84] ty #[v, .slice a m c]).run Tryz.prog w = .ok v' X ∧ (WdE X n₀ v' (es ++ fs) ∧ Below n₀ w X ∧ ∀ b, b < w.heap.size → ¬ v.ownBlock = some b → X.heap[b]? = w.heap[b]?) := by
  subst hm
  obtain ⟨i, hi, h1, h2, h3⟩ := Tryz.infoEnt'
  by_cases h0 : fs.length = 0
  · have hfs : fs = [] := List.eq_nil_of_length_eq_zero h0
    subst hfs
    obtain ⟨av, cv, rfl⟩ := h.shape
    refine ⟨_, w, ?_, by rw [List.append_nil]; exact h, Below.refl _ _, fun _ _ _ => rfl⟩
    have hcv : es.length ≤ cv := by
      obtain ⟨_, h | ⟨g, cap, cur, e, hb, hh, hnc, _⟩⟩ := h
      · have := h.2; omega
      · simp only [Value.slice.injEq] at e; omega
    cases a <;> cases av <;> simp [Builtin.append_, run_underlying Tryz.underlying84, sizeOf, typeInfo, hi, Builtin.lenOf, Builtin.firstCells, storeCells, loadCells, loadCellsFrom, hcv]
  · obtain ⟨b, off, rfl, _⟩ := hc 0 (by omega)
    obtain ⟨v', X, hr, ho, hg, _⟩ := run_append_own_wide (P := Tryz.prog) w n₀ 84 ty 127 i _ 2 24 Tryz.underlying84 hi h1 h2 h3 rfl (by decide) v es.length (enCells es) h ⟨b, off, none⟩ fs.length c (enCells fs) (enCells_length fs) (fun j u hu => hc.cells rfl j u hu) (enCells_one fs) (by unfold maxLen; omega) (by omega) hn₀
    refine ⟨v', X, hr, ?_, below_grown hg hn₀ (fun k hk => ?_), fun b hb hne => hg.block b hb (fun e => hne e.symm)⟩
    · unfold WdE
      rw [List.length_append, enCells_append]
      exact ho
    · rcases h.2 with ⟨rfl, _⟩ | ⟨g, cap, cur, rfl, hb, _⟩
      · simp [Value.ownBlock] at hk
      · simp [Value.ownBlock] at hk; omega

set_option maxHeartbeats 6400000 in
theorem l8Put_any (w : World) (aE : Option Addr) (n cE : Nat) (es : List EN) (s : ByteArray) (y : Int) (hn : es.length = n) (hc : n ≤ cE) (h6 : n ≤ 6) (hat : AtN w aE n es) :
    Calls Tryz.prog 100 #[.slice aE n cE, .agg #[.string s, .int .i64 y]] w fun e w' => ∃ v, e = .returned v ∧ WdE w' w.heap.size v (insE es (plcE es s) (s, y)) ∧ Below w.heap.size w w' := by
  have HAT : Hid (AtN w aE n es) := hat
  have HN : Hid (es.length = n) := hn
  have bx0 : (w.alloc (.cells #[.string s, .int .i64 y] 127)).cell? ⟨w.heap.size, 0, none⟩ = some (.string s) := by rw [new_cell]; rfl
  have bx1 : (w.alloc (.cells #[.string s, .int .i64 y] 127)).cell? ⟨w.heap.size, 1, none⟩ = some (.int .i64 y) := by rw [new_cell]; rfl
  clear hat hn
  go_enter Tryz.func100, Tryz.ntmps100
  go_wp2_with fail
  go_loopw [5] (fun i wr => ∃ k q : Nat, k ≤ n ∧ i = .int .i64 k ∧ wr = (w.alloc (.cells #[.string s, .int .i64 y] 127)).drewN q ∧ ∀ j, j < k → geE s (es[j]?.getD en0) = false) (fun i _ => n - (intOf i).toNat)
  case atStart => exact ⟨0, 0, Nat.zero_le _, rfl, rfl, fun j hj => by omega⟩
  case round =>
    obtain ⟨k, q, hk, rfl, rfl, hz⟩ := hrel
    have HZ : Hid (∀ j, j < k → geE s (es[j]?.getD en0) = false) := hz
    clear hz
    by_cases hlt : k < n
    · obtain ⟨b, off, rfl, c0, _⟩ := HAT.out k hlt
      replace c0 := cell_later (later1 w (.cells #[.string s, .int .i64 y] 127)) c0
      have hd : decide ((k : Int) < (n : Int)) = true := by simpa using hlt
      cases hge : geE s (es[k]?.getD en0) with
      | false =>
        have HNX : Hid (∀ j, j < k + 1 → geE s (es[j]?.getD en0) = false) := fun j hj => by
          by_cases e : j = k
          · rw [e]; exact hge
          · exact HZ.out j (by omega)
        have hlt2 : Op.bytesLess (es[k]?.getD en0).1.toList s.toList = true := by unfold geE at hge; simpa using hge
        clear hge HZ
        generalize (es[k]?.getD en0).1 = x at *
        go_wp2_with fail
        go_quiet (fail)
        go_wp2
        go_roundw
        case rel => exact ⟨k + 1, _, by omega, by go_num, by first | rfl | rw [World.drewN_drewN], HNX.out⟩
        case measure => simp [intOf]; omega
      | true =>
        have HP : Hid (plcE es s = k) := findIdx_is (by rw [HN.out]; exact hlt) hge HZ.out
        have hlt2 : Op.bytesLess (es[k]?.getD en0).1.toList s.toList = false := by unfold geE at hge; simpa using hge
        clear hge HZ
        generalize (es[k]?.getD en0).1 = x at *
        go_wp2_with fail
        go_quiet (fail)
        go_wp2_with fail
        have hlt1 : (es.take k).length = k := by rw [List.length_take, HN.out]; omega
        have HL1 : Hid ((es.take k).length = k) := hlt1
        have HL2 : Hid ((es.take k ++ [(s, y)]).length = k + 1) := by unfold Hid; rw [List.length_append, hlt1]; rfl
        have HTK : Hid (∀ W, Below w.heap.size w W → AtN W (some ⟨b, off, none⟩) k (es.take k)) := fun W hW => ((HAT.out.take k hk).later hW)
        have HTL : Hid (∀ W, Below w.heap.size w W → AtN W (some ⟨b, off + k * 2, none⟩) (n - k) (es.drop k)) := fun W hW => (HAT.out.drop k).later hW
        have HDL : Hid ((es.drop k).length = n - k) := by unfold Hid; rw [List.length_drop, HN.out]
        have HWB : Hid (Below w.heap.size w (((w.alloc (.cells #[.string s, .int .i64 y] 127)).drewN q).drewN nq)) := below_drewN (below_drewN (later1 _ _) q) nq
        have HSB : Hid (w.heap.size ≤ ((((w.alloc (.cells #[.string s, .int .i64 y] 127)).drewN q).drewN nq)).heap.size) := HWB.out.size
        have bw0 : ((((w.alloc (.cells #[.string s, .int .i64 y] 127)).drewN q).drewN nq)).cell? ⟨w.heap.size, 0, none⟩ = some (.string s) := bx0
        have bw1 : ((((w.alloc (.cells #[.string s, .int .i64 y] 127)).drewN q).drewN nq)).cell? ⟨w.heap.size, 1, none⟩ = some (.int .i64 y) := bx1
        have hkc : k ≤ cE := by omega
        have hcne : ¬ cE = k := by omega
        have hkI : (k : Int) ≤ (n : Int) := by omega
        have HF1 : Hid True := trivial
        clear hlt1 bx0 bx1
        generalize (((w.alloc (.cells #[.string s, .int .i64 y] 127)).drewN q).drewN nq) = WB at *
        have hlw : w.heap.size < WB.heap.size := World.block_lt_of_cell? _ _ bw0
        have HA1 : Hid (WdE (WB.drew.alloc (.cells #[] 127)) WB.heap.size (.slice (some ⟨WB.heap.size, 0, none⟩) 0 0) []) := WdE.lit0 WB.drew WB.heap.size (Nat.le_refl _)
        have HA2 : Hid (WdE ((WB.drew.alloc (.cells #[.string s, .int .i64 y] 127)).alloc (.cells #[] 127)) WB.heap.size (.slice (some ⟨WB.heap.size + 1, 0, none⟩) 0 0) []) := by
          have := WdE.lit0 (WB.drew.alloc (.cells #[.string s, .int .i64 y] 127)) WB.heap.size (by simp)
          rw [show (WB.drew.alloc (.cells #[.string s, .int .i64 y] 127)).heap.size = WB.heap.size + 1 by simp] at this
          exact this
        have HC1 : Hid (AtN ((WB.drew.alloc (.cells #[] 127)).alloc (.cells #[.string s, .int .i64 y] 127)) (some ⟨WB.heap.size + 1, 0, none⟩) 1 [(s, y)]) := by
          have := lit1_E (WB.drew.alloc (.cells #[] 127)) s y
          rw [show (WB.drew.alloc (.cells #[] 127)).heap.size = WB.heap.size + 1 by simp] at this
          exact this
        have HC2 : Hid (AtN ((WB.drew.alloc (.cells #[.string s, .int .i64 y] 127)).alloc (.cells #[] 127)) (some ⟨WB.heap.size, 0, none⟩) 1 [(s, y)]) := (lit1_E WB.drew s y).later (later1 _ _)
        go_region_law (first
          | (have f1 := HF1.out; clear HF1 f1
             refine step_append_ex rfl _ _ 84 rfl _ _ rfl rfl _ (WdE.pushO _ 84 WB.heap.size _ [] (es.take k) (by first | exact HA1.out | exact HA1.out.later (later1 _ _) | exact HA2.out) (by first | (simp; done) | (simp; omega)) _ _ _ HL1.out (HTK.out _ (by first | exact HWB.out.drew.trans ((later1 _ _).mono HSB.out) | exact HWB.out.drew.trans ((later2 _ _ _).mono HSB.out))) (by simp; omega)) ?_
             rintro v1 X1 ⟨hw1, hb1, ho1⟩
             rw [List.nil_append] at hw1
             obtain ⟨p1, c1, e1⟩ := hw1.shape
             rw [HL1.out] at e1
             subst e1
             have HW1 : Hid (WdE X1 WB.heap.size (.slice p1 k c1) (es.take k)) := hw1
             have HX1 : Hid (Below WB.heap.size WB X1) := by first | exact (Below.refl _ _).drew.trans (((later1 WB.drew _).mono (Nat.le_refl _)).trans hb1) | exact (Below.refl _ _).drew.trans (((later2 WB.drew _ _).mono (Nat.le_refl _)).trans hb1)
             try (have HBB : Hid (AtN X1 (some ⟨WB.heap.size + 1, 0, none⟩) 1 [(s, y)]) := HC1.out.keepB (ho1 (WB.heap.size + 1) (by first | (simp; done) | (simp; omega)) (show ¬ (some WB.heap.size = some (WB.heap.size + 1)) by simp)))
             try (have HBB : Hid (AtN X1 (some ⟨WB.heap.size, 0, none⟩) 1 [(s, y)]) := HC2.out.keepB (ho1 WB.heap.size (by first | (simp; done) | (simp; omega)) (show ¬ (some (WB.heap.size + 1) = some WB.heap.size) by simp)))
             have cb0 := (World.cell?_of_block (w := WB) (HX1.out.block w.heap.size hlw)).trans bw0
             have cb1 := (World.cell?_of_block (w := WB) (HX1.out.block w.heap.size hlw)).trans bw1
             have hlx : w.heap.size < X1.heap.size := Nat.lt_of_lt_of_le hlw HX1.out.size
             clear hw1 hb1 ho1)
          | (have f2 := HW1.out; clear HW1
             refine step_append_ex rfl _ _ 84 rfl _ _ rfl rfl _ (WdE.pushO _ 84 WB.heap.size _ (es.take k) [(s, y)] (by first | exact f2 | exact f2.later (later1 _ _)) (by have := HX1.out.size; first | exact this | (simp; omega)) _ 1 1 rfl (by first | exact HBB.out | exact lit1_E _ s y) (by rw [HL1.out]; omega)) ?_
             rintro v2 X2 ⟨hw2, hb2, _⟩
             obtain ⟨p2, c2, e2⟩ := hw2.shape
             rw [HL2.out] at e2
             subst e2
             have HW2 : Hid (WdE X2 WB.heap.size (.slice p2 (k + 1) c2) (es.take k ++ [(s, y)])) := hw2
             have HX2 : Hid (Below WB.heap.size WB X2) := by first | exact HX1.out.trans hb2 | exact HX1.out.trans (((later1 _ _).mono HX1.out.size).trans hb2)
             clear hw2 hb2 f2)
          | (have f3 := HW2.out; clear HW2
             refine step_append_ex rfl _ _ 84 rfl _ _ rfl rfl _ (WdE.pushO _ 84 WB.heap.size _ (es.take k ++ [(s, y)]) (es.drop k) f3 HX2.out.size _ _ _ HDL.out (HTL.out _ (HWB.out.trans (HX2.out.mono HSB.out))) (by rw [HL2.out]; omega)) ?_
             rintro v3 X3 ⟨hw3, hb3, _⟩
             have HW3 : Hid (WdE X3 w.heap.size v3 (insE es (plcE es s) (s, y))) := by
               unfold Hid insE
               rw [HP.out]
               exact ownsRow_base hw3 HSB.out
             have HX3 : Hid (Below w.heap.size w X3) := HWB.out.trans ((HX2.out.trans hb3).mono HSB.out)
             clear hw3 hb3 f3)
          | fail)
        all_goals
          go_wp2
          all_goals
            go_ret
            exact ⟨_, rfl, HW3.out, HX3.out⟩
    · have e : n = k := by omega
      subst e
      have hd : decide ((n : Int) < (n : Int)) = false := by simp
      have HP : Hid (plcE es s = n) := by
        have := findIdx_no (p := geE s) (es := es) fun j hj => HZ.out j (by rw [HN.out] at hj; omega)
        rw [HN.out] at this
        exact this
      clear HZ hlt
      go_wp2_with fail
      go_quiet (fail)
      go_wp2_with fail
      have hlt1 : (es.take n).length = n := by rw [List.length_take, HN.out]; omega
      have HL1 : Hid ((es.take n).length = n) := hlt1
      have HL2 : Hid ((es.take n ++ [(s, y)]).length = n + 1) := by unfold Hid; rw [List.length_append, hlt1]; rfl
      have HTK : Hid (∀ W, Below w.heap.size w W → AtN W aE n (es.take n)) := fun W hW => ((HAT.out.take n hk).later hW)
      have HTL : Hid (∀ W, Below w.heap.size w W → ∀ A, AtN W A 0 (es.drop n)) := fun W _ A i hi => by omega
      have HDL : Hid ((es.drop n).length = 0) := by unfold Hid; rw [List.length_drop, HN.out]; omega
      have HWB : Hid (Below w.heap.size w (((w.alloc (.cells #[.string s, .int .i64 y] 127)).drewN q).drewN nq)) := below_drewN (below_drewN (later1 _ _) q) nq
      have HSB : Hid (w.heap.size ≤ ((((w.alloc (.cells #[.string s, .int .i64 y] 127)).drewN q).drewN nq)).heap.size) := HWB.out.size
      have bw0 : ((((w.alloc (.cells #[.string s, .int .i64 y] 127)).drewN q).drewN nq)).cell? ⟨w.heap.size, 0, none⟩ = some (.string s) := bx0
      have bw1 : ((((w.alloc (.cells #[.string s, .int .i64 y] 127)).drewN q).drewN nq)).cell? ⟨w.heap.size, 1, none⟩ = some (.int .i64 y) := bx1
      have hkc : n ≤ cE := by omega
      have hkI : (n : Int) ≤ (n : Int) := by omega
      have HF1 : Hid True := trivial
      clear hlt1 bx0 bx1
      generalize (((w.alloc (.cells #[.string s, .int .i64 y] 127)).drewN q).drewN nq) = WB at *
      have hlw : w.heap.size < WB.heap.size := World.block_lt_of_cell? _ _ bw0
      have HA1 : Hid (WdE (WB.drew.alloc (.cells #[] 127)) WB.heap.size (.slice (some ⟨WB.heap.size, 0, none⟩) 0 0) []) := WdE.lit0 WB.drew WB.heap.size (Nat.le_refl _)
      have HA2 : Hid (WdE ((WB.drew.alloc (.cells #[.string s, .int .i64 y] 127)).alloc (.cells #[] 127)) WB.heap.size (.slice (some ⟨WB.heap.size + 1, 0, none⟩) 0 0) []) := by
        have := WdE.lit0 (WB.drew.alloc (.cells #[.string s, .int .i64 y] 127)) WB.heap.size (by simp)
        rw [show (WB.drew.alloc (.cells #[.string s, .int .i64 y] 127)).heap.size = WB.heap.size + 1 by simp] at this
        exact this
      have HC1 : Hid (AtN ((WB.drew.alloc (.cells #[] 127)).alloc (.cells #[.string s, .int .i64 y] 127)) (some ⟨WB.heap.size + 1, 0, none⟩) 1 [(s, y)]) := by
        have := lit1_E (WB.drew.alloc (.cells #[] 127)) s y
        rw [show (WB.drew.alloc (.cells #[] 127)).heap.size = WB.heap.size + 1 by simp] at this
        exact this
      have HC2 : Hid (AtN ((WB.drew.alloc (.cells #[.string s, .int .i64 y] 127)).alloc (.cells #[] 127)) (some ⟨WB.heap.size, 0, none⟩) 1 [(s, y)]) := (lit1_E WB.drew s y).later (later1 _ _)
      go_region_law (first
        | (have f1 := HF1.out; clear HF1 f1
           refine step_append_ex rfl _ _ 84 rfl _ _ rfl rfl _ (WdE.pushO _ 84 WB.heap.size _ [] (es.take n) (by first | exact HA1.out | exact HA1.out.later (later1 _ _) | exact HA2.out) (by first | (simp; done) | (simp; omega)) _ _ _ HL1.out (HTK.out _ (by first | exact HWB.out.drew.trans ((later1 _ _).mono HSB.out) | exact HWB.out.drew.trans ((later2 _ _ _).mono HSB.out))) (by simp; omega)) ?_
           rintro v1 X1 ⟨hw1, hb1, ho1⟩
           rw [List.nil_append] at hw1
           obtain ⟨p1, c1, e1⟩ := hw1.shape
           rw [HL1.out] at e1
           subst e1
           have HW1 : Hid (WdE X1 WB.heap.size (.slice p1 n c1) (es.take n)) := hw1
           have HX1 : Hid (Below WB.heap.size WB X1) := by first | exact (Below.refl _ _).drew.trans (((later1 WB.drew _).mono (Nat.le_refl _)).trans hb1) | exact (Below.refl _ _).drew.trans (((later2 WB.drew _ _).mono (Nat.le_refl _)).trans hb1)
           try (have HBB : Hid (AtN X1 (some ⟨WB.heap.size + 1, 0, none⟩) 1 [(s, y)]) := HC1.out.keepB (ho1 (WB.heap.size + 1) (by first | (simp; done) | (simp; omega)) (show ¬ (some WB.heap.size = some (WB.heap.size + 1)) by simp)))
           try (have HBB : Hid (AtN X1 (some ⟨WB.heap.size, 0, none⟩) 1 [(s, y)]) := HC2.out.keepB (ho1 WB.heap.size (by first | (simp; done) | (simp; omega)) (show ¬ (some (WB.heap.size + 1) = some WB.heap.size) by simp)))
           have cb0 := (World.cell?_of_block (w := WB) (HX1.out.block w.heap.size hlw)).trans bw0
           have cb1 := (World.cell?_of_block (w := WB) (HX1.out.block w.heap.size hlw)).trans bw1
           have hlx : w.heap.size < X1.heap.size := Nat.lt_of_lt_of_le hlw HX1.out.size
           clear hw1 hb1 ho1)
        | (have f2 := HW1.out; clear HW1
           refine step_append_ex rfl _ _ 84 rfl _ _ rfl rfl _ (WdE.pushO _ 84 WB.heap.size _ (es.take n) [(s, y)] (by first | exact f2 | exact f2.later (later1 _ _)) (by have := HX1.out.size; first | exact this | (simp; omega)) _ 1 1 rfl (by first | exact HBB.out | exact lit1_E _ s y) (by rw [HL1.out]; omega)) ?_
           rintro v2 X2 ⟨hw2, hb2, _⟩
           obtain ⟨p2, c2, e2⟩ := hw2.shape
           rw [HL2.out] at e2
           subst e2
           have HW2 : Hid (WdE X2 WB.heap.size (.slice p2 (n + 1) c2) (es.take n ++ [(s, y)])) := hw2
           have HX2 : Hid (Below WB.heap.size WB X2) := by first | exact HX1.out.trans hb2 | exact HX1.out.trans (((later1 _ _).mono HX1.out.size).trans hb2)
           clear hw2 hb2 f2)
        | (have f3 := HW2.out; clear HW2
           refine step_append_ex rfl _ _ 84 rfl _ _ rfl rfl _ (WdE.pushO _ 84 WB.heap.size _ (es.take n ++ [(s, y)]) (es.drop n) f3 HX2.out.size _ _ _ HDL.out (HTL.out _ (HWB.out.trans (HX2.out.mono HSB.out)) _) (by rw [HL2.out]; omega)) ?_
           rintro v3 X3 ⟨hw3, hb3, _⟩
           have HW3 : Hid (WdE X3 w.heap.size v3 (insE es (plcE es s) (s, y))) := by
             unfold Hid insE
             rw [HP.out]
             exact ownsRow_base hw3 HSB.out
           have HX3 : Hid (Below w.heap.size w X3) := HWB.out.trans ((HX2.out.trans hb3).mono HSB.out)
           clear hw3 hb3 f3)
        | fail)
      all_goals
        go_wp2
        all_goals
          go_ret
          exact ⟨_, rfl, HW3.out, HX3.out⟩
end Go.Proofs.YtjabimfinanjoabGreat

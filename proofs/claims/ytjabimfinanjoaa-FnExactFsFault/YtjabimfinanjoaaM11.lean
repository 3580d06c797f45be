/- A file system in memory of its own, of which places turn. No program is named here. Files that are read, written, cut and dropped: what they come to. No program is named here. The specification's PickBlocks. The program's UsedBlocks, FreeBlocks and PickBlocks. The program: what is wrong of inodes, data and entries of a file system. -/
import Derived.Test.YtjabimfinanjoaaM10
import Derived.Test.YtjabimfinanjoaaM09
import Derived.Test.YtjabimfinanjoaaM08
import Derived.Test.YtjabimfinanjoaaM06
namespace Go.Proofs.Ytjabimfinanjoaa
open Go.RowKit
set_option maxRecDepth 100000

theorem set_getD {α : Type} (l : List α) (j : Nat) (x z : α) (i : Nat) (hj : j < l.length) : (l.set j x)[i]?.getD z = if i = j then x else l[i]?.getD z := by
  rw [List.getElem?_set]
  by_cases e : i = j
  · subst e; simp [hj]
  · rw [if_neg (fun h => e h.symm), if_neg e]

/-- Lists of bytes stand in the row at block b. -/
structure YsS (w : World) (b n cap : Nat) (zss : List (List UInt8)) (F : Nat → Prop) : Prop where
  len : zss.length = n
  max : n ≤ maxLen ∧ n ≤ cap
  own : ∃ (u : Nat → Value) (G : Nat → Nat → Prop), F b ∧ (∀ i c, G i c → F c ∧ c ≠ b) ∧ (∀ i j c, i ≠ j → G i c → ¬ G j c) ∧ OwnRow w b n u ∧ ∀ i, i < n → BytO w (u i) (zss[i]?.getD []) (G i)
theorem YsS.byts {w : World} {b n cap : Nat} {zss : List (List UInt8)} {F : Nat → Prop} (h : YsS w b n cap zss F) : BytsO w (.slice (some ⟨b, 0, none⟩) n cap) zss F := by
  obtain ⟨rfl, hm, u, G, h1, h2, h3, h4, h5⟩ := h
  exact Or.inr ⟨b, cap, u, G, h1, h2, h3, rfl, hm, h4, h5⟩
theorem YsS.of {w : World} {v : Value} {zss : List (List UInt8)} {F : Nat → Prop} (h : BytsO w v zss F) (h0 : 0 < zss.length) : ∃ b cap, v = .slice (some ⟨b, 0, none⟩) zss.length cap ∧ YsS w b zss.length cap zss F := by
  rcases h with ⟨rfl, _⟩ | ⟨b, cap, u, G, hF, hG, hGG, h1, h2, h3, h4⟩
  · simp at h0
  · exact ⟨b, cap, h1, rfl, h2, u, G, hF, hG, hGG, h3, h4⟩
theorem YsS.keep {w w' : World} {b n cap : Nat} {zss : List (List UInt8)} {F : Nat → Prop} (h : YsS w b n cap zss F) (e : ∀ c, F c → c < w.heap.size → w'.heap[c]? = w.heap[c]?) : YsS w' b n cap zss F := by
  obtain ⟨h0, hm, u, G, h1, h2, h3, h4, h5⟩ := h
  exact ⟨h0, hm, u, G, h1, h2, h3, h4.block (e b h1 h4.lt), fun i hi => (h5 i hi).keep fun c hc => e c (h2 i c hc).1⟩
theorem YsS.mono {w : World} {b n cap : Nat} {zss : List (List UInt8)} {F F' : Nat → Prop} (h : YsS w b n cap zss F) (e : ∀ c, F c → F' c) : YsS w b n cap zss F' := by
  obtain ⟨h0, hm, u, G, h1, h2, h3, h4, h5⟩ := h
  exact ⟨h0, hm, u, G, e b h1, fun i c hc => ⟨e c (h2 i c hc).1, (h2 i c hc).2⟩, h3, h4, h5⟩
theorem YsS.bound {w : World} {b n cap : Nat} {zss : List (List UInt8)} {F : Nat → Prop} (h : YsS w b n cap zss F) : YsS w b n cap zss (fun c => F c ∧ c < w.heap.size) := by
  obtain ⟨h0, hm, u, G, h1, h2, h3, h4, h5⟩ := h
  exact ⟨h0, hm, u, fun i c => G i c ∧ c < w.heap.size, ⟨h1, h4.lt⟩, fun i c hc => ⟨⟨(h2 i c hc.1).1, hc.2⟩, (h2 i c hc.1).2⟩, fun i j c e hc hc' => h3 i j c e hc.1 hc'.1, h4, fun i hi => (h5 i hi).bound⟩
theorem YsS.cell {w : World} {b n cap : Nat} {zss : List (List UInt8)} {F : Nat → Prop} (h : YsS w b n cap zss F) (y : Nat) (hy : y < n) : ∃ ua uc, w.cell? ⟨b, y, none⟩ = some (.slice ua (zss[y]?.getD []).length uc) ∧ w.frozen? ⟨b, y, none⟩ = false ∧ Byt w (.slice ua (zss[y]?.getD []).length uc) (zss[y]?.getD []) := by
  obtain ⟨h0, hm, u, G, h1, h2, h3, h4, h5⟩ := h
  obtain ⟨ua, uc, e, h6, h7⟩ := (h5 y hy).reads
  have := h4.cell hy
  rw [e] at this
  exact ⟨ua, uc, this, h4.frozen y, ua, uc, rfl, h6, h7⟩
/-- One list turns. -/
theorem YsS.put {w W : World} {b n cap : Nat} {zss : List (List UInt8)} {F G' : Nat → Prop} (h : YsS w b n cap zss F) (y : Nat) (hy : y < n) (hk : ∀ c, F c → c < w.heap.size → W.heap[c]? = w.heap[c]?) (v : Value) (zs : List UInt8) (hv : BytO W v zs G') (hG : ∀ c, G' c → w.heap.size ≤ c ∧ ¬ c = b) :
    YsS (W.setCell ⟨b, y, none⟩ v) b n cap (zss.set y zs) (fun c => F c ∨ G' c) := by
  obtain ⟨h0, hm, u, G, h1, h2, h3, h4, h5⟩ := h.bound
  refine ⟨by simpa using h0, hm, fun i => if i = y then v else u i, fun i c => if i = y then G' c else G i c, Or.inl h1.1, fun i c hc => ?_, fun i j c e hc hc' => ?_, ((h4.block (hk b h1.1 h1.2)).set y v).congr fun i _ => rfl, fun i hi => ?_⟩
  · by_cases e : i = y
    · simp only [e, if_true] at hc
      exact ⟨Or.inr hc, (hG c hc).2⟩
    · simp only [e, if_false] at hc
      exact ⟨Or.inl (h2 i c hc).1.1, (h2 i c hc).2⟩
  · by_cases ei : i = y
    · have ej : ¬ j = y := fun ej => e (ei.trans ej.symm)
      simp only [ei, ej, if_true, if_false] at hc hc'
      have := (h2 j c hc').1.2
      have := (hG c hc).1
      omega
    · by_cases ej : j = y
      · simp only [ei, ej, if_true, if_false] at hc hc'
        have := (h2 i c hc).1.2
        have := (hG c hc').1
        omega
      · simp only [ei, ej, if_false] at hc hc'
        exact h3 i j c e hc hc'
  · rw [set_getD _ _ _ _ _ (by omega)]
    by_cases e : i = y
    · simp only [e, if_true]
      exact hv.keep fun c hc _ => Below.heap_setCell _ _ _ _ (hG c hc).2
    · simp only [e, if_false]
      exact ((h5 i hi).keep fun c hc hlt => hk c (h2 i c hc).1.1 hlt).keep fun c hc _ => Below.heap_setCell _ _ _ _ (h2 i c hc).2

/-- Inodes stand in the row at block b. -/
structure InS (w : World) (b n cap : Nat) (ds : List ID) (F : Nat → Prop) : Prop where
  len : ds.length = n
  max : n ≤ maxLen ∧ n ≤ cap
  own : ∃ (u : Nat → Value × Value) (G : Nat → Nat → Prop), F b ∧ (∀ i c, G i c → F c ∧ c ≠ b) ∧ (∀ i j c, i ≠ j → G i c → ¬ G j c) ∧ OwnRow w b (n * 5) (inCell ds u) ∧
    ∀ i, i < n → InoU w (.int .i64 (ds[i]?.getD id0).1) (.int .i64 (ds[i]?.getD id0).2.1) (.int .i64 (ds[i]?.getD id0).2.2.1) (u i).1 (u i).2 (ds[i]?.getD id0) (G i)
theorem InS.inos {w : World} {b n cap : Nat} {ds : List ID} {F : Nat → Prop} (h : InS w b n cap ds F) : InosO w (.slice (some ⟨b, 0, none⟩) n cap) ds F := by
  obtain ⟨rfl, hm, u, G, h1, h2, h3, h4, h5⟩ := h
  exact Or.inr ⟨b, cap, u, G, h1, h2, h3, rfl, hm, h4, h5⟩
theorem InS.of {w : World} {v : Value} {ds : List ID} {F : Nat → Prop} (h : InosO w v ds F) (h0 : 0 < ds.length) : ∃ b cap, v = .slice (some ⟨b, 0, none⟩) ds.length cap ∧ InS w b ds.length cap ds F := by
  rcases h with ⟨rfl, _⟩ | ⟨b, cap, u, G, hF, hG, hGG, h1, h2, h3, h4⟩
  · simp at h0
  · exact ⟨b, cap, h1, rfl, h2, u, G, hF, hG, hGG, h3, h4⟩
theorem InS.keep {w w' : World} {b n cap : Nat} {ds : List ID} {F : Nat → Prop} (h : InS w b n cap ds F) (e : ∀ c, F c → c < w.heap.size → w'.heap[c]? = w.heap[c]?) : InS w' b n cap ds F := by
  obtain ⟨h0, hm, u, G, h1, h2, h3, h4, h5⟩ := h
  exact ⟨h0, hm, u, G, h1, h2, h3, h4.block (e b h1 h4.lt), fun i hi => (h5 i hi).keep fun c hc => e c (h2 i c hc).1⟩
theorem InS.mono {w : World} {b n cap : Nat} {ds : List ID} {F F' : Nat → Prop} (h : InS w b n cap ds F) (e : ∀ c, F c → F' c) : InS w b n cap ds F' := by
  obtain ⟨h0, hm, u, G, h1, h2, h3, h4, h5⟩ := h
  exact ⟨h0, hm, u, G, e b h1, fun i c hc => ⟨e c (h2 i c hc).1, (h2 i c hc).2⟩, h3, h4, h5⟩
theorem InS.bound {w : World} {b n cap : Nat} {ds : List ID} {F : Nat → Prop} (h : InS w b n cap ds F) : InS w b n cap ds (fun c => F c ∧ c < w.heap.size) := by
  obtain ⟨h0, hm, u, G, h1, h2, h3, h4, h5⟩ := h
  exact ⟨h0, hm, u, fun i c => G i c ∧ c < w.heap.size, ⟨h1, h4.lt⟩, fun i c hc => ⟨⟨(h2 i c hc.1).1, hc.2⟩, (h2 i c hc.1).2⟩, fun i j c e hc hc' => h3 i j c e hc.1 hc'.1, h4, fun i hi => (h5 i hi).bound⟩
/-- What lies at place j: its cells, and its blocks, each in memory of F and none of it the row. -/
theorem InS.at' {w : World} {b n cap : Nat} {ds : List ID} {F : Nat → Prop} (h : InS w b n cap ds F) (j : Nat) (hj : j < n) : ∃ aB cB aE cE,
    w.cell? ⟨b, j * 5, none⟩ = some (.int .i64 (ds[j]?.getD id0).1) ∧ w.cell? ⟨b, j * 5 + 1, none⟩ = some (.int .i64 (ds[j]?.getD id0).2.1) ∧ w.cell? ⟨b, j * 5 + 2, none⟩ = some (.int .i64 (ds[j]?.getD id0).2.2.1) ∧
    w.cell? ⟨b, j * 5 + 3, none⟩ = some (.slice aB (ds[j]?.getD id0).2.2.2.1.length cB) ∧ w.cell? ⟨b, j * 5 + 4, none⟩ = some (.slice aE (ds[j]?.getD id0).2.2.2.2.length cE) ∧
    ((ds[j]?.getD id0).2.2.2.1.length ≤ cB) ∧ (∀ i, w.frozen? ⟨b, i, none⟩ = false) ∧ b < w.heap.size ∧
    (∀ k, k < (ds[j]?.getD id0).2.2.2.1.length → ∃ b1, aB = some ⟨b1, 0, none⟩ ∧ F b1 ∧ b1 ≠ b ∧ b1 < w.heap.size ∧ w.cell? ⟨b1, k, none⟩ = some (.int .i64 ((ds[j]?.getD id0).2.2.2.1[k]?.getD 0))) ∧
    InoR w (.int .i64 (ds[j]?.getD id0).1) (.int .i64 (ds[j]?.getD id0).2.1) (.int .i64 (ds[j]?.getD id0).2.2.1) (.slice aB (ds[j]?.getD id0).2.2.2.1.length cB) (.slice aE (ds[j]?.getD id0).2.2.2.2.length cE) (ds[j]?.getD id0) := by
  obtain ⟨h0, hm, u, G, h1, h2, h3, h4, h5⟩ := h
  have hu := h5 j hj
  obtain ⟨aB, cB, eB, _, _⟩ := hu.reads.2.1.open'
  obtain ⟨aE, cE, eE, _, _⟩ := hu.reads.2.2.open'
  have e0 := h4.cell (i := j * 5) (by omega)
  have e1 := h4.cell (i := j * 5 + 1) (by omega)
  have e2 := h4.cell (i := j * 5 + 2) (by omega)
  have e3 := h4.cell (i := j * 5 + 3) (by omega)
  have e4 := h4.cell (i := j * 5 + 4) (by omega)
  rw [inCell_0] at e0
  rw [inCell_1] at e1
  rw [inCell_2] at e2
  rw [inCell_3, eB] at e3
  rw [inCell_4, eE] at e4
  have hr := hu.reads
  rw [eB, eE] at hr
  refine ⟨aB, cB, aE, cE, e0, e1, e2, e3, e4, ?_, h4.frozen, h4.lt, fun k hk => ?_, hr⟩
  · obtain ⟨_, _, _, e, hle⟩ := hr.1.2.2.2
    simp only [Value.slice.injEq] at e
    obtain ⟨_, rfl, rfl⟩ := e
    exact hle
  · obtain ⟨_, F1, G1, hI, _, _, hf⟩ := hu
    rcases hI with ⟨hI, _⟩ | ⟨b1, cap1, hF1, hv, hl, hr1⟩
    · rw [hI] at hk; simp at hk
    · rw [eB] at hv
      simp only [Value.slice.injEq] at hv
      obtain ⟨rfl, _, rfl⟩ := hv
      have := h2 j b1 (hf b1 (Or.inl hF1))
      exact ⟨b1, rfl, this.1, this.2, hr1.lt, hr1.cell hk⟩
/-- One inode turns. -/
theorem InS.put {w W : World} {b n cap : Nat} {ds : List ID} {F G' : Nat → Prop} (h : InS w b n cap ds F) (j : Nat) (_hj : j < n) (d' : ID) (vB vE : Value)
    (hrow : ∀ u, OwnRow w b (n * 5) (inCell ds u) → OwnRow W b (n * 5) (inCell (ds.set j d') (fun i => if i = j then (vB, vE) else u i)))
    (hk : ∀ c, F c → c ≠ b → c < w.heap.size → W.heap[c]? = w.heap[c]?) (hv : InoU W (.int .i64 d'.1) (.int .i64 d'.2.1) (.int .i64 d'.2.2.1) vB vE d' G') (hG : ∀ c, G' c → ¬ F c ∧ c ≠ b) :
    InS W b n cap (ds.set j d') (fun c => F c ∨ G' c) := by
  obtain ⟨h0, hm, u, G, h1, h2, h3, h4, h5⟩ := h
  refine ⟨by simpa using h0, hm, fun i => if i = j then (vB, vE) else u i, fun i c => if i = j then G' c else G i c, Or.inl h1, fun i c hc => ?_, fun i k c e hc hc' => ?_, hrow u h4, fun i hi => ?_⟩
  · by_cases e : i = j
    · simp only [e, if_true] at hc
      exact ⟨Or.inr hc, (hG c hc).2⟩
    · simp only [e, if_false] at hc
      exact ⟨Or.inl (h2 i c hc).1, (h2 i c hc).2⟩
  · by_cases ei : i = j
    · have ej : ¬ k = j := fun ej => e (ei.trans ej.symm)
      simp only [ei, ej, if_true, if_false] at hc hc'
      exact (hG c hc).1 (h2 k c hc').1
    · by_cases ej : k = j
      · simp only [ei, ej, if_true, if_false] at hc hc'
        exact (hG c hc').1 (h2 i c hc).1
      · simp only [ei, ej, if_false] at hc hc'
        exact h3 i k c e hc hc'
  · rw [set_getD _ _ _ _ _ (by omega)]
    by_cases e : i = j
    · simp only [e, if_true]
      exact hv
    · simp only [e, if_false]
      exact (h5 i hi).keep fun c hc hlt => hk c (h2 i c hc).1 (h2 i c hc).2 hlt

/-- How the row's cells turn where an inode does. -/
theorem inCell_set (ds : List ID) (u : Nat → Value × Value) (j : Nat) (hj : j < ds.length) (d' : ID) (vB vE : Value) (c : Nat) :
    inCell (ds.set j d') (fun i => if i = j then (vB, vE) else u i) c = if c = j * 5 then .int .i64 d'.1 else if c = j * 5 + 1 then .int .i64 d'.2.1 else if c = j * 5 + 2 then .int .i64 d'.2.2.1 else if c = j * 5 + 3 then vB else if c = j * 5 + 4 then vE else inCell ds u c := by
  unfold inCell
  dsimp only
  rw [set_getD _ _ _ _ _ hj]
  by_cases e : c / 5 = j
  · have : c % 5 = 0 ∨ c % 5 = 1 ∨ c % 5 = 2 ∨ c % 5 = 3 ∨ c % 5 = 4 := by omega
    rcases this with h | h | h | h | h
    · rw [if_pos e, if_pos h, if_pos (by omega)]
    · rw [if_pos e, if_neg (by omega), if_pos h, if_neg (by omega), if_pos (by omega)]
    · rw [if_pos e, if_neg (by omega), if_neg (by omega), if_pos h, if_neg (by omega), if_neg (by omega), if_pos (by omega)]
    · rw [if_neg (by omega), if_neg (by omega), if_neg (by omega), if_pos h, if_pos e, if_neg (by omega), if_neg (by omega), if_neg (by omega), if_pos (by omega)]
    · rw [if_neg (by omega), if_neg (by omega), if_neg (by omega), if_neg (by omega), if_pos e, if_neg (by omega), if_neg (by omega), if_neg (by omega), if_neg (by omega), if_pos (by omega)]
  · rw [if_neg e, if_neg e, if_neg (show ¬ c = j * 5 by omega), if_neg (show ¬ c = j * 5 + 1 by omega), if_neg (show ¬ c = j * 5 + 2 by omega), if_neg (show ¬ c = j * 5 + 3 by omega), if_neg (show ¬ c = j * 5 + 4 by omega)]

/-- A file system whose two rows stand at blocks bI and bD. -/
structure FsS (w : World) (bI n cI bD m cD : Nat) (d : FD) (F : Nat → Prop) : Prop where
  own : ∃ F1 G1 : Nat → Prop, InS w bI n cI d.1 F1 ∧ YsS w bD m cD d.2 G1 ∧ (∀ b, F1 b → ¬ G1 b) ∧ ∀ b, F1 b ∨ G1 b → F b ∧ b < w.heap.size
theorem FsS.fs {w : World} {bI n cI bD m cD : Nat} {d : FD} {F : Nat → Prop} (h : FsS w bI n cI bD m cD d F) : FsU w (.slice (some ⟨bI, 0, none⟩) n cI) (.slice (some ⟨bD, 0, none⟩) m cD) d F := by
  obtain ⟨F1, G1, h1, h2, h3, h4⟩ := h
  exact ⟨F1, G1, h1.inos, h2.byts, h3, fun b hb => (h4 b hb).1⟩
theorem FsS.of {w : World} {v1 v2 : Value} {d : FD} {F : Nat → Prop} (h : FsU w v1 v2 d F) (h1 : 0 < d.1.length) (h2 : 0 < d.2.length) : ∃ bI cI bD cD, v1 = .slice (some ⟨bI, 0, none⟩) d.1.length cI ∧ v2 = .slice (some ⟨bD, 0, none⟩) d.2.length cD ∧ FsS w bI d.1.length cI bD d.2.length cD d F := by
  obtain ⟨F1, G1, i1, i2, i3, i4⟩ := h
  obtain ⟨bI, cI, rfl, k1⟩ := InS.of i1 h1
  obtain ⟨bD, cD, rfl, k2⟩ := YsS.of i2 h2
  exact ⟨bI, cI, bD, cD, rfl, rfl, _, _, k1.bound, k2.bound, fun b hb hb' => i3 b hb.1 hb'.1, fun b hb => by
    rcases hb with hb | hb
    · exact ⟨i4 b (Or.inl hb.1), hb.2⟩
    · exact ⟨i4 b (Or.inr hb.1), hb.2⟩⟩
theorem FsS.later {w w' : World} {bI n cI bD m cD : Nat} {d : FD} {F : Nat → Prop} (h : FsS w bI n cI bD m cD d F) (hb : Below w.heap.size w w') : FsS w' bI n cI bD m cD d F := by
  obtain ⟨F1, G1, h1, h2, h3, h4⟩ := h
  exact ⟨F1, G1, h1.keep fun c _ hlt => hb.block c hlt, h2.keep fun c _ hlt => hb.block c hlt, h3, fun b hb' => ⟨(h4 b hb').1, Nat.lt_of_lt_of_le (h4 b hb').2 hb.size⟩⟩
theorem FsS.mono {w : World} {bI n cI bD m cD : Nat} {d : FD} {F F' : Nat → Prop} (h : FsS w bI n cI bD m cD d F) (e : ∀ c, F c → F' c) : FsS w bI n cI bD m cD d F' := by
  obtain ⟨F1, G1, h1, h2, h3, h4⟩ := h
  exact ⟨F1, G1, h1, h2, h3, fun b hb => ⟨e b (h4 b hb).1, (h4 b hb).2⟩⟩
/-- Stores elsewhere. -/
theorem FsS.chg {w w' : World} {bI n cI bD m cD : Nat} {d : FD} {F G : Nat → Prop} (h : FsS w bI n cI bD m cD d F) (hc : Chg G w w') (hd : ∀ b, F b → ¬ G b) : FsS w' bI n cI bD m cD d F := by
  obtain ⟨F1, G1, h1, h2, h3, h4⟩ := h
  exact ⟨F1, G1, h1.keep fun c hc' hlt => hc.block c hlt (hd c (h4 c (Or.inl hc')).1), h2.keep fun c hc' hlt => hc.block c hlt (hd c (h4 c (Or.inr hc')).1), h3, fun b hb' => ⟨(h4 b hb').1, Nat.lt_of_lt_of_le (h4 b hb').2 hc.size⟩⟩
theorem FsS.len {w : World} {bI n cI bD m cD : Nat} {d : FD} {F : Nat → Prop} (h : FsS w bI n cI bD m cD d F) : d.1.length = n ∧ d.2.length = m := by
  obtain ⟨F1, G1, h1, h2, h3, h4⟩ := h
  exact ⟨h1.len, h2.len⟩
theorem FsS.ne {w : World} {bI n cI bD m cD : Nat} {d : FD} {F : Nat → Prop} (h : FsS w bI n cI bD m cD d F) : bI ≠ bD ∧ (F bI ∧ bI < w.heap.size) ∧ (F bD ∧ bD < w.heap.size) := by
  obtain ⟨F1, G1, h1, h2, h3, h4⟩ := h
  obtain ⟨_, _, u, G, a1, _⟩ := h1
  obtain ⟨_, _, u', G', b1, _⟩ := h2
  exact ⟨fun e => h3 bI a1 (e ▸ b1), h4 _ (Or.inl a1), h4 _ (Or.inr b1)⟩
theorem FsS.data {w : World} {bI n cI bD m cD : Nat} {d : FD} {F : Nat → Prop} (h : FsS w bI n cI bD m cD d F) (y : Nat) (hy : y < m) : ∃ ua uc, w.cell? ⟨bD, y, none⟩ = some (.slice ua (d.2[y]?.getD []).length uc) ∧ w.frozen? ⟨bD, y, none⟩ = false ∧ Byt w (.slice ua (d.2[y]?.getD []).length uc) (d.2[y]?.getD []) := by
  obtain ⟨F1, G1, h1, h2, h3, h4⟩ := h
  exact h2.cell y hy
/-- The bytes of one block turn. -/
theorem FsS.put {w W : World} {bI n cI bD m cD : Nat} {d : FD} {F G : Nat → Prop} (h : FsS w bI n cI bD m cD d F) (y : Nat) (hy : y < m) (hb : Below w.heap.size w W) (v : Value) (zs : List UInt8) (hv : BytO W v zs G) (hG : ∀ c, G c → F c ∧ w.heap.size ≤ c ∧ c < W.heap.size) :
    FsS (W.setCell ⟨bD, y, none⟩ v) bI n cI bD m cD (d.1, d.2.set y zs) F := by
  have hne := h.ne
  obtain ⟨F1, G1, h1, h2, h3, h4⟩ := h
  refine ⟨F1, fun c => G1 c ∨ G c, h1.keep fun c hc hlt => ?_, h2.put y hy (fun c _ hlt => hb.block c hlt) v zs hv (fun c hc => ⟨(hG c hc).2.1, ?_⟩), fun b hb1 hb2 => ?_, fun b hb' => ?_⟩
  · rw [Below.heap_setCell _ _ _ _ (fun e => h3 c hc (by
      obtain ⟨_, _, u', G', b1, _⟩ := h2
      show G1 c
      rw [show c = bD from e]
      exact b1)), hb.block c hlt]
  · have := (hG c hc).2.1
    have := hne.2.2.2
    omega
  · rcases hb2 with hb2 | hb2
    · exact h3 b hb1 hb2
    · have := (h4 b (Or.inl hb1)).2
      have := (hG b hb2).2.1
      omega
  · have hs := hb.size
    have e : (W.setCell ⟨bD, y, none⟩ v).heap.size = W.heap.size := by simp [World.setCell]
    rw [e]
    rcases hb' with hb' | hb' | hb'
    · exact ⟨(h4 b (Or.inl hb')).1, Nat.lt_of_lt_of_le (h4 b (Or.inl hb')).2 hs⟩
    · exact ⟨(h4 b (Or.inr hb')).1, Nat.lt_of_lt_of_le (h4 b (Or.inr hb')).2 hs⟩
    · exact ⟨(hG b hb').1, (hG b hb').2.2⟩
/-- The inode at a place turns: its row is stored into, and its blocks are a list in block kb. -/
theorem FsS.putI {w W : World} {bI n cI bD m cD : Nat} {d : FD} {F G : Nat → Prop} (h : FsS w bI n cI bD m cD d F) (j : Nat) (hj : j < n) (d' : ID) (vB vE : Value)
    (hrow : ∀ u, OwnRow w bI (n * 5) (inCell d.1 u) → OwnRow W bI (n * 5) (inCell (d.1.set j d') (fun i => if i = j then (vB, vE) else u i)))
    (hc : Chg (fun c => c = bI) w W) (hv : InoU W (.int .i64 d'.1) (.int .i64 d'.2.1) (.int .i64 d'.2.2.1) vB vE d' G) (hG : ∀ c, G c → ¬ F c ∧ c < W.heap.size) :
    FsS W bI n cI bD m cD (d.1.set j d', d.2) (fun c => F c ∨ G c) := by
  have hne := h.ne
  obtain ⟨F1, G1, h1, h2, h3, h4⟩ := h
  refine ⟨fun c => F1 c ∨ G c, G1, h1.put j hj d' vB vE hrow (fun c _ hc1 hlt => hc.block c hlt hc1) hv (fun c hc' => ⟨fun h => (hG c hc').1 (h4 c (Or.inl h)).1, fun e => (hG c hc').1 (e ▸ hne.2.1.1)⟩), h2.keep fun c hc' hlt => hc.block c hlt (fun e => ?_), fun b hb1 hb2 => ?_, fun b hb' => ?_⟩
  · obtain ⟨_, _, u, G, a1, _⟩ := h1
    exact h3 bI a1 (e ▸ hc')
  · rcases hb1 with hb1 | hb1
    · exact h3 b hb1 hb2
    · exact (hG b hb1).1 (h4 b (Or.inr hb2)).1
  · have hs := hc.size
    rcases hb' with (hb' | hb') | hb'
    · exact ⟨Or.inl (h4 b (Or.inl hb')).1, Nat.lt_of_lt_of_le (h4 b (Or.inl hb')).2 hs⟩
    · exact ⟨Or.inr hb', (hG b hb').2⟩
    · exact ⟨Or.inl (h4 b (Or.inr hb')).1, Nat.lt_of_lt_of_le (h4 b (Or.inr hb')).2 hs⟩
/-- What lies at place j. -/
theorem FsS.ino {w : World} {bI n cI bD m cD : Nat} {d : FD} {F : Nat → Prop} (h : FsS w bI n cI bD m cD d F) (j : Nat) (hj : j < n) : ∃ aB cB aE cE,
    w.cell? ⟨bI, j * 5, none⟩ = some (.int .i64 (d.1[j]?.getD id0).1) ∧ w.cell? ⟨bI, j * 5 + 1, none⟩ = some (.int .i64 (d.1[j]?.getD id0).2.1) ∧ w.cell? ⟨bI, j * 5 + 2, none⟩ = some (.int .i64 (d.1[j]?.getD id0).2.2.1) ∧
    w.cell? ⟨bI, j * 5 + 3, none⟩ = some (.slice aB (d.1[j]?.getD id0).2.2.2.1.length cB) ∧ w.cell? ⟨bI, j * 5 + 4, none⟩ = some (.slice aE (d.1[j]?.getD id0).2.2.2.2.length cE) ∧
    ((d.1[j]?.getD id0).2.2.2.1.length ≤ cB) ∧ (∀ i, w.frozen? ⟨bI, i, none⟩ = false) ∧
    (∀ k, k < (d.1[j]?.getD id0).2.2.2.1.length → ∃ b1, aB = some ⟨b1, 0, none⟩ ∧ F b1 ∧ b1 ≠ bI ∧ b1 ≠ bD ∧ b1 < w.heap.size ∧ w.cell? ⟨b1, k, none⟩ = some (.int .i64 ((d.1[j]?.getD id0).2.2.2.1[k]?.getD 0))) := by
  obtain ⟨F1, G1, h1, h2, h3, h4⟩ := h
  obtain ⟨aB, cB, aE, cE, e0, e1, e2, e3, e4, e5, e6, e7, e8, e9⟩ := h1.at' j hj
  refine ⟨aB, cB, aE, cE, e0, e1, e2, e3, e4, e5, e6, fun k hk => ?_⟩
  obtain ⟨b1, f1, f2, f3, f4, f5⟩ := e8 k hk
  refine ⟨b1, f1, (h4 b1 (Or.inl f2)).1, f3, fun e => ?_, f4, f5⟩
  obtain ⟨_, _, u', G', g1, _⟩ := h2
  exact h3 b1 f2 (e ▸ g1)
end Go.Proofs.Ytjabimfinanjoaa

namespace Go.Proofs.Ytjabimfinanjoaa
open Go.RowKit
set_option maxRecDepth 100000

/-- The first k of these blocks hold nothing. -/
def clrK (zss : List (List UInt8)) (bs : List Int) : Nat → List (List UInt8)
  | 0 => zss
  | k + 1 => (clrK zss bs k).set (bs[k]?.getD 0).toNat []
/-- The first k of these blocks hold what is theirs of data. -/
def putK (zss : List (List UInt8)) (bs : List Int) (data : List UInt8) : Nat → List (List UInt8)
  | 0 => zss
  | k + 1 => (putK zss bs data k).set (bs[k]?.getD 0).toNat ((data.drop (k * 8)).take 8)
theorem clrK_length (zss : List (List UInt8)) (bs : List Int) : ∀ k, (clrK zss bs k).length = zss.length
  | 0 => rfl
  | k + 1 => by show ((clrK zss bs k).set _ _).length = _; rw [List.length_set, clrK_length zss bs k]
theorem putK_length (zss : List (List UInt8)) (bs : List Int) (data : List UInt8) : ∀ k, (putK zss bs data k).length = zss.length
  | 0 => rfl
  | k + 1 => by show ((putK zss bs data k).set _ _).length = _; rw [List.length_set, putK_length zss bs data k]
theorem set_len_le {zss : List (List UInt8)} {m : Nat} (h : ∀ i : Nat, (zss[i]?.getD []).length ≤ m) (y : Nat) (zs : List UInt8) (hz : zs.length ≤ m) (i : Nat) : ((zss.set y zs)[i]?.getD []).length ≤ m := by
  rw [List.getElem?_set]
  by_cases e : y = i
  · rw [if_pos e]
    by_cases hl : y < zss.length
    · rw [if_pos hl]; exact hz
    · rw [if_neg hl]; simp
  · rw [if_neg e]; exact h i
theorem clrK_le {zss : List (List UInt8)} {m : Nat} (h : ∀ i : Nat, (zss[i]?.getD []).length ≤ m) (bs : List Int) : ∀ (k i : Nat), ((clrK zss bs k)[i]?.getD []).length ≤ m
  | 0, i => h i
  | k + 1, i => set_len_le (clrK_le h bs k) _ _ (by simp) i
theorem putK_le {zss : List (List UInt8)} (h : ∀ i : Nat, (zss[i]?.getD []).length ≤ 8) (bs : List Int) (data : List UInt8) : ∀ (k i : Nat), ((putK zss bs data k)[i]?.getD []).length ≤ 8
  | 0, i => h i
  | k + 1, i => set_len_le (putK_le h bs data k) _ _ (by rw [List.length_take]; omega) i
theorem ylens_eight {zss : List (List UInt8)} (h : ∀ i : Nat, (zss[i]?.getD []).length ≤ 8) : (ylens zss).sum ≤ 8 * zss.length := by
  unfold ylens
  induction zss with
  | nil => simp
  | cons z zss ih =>
    have h0 := h 0
    have := ih fun i => by have := h (i + 1); simpa using this
    simp at h0
    simp only [List.map_cons, List.sum_cons, List.length_cons]
    omega

/-- The blocks of the inode at a place. -/
def blkA (d : FD) (j : Nat) : List Int := (d.1[j]?.getD id0).2.2.2.1
/-- The file at place j with other blocks and bytes; the file at place j gone. -/
def setI (d : FD) (j : Nat) (bs : List Int) (n : Nat) : ID := ((d.1[j]?.getD id0).1, (d.1[j]?.getD id0).2.1, (n : Int), bs, (d.1[j]?.getD id0).2.2.2.2)
def setD (d : FD) (j : Nat) (bs : List Int) (data : List UInt8) : FD := (d.1.set j (setI d j bs data.length), putK (clrK d.2 (blkA d j) (blkA d j).length) bs data bs.length)
def dropD (d : FD) (j : Nat) : FD := (d.1.set j id0, clrK d.2 (blkA d j) (blkA d j).length)
def noFs (c : Int) : Int × FD := (c, [], [])
/-- SetBytes behind its first codes. -/
def setQ (d : FD) (j : Nat) (data : List UInt8) (busy : List Int) : Int × FD :=
  if data.length ≤ 32 then (if (pickR d.1 busy (((data.length + 7) / 8 : Nat) : Int)).1 = 0 then (0, setD d j (pickR d.1 busy (((data.length + 7) / 8 : Nat) : Int)).2 data) else noFs (pickR d.1 busy (((data.length + 7) / 8 : Nat) : Int)).1) else noFs 2
/-- The codes that SetBytes, WriteFile and CutFile ask alike. -/
def askR (d : FD) (x : Int) (busy : List Int) : Int := if (bytR d x).1 = 0 then busF busy else (bytR d x).1
def setR (d : FD) (x : Int) (data : List UInt8) (busy : List Int) : Int × FD := if askR d x busy = 0 then setQ d x.toNat data busy else noFs (askR d x busy)
def fromB (p : Int) : Bool := decide (0 ≤ p) && decide (p ≤ 1000)
/-- Bytes of a given number: the first of these, and 0 behind them. -/
def strY (zs : List UInt8) (n : Nat) : List UInt8 := (zs ++ List.replicate (n - zs.length) 0).take n
/-- Data in place of what is there from p on. -/
def mixY (zs : List UInt8) (p : Nat) (data : List UInt8) : List UInt8 := zs.take p ++ data ++ zs.drop (p + data.length)
def writeFR (d : FD) (x p : Int) (data : List UInt8) (busy : List Int) : Int × FD :=
  if askR d x busy = 0 then (if fromB p = true then (if p + (data.length : Int) ≤ 32 then (if data.length = 0 then (0, d) else setQ d x.toNat (mixY (strY (bytL d x.toNat) (max (p.toNat + data.length) (bytL d x.toNat).length)) p.toNat data) busy) else noFs 2) else noFs 3) else noFs (askR d x busy)
def cutR (d : FD) (x n : Int) (busy : List Int) : Int × FD :=
  if askR d x busy = 0 then (if 0 ≤ n ∧ n ≤ 32 then setQ d x.toNat (strY (bytL d x.toNat) n.toNat) busy else noFs 3) else noFs (askR d x busy)
def dropR (d : FD) (x : Int) : Int × FD := if (bytR d x).1 = 0 then (0, dropD d x.toNat) else noFs (bytR d x).1
/-- ReadFile. -/
def cutY (zs : List UInt8) (p n : Nat) : List UInt8 := (zs.drop p).take n
def readFR (d : FD) (x p n : Int) : Int × List UInt8 :=
  if (bytR d x).1 = 0 then (if fromB p && (decide (0 ≤ n) && decide (n ≤ 100)) then (0, cutY (bytL d x.toNat) p.toNat n.toNat) else (3, [])) else ((bytR d x).1, [])

/-- What stands where BytesIn tells no code. -/
structure Sound (d : FD) (j : Nat) : Prop where
  fs : fsF d = 0
  lt : j < d.1.length
  ten : d.1.length ≤ 10
  dat : d.2.length = 20
  eight : ∀ i : Nat, (d.2[i]?.getD []).length ≤ 8
  kind : (d.1[j]?.getD id0).1 = 1
  ent : (d.1[j]?.getD id0).2.2.2.2 = []
  four : (blkA d j).length ≤ 4
  blk : ∀ k : Nat, k < (blkA d j).length → 0 ≤ (blkA d j)[k]?.getD 0 ∧ (blkA d j)[k]?.getD 0 < 20
  bl : (bytL d j).length ≤ 32
theorem bytR_code {d : FD} {x : Int} (h : (bytR d x).1 = 0) : bytR d x = (0, bytL d x.toNat) ∧ fsF d = 0 ∧ (0 ≤ x ∧ x < (d.1.length : Int)) ∧ ¬ kindAt d.1 x.toNat = 2 ∧ ¬ kindAt d.1 x.toNat = 0 := by
  unfold bytR at h ⊢
  by_cases hf : fsF d = 0
  · rw [if_pos hf] at h ⊢
    by_cases hp : 0 ≤ x ∧ x < (d.1.length : Int)
    · rw [if_pos hp] at h ⊢
      by_cases h2 : kindAt d.1 x.toNat = 2
      · rw [if_pos h2] at h; simp at h
      · rw [if_neg h2] at h ⊢
        by_cases h0 : kindAt d.1 x.toNat = 0
        · rw [if_pos h0] at h; simp at h
        · rw [if_neg h0]
          exact ⟨rfl, hf, hp, h2, h0⟩
    · rw [if_neg hp] at h; simp at h
  · rw [if_neg hf] at h; exact absurd h hf
theorem bytR_bad {d : FD} {x : Int} (h : ¬ (bytR d x).1 = 0) : (bytR d x).2 = [] := by
  unfold bytR at h ⊢
  by_cases hf : fsF d = 0
  · rw [if_pos hf] at h ⊢
    by_cases hp : 0 ≤ x ∧ x < (d.1.length : Int)
    · rw [if_pos hp] at h ⊢
      by_cases h2 : kindAt d.1 x.toNat = 2
      · rw [if_pos h2]
      · rw [if_neg h2] at h ⊢
        by_cases h0 : kindAt d.1 x.toNat = 0
        · rw [if_pos h0]
        · rw [if_neg h0] at h; exact absurd rfl h
    · rw [if_neg hp]
  · rw [if_neg hf]
theorem ino_kinds {d : ID} (h : inoF d = 0) (h2 : ¬ d.1 = 2) (h0 : ¬ d.1 = 0) : d.1 = 1 ∧ d.2.2.2.2 = [] := by
  unfold inoF at h
  rw [if_neg h0] at h
  by_cases h1 : d.1 = 1
  · rw [if_pos h1] at h
    refine ⟨h1, ?_⟩
    by_cases hd : dpB d = true
    · rw [if_pos hd] at h; omega
    · unfold dpB at hd
      simp at hd
      exact hd
  · rw [if_neg h1, if_neg h2] at h; omega
theorem sound {d : FD} {x : Int} (h : (bytR d x).1 = 0) : Sound d x.toNat := by
  obtain ⟨_, hf, hp, h2, h0⟩ := bytR_code h
  obtain ⟨h1, g2, h3, _, _⟩ := fsE_zero (fsF_zero hf)
  obtain ⟨g1, _, g3⟩ := formB_no g2
  have hj : x.toNat < d.1.length := by omega
  have hk := ino_kinds (ins_ino h1 x.toNat hj) h2 h0
  have hsz := ino_size (ins_ino h1 x.toNat hj)
  have hb := bytK_len d (d.1[x.toNat]?.getD id0).2.2.2.1 (many_eight h3) _ (Nat.le_refl _)
  refine ⟨hf, hj, insF_ten h1, g3, many_eight h3, hk.1, hk.2, ?_, fun k hk => ins_blk h1 _ k hj hk, ?_⟩
  · show (d.1[x.toNat]?.getD id0).2.2.2.1.length ≤ 4
    omega
  · show (bytK d _ _).length ≤ 32
    omega
end Go.Proofs.Ytjabimfinanjoaa

namespace Go.Proofs.Ytjabimfinanjoaa
open Go.RowKit
set_option maxRecDepth 100000

/-- The same, and the list is no longer than its room. -/
def AnsIC (w : World) (r : Int × List Int) (e : Ending) (w' : World) : Prop := AnsIR w r e w' ∧ ∀ x a n c, e = .returned (.agg #[x, .slice a n c]) → n ≤ c
theorem AnsIC.mk {w w' : World} {r : Int × List Int} {x : Value} {a : Option Addr} {n c : Nat} (h : AnsIR w r (.returned (.agg #[x, .slice a n c])) w') (hc : n ≤ c) : AnsIC w r (.returned (.agg #[x, .slice a n c])) w' :=
  ⟨h, fun x' a' n' c' e => by
    simp only [Ending.returned.injEq, Value.agg.injEq, Array.mk.injEq, List.cons.injEq, Value.slice.injEq, and_true] at e
    omega⟩
theorem slice_takeI (a : Option Addr) (n c j : Nat) (hj : j ≤ c) :
    ∃ A C, j ≤ C ∧ (∀ W : World, (Instr.slice 51 (.slice a n c) none (some (.int .i64 (j : Int))) none).run Try.prog W = .ok (.slice A j C) W) ∧ ∀ (W : World) (zs : List Int) (F : Nat → Prop), j ≤ zs.length → IntsO W (.slice a n c) zs F → IntsO W (.slice A j C) (zs.take j) F := by
  obtain ⟨i, hi, _⟩ := Try.infoInt'
  refine ⟨if c = 0 then a else a.map (·.add (0 * 1)), c - 0, by omega, fun W => ?_, fun W zs F hjn h => ?_⟩
  · simp [Instr.slice, Instr.sliceBounds, Instr.sliceBound, asIntOf, run_underlying Try.underlying51, sizeOf, typeInfo, hi, hj]
  · by_cases hj0 : j = 0
    · subst hj0
      exact Or.inl ⟨by simp, _, _, rfl⟩
    · rw [if_neg (by omega)]
      rcases h with ⟨h, _⟩ | ⟨b, cap, hF, h1, h2, h3⟩
      · subst h; simp at hjn; omega
      · simp only [Value.slice.injEq] at h1
        obtain ⟨rfl, rfl, rfl⟩ := h1
        have hl : (zs.take j).length = j := by rw [List.length_take]; omega
        refine Or.inr ⟨b, c - 0, hF, by rw [hl]; simp [Addr.add], by rw [hl]; omega, ?_⟩
        obtain ⟨cs, t, hb, hn, hc⟩ := h3
        refine ⟨cs, t, hb, by rw [hl]; omega, fun k hk => ?_⟩
        rw [hl] at hk
        rw [hc k (by omega)]
        dsimp only
        rw [List.getElem?_take, if_pos hk]
theorem Wds.cap {w : World} {n₀ : Nat} {a : Option Addr} {n c : Nat} {zs : List Int} (h : Wds w n₀ (.slice a n c) zs) : n ≤ c := by
  rcases h.2 with ⟨e, h0⟩ | ⟨g, cap, cur, e, _, _, hnc, _⟩
  · simp only [Value.slice.injEq] at e; omega
  · simp only [Value.slice.injEq] at e; omega

end Go.Proofs.Ytjabimfinanjoaa

namespace Go.Proofs.Ytjabimfinanjoaa
open Go.RowKit
set_option maxRecDepth 100000

theorem Arr.putNew (w : World) (g : Nat → Nat) : ∃ X, (Instr.storeAt 119 (.pointer (some ⟨w.heap.size, 0, none⟩)) (.agg (arrC g))).run Try.prog (w.alloc (.cells (arrC fun _ => 0) 119)) = .ok () X ∧ Arr X w.heap.size g ∧ Below w.heap.size w X := by
  obtain ⟨X, h1, h2, h3, h4, h5, h6, h7⟩ := (Arr.new w fun _ => 0).put g
  exact ⟨X, h1, h2, (later1 w (.cells (arrC fun _ => 0) 119)).trans ⟨h5, h6, h7, by omega, fun c hc => h4 c (by omega)⟩⟩

theorem busF_each {zs : List Int} (h : busF zs = 0) (k : Nat) (hk : k < zs.length) : 0 ≤ zs[k]?.getD 0 ∧ zs[k]?.getD 0 < 20 := by
  unfold busF at h
  split at h
  · omega
  · have := fstNZ_inv h k hk
    unfold rngF at this
    split at this <;> omega
theorem busF_len {zs : List Int} (h : busF zs = 0) : zs.length ≤ 20 := by
  unfold busF at h
  split at h <;> omega
theorem cntB_le (ds : List ID) (hs : sizeInos ds ≤ 1048576) (v : Int) : cntB ds v ≤ 1048576 := by
  have h2 := allB_len ds
  have h3 := List.count_le_length (a := v) (l := allB ds)
  unfold sizeInos at hs
  unfold cntB
  omega
theorem manyB_once (ds : List ID) : manyB (fun i => cntB ds (i : Int)) = !onceB ds 20 := by
  unfold manyB onceB
  rw [List.not_all_eq_any_not]
  congr 1
  funext k
  simp only [← decide_not]
  rw [decide_eq_decide]
  omega
theorem freeP_eq (ds : List ID) (bs : List Int) : (fun k : Nat => decide (cntB ds (k : Int) + bs.count (k : Int) = 0)) = freeP ds bs := by
  funext k
  unfold freeP
  cases hb : bs.contains (k : Int) with
  | true =>
    have h1 : (k : Int) ∈ bs := by simpa using hb
    have h2 := List.count_pos_iff.2 h1
    simp; omega
  | false =>
    have h1 : ¬ (k : Int) ∈ bs := by simpa using hb
    have h2 := List.count_eq_zero.2 h1
    rw [h2]; simp

end Go.Proofs.Ytjabimfinanjoaa

namespace Go.Proofs.Ytjabimfinanjoaa
open Go.RowKit
set_option maxRecDepth 100000

set_option maxHeartbeats 800000 in
theorem isInode_any (w : World) (a1 : Option Addr) (n1 c1 : Nat) (a2 : Option Addr) (n2 c2 : Nat) (x : Int) :
    Calls Try.prog 51 #[.agg #[.slice a1 n1 c1, .slice a2 n2 c2], .int .i64 x] w fun e w' => e = .returned (.bool (decide (0 ≤ x ∧ x < (n1 : Int)))) ∧ Below w.heap.size w w' := by
  by_cases h0 : 0 ≤ x
  · have HR : Hid (decide (0 ≤ x ∧ x < (n1 : Int)) = decide (x < (n1 : Int))) := by unfold Hid; simp [h0]
    have hd : decide (0 ≤ x) = true := by simpa using h0
    clear h0
    go_enter Try.func51, Try.ntmps51
    go_wp2
    go_ret
    exact ⟨ret_bool HR.out.symm, later1 _ _⟩
  · have HR : Hid (decide (0 ≤ x ∧ x < (n1 : Int)) = false) := by unfold Hid; simp; omega
    have hd : decide (0 ≤ x) = false := by simpa using h0
    clear h0
    go_enter Try.func51, Try.ntmps51
    go_wp2
    go_ret
    exact ⟨ret_bool HR.out.symm, later1 _ _⟩

/-- A place of what is not free. -/
def thB (d : FD) (x : Int) : Bool := decide (0 ≤ x ∧ x < (d.1.length : Int)) && !decide (kindAt d.1 x.toNat = 0)
set_option maxHeartbeats 1600000 in
theorem isThere_any (w : World) (a1 : Option Addr) (n1 c1 : Nat) (a2 : Option Addr) (n2 c2 : Nat) (d : FD) (x : Int) (h : FsR w (.slice a1 n1 c1) (.slice a2 n2 c2) d) :
    Calls Try.prog 97 #[.agg #[.slice a1 n1 c1, .slice a2 n2 c2], .int .i64 x] w fun e w' => e = .returned (.bool (thB d x)) ∧ Below w.heap.size w w' := by
  have HX : Hid (Bx (w.alloc (.cells #[.slice a1 n1 c1, .slice a2 n2 c2] 30)) w.heap.size [.slice a1 n1 c1, .slice a2 n2 c2]) := Bx.new w [.slice a1 n1 c1, .slice a2 n2 c2] _
  have HIN : Hid (∀ W, Calls Try.prog 51 #[.agg #[.slice a1 n1 c1, .slice a2 n2 c2], .int .i64 x] W fun e w' => e = .returned (.bool (decide (0 ≤ x ∧ x < (n1 : Int)))) ∧ Below W.heap.size W w') := fun W => isInode_any W a1 n1 c1 a2 n2 c2 x
  obtain ⟨_, _, e2, hm2, hc⟩ := h.1.open'
  simp only [Value.slice.injEq] at e2
  obtain ⟨rfl, rfl, rfl⟩ := e2
  have HB0 : Hid (Below w.heap.size w (w.alloc (.cells #[.slice a1 d.1.length c1, .slice a2 n2 c2] 30))) := later1 _ _
  have hz0 : (w.alloc (.cells #[.slice a1 d.1.length c1, .slice a2 n2 c2] 30)).heap.size = w.heap.size + 1 := by simp
  by_cases hin : 0 ≤ x ∧ x < (d.1.length : Int)
  · obtain ⟨y, rfl⟩ : ∃ y : Nat, x = (y : Int) := ⟨x.toNat, by omega⟩
    have hy : y < d.1.length := by omega
    obtain ⟨b, o, rfl, hK⟩ := hc y hy
    obtain ⟨_, _, _, _, kc, _⟩ := hK
    have HKC : Hid (w.cell? ⟨b, o + y * 5, none⟩ = some (.int .i64 (d.1[y]?.getD id0).1)) := kc
    have HR : Hid (thB d (y : Int) = ((d.1[y]?.getD id0).1 != 0)) := by
      unfold Hid thB kindAt
      rw [decide_eq_true hin, Bool.true_and, Int.toNat_natCast]
      by_cases e : (d.1[y]?.getD id0).1 = 0
      · rw [e]; rfl
      · rw [decide_eq_false e]; symm; simpa using e
    have hyI : (y : Int) < ((d.1.length : Nat) : Int) := hin.2
    rw [decide_eq_true hin] at HIN
    rw [HR.out]
    clear kc hc h hin HR hm2
    generalize (d.1[y]?.getD id0).1 = ky at *
    generalize d.1.length = n at *
    go_enter Try.func97, Try.ntmps97
    go_wp2_with fail
    generalize (w.alloc (.cells #[.slice (some ⟨b, o, none⟩) n c1, .slice a2 n2 c2] 30)) = W0 at *
    refine (HIN.out _).mono ?_
    rintro e w1 ⟨rfl, hb1⟩
    have HB1 : Hid (Below w.heap.size w w1) := HB0.out.trans (hb1.mono HB0.out.size)
    have x0 := (HX.out.later hb1) 0 _ rfl
    have x1 := (HX.out.later hb1) 1 _ rfl
    have k1 := cell_later HB1.out HKC.out
    clear hb1
    go_wp2
    go_ret
    exact ⟨rfl, HB1.out⟩
  · have HR : Hid (thB d x = false) := by unfold Hid thB; rw [decide_eq_false hin]; rfl
    rw [decide_eq_false hin] at HIN
    rw [HR.out]
    clear hc h hin HR hm2
    generalize d.1.length = n at *
    go_enter Try.func97, Try.ntmps97
    go_wp2_with fail
    generalize (w.alloc (.cells #[.slice a1 n c1, .slice a2 n2 c2] 30)) = W0 at *
    refine (HIN.out _).mono ?_
    rintro e w1 ⟨rfl, hb1⟩
    have HB1 : Hid (Below w.heap.size w w1) := HB0.out.trans (hb1.mono HB0.out.size)
    clear hb1
    go_wp2
    go_ret
    exact ⟨rfl, HB1.out⟩
theorem th_lost {d : FD} {x : Int} (h : 0 ≤ x) : thB d x = !lostB d.1 x := by
  unfold thB lostB
  by_cases e : x < (d.1.length : Int)
  · rw [decide_eq_true (show 0 ≤ x ∧ x < (d.1.length : Int) from ⟨h, e⟩), decide_eq_false (show ¬ (d.1.length : Int) ≤ x by omega)]
    simp
  · rw [decide_eq_false (show ¬ (0 ≤ x ∧ x < (d.1.length : Int)) from fun hh => e hh.2), decide_eq_true (show (d.1.length : Int) ≤ x by omega)]
    simp

/-- What is wrong of data and blocks. -/
def dataF (d : FD) : Int := if d.2.length = 20 then (if fstNZ (manyF d.2) d.2.length = 0 then (if onceB d.1 20 then 0 else 7) else fstNZ (manyF d.2) d.2.length) else 1

set_option maxHeartbeats 3200000 in
theorem dataFault_any (w : World) (aI : Option Addr) (nI cI : Nat) (aD : Option Addr) (nD cD : Nat) (d : FD) (h : FsR w (.slice aI nI cI) (.slice aD nD cD) d) (hs : sizeInos d.1 ≤ 1048576) (hi : insF d.1 = 0) :
    Calls Try.prog 72 #[.agg #[.slice aI nI cI, .slice aD nD cD]] w fun e w' => e = .returned (.int .i64 (dataF d)) ∧ Below w.heap.size w w' := by
  have HNE : Hid (∀ W, Below w.heap.size w W → Calls Try.prog 95 #[.slice aI nI cI] W fun e w' => e = .returned (.agg (arrC fun i => cntB d.1 (i : Int))) ∧ Below W.heap.size W w') := fun W hW => needsOf_any (h.1.later hW) hs hi
  have HM : Hid (∀ W, Calls Try.prog 96 #[.agg (arrC fun i => cntB d.1 (i : Int))] W fun e w' => e = .returned (.bool (!onceB d.1 20)) ∧ Below W.heap.size W w') := fun W => by
    rw [← manyB_once]
    exact anyOfTwo_any W _ (fun i => by have := cntB_le d.1 hs (i : Int); omega)
  have HX : Hid (Bx (w.alloc (.cells #[.slice aI nI cI, .slice aD nD cD] 30)) w.heap.size [.slice aI nI cI, .slice aD nD cD]) := Bx.new w [.slice aI nI cI, .slice aD nD cD] _
  have HDF : Hid (dataF d = if d.2.length = 20 then (if fstNZ (manyF d.2) d.2.length = 0 then (if onceB d.1 20 then 0 else 7) else fstNZ (manyF d.2) d.2.length) else 1) := rfl
  obtain ⟨_, _, e2, hm2, hc⟩ := h.2.open'
  simp only [Value.slice.injEq] at e2
  obtain ⟨rfl, rfl, rfl⟩ := e2
  by_cases h20 : d.2.length = 20
  rotate_left
  · have hb : ((d.2.length : Int) != 20) = true := by simp; omega
    have HR : Hid (dataF d = 1) := by unfold Hid; rw [HDF.out, if_neg h20]
    clear hc h HDF hm2 h20
    generalize d.2.length = n at *
    go_enter Try.func72, Try.ntmps72
    go_wp2
    go_ret
    exact ⟨ret_int HR.out.symm, later1 _ _⟩
  · have HC : Hid (AtYs w aD 20 d.2) := by unfold Hid; rw [← h20]; exact hc
    have HL2 : Hid (d.2.length = 20) := h20
    have hb : (((20 : Nat) : Int) != 20) = false := by simp
    clear hc h hm2
    rw [h20] at HX ⊢
    clear h20
    generalize (fun i : Nat => cntB d.1 (i : Int)) = g at *
    go_enter Try.func72, Try.ntmps72
    go_wp2
    go_loopw [12] (fun i wr => ∃ j : Nat, j ≤ 20 ∧ i = .int .i64 j ∧ wr = w.alloc (.cells #[.slice aI nI cI, .slice aD 20 cD] 30) ∧ ∀ i : Nat, i < j → manyF d.2 i = 0) (fun i _ => 20 - (intOf i).toNat)
    case atStart => exact ⟨0, by omega, rfl, rfl, fun i hi => by omega⟩
    case round =>
      obtain ⟨j, hj, rfl, rfl, hz⟩ := hrel
      have HZ : Hid (∀ i : Nat, i < j → manyF d.2 i = 0) := hz
      clear hz
      by_cases hlt : j < 20
      · obtain ⟨bD, oD, ua, uc, rfl, d0, _⟩ := HC.out j hlt
        replace d0 := cell_later (later1 w (.cells #[.slice aI nI cI, .slice (some ⟨bD, oD, none⟩) 20 cD] 30)) d0
        by_cases h8 : 8 < (d.2[j]?.getD []).length
        · have hb8 : decide ((8 : Int) < (((d.2[j]?.getD []).length : Nat) : Int)) = true := by simp; omega
          have HR : Hid (dataF d = 2) := by
            have e1 : manyF d.2 j = 2 := by unfold manyF; rw [if_pos h8]
            have e2 := fstNZ_at (f := manyF d.2) HZ.out (by rw [e1]; omega) (n := d.2.length) (by rw [HL2.out]; exact hlt)
            unfold Hid; rw [HDF.out, if_pos HL2.out, e2, e1]; simp
          clear h8
          generalize (d.2[j]?.getD []).length = ln at *
          go_wp2
          go_ret
          exact ⟨ret_int HR.out.symm, later1 _ _⟩
        · have hb8 : decide ((8 : Int) < (((d.2[j]?.getD []).length : Nat) : Int)) = false := by simp; omega
          have HR : Hid (∀ i : Nat, i < j + 1 → manyF d.2 i = 0) := fun i hi => by
            by_cases e : i = j
            · subst e; unfold manyF; rw [if_neg h8]
            · exact HZ.out i (by omega)
          clear h8
          generalize (d.2[j]?.getD []).length = ln at *
          go_wp2
          go_roundw
          case rel => exact ⟨j + 1, by omega, by go_num, by first | rfl | trivial, HR.out⟩
          case measure => simp [intOf]; omega
      · have HR : Hid (dataF d = if onceB d.1 20 then 0 else 7) := by
          have e2 := fstNZ_zero (f := manyF d.2) (n := d.2.length) (fun i hi => HZ.out i (by rw [HL2.out] at hi; omega))
          unfold Hid; rw [HDF.out, if_pos HL2.out, e2]; simp
        clear HZ HC HL2 HDF
        generalize onceB d.1 20 = bo at *
        cases bo
        all_goals
          go_wp2_with fail
          refine (HNE.out _ (later1 _ _)).mono ?_
          rintro e w1 ⟨rfl, hb1⟩
          have HB1 : Hid (Below w.heap.size w w1) := (later1 _ _).trans (hb1.mono (by simp))
          clear hb1
          go_wp2_with fail
          refine (HM.out _).mono ?_
          rintro e w2 ⟨rfl, hb2⟩
          have HB2 : Hid (Below w.heap.size w w2) := HB1.out.trans (hb2.mono HB1.out.size)
          clear hb2
          go_wp2
          go_ret
          exact ⟨ret_int HR.out.symm, HB2.out⟩

set_option maxHeartbeats 6400000 in
theorem entriesFault_any (w : World) (aI : Option Addr) (nI cI : Nat) (aD : Option Addr) (nD cD : Nat) (d : FD) (h : FsR w (.slice aI nI cI) (.slice aD nD cD) d) (hs : sizeInos d.1 ≤ 1048576) (hi : insF d.1 = 0) :
    Calls Try.prog 73 #[.agg #[.slice aI nI cI, .slice aD nD cD]] w fun e w' => e = .returned (.int .i64 (lostF d.1)) ∧ Below w.heap.size w w' := by
  have HX : Hid (Bx (w.alloc (.cells #[.slice aI nI cI, .slice aD nD cD] 30)) w.heap.size [.slice aI nI cI, .slice aD nD cD]) := Bx.new w [.slice aI nI cI, .slice aD nD cD] _
  obtain ⟨_, _, e2, hm2, hc⟩ := h.1.open'
  simp only [Value.slice.injEq] at e2
  obtain ⟨rfl, rfl, rfl⟩ := e2
  have HC : Hid (AtI w aI d.1.length d.1) := hc
  have HPOS : Hid (∀ j, j < d.1.length → ∀ k, k < (d.1[j]?.getD id0).2.2.2.2.length → 0 ≤ ((d.1[j]?.getD id0).2.2.2.2[k]?.getD en0).2) := fun j hj => ino_ent (ins_ino hi j hj)
  have HZ : Hid (∀ j, (d.1[j]?.getD id0).2.2.2.2.length ≤ 1048576) := fun j => by
    have := isz_le d.1 j
    have hd : sizeIno (d.1[j]?.getD id0) = (d.1[j]?.getD id0).2.2.2.1.length + ((d.1[j]?.getD id0).2.2.2.2.length + (nlens (d.1[j]?.getD id0).2.2.2.2).sum) := rfl
    unfold sizeInos at hs
    omega
  have HIN : Hid (∀ W x, 0 ≤ x → Below w.heap.size w W → Calls Try.prog 97 #[.agg #[.slice aI d.1.length cI, .slice aD nD cD], .int .i64 x] W fun e w' => e = .returned (.bool (!lostB d.1 x)) ∧ Below W.heap.size W w') := fun W x hx hW => by
    have := isThere_any W aI _ cI aD nD cD d x (h.later hW)
    rw [th_lost hx] at this
    exact this
  have hn : d.1.length ≤ 1048576 := by unfold sizeInos at hs; omega
  clear hc h hs hi hm2
  obtain ⟨n, hnn⟩ : ∃ n, d.1.length = n := ⟨_, rfl⟩
  have HN : Hid (d.1.length = n) := hnn
  rw [hnn] at HC HPOS HX HIN hn ⊢
  clear hnn
  go_enter Try.func73, Try.ntmps73
  go_wp2
  go_loopw [10] (fun i wr => ∃ j : Nat, j ≤ n ∧ i = .int .i64 j ∧ Below (w.heap.size + 1) (w.alloc (.cells #[.slice aI n cI, .slice aD nD cD] 30)) wr ∧ ∀ j', j' < j → ∀ k, k < (d.1[j']?.getD id0).2.2.2.2.length → lostB d.1 ((d.1[j']?.getD id0).2.2.2.2[k]?.getD en0).2 = false) (fun i _ => n - (intOf i).toNat)
  case atStart => exact ⟨0, Nat.zero_le _, rfl, Below.refl _ _, fun j hj => by omega⟩
  case round =>
    obtain ⟨j, hj, rfl, hbl, hz⟩ := hrel
    have HZJ0 : Hid (∀ j', j' < j → ∀ k, k < (d.1[j']?.getD id0).2.2.2.2.length → lostB d.1 ((d.1[j']?.getD id0).2.2.2.2[k]?.getD en0).2 = false) := hz
    have HBL : Hid (Below (w.heap.size + 1) (w.alloc (.cells #[.slice aI n cI, .slice aD nD cD] 30)) wr) := hbl
    have HBW : Hid (Below w.heap.size w wr) := (later1 _ _).trans (hbl.mono (by omega))
    have hwz : w.heap.size + 1 ≤ wr.heap.size := by have := hbl.size; simpa using this
    clear hbl hz
    by_cases hlt : j < n
    · obtain ⟨b, o, rfl, hI⟩ := HC.out j hlt
      obtain ⟨aB, cB, aE, cE, c0, c1, c2, c3, c4, h5⟩ := hI.later HBW.out
      obtain ⟨_, _, e1, hm1, _, hc1⟩ := h5.2.2.open'
      simp only [Value.slice.injEq] at e1
      obtain ⟨rfl, _, rfl⟩ := e1
      have hZ1 := HZ.out j
      have HCB : Hid (AtN wr aE (d.1[j]?.getD id0).2.2.2.2.length (d.1[j]?.getD id0).2.2.2.2) := hc1
      have HP1 : Hid (∀ k, k < (d.1[j]?.getD id0).2.2.2.2.length → 0 ≤ ((d.1[j]?.getD id0).2.2.2.2[k]?.getD en0).2) := HPOS.out j hlt
      have HY : Hid (∀ k, k < (d.1[j]?.getD id0).2.2.2.2.length → lostB d.1 ((d.1[j]?.getD id0).2.2.2.2[k]?.getD en0).2 = true → lostF d.1 = 4) := fun k hk hl => lost_yes (by rw [HN.out]; exact hlt) hk hl
      have HNX : Hid ((∀ k, k < (d.1[j]?.getD id0).2.2.2.2.length → lostB d.1 ((d.1[j]?.getD id0).2.2.2.2[k]?.getD en0).2 = false) → ∀ j', j' < j + 1 → ∀ k, k < (d.1[j']?.getD id0).2.2.2.2.length → lostB d.1 ((d.1[j']?.getD id0).2.2.2.2[k]?.getD en0).2 = false) := fun hh j' hj' k hk => by
        by_cases e : j' = j
        · subst e; exact hh k hk
        · exact HZJ0.out j' (by omega) k hk
      clear h5 hI hc1 hm1
      generalize (d.1[j]?.getD id0) = dj at *
      obtain ⟨dk, dl, dz, db, es⟩ := dj
      dsimp only at *
      generalize db.length = nD2 at *
      obtain ⟨nE, hnE⟩ : ∃ nE, nE = es.length := ⟨_, rfl⟩
      have HNE : Hid (nE = es.length) := hnE
      rw [← hnE] at c4 hZ1 HCB HP1 HY HNX
      clear hnE
      go_wp2
      clear c0 c1 c2 c3 c4
      obtain ⟨wo, rfl⟩ : ∃ wo, wo = wr := ⟨_, rfl⟩
      go_loopw [17] (fun i wr2 => ∃ k : Nat, k ≤ nE ∧ i = .int .i64 k ∧ Below wo.heap.size wo wr2 ∧ ∀ k', k' < k → lostB d.1 (es[k']?.getD en0).2 = false) (fun i _ => nE - (intOf i).toNat)
      case atStart => exact ⟨0, Nat.zero_le _, rfl, later1 _ _, fun k hk => by omega⟩
      case round =>
        obtain ⟨k, hk, rfl, hbl2, hz2⟩ := hrel
        have HB2 : Hid (Below wo.heap.size wo wr) := hbl2
        have HZ2 : Hid (∀ k', k' < k → lostB d.1 (es[k']?.getD en0).2 = false) := hz2
        have HBW2 : Hid (Below w.heap.size w wr) := HBW.out.trans (hbl2.mono HBW.out.size)
        have HBX2 : Hid (Bx wr w.heap.size [.slice (some ⟨b, o, none⟩) n cI, .slice aD nD cD]) := fun i v hv => by
          have h1 := HX.out i v hv
          have h2 := (HBL.out.trans (hbl2.mono (by simpa using hwz))).block w.heap.size (by omega)
          simp only [World.cell?] at h1 ⊢
          rw [h2]; exact h1
        clear hbl2 hz2
        by_cases hlk : k < nE
        · obtain ⟨b1, o1, rfl, d0, d1⟩ := HCB.out k hlk
          replace d0 := cell_later HB2.out d0
          replace d1 := cell_later HB2.out d1
          have hx0 := HP1.out k hlk
          have HYK : Hid (lostB d.1 (es[k]?.getD en0).2 = true → lostF d.1 = 4) := HY.out k hlk
          have HNK : Hid (lostB d.1 (es[k]?.getD en0).2 = false → ∀ k', k' < k + 1 → lostB d.1 (es[k']?.getD en0).2 = false) := fun hh k' hk' => by
            by_cases e : k' = k
            · subst e; exact hh
            · exact HZ2.out k' (by omega)
          generalize (es[k]?.getD en0).1 = nm at *
          generalize (es[k]?.getD en0).2 = x at *
          have q0 := HBX2.out 0 _ rfl
          have q1 := HBX2.out 1 _ rfl
          have qlt := HBX2.out.lt
          have hQA : ∀ W, Below wr.heap.size wr W → Bx W w.heap.size [.slice (some ⟨b, o, none⟩) n cI, .slice aD nD cD] := fun W hW => HBX2.out.later hW
          have HQA : Hid (∀ W, Below wr.heap.size wr W → Bx W w.heap.size [.slice (some ⟨b, o, none⟩) n cI, .slice aD nD cD]) := hQA
          clear hQA
          have HTH : Hid (Calls Try.prog 97 #[.agg #[.slice (some ⟨b, o, none⟩) n cI, .slice aD nD cD], .int .i64 x] (wr.alloc (.cells #[.string nm, .int .i64 x] 111)) fun e w' => e = .returned (.bool (!lostB d.1 x)) ∧ Below (wr.alloc (.cells #[.string nm, .int .i64 x] 111)).heap.size (wr.alloc (.cells #[.string nm, .int .i64 x] 111)) w') := HIN.out _ x hx0 (HBW2.out.trans ((later1 _ _).mono HBW2.out.size))
          clear hx0 HIN HQA
          cases hl : lostB d.1 x with
          | true =>
            rw [hl] at HTH HYK
            have HR : Hid (lostF d.1 = 4) := HYK.out rfl
            clear hl HYK HNK
            go_wp2_with fail
            refine HTH.out.mono ?_
            rintro e w1 ⟨rfl, hb1⟩
            have HBWW : Hid (Below w.heap.size w w1) := HBW2.out.trans (((later1 _ _).trans (hb1.mono (by simp))).mono HBW2.out.size)
            clear hb1 q0 q1 d0 d1 HTH
            go_wp2
            go_ret
            exact ⟨ret_int HR.out.symm, HBWW.out⟩
          | false =>
            rw [hl] at HTH HNK
            have HR : Hid (∀ k', k' < k + 1 → lostB d.1 (es[k']?.getD en0).2 = false) := HNK.out rfl
            clear hl HYK HNK
            go_wp2_with fail
            refine HTH.out.mono ?_
            rintro e w1 ⟨rfl, hb1⟩
            have HBW1 : Hid (Below wr.heap.size wr w1) := (later1 _ _).trans (hb1.mono (by simp))
            clear hb1 q0 q1 d0 d1 HTH
            go_wp2
            go_roundw
            case rel => exact ⟨k + 1, by omega, by go_num, HB2.out.trans (HBW1.out.mono HB2.out.size), HR.out⟩
            case measure => simp [intOf]; omega
        · have HR : Hid (∀ j', j' < j + 1 → ∀ k, k < (d.1[j']?.getD id0).2.2.2.2.length → lostB d.1 ((d.1[j']?.getD id0).2.2.2.2[k]?.getD en0).2 = false) := HNX.out fun k' hk' => HZ2.out k' (by omega)
          go_wp2
          go_roundw
          case rel => exact ⟨j + 1, by omega, by go_num, HBL.out.trans (HB2.out.mono (by simpa using hwz)), HR.out⟩
          case measure => simp [intOf]; omega
    · have HR : Hid (lostF d.1 = 0) := lost_no fun j' hj' => HZJ0.out j' (by rw [HN.out] at hj'; omega)
      go_wp2
      go_ret
      exact ⟨ret_int HR.out.symm, HBW.out⟩
end Go.Proofs.Ytjabimfinanjoaa

/- A file system in memory of its own, of which places turn. No program is named here. The specification: what is wrong of inodes, data and entries of a file system. The specification: what is wrong of inodes, data and entries of a file system, the rest. A list of a row of lists is put in the place of another: what the row is behind it. What a flush or a crash keeps. No program is named here. The walks of NewDisk, the program's and the specification's. The walks of the program's rack: lists that are set one by one. The walks of the program's drive: a cache of pointers that grows. The walk of the program's drive.disk: the cache of pointers becomes a list of puts. The walk of the specification's copying of a disk. The walk of the specification's keeping of what is picked. Rows that grow by append: where the row lies behind it; and rows told otherwise. The walks of DiskFault, the specification's and the program's. The walks of the specification's look at a block. -/
import Derived.Test.YtjabimfinanjoaaGreatM09
import Derived.Test.YtjabimfinanjoaaGreatM05
import Derived.Test.YtjabimfinanjoaaGreatM07
import Derived.Test.YtjabimfinanjoaaGreatM00
import Derived.Test.YtjabimfinanjoaaGreatM06
import Derived.Test.YtjabimfinanjoaaGreatRows
import Derived.Test.YtjabimfinanjoaaGreatM01
import Derived.Test.YtjabimfinanjoaaGreatM02
import Derived.Deep.RegionWith
import Derived.Deep.RegionLaw
import Derived.Deep.AppendLies
import Derived.Test.YtjabimfinanjoaaGreatM04
import Derived.Deep.RegionHeld3
namespace Go.Proofs.YtjabimfinanjoaaGreat
open Go.RowKit
set_option maxRecDepth 100000

theorem set_getD {α : Type} (l : List α) (j : Nat) (x z : α) (i : Nat) (hj : j < l.length) : (l.set j x)[i]?.getD z = if i = j then x else l[i]?.getD z := by
  rw [List.getElem?_set]
  by_cases e : i = j
  · subst e; simp [hj]
  · rw [if_neg (fun h => e h.symm), if_neg e]

/-- Lists of bytes stand in the row at block b. -/
structure YsS (w : World) (b n cap : Nat) (zss : List (List UInt8)) (F : Nat → Prop) : Prop where
  len : zss.length = n
  max : n ≤ maxLen ∧ n ≤ cap
  own : ∃ (u : Nat → Value) (G : Nat → Nat → Prop), F b ∧ (∀ i c, G i c → F c ∧ c ≠ b) ∧ (∀ i j c, i ≠ j → G i c → ¬ G j c) ∧ OwnRow w b n u ∧ ∀ i, i < n → BytO w (u i) (zss[i]?.getD []) (G i)
theorem YsS.byts {w : World} {b n cap : Nat} {zss : List (List UInt8)} {F : Nat → Prop} (h : YsS w b n cap zss F) : BytsO w (.slice (some ⟨b, 0, none⟩) n cap) zss F := by
  obtain ⟨rfl, hm, u, G, h1, h2, h3, h4, h5⟩ := h
  exact Or.inr ⟨b, cap, u, G, h1, h2, h3, rfl, hm, h4, h5⟩
theorem YsS.of {w : World} {v : Value} {zss : List (List UInt8)} {F : Nat → Prop} (h : BytsO w v zss F) (h0 : 0 < zss.length) : ∃ b cap, v = .slice (some ⟨b, 0, none⟩) zss.length cap ∧ YsS w b zss.length cap zss F := by
  rcases h with ⟨rfl, _⟩ | ⟨b, cap, u, G, hF, hG, hGG, h1, h2, h3, h4⟩
  · simp at h0
  · exact ⟨b, cap, h1, rfl, h2, u, G, hF, hG, hGG, h3, h4⟩
theorem YsS.keep {w w' : World} {b n cap : Nat} {zss : List (List UInt8)} {F : Nat → Prop} (h : YsS w b n cap zss F) (e : ∀ c, F c → c < w.heap.size → w'.heap[c]? = w.heap[c]?) : YsS w' b n cap zss F := by
  obtain ⟨h0, hm, u, G, h1, h2, h3, h4, h5⟩ := h
  exact ⟨h0, hm, u, G, h1, h2, h3, h4.block (e b h1 h4.lt), fun i hi => (h5 i hi).keep fun c hc => e c (h2 i c hc).1⟩
theorem YsS.mono {w : World} {b n cap : Nat} {zss : List (List UInt8)} {F F' : Nat → Prop} (h : YsS w b n cap zss F) (e : ∀ c, F c → F' c) : YsS w b n cap zss F' := by
  obtain ⟨h0, hm, u, G, h1, h2, h3, h4, h5⟩ := h
  exact ⟨h0, hm, u, G, e b h1, fun i c hc => ⟨e c (h2 i c hc).1, (h2 i c hc).2⟩, h3, h4, h5⟩
theorem YsS.bound {w : World} {b n cap : Nat} {zss : List (List UInt8)} {F : Nat → Prop} (h : YsS w b n cap zss F) : YsS w b n cap zss (fun c => F c ∧ c < w.heap.size) := by
  obtain ⟨h0, hm, u, G, h1, h2, h3, h4, h5⟩ := h
  exact ⟨h0, hm, u, fun i c => G i c ∧ c < w.heap.size, ⟨h1, h4.lt⟩, fun i c hc => ⟨⟨(h2 i c hc.1).1, hc.2⟩, (h2 i c hc.1).2⟩, fun i j c e hc hc' => h3 i j c e hc.1 hc'.1, h4, fun i hi => (h5 i hi).bound⟩
theorem YsS.cell {w : World} {b n cap : Nat} {zss : List (List UInt8)} {F : Nat → Prop} (h : YsS w b n cap zss F) (y : Nat) (hy : y < n) : ∃ ua uc, w.cell? ⟨b, y, none⟩ = some (.slice ua (zss[y]?.getD []).length uc) ∧ w.frozen? ⟨b, y, none⟩ = false ∧ Byt w (.slice ua (zss[y]?.getD []).length uc) (zss[y]?.getD []) := by
  obtain ⟨h0, hm, u, G, h1, h2, h3, h4, h5⟩ := h
  obtain ⟨ua, uc, e, h6, h7⟩ := (h5 y hy).reads
  have := h4.cell hy
  rw [e] at this
  exact ⟨ua, uc, this, h4.frozen y, ua, uc, rfl, h6, h7⟩
/-- One list turns. -/
theorem YsS.put {w W : World} {b n cap : Nat} {zss : List (List UInt8)} {F G' : Nat → Prop} (h : YsS w b n cap zss F) (y : Nat) (hy : y < n) (hk : ∀ c, F c → c < w.heap.size → W.heap[c]? = w.heap[c]?) (v : Value) (zs : List UInt8) (hv : BytO W v zs G') (hG : ∀ c, G' c → w.heap.size ≤ c ∧ ¬ c = b) :
    YsS (W.setCell ⟨b, y, none⟩ v) b n cap (zss.set y zs) (fun c => F c ∨ G' c) := by
  obtain ⟨h0, hm, u, G, h1, h2, h3, h4, h5⟩ := h.bound
  refine ⟨by simpa using h0, hm, fun i => if i = y then v else u i, fun i c => if i = y then G' c else G i c, Or.inl h1.1, fun i c hc => ?_, fun i j c e hc hc' => ?_, ((h4.block (hk b h1.1 h1.2)).set y v).congr fun i _ => rfl, fun i hi => ?_⟩
  · by_cases e : i = y
    · simp only [e, if_true] at hc
      exact ⟨Or.inr hc, (hG c hc).2⟩
    · simp only [e, if_false] at hc
      exact ⟨Or.inl (h2 i c hc).1.1, (h2 i c hc).2⟩
  · by_cases ei : i = y
    · have ej : ¬ j = y := fun ej => e (ei.trans ej.symm)
      simp only [ei, ej, if_true, if_false] at hc hc'
      have := (h2 j c hc').1.2
      have := (hG c hc).1
      omega
    · by_cases ej : j = y
      · simp only [ei, ej, if_true, if_false] at hc hc'
        have := (h2 i c hc).1.2
        have := (hG c hc').1
        omega
      · simp only [ei, ej, if_false] at hc hc'
        exact h3 i j c e hc hc'
  · rw [set_getD _ _ _ _ _ (by omega)]
    by_cases e : i = y
    · simp only [e, if_true]
      exact hv.keep fun c hc _ => Below.heap_setCell _ _ _ _ (hG c hc).2
    · simp only [e, if_false]
      exact ((h5 i hi).keep fun c hc hlt => hk c (h2 i c hc).1.1 hlt).keep fun c hc _ => Below.heap_setCell _ _ _ _ (h2 i c hc).2

/-- Inodes stand in the row at block b. -/
structure InS (w : World) (b n cap : Nat) (ds : List ID) (F : Nat → Prop) : Prop where
  len : ds.length = n
  max : n ≤ maxLen ∧ n ≤ cap
  own : ∃ (u : Nat → Value × Value) (G : Nat → Nat → Prop), F b ∧ (∀ i c, G i c → F c ∧ c ≠ b) ∧ (∀ i j c, i ≠ j → G i c → ¬ G j c) ∧ OwnRow w b (n * 5) (inCell ds u) ∧
    ∀ i, i < n → InoU w (.int .i64 (ds[i]?.getD id0).1) (.int .i64 (ds[i]?.getD id0).2.1) (.int .i64 (ds[i]?.getD id0).2.2.1) (u i).1 (u i).2 (ds[i]?.getD id0) (G i)
theorem InS.inos {w : World} {b n cap : Nat} {ds : List ID} {F : Nat → Prop} (h : InS w b n cap ds F) : InosO w (.slice (some ⟨b, 0, none⟩) n cap) ds F := by
  obtain ⟨rfl, hm, u, G, h1, h2, h3, h4, h5⟩ := h
  exact Or.inr ⟨b, cap, u, G, h1, h2, h3, rfl, hm, h4, h5⟩
theorem InS.of {w : World} {v : Value} {ds : List ID} {F : Nat → Prop} (h : InosO w v ds F) (h0 : 0 < ds.length) : ∃ b cap, v = .slice (some ⟨b, 0, none⟩) ds.length cap ∧ InS w b ds.length cap ds F := by
  rcases h with ⟨rfl, _⟩ | ⟨b, cap, u, G, hF, hG, hGG, h1, h2, h3, h4⟩
  · simp at h0
  · exact ⟨b, cap, h1, rfl, h2, u, G, hF, hG, hGG, h3, h4⟩
theorem InS.keep {w w' : World} {b n cap : Nat} {ds : List ID} {F : Nat → Prop} (h : InS w b n cap ds F) (e : ∀ c, F c → c < w.heap.size → w'.heap[c]? = w.heap[c]?) : InS w' b n cap ds F := by
  obtain ⟨h0, hm, u, G, h1, h2, h3, h4, h5⟩ := h
  exact ⟨h0, hm, u, G, h1, h2, h3, h4.block (e b h1 h4.lt), fun i hi => (h5 i hi).keep fun c hc => e c (h2 i c hc).1⟩
theorem InS.mono {w : World} {b n cap : Nat} {ds : List ID} {F F' : Nat → Prop} (h : InS w b n cap ds F) (e : ∀ c, F c → F' c) : InS w b n cap ds F' := by
  obtain ⟨h0, hm, u, G, h1, h2, h3, h4, h5⟩ := h
  exact ⟨h0, hm, u, G, e b h1, fun i c hc => ⟨e c (h2 i c hc).1, (h2 i c hc).2⟩, h3, h4, h5⟩
theorem InS.bound {w : World} {b n cap : Nat} {ds : List ID} {F : Nat → Prop} (h : InS w b n cap ds F) : InS w b n cap ds (fun c => F c ∧ c < w.heap.size) := by
  obtain ⟨h0, hm, u, G, h1, h2, h3, h4, h5⟩ := h
  exact ⟨h0, hm, u, fun i c => G i c ∧ c < w.heap.size, ⟨h1, h4.lt⟩, fun i c hc => ⟨⟨(h2 i c hc.1).1, hc.2⟩, (h2 i c hc.1).2⟩, fun i j c e hc hc' => h3 i j c e hc.1 hc'.1, h4, fun i hi => (h5 i hi).bound⟩
/-- What lies at place j: its cells, and its blocks, each in memory of F and none of it the row. -/
theorem InS.at' {w : World} {b n cap : Nat} {ds : List ID} {F : Nat → Prop} (h : InS w b n cap ds F) (j : Nat) (hj : j < n) : ∃ aB cB aE cE,
    w.cell? ⟨b, j * 5, none⟩ = some (.int .i64 (ds[j]?.getD id0).1) ∧ w.cell? ⟨b, j * 5 + 1, none⟩ = some (.int .i64 (ds[j]?.getD id0).2.1) ∧ w.cell? ⟨b, j * 5 + 2, none⟩ = some (.int .i64 (ds[j]?.getD id0).2.2.1) ∧
    w.cell? ⟨b, j * 5 + 3, none⟩ = some (.slice aB (ds[j]?.getD id0).2.2.2.1.length cB) ∧ w.cell? ⟨b, j * 5 + 4, none⟩ = some (.slice aE (ds[j]?.getD id0).2.2.2.2.length cE) ∧
    ((ds[j]?.getD id0).2.2.2.1.length ≤ cB) ∧ (∀ i, w.frozen? ⟨b, i, none⟩ = false) ∧ b < w.heap.size ∧
    (∀ k, k < (ds[j]?.getD id0).2.2.2.1.length → ∃ b1, aB = some ⟨b1, 0, none⟩ ∧ F b1 ∧ b1 ≠ b ∧ b1 < w.heap.size ∧ w.cell? ⟨b1, k, none⟩ = some (.int .i64 ((ds[j]?.getD id0).2.2.2.1[k]?.getD 0))) ∧
    InoR w (.int .i64 (ds[j]?.getD id0).1) (.int .i64 (ds[j]?.getD id0).2.1) (.int .i64 (ds[j]?.getD id0).2.2.1) (.slice aB (ds[j]?.getD id0).2.2.2.1.length cB) (.slice aE (ds[j]?.getD id0).2.2.2.2.length cE) (ds[j]?.getD id0) := by
  obtain ⟨h0, hm, u, G, h1, h2, h3, h4, h5⟩ := h
  have hu := h5 j hj
  obtain ⟨aB, cB, eB, _, _⟩ := hu.reads.2.1.open'
  obtain ⟨aE, cE, eE, _, _⟩ := hu.reads.2.2.open'
  have e0 := h4.cell (i := j * 5) (by omega)
  have e1 := h4.cell (i := j * 5 + 1) (by omega)
  have e2 := h4.cell (i := j * 5 + 2) (by omega)
  have e3 := h4.cell (i := j * 5 + 3) (by omega)
  have e4 := h4.cell (i := j * 5 + 4) (by omega)
  rw [inCell_0] at e0
  rw [inCell_1] at e1
  rw [inCell_2] at e2
  rw [inCell_3, eB] at e3
  rw [inCell_4, eE] at e4
  have hr := hu.reads
  rw [eB, eE] at hr
  refine ⟨aB, cB, aE, cE, e0, e1, e2, e3, e4, ?_, h4.frozen, h4.lt, fun k hk => ?_, hr⟩
  · obtain ⟨_, _, _, e, hle⟩ := hr.1.2.2.2
    simp only [Value.slice.injEq] at e
    obtain ⟨_, rfl, rfl⟩ := e
    exact hle
  · obtain ⟨_, F1, G1, hI, _, _, hf⟩ := hu
    rcases hI with ⟨hI, _⟩ | ⟨b1, cap1, hF1, hv, hl, hr1⟩
    · rw [hI] at hk; simp at hk
    · rw [eB] at hv
      simp only [Value.slice.injEq] at hv
      obtain ⟨rfl, _, rfl⟩ := hv
      have := h2 j b1 (hf b1 (Or.inl hF1))
      exact ⟨b1, rfl, this.1, this.2, hr1.lt, hr1.cell hk⟩
/-- One inode turns. -/
theorem InS.put {w W : World} {b n cap : Nat} {ds : List ID} {F G' : Nat → Prop} (h : InS w b n cap ds F) (j : Nat) (_hj : j < n) (d' : ID) (vB vE : Value)
    (hrow : ∀ u, OwnRow w b (n * 5) (inCell ds u) → OwnRow W b (n * 5) (inCell (ds.set j d') (fun i => if i = j then (vB, vE) else u i)))
    (hk : ∀ c, F c → c ≠ b → c < w.heap.size → W.heap[c]? = w.heap[c]?) (hv : InoU W (.int .i64 d'.1) (.int .i64 d'.2.1) (.int .i64 d'.2.2.1) vB vE d' G') (hG : ∀ c, G' c → ¬ F c ∧ c ≠ b) :
    InS W b n cap (ds.set j d') (fun c => F c ∨ G' c) := by
  obtain ⟨h0, hm, u, G, h1, h2, h3, h4, h5⟩ := h
  refine ⟨by simpa using h0, hm, fun i => if i = j then (vB, vE) else u i, fun i c => if i = j then G' c else G i c, Or.inl h1, fun i c hc => ?_, fun i k c e hc hc' => ?_, hrow u h4, fun i hi => ?_⟩
  · by_cases e : i = j
    · simp only [e, if_true] at hc
      exact ⟨Or.inr hc, (hG c hc).2⟩
    · simp only [e, if_false] at hc
      exact ⟨Or.inl (h2 i c hc).1, (h2 i c hc).2⟩
  · by_cases ei : i = j
    · have ej : ¬ k = j := fun ej => e (ei.trans ej.symm)
      simp only [ei, ej, if_true, if_false] at hc hc'
      exact (hG c hc).1 (h2 k c hc').1
    · by_cases ej : k = j
      · simp only [ei, ej, if_true, if_false] at hc hc'
        exact (hG c hc').1 (h2 i c hc).1
      · simp only [ei, ej, if_false] at hc hc'
        exact h3 i k c e hc hc'
  · rw [set_getD _ _ _ _ _ (by omega)]
    by_cases e : i = j
    · simp only [e, if_true]
      exact hv
    · simp only [e, if_false]
      exact (h5 i hi).keep fun c hc hlt => hk c (h2 i c hc).1 (h2 i c hc).2 hlt

/-- How the row's cells turn where an inode does. -/
theorem inCell_set (ds : List ID) (u : Nat → Value × Value) (j : Nat) (hj : j < ds.length) (d' : ID) (vB vE : Value) (c : Nat) :
    inCell (ds.set j d') (fun i => if i = j then (vB, vE) else u i) c = if c = j * 5 then .int .i64 d'.1 else if c = j * 5 + 1 then .int .i64 d'.2.1 else if c = j * 5 + 2 then .int .i64 d'.2.2.1 else if c = j * 5 + 3 then vB else if c = j * 5 + 4 then vE else inCell ds u c := by
  unfold inCell
  dsimp only
  rw [set_getD _ _ _ _ _ hj]
  by_cases e : c / 5 = j
  · have : c % 5 = 0 ∨ c % 5 = 1 ∨ c % 5 = 2 ∨ c % 5 = 3 ∨ c % 5 = 4 := by omega
    rcases this with h | h | h | h | h
    · rw [if_pos e, if_pos h, if_pos (by omega)]
    · rw [if_pos e, if_neg (by omega), if_pos h, if_neg (by omega), if_pos (by omega)]
    · rw [if_pos e, if_neg (by omega), if_neg (by omega), if_pos h, if_neg (by omega), if_neg (by omega), if_pos (by omega)]
    · rw [if_neg (by omega), if_neg (by omega), if_neg (by omega), if_pos h, if_pos e, if_neg (by omega), if_neg (by omega), if_neg (by omega), if_pos (by omega)]
    · rw [if_neg (by omega), if_neg (by omega), if_neg (by omega), if_neg (by omega), if_pos e, if_neg (by omega), if_neg (by omega), if_neg (by omega), if_neg (by omega), if_pos (by omega)]
  · rw [if_neg e, if_neg e, if_neg (show ¬ c = j * 5 by omega), if_neg (show ¬ c = j * 5 + 1 by omega), if_neg (show ¬ c = j * 5 + 2 by omega), if_neg (show ¬ c = j * 5 + 3 by omega), if_neg (show ¬ c = j * 5 + 4 by omega)]

/-- A file system whose two rows stand at blocks bI and bD. -/
structure FsS (w : World) (bI n cI bD m cD : Nat) (d : FD) (F : Nat → Prop) : Prop where
  own : ∃ F1 G1 : Nat → Prop, InS w bI n cI d.1 F1 ∧ YsS w bD m cD d.2 G1 ∧ (∀ b, F1 b → ¬ G1 b) ∧ ∀ b, F1 b ∨ G1 b → F b ∧ b < w.heap.size
theorem FsS.fs {w : World} {bI n cI bD m cD : Nat} {d : FD} {F : Nat → Prop} (h : FsS w bI n cI bD m cD d F) : FsU w (.slice (some ⟨bI, 0, none⟩) n cI) (.slice (some ⟨bD, 0, none⟩) m cD) d F := by
  obtain ⟨F1, G1, h1, h2, h3, h4⟩ := h
  exact ⟨F1, G1, h1.inos, h2.byts, h3, fun b hb => (h4 b hb).1⟩
theorem FsS.of {w : World} {v1 v2 : Value} {d : FD} {F : Nat → Prop} (h : FsU w v1 v2 d F) (h1 : 0 < d.1.length) (h2 : 0 < d.2.length) : ∃ bI cI bD cD, v1 = .slice (some ⟨bI, 0, none⟩) d.1.length cI ∧ v2 = .slice (some ⟨bD, 0, none⟩) d.2.length cD ∧ FsS w bI d.1.length cI bD d.2.length cD d F := by
  obtain ⟨F1, G1, i1, i2, i3, i4⟩ := h
  obtain ⟨bI, cI, rfl, k1⟩ := InS.of i1 h1
  obtain ⟨bD, cD, rfl, k2⟩ := YsS.of i2 h2
  exact ⟨bI, cI, bD, cD, rfl, rfl, _, _, k1.bound, k2.bound, fun b hb hb' => i3 b hb.1 hb'.1, fun b hb => by
    rcases hb with hb | hb
    · exact ⟨i4 b (Or.inl hb.1), hb.2⟩
    · exact ⟨i4 b (Or.inr hb.1), hb.2⟩⟩
theorem FsS.later {w w' : World} {bI n cI bD m cD : Nat} {d : FD} {F : Nat → Prop} (h : FsS w bI n cI bD m cD d F) (hb : Below w.heap.size w w') : FsS w' bI n cI bD m cD d F := by
  obtain ⟨F1, G1, h1, h2, h3, h4⟩ := h
  exact ⟨F1, G1, h1.keep fun c _ hlt => hb.block c hlt, h2.keep fun c _ hlt => hb.block c hlt, h3, fun b hb' => ⟨(h4 b hb').1, Nat.lt_of_lt_of_le (h4 b hb').2 hb.size⟩⟩
theorem FsS.mono {w : World} {bI n cI bD m cD : Nat} {d : FD} {F F' : Nat → Prop} (h : FsS w bI n cI bD m cD d F) (e : ∀ c, F c → F' c) : FsS w bI n cI bD m cD d F' := by
  obtain ⟨F1, G1, h1, h2, h3, h4⟩ := h
  exact ⟨F1, G1, h1, h2, h3, fun b hb => ⟨e b (h4 b hb).1, (h4 b hb).2⟩⟩
/-- Stores elsewhere. -/
theorem FsS.chg {w w' : World} {bI n cI bD m cD : Nat} {d : FD} {F G : Nat → Prop} (h : FsS w bI n cI bD m cD d F) (hc : Chg G w w') (hd : ∀ b, F b → ¬ G b) : FsS w' bI n cI bD m cD d F := by
  obtain ⟨F1, G1, h1, h2, h3, h4⟩ := h
  exact ⟨F1, G1, h1.keep fun c hc' hlt => hc.block c hlt (hd c (h4 c (Or.inl hc')).1), h2.keep fun c hc' hlt => hc.block c hlt (hd c (h4 c (Or.inr hc')).1), h3, fun b hb' => ⟨(h4 b hb').1, Nat.lt_of_lt_of_le (h4 b hb').2 hc.size⟩⟩
theorem FsS.len {w : World} {bI n cI bD m cD : Nat} {d : FD} {F : Nat → Prop} (h : FsS w bI n cI bD m cD d F) : d.1.length = n ∧ d.2.length = m := by
  obtain ⟨F1, G1, h1, h2, h3, h4⟩ := h
  exact ⟨h1.len, h2.len⟩
theorem FsS.ne {w : World} {bI n cI bD m cD : Nat} {d : FD} {F : Nat → Prop} (h : FsS w bI n cI bD m cD d F) : bI ≠ bD ∧ (F bI ∧ bI < w.heap.size) ∧ (F bD ∧ bD < w.heap.size) := by
  obtain ⟨F1, G1, h1, h2, h3, h4⟩ := h
  obtain ⟨_, _, u, G, a1, _⟩ := h1
  obtain ⟨_, _, u', G', b1, _⟩ := h2
  exact ⟨fun e => h3 bI a1 (e ▸ b1), h4 _ (Or.inl a1), h4 _ (Or.inr b1)⟩
theorem FsS.data {w : World} {bI n cI bD m cD : Nat} {d : FD} {F : Nat → Prop} (h : FsS w bI n cI bD m cD d F) (y : Nat) (hy : y < m) : ∃ ua uc, w.cell? ⟨bD, y, none⟩ = some (.slice ua (d.2[y]?.getD []).length uc) ∧ w.frozen? ⟨bD, y, none⟩ = false ∧ Byt w (.slice ua (d.2[y]?.getD []).length uc) (d.2[y]?.getD []) := by
  obtain ⟨F1, G1, h1, h2, h3, h4⟩ := h
  exact h2.cell y hy
/-- The bytes of one block turn. -/
theorem FsS.put {w W : World} {bI n cI bD m cD : Nat} {d : FD} {F G : Nat → Prop} (h : FsS w bI n cI bD m cD d F) (y : Nat) (hy : y < m) (hb : Below w.heap.size w W) (v : Value) (zs : List UInt8) (hv : BytO W v zs G) (hG : ∀ c, G c → F c ∧ w.heap.size ≤ c ∧ c < W.heap.size) :
    FsS (W.setCell ⟨bD, y, none⟩ v) bI n cI bD m cD (d.1, d.2.set y zs) F := by
  have hne := h.ne
  obtain ⟨F1, G1, h1, h2, h3, h4⟩ := h
  refine ⟨F1, fun c => G1 c ∨ G c, h1.keep fun c hc hlt => ?_, h2.put y hy (fun c _ hlt => hb.block c hlt) v zs hv (fun c hc => ⟨(hG c hc).2.1, ?_⟩), fun b hb1 hb2 => ?_, fun b hb' => ?_⟩
  · rw [Below.heap_setCell _ _ _ _ (fun e => h3 c hc (by
      obtain ⟨_, _, u', G', b1, _⟩ := h2
      show G1 c
      rw [show c = bD from e]
      exact b1)), hb.block c hlt]
  · have := (hG c hc).2.1
    have := hne.2.2.2
    omega
  · rcases hb2 with hb2 | hb2
    · exact h3 b hb1 hb2
    · have := (h4 b (Or.inl hb1)).2
      have := (hG b hb2).2.1
      omega
  · have hs := hb.size
    have e : (W.setCell ⟨bD, y, none⟩ v).heap.size = W.heap.size := by simp [World.setCell]
    rw [e]
    rcases hb' with hb' | hb' | hb'
    · exact ⟨(h4 b (Or.inl hb')).1, Nat.lt_of_lt_of_le (h4 b (Or.inl hb')).2 hs⟩
    · exact ⟨(h4 b (Or.inr hb')).1, Nat.lt_of_lt_of_le (h4 b (Or.inr hb')).2 hs⟩
    · exact ⟨(hG b hb').1, (hG b hb').2.2⟩
/-- The inode at a place turns: its row is stored into, and its blocks are a list in block kb. -/
theorem FsS.putI {w W : World} {bI n cI bD m cD : Nat} {d : FD} {F G : Nat → Prop} (h : FsS w bI n cI bD m cD d F) (j : Nat) (hj : j < n) (d' : ID) (vB vE : Value)
    (hrow : ∀ u, OwnRow w bI (n * 5) (inCell d.1 u) → OwnRow W bI (n * 5) (inCell (d.1.set j d') (fun i => if i = j then (vB, vE) else u i)))
    (hc : Chg (fun c => c = bI) w W) (hv : InoU W (.int .i64 d'.1) (.int .i64 d'.2.1) (.int .i64 d'.2.2.1) vB vE d' G) (hG : ∀ c, G c → ¬ F c ∧ c < W.heap.size) :
    FsS W bI n cI bD m cD (d.1.set j d', d.2) (fun c => F c ∨ G c) := by
  have hne := h.ne
  obtain ⟨F1, G1, h1, h2, h3, h4⟩ := h
  refine ⟨fun c => F1 c ∨ G c, G1, h1.put j hj d' vB vE hrow (fun c _ hc1 hlt => hc.block c hlt hc1) hv (fun c hc' => ⟨fun h => (hG c hc').1 (h4 c (Or.inl h)).1, fun e => (hG c hc').1 (e ▸ hne.2.1.1)⟩), h2.keep fun c hc' hlt => hc.block c hlt (fun e => ?_), fun b hb1 hb2 => ?_, fun b hb' => ?_⟩
  · obtain ⟨_, _, u, G, a1, _⟩ := h1
    exact h3 bI a1 (e ▸ hc')
  · rcases hb1 with hb1 | hb1
    · exact h3 b hb1 hb2
    · exact (hG b hb1).1 (h4 b (Or.inr hb2)).1
  · have hs := hc.size
    rcases hb' with (hb' | hb') | hb'
    · exact ⟨Or.inl (h4 b (Or.inl hb')).1, Nat.lt_of_lt_of_le (h4 b (Or.inl hb')).2 hs⟩
    · exact ⟨Or.inr hb', (hG b hb').2⟩
    · exact ⟨Or.inl (h4 b (Or.inr hb')).1, Nat.lt_of_lt_of_le (h4 b (Or.inr hb')).2 hs⟩
/-- What lies at place j. -/
theorem FsS.ino {w : World} {bI n cI bD m cD : Nat} {d : FD} {F : Nat → Prop} (h : FsS w bI n cI bD m cD d F) (j : Nat) (hj : j < n) : ∃ aB cB aE cE,
    w.cell? ⟨bI, j * 5, none⟩ = some (.int .i64 (d.1[j]?.getD id0).1) ∧ w.cell? ⟨bI, j * 5 + 1, none⟩ = some (.int .i64 (d.1[j]?.getD id0).2.1) ∧ w.cell? ⟨bI, j * 5 + 2, none⟩ = some (.int .i64 (d.1[j]?.getD id0).2.2.1) ∧
    w.cell? ⟨bI, j * 5 + 3, none⟩ = some (.slice aB (d.1[j]?.getD id0).2.2.2.1.length cB) ∧ w.cell? ⟨bI, j * 5 + 4, none⟩ = some (.slice aE (d.1[j]?.getD id0).2.2.2.2.length cE) ∧
    ((d.1[j]?.getD id0).2.2.2.1.length ≤ cB) ∧ (∀ i, w.frozen? ⟨bI, i, none⟩ = false) ∧
    (∀ k, k < (d.1[j]?.getD id0).2.2.2.1.length → ∃ b1, aB = some ⟨b1, 0, none⟩ ∧ F b1 ∧ b1 ≠ bI ∧ b1 ≠ bD ∧ b1 < w.heap.size ∧ w.cell? ⟨b1, k, none⟩ = some (.int .i64 ((d.1[j]?.getD id0).2.2.2.1[k]?.getD 0))) := by
  obtain ⟨F1, G1, h1, h2, h3, h4⟩ := h
  obtain ⟨aB, cB, aE, cE, e0, e1, e2, e3, e4, e5, e6, e7, e8, e9⟩ := h1.at' j hj
  refine ⟨aB, cB, aE, cE, e0, e1, e2, e3, e4, e5, e6, fun k hk => ?_⟩
  obtain ⟨b1, f1, f2, f3, f4, f5⟩ := e8 k hk
  refine ⟨b1, f1, (h4 b1 (Or.inl f2)).1, f3, fun e => ?_, f4, f5⟩
  obtain ⟨_, _, u', G', g1, _⟩ := h2
  exact h3 b1 f2 (e ▸ g1)
end Go.Proofs.YtjabimfinanjoaaGreat

namespace Go.Proofs.YtjabimfinanjoaaGreat
open Go.RowKit
set_option maxRecDepth 100000

/-- A file system lies at b, o. -/
structure FsX (w : World) (b o : Nat) (d : FD) (aI : Option Addr) (cI : Nat) (aD : Option Addr) (cD : Nat) : Prop where
  c0 : w.cell? ⟨b, o, none⟩ = some (.slice aI d.1.length cI)
  c1 : w.cell? ⟨b, o + 1, none⟩ = some (.slice aD d.2.length cD)
  ins : Inos w (.slice aI d.1.length cI) d.1
  byt : Byts w (.slice aD d.2.length cD) d.2
theorem FsX.later {w w' : World} {b o : Nat} {d : FD} {aI : Option Addr} {cI : Nat} {aD : Option Addr} {cD : Nat} (h : FsX w b o d aI cI aD cD) (hb : Below w.heap.size w w') : FsX w' b o d aI cI aD cD :=
  ⟨cell_later hb h.c0, cell_later hb h.c1, h.ins.later hb, h.byt.later hb⟩
theorem FsX.drew {w : World} {b o : Nat} {d : FD} {aI : Option Addr} {cI : Nat} {aD : Option Addr} {cD : Nat} (h : FsX w b o d aI cI aD cD) (m : Nat) : FsX (w.drewN m) b o d aI cI aD cD := h.later (below_drewN (Below.refl _ _) m)

/-- An entry that leads nowhere. -/
def lostB (ds : List ID) (x : Int) : Bool := decide ((ds.length : Int) ≤ x) || decide (kindAt ds x.toNat = 0)
def formB (d : FD) : Bool := decide (d.1.length = 0) || decide (kindAt d.1 0 ≠ 2) || decide (d.2.length ≠ 20)
def manyF (zss : List (List UInt8)) (i : Nat) : Int := if 8 < (zss[i]?.getD []).length then 2 else 0
def lostF (ds : List ID) : Int := if (allE ds).any (lostB ds) then 4 else 0
/-- What is wrong of inodes, data and entries. -/
def fsE (d : FD) : Int := if insF d.1 = 0 then (if formB d then 1 else if fstNZ (manyF d.2) d.2.length = 0 then (if onceB d.1 20 then lostF d.1 else 7) else fstNZ (manyF d.2) d.2.length) else insF d.1

set_option maxHeartbeats 800000 in
theorem l6Ent_bad (w : World) (b o : Nat) (d : FD) (aI : Option Addr) (cI : Nat) (aD : Option Addr) (cD : Nat) (h : FsX w b o d aI cI aD cD) (hi : ¬ insF d.1 = 0) :
    Calls Tryz.prog 100 #[.pointer (some ⟨b, o, none⟩)] w fun e w' => e = .returned (.int .i64 (fsE d)) ∧ ∃ m, w' = w.drewN m := by
  have HE : Hid (insF d.1 = fsE d) := by unfold Hid fsE; rw [if_neg hi]
  have HF : Hid (Calls Tryz.prog 85 #[.slice aI d.1.length cI] w fun e w' => e = .returned (.int .i64 (insF d.1)) ∧ ∃ m, w' = w.drewN m) := l5Fault_any h.ins
  have c0 := h.c0
  have hb : (insF d.1 != 0) = true := by simpa using hi
  clear h hi
  generalize insF d.1 = r at *
  generalize d.1.length = n at *
  go_enter Tryz.func100, Tryz.ntmps100
  go_wp2_with fail
  refine HF.out.mono ?_
  rintro e w1 ⟨rfl, q, rfl⟩
  go_wp2
  go_ret
  exact ⟨ret_int HE.out, _, rfl⟩

set_option maxHeartbeats 1600000 in
theorem l6Ent_form (w : World) (b o : Nat) (d : FD) (aI : Option Addr) (cI : Nat) (aD : Option Addr) (cD : Nat) (h : FsX w b o d aI cI aD cD) (hi : insF d.1 = 0) (hf : formB d = true) :
    Calls Tryz.prog 100 #[.pointer (some ⟨b, o, none⟩)] w fun e w' => e = .returned (.int .i64 (fsE d)) ∧ ∃ m, w' = w.drewN m := by
  have HE : Hid (1 = fsE d) := by unfold Hid fsE; rw [if_pos hi, if_pos hf]
  have HF : Hid (Calls Tryz.prog 85 #[.slice aI d.1.length cI] w fun e w' => e = .returned (.int .i64 (insF d.1)) ∧ ∃ m, w' = w.drewN m) := l5Fault_any h.ins
  have c0 := h.c0
  have c1 := h.c1
  rw [hi] at HF
  obtain ⟨_, _, e1, hm1, hAt⟩ := h.ins.open'
  obtain ⟨_, _, e2, hm2, _⟩ := h.byt.open'
  simp only [Value.slice.injEq] at e1 e2
  obtain ⟨rfl, -, rfl⟩ := e1
  obtain ⟨rfl, -, rfl⟩ := e2
  unfold maxLen at hm1 hm2
  by_cases h0 : d.1.length = 0
  · have hb0 : (((d.1.length : Nat) : Int) == 0) = true := by simp [h0]
    clear h hi hf hAt h0
    generalize d.1.length = n at *
    generalize d.2.length = n2 at *
    go_enter Tryz.func100, Tryz.ntmps100
    go_wp2_with fail
    refine HF.out.mono ?_
    rintro e w1 ⟨rfl, q, rfl⟩
    go_wp2
    go_ret
    exact ⟨ret_int HE.out, _, rfl⟩
  · have hb0 : (((d.1.length : Nat) : Int) == 0) = false := by rw [beq_eq_false_iff_ne]; omega
    obtain ⟨bI, oI, rfl, hI⟩ := hAt 0 (by omega)
    obtain ⟨_, _, _, _, k0, _⟩ := hI
    rw [Nat.zero_mul, Nat.add_zero] at k0
    have k0' : w.cell? ⟨bI, oI, none⟩ = some (.int .i64 (kindAt d.1 0)) := k0
    by_cases h1 : kindAt d.1 0 = 2
    · have h2 : ¬ d.2.length = 20 := fun e => by simp [formB, h0, h1, e] at hf
      have hk : (kindAt d.1 0 != 2) = false := by simp [h1]
      have hd : (((d.2.length : Nat) : Int) != 20) = true := by simp; omega
      clear h hi hf hAt h1 h2 k0
      generalize kindAt d.1 0 = kk at *
      generalize d.1.length = n at *
      generalize d.2.length = n2 at *
      go_enter Tryz.func100, Tryz.ntmps100
      go_wp2_with fail
      refine HF.out.mono ?_
      rintro e w1 ⟨rfl, q, rfl⟩
      go_wp2
      go_ret
      exact ⟨ret_int HE.out, _, rfl⟩
    · have hk : (kindAt d.1 0 != 2) = true := by simpa using h1
      clear h hi hf hAt h1 k0
      generalize kindAt d.1 0 = kk at *
      generalize d.1.length = n at *
      generalize d.2.length = n2 at *
      go_enter Tryz.func100, Tryz.ntmps100
      go_wp2_with fail
      refine HF.out.mono ?_
      rintro e w1 ⟨rfl, q, rfl⟩
      go_wp2
      go_ret
      exact ⟨ret_int HE.out, _, rfl⟩
end Go.Proofs.YtjabimfinanjoaaGreat

namespace Go.Proofs.YtjabimfinanjoaaGreat
open Go.RowKit
set_option maxRecDepth 100000

theorem ins_ino {ds : List ID} (h : insF ds = 0) : ∀ j, j < ds.length → inoF (ds[j]?.getD id0) = 0 := by
  unfold insF at h
  by_cases h1 : 10 < ds.length
  · rw [if_pos h1] at h; omega
  · rw [if_neg h1] at h; exact fstNZ_inv h
theorem ino_ent {d : ID} (h : inoF d = 0) : ∀ k, k < d.2.2.2.2.length → 0 ≤ (d.2.2.2.2[k]?.getD en0).2 := by
  intro k hk
  have hd : dpB d = true := by unfold dpB; simpa using by omega
  unfold inoF at h
  by_cases h0 : d.1 = 0
  · rw [if_pos h0, hd, Bool.or_true, if_pos rfl] at h; omega
  · rw [if_neg h0] at h
    by_cases h1 : d.1 = 1
    · rw [if_pos h1, hd, if_pos rfl] at h; omega
    · rw [if_neg h1] at h
      by_cases h2 : d.1 = 2
      · rw [if_pos h2] at h
        by_cases h3 : fpB d = true
        · rw [if_pos h3] at h; omega
        · rw [if_neg h3] at h
          unfold dirF at h
          by_cases h4 : 6 < d.2.2.2.2.length
          · rw [if_pos h4] at h; omega
          · rw [if_neg h4] at h
            have h5 := fstNZ_inv h k hk
            unfold entF at h5
            by_cases h6 : nameF (d.2.2.2.2[k]?.getD en0).1 = 0
            · rw [if_pos h6] at h5
              by_cases h7 : 0 ≤ (d.2.2.2.2[k]?.getD en0).2 ∧ (d.2.2.2.2[k]?.getD en0).2 ≤ 9
              · exact h7.1
              · rw [if_neg h7] at h5; omega
            · rw [if_neg h6] at h5; exact absurd h5 h6
      · rw [if_neg h2] at h; omega
theorem mem_allE {ds : List ID} {x : Int} : x ∈ allE ds ↔ ∃ j, j < ds.length ∧ ∃ k, k < (ds[j]?.getD id0).2.2.2.2.length ∧ ((ds[j]?.getD id0).2.2.2.2[k]?.getD en0).2 = x := by
  unfold allE entI
  simp only [List.mem_flatMap, List.mem_map]
  constructor
  · rintro ⟨d, hd, e, he, rfl⟩
    obtain ⟨j, hj, rfl⟩ := List.getElem_of_mem hd
    obtain ⟨k, hk, rfl⟩ := List.getElem_of_mem he
    have e1 : ds[j]?.getD id0 = ds[j] := by simp [hj]
    exact ⟨j, hj, k, by rw [e1]; exact hk, by rw [e1]; simp [hk]⟩
  · rintro ⟨j, hj, k, hk, rfl⟩
    have e1 : ds[j]?.getD id0 = ds[j] := by simp [hj]
    rw [e1] at hk ⊢
    exact ⟨ds[j], List.getElem_mem hj, ds[j].2.2.2.2[k], List.getElem_mem hk, by simp [hk]⟩
theorem lost_yes {ds : List ID} {j k : Nat} (hj : j < ds.length) (hk : k < (ds[j]?.getD id0).2.2.2.2.length) (h : lostB ds ((ds[j]?.getD id0).2.2.2.2[k]?.getD en0).2 = true) : lostF ds = 4 := by
  unfold lostF; rw [if_pos (List.any_eq_true.2 ⟨_, mem_allE.2 ⟨j, hj, k, hk, rfl⟩, h⟩)]
theorem lost_no {ds : List ID} (h : ∀ j, j < ds.length → ∀ k, k < (ds[j]?.getD id0).2.2.2.2.length → lostB ds ((ds[j]?.getD id0).2.2.2.2[k]?.getD en0).2 = false) : lostF ds = 0 := by
  unfold lostF; rw [if_neg]
  intro h1
  obtain ⟨x, hx, h2⟩ := List.any_eq_true.1 h1
  obtain ⟨j, hj, k, hk, rfl⟩ := mem_allE.1 hx
  rw [h j hj k hk] at h2
  exact Bool.noConfusion h2

set_option maxHeartbeats 3200000 in
theorem l6Ent_ok (w : World) (b o : Nat) (d : FD) (aI : Option Addr) (cI : Nat) (aD : Option Addr) (cD : Nat) (h : FsX w b o d aI cI aD cD) (hs : sizeInos d.1 ≤ 1048576) (hi : insF d.1 = 0) (hf : formB d = false) :
    Calls Tryz.prog 100 #[.pointer (some ⟨b, o, none⟩)] w fun e w' => e = .returned (.int .i64 (fsE d)) ∧ Below w.heap.size w w' := by
  have HFE : Hid (fsE d = if fstNZ (manyF d.2) d.2.length = 0 then (if onceB d.1 20 then lostF d.1 else 7) else fstNZ (manyF d.2) d.2.length) := by unfold Hid fsE; rw [if_pos hi, if_neg (by rw [hf]; exact Bool.noConfusion)]
  have HF : Hid (Calls Tryz.prog 85 #[.slice aI d.1.length cI] w fun e w' => e = .returned (.int .i64 (insF d.1)) ∧ ∃ m, w' = w.drewN m) := l5Fault_any h.ins
  have HU : Hid (∀ W, Below w.heap.size w W → Calls Tryz.prog 115 #[.slice aI d.1.length cI] W fun e w' => ∃ a c, e = .returned (.tuple #[.slice a (selL (usedP d.1) 20).length c, .bool (onceB d.1 20)]) ∧ Below W.heap.size W w') := fun W hW => (l5Used_any (h.ins.later hW) hs).mono fun e w' ⟨a, c, h1, h2, _⟩ => ⟨a, c, h1, h2⟩
  have HX : Hid (FsX w b o d aI cI aD cD) := h
  have HP : Hid (∀ j, j < d.1.length → ∀ k, k < (d.1[j]?.getD id0).2.2.2.2.length → 0 ≤ ((d.1[j]?.getD id0).2.2.2.2[k]?.getD en0).2) := fun j hj => ino_ent (ins_ino hi j hj)
  have c0 := h.c0
  have c1 := h.c1
  rw [hi] at HF
  obtain ⟨_, _, e1, hm1, hAt⟩ := h.ins.open'
  obtain ⟨_, _, e2, hm2, hAy⟩ := h.byt.open'
  simp only [Value.slice.injEq] at e1 e2
  obtain ⟨rfl, -, rfl⟩ := e1
  obtain ⟨rfl, -, rfl⟩ := e2
  unfold maxLen at hm1 hm2
  have hff : ¬ d.1.length = 0 ∧ kindAt d.1 0 = 2 ∧ d.2.length = 20 := by
    simp only [formB, Bool.or_eq_false_iff, decide_eq_false_iff_not, ne_eq, Decidable.not_not] at hf
    exact ⟨hf.1.1, hf.1.2, hf.2⟩
  obtain ⟨h0, hk2, hl2⟩ := hff
  have hb0 : (((d.1.length : Nat) : Int) == 0) = false := by rw [beq_eq_false_iff_ne]; omega
  have HAY : Hid (AtYs w aD 20 d.2) := by rw [hl2] at hAy; exact hAy
  have HL2 : Hid (d.2.length = 20) := hl2
  have HAT : Hid (AtI w aI d.1.length d.1) := hAt
  rw [hl2] at c1
  have k0' : ∃ bI oI, aI = some ⟨bI, oI, none⟩ ∧ w.cell? ⟨bI, oI, none⟩ = some (.int .i64 2) := by
    obtain ⟨bI, oI, rfl, hI⟩ := hAt 0 (by omega)
    obtain ⟨_, _, _, _, k0, _⟩ := hI
    rw [Nat.zero_mul, Nat.add_zero] at k0
    exact ⟨bI, oI, rfl, by rw [k0]; exact congrArg (fun z => some (Value.int .i64 z)) hk2⟩
  obtain ⟨bI, oI, rfl, k0⟩ := k0'
  clear h hi hf hAt hAy hk2 hl2 hm2
  have HNN : Hid (∃ n, d.1.length = n) := ⟨_, rfl⟩
  obtain ⟨n, hn⟩ := HNN.out
  have HN : Hid (d.1.length = n) := hn
  rw [hn] at HF HU HP c0 hm1 hb0 HAT h0
  clear hn HNN
  go_enter Tryz.func100, Tryz.ntmps100
  go_wp2_with fail
  refine HF.out.mono ?_
  rintro e w1 ⟨rfl, q, rfl⟩
  go_wp2
  go_loopw [4] (fun i wr => ∃ j m : Nat, j ≤ 20 ∧ i = .int .i64 j ∧ wr = w.drewN m ∧ ∀ i : Nat, i < j → manyF d.2 i = 0) (fun i _ => 20 - (intOf i).toNat)
  case atStart => exact ⟨0, _, Nat.zero_le _, rfl, rfl, fun i hi => by omega⟩
  case round =>
    obtain ⟨j, m, hj, rfl, rfl, hz⟩ := hrel
    have HZ : Hid (∀ i : Nat, i < j → manyF d.2 i = 0) := hz
    clear hz k0
    by_cases hlt : j < 20
    · obtain ⟨b', o', ua, uc, rfl, d0, i0⟩ := HAY.out j hlt
      have hlb : (d.2[j]?.getD []).length ≤ maxLen := by obtain ⟨_, _, _, h5, _⟩ := i0; exact h5.1
      unfold maxLen at hlb
      clear i0
      by_cases h8 : 8 < (d.2[j]?.getD []).length
      · have HE : Hid (2 = fsE d) := by
          have e1 : manyF d.2 j = 2 := by unfold manyF; rw [if_pos h8]
          have e2 := fstNZ_at (f := manyF d.2) HZ.out (by rw [e1]; omega) (n := d.2.length) (by rw [HL2.out]; exact hlt)
          unfold Hid; rw [HFE.out, e2, e1]; rfl
        have hd8 : decide ((8 : Int) < ((d.2[j]?.getD []).length : Nat)) = true := by simp; omega
        clear HFE HZ h8
        generalize (d.2[j]?.getD []).length = ln at *
        go_wp2
        go_ret
        exact ⟨ret_int HE.out, below_drewN (Below.refl _ _) _⟩
      · have HR : Hid (∀ i : Nat, i < j + 1 → manyF d.2 i = 0) := fun i hi => by
          by_cases e : i = j
          · subst e; unfold manyF; rw [if_neg h8]
          · exact HZ.out i (by omega)
        have hd8 : decide ((8 : Int) < ((d.2[j]?.getD []).length : Nat)) = false := by simp; omega
        clear HFE HZ h8
        generalize (d.2[j]?.getD []).length = ln at *
        go_wp2
        go_roundw
        case rel => exact ⟨j + 1, _, by omega, by go_num, rfl, HR.out⟩
        case measure => simp [intOf]; omega
    · have HM : Hid (fsE d = if onceB d.1 20 then lostF d.1 else 7) := by
        have e2 := fstNZ_zero (f := manyF d.2) (n := d.2.length) (fun i hi => HZ.out i (by rw [HL2.out] at hi; omega))
        unfold Hid; rw [HFE.out, if_pos e2]
      have HBL0 : Hid (Below w.heap.size w (w.drewN m)) := below_drewN (Below.refl _ _) m
      have HUU := HU.out _ HBL0.out
      clear HFE HZ HU HF
      go_wp2_with fail
      refine HUU.mono ?_
      rintro e w1 ⟨au, cu, rfl, hb1⟩
      have HBL1 : Hid (Below w.heap.size w w1) := HBL0.out.trans hb1
      have hx1 := HX.out.later HBL1.out
      have c0 := hx1.c0
      rw [HN.out] at c0
      clear hb1 HUU HBL0 hx1 c1
      generalize (selL (usedP d.1) 20).length = lu at *
      cases hon : onceB d.1 20 with
      | false =>
        have HE : Hid (7 = fsE d) := by unfold Hid; rw [HM.out, hon]; rfl
        clear HM hon
        go_wp2
        go_ret
        exact ⟨ret_int HE.out, HBL1.out⟩
      | true =>
        have HE : Hid (lostF d.1 = fsE d) := by unfold Hid; rw [HM.out, hon]; rfl
        clear HM hon
        go_wp2
        go_loopw [7] (fun i wr => ∃ j m : Nat, j ≤ n ∧ i = .int .i64 j ∧ wr = w1.drewN m ∧ ∀ i : Nat, i < j → ∀ k, k < (d.1[i]?.getD id0).2.2.2.2.length → lostB d.1 ((d.1[i]?.getD id0).2.2.2.2[k]?.getD en0).2 = false) (fun i _ => n - (intOf i).toNat)
        case atStart => exact ⟨0, 0, Nat.zero_le _, rfl, rfl, fun i hi => by omega⟩
        case round =>
          obtain ⟨j, m, hj, rfl, rfl, hz⟩ := hrel
          have HZ : Hid (∀ i : Nat, i < j → ∀ k, k < (d.1[i]?.getD id0).2.2.2.2.length → lostB d.1 ((d.1[i]?.getD id0).2.2.2.2[k]?.getD en0).2 = false) := hz
          clear hz
          by_cases hlj : j < n
          · have hAT1 := HAT.out.later HBL1.out
            obtain ⟨b2, o2, e2, hI⟩ := hAT1 j hlj
            simp only [Option.some.injEq, Addr.mk.injEq, and_true] at e2
            obtain ⟨rfl, rfl⟩ := e2
            have HAT1 : Hid (AtI w1 (some ⟨bI, oI, none⟩) n d.1) := hAT1
            obtain ⟨aB, cB, aE, cE, g0, g1, g2, g3, g4, g5⟩ := hI
            obtain ⟨_, _, e3, hm3, _, hc3⟩ := g5.2.2.open'
            simp only [Value.slice.injEq] at e3
            obtain ⟨rfl, _, rfl⟩ := e3
            clear g0 g1 g2 g3 g5 hAT1
            have HPJ : Hid (∀ k, k < (d.1[j]?.getD id0).2.2.2.2.length → 0 ≤ ((d.1[j]?.getD id0).2.2.2.2[k]?.getD en0).2) := HP.out j hlj
            have HY : Hid (∀ k, k < (d.1[j]?.getD id0).2.2.2.2.length → lostB d.1 ((d.1[j]?.getD id0).2.2.2.2[k]?.getD en0).2 = true → 4 = fsE d) := fun k hk hl => by rw [← HE.out, lost_yes (by rw [HN.out]; exact hlj) hk hl]
            have HR : Hid ((∀ k, k < (d.1[j]?.getD id0).2.2.2.2.length → lostB d.1 ((d.1[j]?.getD id0).2.2.2.2[k]?.getD en0).2 = false) → ∀ i : Nat, i < j + 1 → ∀ k, k < (d.1[i]?.getD id0).2.2.2.2.length → lostB d.1 ((d.1[i]?.getD id0).2.2.2.2[k]?.getD en0).2 = false) := fun h i hi => by
              by_cases e : i = j
              · subst e; exact h
              · exact HZ.out i (by omega)
            generalize (d.1[j]?.getD id0).2.2.2.2 = es at *
            have HCB : Hid (AtN w1 aE es.length es) := hc3
            obtain ⟨nB, hnB⟩ : ∃ nB, nB = es.length := ⟨_, rfl⟩
            have HNB : Hid (nB = es.length) := hnB
            rw [← hnB] at g4 hm3
            unfold maxLen at hm3
            clear hc3 hnB HZ HE HP HAT HAY
            go_wp2
            go_loopw [8] (fun i wr => ∃ k m2 : Nat, k ≤ nB ∧ i = .int .i64 k ∧ wr = w1.drewN m2 ∧ ∀ i : Nat, i < k → lostB d.1 (es[i]?.getD en0).2 = false) (fun i _ => nB - (intOf i).toNat)
            case atStart => exact ⟨0, m, Nat.zero_le _, rfl, rfl, fun i hi => by omega⟩
            case round =>
              obtain ⟨k, m2, hk, rfl, rfl, hz⟩ := hrel
              have HZ : Hid (∀ i : Nat, i < k → lostB d.1 (es[i]?.getD en0).2 = false) := hz
              clear hz
              by_cases hlk : k < nB
              · obtain ⟨b1, o1, rfl, _, d1⟩ := HCB.out k (by rw [← HNB.out]; exact hlk)
                have hp := HPJ.out k (by rw [← HNB.out]; exact hlk)
                have HYK : Hid (lostB d.1 (es[k]?.getD en0).2 = true → 4 = fsE d) := HY.out k (by rw [← HNB.out]; exact hlk)
                have HRK : Hid (lostB d.1 (es[k]?.getD en0).2 = false → ∀ i : Nat, i < k + 1 → lostB d.1 (es[i]?.getD en0).2 = false) := fun h i hi => by
                  by_cases e : i = k
                  · subst e; exact h
                  · exact HZ.out i (by omega)
                clear HZ HPJ HY HCB HR
                generalize (es[k]?.getD en0).2 = x at *
                obtain ⟨t, rfl⟩ := Int.eq_ofNat_of_zero_le hp
                by_cases hbig : n ≤ t
                · have HE4 : Hid (4 = fsE d) := HYK.out (by unfold lostB; rw [HN.out]; simp [hbig])
                  have hdb : decide ((n : Int) ≤ (t : Int)) = true := by simp; omega
                  clear HYK HRK hp
                  go_wp2
                  go_ret
                  exact ⟨ret_int HE4.out, below_drewN HBL1.out _⟩
                · have hdb : decide ((n : Int) ≤ (t : Int)) = false := by simp; omega
                  obtain ⟨b2, o2, e2, hI⟩ := HAT1.out t (by omega)
                  simp only [Option.some.injEq, Addr.mk.injEq, and_true] at e2
                  obtain ⟨rfl, rfl⟩ := e2
                  obtain ⟨_, _, _, _, kt, _⟩ := hI
                  have kt' : w1.cell? ⟨bI, oI + t * 5, none⟩ = some (.int .i64 (kindAt d.1 t)) := kt
                  clear kt HAT1
                  by_cases hkz : kindAt d.1 t = 0
                  · have HE4 : Hid (4 = fsE d) := HYK.out (by unfold lostB; simp [hkz])
                    have hkb : (kindAt d.1 t == 0) = true := by simpa using hkz
                    clear HYK HRK hp hkz
                    generalize kindAt d.1 t = kk at *
                    go_wp2
                    go_ret
                    exact ⟨ret_int HE4.out, below_drewN HBL1.out _⟩
                  · have HRR : Hid (∀ i : Nat, i < k + 1 → lostB d.1 (es[i]?.getD en0).2 = false) := HRK.out (by unfold lostB; rw [HN.out]; simp [hkz]; omega)
                    have hkb : (kindAt d.1 t == 0) = false := by simpa using hkz
                    clear HYK HRK hp hkz
                    generalize kindAt d.1 t = kk at *
                    go_wp2
                    go_roundw
                    case rel => exact ⟨k + 1, _, by omega, by go_num, rfl, HRR.out⟩
                    case measure => simp [intOf]; omega
              · have HRR := HR.out fun i hi => HZ.out i (by rw [← HNB.out] at hi; omega)
                have HRH : Hid (∀ i : Nat, i < j + 1 → ∀ k, k < (d.1[i]?.getD id0).2.2.2.2.length → lostB d.1 ((d.1[i]?.getD id0).2.2.2.2[k]?.getD en0).2 = false) := HRR
                clear HRR HZ
                go_wp2
                go_roundw
                case rel => exact ⟨j + 1, _, by omega, by go_num, rfl, HRH.out⟩
                case measure => simp [intOf]; omega
          · have HEZ : Hid (0 = fsE d) := by unfold Hid; rw [← HE.out]; exact (lost_no fun i hi => HZ.out i (by rw [HN.out] at hi; omega)).symm
            go_wp2
            go_ret
            exact ⟨ret_int HEZ.out, below_drewN HBL1.out _⟩
/-- The contract over every file system. -/
theorem l6Entries_any (w : World) (b o : Nat) (d : FD) (aI : Option Addr) (cI : Nat) (aD : Option Addr) (cD : Nat) (h : FsX w b o d aI cI aD cD) (hs : sizeInos d.1 ≤ 1048576) :
    Calls Tryz.prog 100 #[.pointer (some ⟨b, o, none⟩)] w fun e w' => e = .returned (.int .i64 (fsE d)) ∧ Below w.heap.size w w' := by
  by_cases hi : insF d.1 = 0
  · cases hf : formB d with
    | true => exact (l6Ent_form w b o d aI cI aD cD h hi hf).mono fun e w' ⟨h1, m, h2⟩ => ⟨h1, by rw [h2]; exact below_drewN (Below.refl _ _) m⟩
    | false => exact l6Ent_ok w b o d aI cI aD cD h hs hi hf
  · exact (l6Ent_bad w b o d aI cI aD cD h hi).mono fun e w' ⟨h1, m, h2⟩ => ⟨h1, by rw [h2]; exact below_drewN (Below.refl _ _) m⟩
end Go.Proofs.YtjabimfinanjoaaGreat

namespace Go.Proofs.YtjabimfinanjoaaGreat
open Go.RowKit
set_option maxRecDepth 100000

theorem IntsSO.set {w X : World} {g n cap : Nat} {v : Value} {zs : List Int} {zss : List (List Int)} {F : Nat → Prop} (h : IntsSO w (.slice (some ⟨g, 0, none⟩) n cap) zss F) {x : Nat} (hx : x < zss.length) (hb : Below w.heap.size w X) (hF : ∀ b, F b → b < w.heap.size) (hv : IntsO X v zs (fresh w X)) :
    IntsSO (X.setCell ⟨g, x, none⟩ v) (.slice (some ⟨g, 0, none⟩) n cap) (zss.set x zs) (fun b => F b ∨ fresh w X b) := by
  rcases h with ⟨h, _⟩ | ⟨b, cap', u, G, hFb, hG, hGG, h1, h2, h3, h4⟩
  · subst h; simp at hx
  · simp only [Value.slice.injEq, Option.some.injEq, Addr.mk.injEq, and_true] at h1
    obtain ⟨rfl, rfl, rfl⟩ := h1
    have hgl := h3.lt
    refine Or.inr ⟨g, cap, fun j => if j = x then v else u j, fun i c => (i = x ∧ fresh w X c) ∨ (i ≠ x ∧ G i c), Or.inl hFb, fun i c hc => ?_, fun i j c e h5 h6 => ?_, by simp, by simpa using h2, by simpa using (h3.block (hb.block g hgl)).set x v, fun i hi => ?_⟩
    · rcases hc with ⟨_, hc⟩ | ⟨_, hc⟩
      · exact ⟨Or.inr hc, fun e => by have := hc.1; omega⟩
      · exact ⟨Or.inl (hG i c hc).1, (hG i c hc).2⟩
    · rcases h5 with ⟨e5, h5⟩ | ⟨e5, h5⟩ <;> rcases h6 with ⟨e6, h6⟩ | ⟨e6, h6⟩
      · omega
      · have := h5.1; have := hF c (hG j c h6).1; omega
      · have := h6.1; have := hF c (hG i c h5).1; omega
      · exact hGG i j c e h5 h6
    · simp only [List.length_set] at hi
      by_cases e : i = x
      · subst e
        have h7 : IntsO X v zs (fun c => (i = i ∧ fresh w X c) ∨ (i ≠ i ∧ G i c)) := hv.mono fun c hc => Or.inl ⟨rfl, hc⟩
        show IntsO _ (if i = i then v else u i) _ (fun c => (i = i ∧ fresh w X c) ∨ (i ≠ i ∧ G i c))
        rw [if_pos rfl, List.getElem?_set_self hx, Option.getD_some]
        refine h7.keep fun c hc _ => Below.heap_setCell _ _ _ _ ?_
        rcases hc with ⟨_, hc⟩ | ⟨hc, _⟩
        · show c ≠ g
          have := hc.1; omega
        · exact absurd rfl hc
      · show IntsO _ (if i = x then v else u i) _ (fun c => (i = x ∧ fresh w X c) ∨ (i ≠ x ∧ G i c))
        rw [if_neg e, List.getElem?_set_ne (fun h => e h.symm)]
        have h7 : IntsO w (u i) (zss[i]?.getD []) (fun c => (i = x ∧ fresh w X c) ∨ (i ≠ x ∧ G i c)) := (h4 i hi).mono fun c hc => Or.inr ⟨e, hc⟩
        refine h7.keep fun c hc hlt => ?_
        rcases hc with ⟨hc, _⟩ | ⟨_, hc⟩
        · exact absurd hc e
        · rw [Below.heap_setCell _ _ _ _ (show c ≠ g from (hG i c hc).2), hb.block c hlt]

theorem Box2.store {w : World} {b : Nat} {x y : Value} (h : Box2 w b x y) {p : Addr} (hp : b ≠ p.block) (v : Value) : Box2 (w.setCell p v) b x y :=
  ⟨(World.cell?_of_block (w := w) (a := ⟨b, 0, none⟩) (Below.heap_setCell _ _ _ _ hp)).trans h.1, (World.cell?_of_block (w := w) (a := ⟨b, 1, none⟩) (Below.heap_setCell _ _ _ _ hp)).trans h.2⟩
theorem IntsSO.cell {w : World} {a : Option Addr} {n cap : Nat} {zss : List (List Int)} {F : Nat → Prop} (h : IntsSO w (.slice a n cap) zss F) {x : Nat} (hx : x < zss.length) :
    ∃ g ua un uc, a = some ⟨g, 0, none⟩ ∧ F g ∧ g < w.heap.size ∧ w.cell? ⟨g, x, none⟩ = some (.slice ua un uc) ∧ w.frozen? ⟨g, x, none⟩ = false := by
  rcases h with ⟨h, _⟩ | ⟨b, cap', u, G, hFb, _, _, h1, _, h3, h4⟩
  · subst h; simp at hx
  · simp only [Value.slice.injEq] at h1
    obtain ⟨rfl, rfl, rfl⟩ := h1
    have hu : ∃ ua un uc, u x = .slice ua un uc := by
      rcases h4 x hx with ⟨_, a, c, e⟩ | ⟨_, _, _, e, _⟩
      · exact ⟨_, _, _, e⟩
      · exact ⟨_, _, _, e⟩
    obtain ⟨ua, un, uc, e⟩ := hu
    exact ⟨b, ua, un, uc, rfl, hFb, h3.lt, by rw [h3.cell hx, e], h3.frozen x⟩

/-- The blocks behind the first k puts of those that are picked. -/
def keepTo (pk : Nat → Bool) (bs : List (List Int)) (ps : List (Int × List Int)) : Nat → List (List Int)
  | 0 => bs
  | k + 1 => if pk k then (keepTo pk bs ps k).set (ps[k]?.getD (0, [])).1.toNat (ps[k]?.getD (0, [])).2 else keepTo pk bs ps k
theorem keepTo_length (pk : Nat → Bool) (bs : List (List Int)) (ps : List (Int × List Int)) (k : Nat) : (keepTo pk bs ps k).length = bs.length := by
  induction k with
  | zero => rfl
  | succ k ih => unfold keepTo; split <;> simp [ih]
theorem keepTo_len (pk : Nat → Bool) (bs : List (List Int)) (ps : List (Int × List Int)) {M : Nat} (hz : ∀ k : Nat, (bs[k]?.getD []).length ≤ M) (hzp : ∀ k : Nat, (ps[k]?.getD (0, [])).2.length ≤ M) (k : Nat) : ∀ i : Nat, ((keepTo pk bs ps k)[i]?.getD []).length ≤ M := by
  induction k with
  | zero => exact hz
  | succ k ih =>
    intro i
    unfold keepTo
    split
    · rw [List.getElem?_set]
      split
      · split
        · exact hzp k
        · simp
      · exact ih i
    · exact ih i
theorem keepTo_step {pk : Nat → Bool} {bs : List (List Int)} {ps : List (Int × List Int)} {k : Nat} (h : pk k = true) : keepTo pk bs ps (k + 1) = (keepTo pk bs ps k).set (ps[k]?.getD (0, [])).1.toNat (ps[k]?.getD (0, [])).2 := by simp [keepTo, h]
theorem keepTo_skip {pk : Nat → Bool} {bs : List (List Int)} {ps : List (Int × List Int)} {k : Nat} (h : pk k = false) : keepTo pk bs ps (k + 1) = keepTo pk bs ps k := by simp [keepTo, h]
end Go.Proofs.YtjabimfinanjoaaGreat

namespace Go.Proofs.YtjabimfinanjoaaGreat
open Go.RowKit
set_option maxRecDepth 100000

/-- n empty lists in one row that the call made. -/
theorem empties {w' : World} {b n : Nat} (F : Nat → Prop) (hF : F b) (hn : n ≤ 60) (h : OwnRow w' b n (fun _ => .slice none 0 0)) : IntsSO w' (.slice (some ⟨b, 0, none⟩) n n) (List.replicate n []) F := by
  refine Or.inr ⟨b, n, fun _ => .slice none 0 0, fun _ _ => False, hF, fun _ _ h => h.elim, fun _ _ _ _ h => h.elim, by simp, by unfold maxLen; simp; omega, by simpa using h, fun i hi => Or.inl ⟨?_, none, 0, rfl⟩⟩
  simp at hi
  simp [hi]

/-- The codes and the blocks of a new disk. -/
def newCode (size : Int) : Int := if 0 ≤ size ∧ size ≤ 60 then 0 else 3
def newBlocks (size : Int) : List (List Int) := if 0 ≤ size ∧ size ≤ 60 then List.replicate size.toNat [] else []

theorem ans_new {w w' : World} {b n : Nat} (hn : n ≤ 60) (hb : w.heap.size ≤ b) (hbel : Below w.heap.size w w') (hr : OwnRow w' b n (fun _ => .slice none 0 0)) : AnsDisk w 0 (List.replicate n []) [] (.returned (.agg #[.int .i64 0, .slice (some ⟨b, 0, none⟩) n n, .slice none 0 0])) w' :=
  ⟨_, n, n, none, 0, 0, rfl, hbel, fun c => c = b, fun _ => False, empties _ rfl hn hr, Or.inl ⟨rfl, none, 0, rfl⟩, fun _ _ h => h.elim, fun c h => by have := hr.lt; exact h.elim (fun h => ⟨by omega, by omega⟩) False.elim⟩

end Go.Proofs.YtjabimfinanjoaaGreat

namespace Go.Proofs.YtjabimfinanjoaaGreat
open Go.RowKit
set_option maxRecDepth 100000

theorem Tryz.infoInts' : ∃ i, Tryz.prog.info? 27 = some i ∧ i.zero = some (.slice none 0 0) ∧ i.size = 1 ∧ i.bytes = 24 := by
  obtain ⟨i, hi, h⟩ := Option.map_eq_some_iff.1 Tryz.infoInts
  simp only [Prod.mk.injEq] at h
  exact ⟨i, hi, h.1, h.2.1, h.2.2⟩
theorem upd_nat (k : Nat → Nat) (n : Nat) : (fun j => if j = n then k n else k j) = k := by
  funext j; by_cases h : j = n
  · simp [h]
  · simp [h]
theorem upd_val (k : Nat → Value) (n : Nat) : (fun j => if j = n then k n else k j) = k := by
  funext j; by_cases h : j = n
  · simp [h]
  · simp [h]

theorem ownsRow_le {w : World} {base base' : Nat} {e : TypeId} {size : Nat} {v : Value} {n : Nat} {xs : List Value} (h : w.ownsRow base e size v n xs) (hb : base' ≤ base) : w.ownsRow base' e size v n xs := by
  obtain ⟨h1, h2⟩ := h
  refine ⟨h1, ?_⟩
  rcases h2 with h2 | ⟨g, cap, cur, hv, hg, r⟩
  · exact Or.inl h2
  · exact Or.inr ⟨g, cap, cur, hv, by omega, r⟩

end Go.Proofs.YtjabimfinanjoaaGreat

namespace Go.Proofs.YtjabimfinanjoaaGreat
open Go.RowKit
set_option maxRecDepth 100000

/-- Where the bits of a list lie. -/
def AtBs (w : World) (a : Option Addr) (n : Nat) (pb : List Bool) : Prop := ∀ k, k < n → ∃ b off, a = some ⟨b, off, none⟩ ∧ w.cell? ⟨b, off + k, none⟩ = some (.bool (pb[k]?.getD false))
theorem AtBs.later {w w' : World} {a : Option Addr} {n : Nat} {pb : List Bool} (h : AtBs w a n pb) (hb : Below w.heap.size w w') : AtBs w' a n pb := fun k hk => by
  obtain ⟨b, off, e, c⟩ := h k hk
  exact ⟨b, off, e, cell_later hb c⟩

end Go.Proofs.YtjabimfinanjoaaGreat

namespace Go.Proofs.YtjabimfinanjoaaGreat
open Go.RowKit
set_option maxRecDepth 100000

/-- What 'append' of one element comes to, and where the row lies behind it. -/
theorem LRow.append2 {C : Nat → Value → List Value} (w w1 : World) (t ty e : TypeId) (i : TypeInfo) (z : Value) (size bytes : Nat) (ht : Tryz.prog.underlying t = some (.slice e)) (hi : Tryz.prog.info? e = some i) (hz : i.zero = some z) (hsize : i.size = size) (hby : i.bytes = bytes) (hzs : z.cells.size = size) (hsz : 0 < size) (hbb : bytes ≤ 1000)
    (base lo n : Nat) (v : Value) (f : Nat → List Int) (k : Nat → Nat) (u : Nat → Value) (h : LRow C w base lo e size v n f k u) (hb : base ≤ w.heap.size) (hn : n ≤ 100000) (hb1 : Below w.heap.size w w1)
    (a : Option Addr) (c : Nat) (hlen : (C n (.slice a (f n).length c)).length = size) (hone : ∀ x ∈ C n (.slice a (f n).length c), x.oneCell' = true) (kb : Nat) (hk1 : lo ≤ kb) (hk2 : kb < w1.heap.size) (hk3 : v.ownBlock ≠ some kb) (hk4 : ∀ i, i < n → k i ≠ kb) (hf : IntsO w1 (.slice a (f n).length c) (f n) (fun x => x = kb)) :
    ∃ g cap X, (Builtin.append_ #[t, t] ty #[v, .slice (some ⟨w1.heap.size, 0, none⟩) 1 1]).run Tryz.prog (w1.alloc (.cells (C n (.slice a (f n).length c)).toArray e)) = .ok (.slice (some ⟨g, 0, none⟩) (n + 1) cap) X ∧
      (∀ b, b < w1.heap.size → v.ownBlock ≠ some b → X.heap[b]? = w1.heap[b]?) ∧ Below base w X ∧ w1.heap.size < X.heap.size ∧ (v.ownBlock = some g ∨ w1.heap.size < g) ∧
      LRow C X base lo e size (.slice (some ⟨g, 0, none⟩) (n + 1) cap) (n + 1) f (fun j => if j = n then kb else k j) (fun j => if j = n then .slice a (f n).length c else u j) := by
  have hsz1 := hb1.size
  have hbW : Below w.heap.size w (w1.alloc (.cells (C n (.slice a (f n).length c)).toArray e)) := hb1.trans ((later1 _ _).mono hb1.size)
  have hW := h.later hbW
  obtain ⟨g, cap, X, hr, ho, hg, hat, hgX⟩ := run_append_lies (P := Tryz.prog) (w1.alloc (.cells (C n (.slice a (f n).length c)).toArray e)) t ty base e i z size bytes ht hi hz hsize hby hzs hsz v n _ hW.own ⟨w1.heap.size, 0, none⟩ 1 1 (C n (.slice a (f n).length c)) (by rw [hlen, Nat.one_mul])
    (fun j x hx => by
      rw [add_plain', Nat.zero_add, new_cell]
      simpa using hx) hone (by decide) (by unfold maxLen; omega) (by have : (n + 1) * bytes ≤ 100001 * 1000 := Nat.mul_le_mul (by omega) hbb; omega) (by simp; omega) (w1.heap.size + 1) (by simp)
  have hrow : ∀ g, v.ownBlock = some g → g < w.heap.size := fun g hg => (h.own.lt g hg).2
  have hrowb : ∀ g, v.ownBlock = some g → base ≤ g := fun g hg => (h.own.lt g hg).1
  have hXb : ∀ b, b < w1.heap.size → v.ownBlock ≠ some b → X.heap[b]? = w1.heap[b]? := fun b hb' hne => (hg.block b (by simp; omega) (fun e => hne e.symm)).trans ((later1 _ _).block b hb')
  have hne : ∀ b, b < w1.heap.size → v.ownBlock ≠ some b → g ≠ b := by
    intro b hb' hb2 e
    subst e
    rcases hat with h | h
    · exact hb2 h
    · omega
  have old : ∀ b, b < w.heap.size → v.ownBlock ≠ some b → X.heap[b]? = w.heap[b]? := fun b hb' hne => (hXb b (by omega) hne).trans (hb1.block b hb')
  have hXs : w1.heap.size < X.heap.size := by have := hg.size; simp at this; omega
  refine ⟨g, cap, X, hr, hXb, (hbW.mono hb).trans (below_grown hg (by simp; omega) (fun g hg' => hrowb g hg')), hXs, hat.imp_right (fun h => by omega), ⟨?_, fun j hj => ?_, fun j hj => ?_, fun j j' hj hj' e => ?_, fun j hj => ?_, fun j hj => ?_⟩⟩
  · rw [List.range_succ, List.flatMap_append]
    have e1 : (List.range n).flatMap (fun i => C i (if i = n then .slice a (f n).length c else u i)) = (List.range n).flatMap (fun i => C i (u i)) := by
      have e0 : (List.range n).map (fun i => C i (if i = n then .slice a (f n).length c else u i)) = (List.range n).map (fun i => C i (u i)) := List.map_congr_left fun i hi => by rw [if_neg (by have := List.mem_range.1 hi; omega)]
      rw [List.flatMap_def, List.flatMap_def, e0]
    have e2 : [n].flatMap (fun i => C i (if i = n then .slice a (f n).length c else u i)) = C n (.slice a (f n).length c) := by simp only [List.flatMap_cons, List.flatMap_nil, List.append_nil, if_true]
    rw [e1, e2]
    exact ho
  · by_cases e : j = n
    · subst e; simp; omega
    · have := h.lo j (by omega); simp [e]; omega
  · by_cases e : j = n
    · subst e
      simp only [if_true]
      exact fun e => hne kb hk2 hk3 (by simpa [Value.ownBlock] using e)
    · have hj' : j < n := by omega
      have hl := h.lo j hj'
      simp only [e, if_false]
      exact fun e => hne (k j) (by omega) (h.ne j hj') (by simpa [Value.ownBlock] using e)
  · by_cases e1 : j = n
    · by_cases e2 : j' = n
      · omega
      · simp [e1, e2]; exact fun e => hk4 j' (by omega) e.symm
    · by_cases e2 : j' = n
      · simp [e1, e2]; exact hk4 j (by omega)
      · simp [e1, e2]; exact h.inj j j' (by omega) (by omega) e
  · by_cases e : j = n
    · subst e; exact ⟨a, c, by simp⟩
    · simp only [e, if_false]; exact h.sh j (by omega)
  · by_cases e : j = n
    · subst e
      simp only [if_true]
      exact hf.keep fun b hb' hlt' => by rw [hb']; exact hXb kb hk2 hk3
    · have hj' : j < n := by omega
      simp only [e, if_false]
      exact (h.at' j hj').keep fun b hb' hlt' => by rw [hb']; exact old _ (h.lo j hj').2 (h.ne j hj')


theorem LRow.congr2 {a a' : Nat → Int} {w : World} {base lo : Nat} {e : TypeId} {size : Nat} {v : Value} {n : Nat} {f f' : Nat → List Int} {k : Nat → Nat} {u : Nat → Value} (h : LRow (C2 a) w base lo e size v n f k u) (ha : ∀ i, i < n → a i = a' i) (hf : ∀ i, i < n → f i = f' i) : LRow (C2 a') w base lo e size v n f' k u := by
  refine ⟨?_, h.lo, h.ne, h.inj, fun i hi => by rw [← hf i hi]; exact h.sh i hi, fun i hi => by rw [← hf i hi]; exact h.at' i hi⟩
  have e0 : (List.range n).map (fun i => C2 a i (u i)) = (List.range n).map (fun i => C2 a' i (u i)) := List.map_congr_left fun i hi => by unfold C2; rw [ha i (List.mem_range.1 hi)]
  have := h.own
  rw [List.flatMap_def, e0, ← List.flatMap_def] at this
  exact this

end Go.Proofs.YtjabimfinanjoaaGreat

namespace Go.Proofs.YtjabimfinanjoaaGreat
open Go.RowKit
set_option maxRecDepth 100000

/-- An answer that is a code and a list. -/
def AnsInts (w : World) (code : Int) (zs : List Int) (e : Ending) (w' : World) : Prop :=
  ∃ a n c, e = .returned (.agg #[.int .i64 code, .slice a n c]) ∧ Below w.heap.size w w' ∧ IntsO w' (.slice a n c) zs (fresh w w')
theorem ansInts_bad {w w' : World} (hb : Below w.heap.size w w') (code : Int) : AnsInts w code [] (.returned (.agg #[.int .i64 code, .slice none 0 0])) w' := ⟨none, 0, 0, rfl, hb, Or.inl ⟨rfl, none, 0, rfl⟩⟩

def atCode (bs : List (List Int)) (ps : List (Int × List Int)) (x : Int) : Int := placeF bs ps x
def atList (bs : List (List Int)) (ps : List (Int × List Int)) (x : Int) : List Int := if placeF bs ps x = 0 then atF bs ps x else []

theorem faultF_lens {bs : List (List Int)} {ps : List (Int × List Int)} (h : faultF bs ps = 0) : bs.length ≤ 60 ∧ ps.length ≤ 200 := by
  by_cases g : 60 < bs.length ∨ 200 < ps.length
  · rw [faultF_many g] at h; omega
  · omega

end Go.Proofs.YtjabimfinanjoaaGreat

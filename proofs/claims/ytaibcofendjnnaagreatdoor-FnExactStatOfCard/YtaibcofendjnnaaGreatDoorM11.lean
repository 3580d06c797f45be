/- Lists of inodes are marked, and the marks are held. Lists of lists of bytes, and file systems: the marks are held. Answers that hold a file system: compared, marked, held. A file system in memory of its own, of which places turn. No program is named here. -/
import Derived.Test.YtaibcofendjnnaaGreatDoorM05
namespace Go.Proofs.YtaibcofendjnnaaGreatDoor
open Go.RowKit
set_option maxRecDepth 100000

/-- An inode marked from N on. -/
def mkI (N : Nat) (d : ID) : ID := (((N : Nat) : Int), ((N : Nat) : Int) + 1, ((N : Nat) : Int) + 1 + 1, marks (((N : Nat) : Int) + 1 + 1 + 1) d.2.2.2.1.length, marksN (N + 3 + d.2.2.2.1.length) d.2.2.2.2.length)
def mkIns (k : Nat) (ds : List ID) : List ID := (List.range ds.length).map fun i => mkI (inum k ds i) (ds[i]?.getD id0)
theorem mkIns_length (k : Nat) (ds : List ID) : (mkIns k ds).length = ds.length := by simp [mkIns]
theorem mkIns_get (k : Nat) (ds : List ID) {i : Nat} (hi : i < ds.length) : (mkIns k ds)[i]?.getD id0 = mkI (inum k ds i) (ds[i]?.getD id0) := by
  unfold mkIns; rw [List.getElem?_map, List.getElem?_range hi]; rfl
theorem inum_next (k : Nat) (ds : List ID) (hk : k + spanInos ds ≤ 4294967296) (j : Nat) (hj : j < ds.length) : inum k ds j + 3 + (ds[j]?.getD id0).2.2.2.1.length + 2 * (ds[j]?.getD id0).2.2.2.2.length = inum k ds (j + 1) ∧ inum k ds (j + 1) ≤ 4294967296 := by
  have h1 := upto_succ (isp ds) j (by rw [isp_length]; omega)
  rw [isp_get ds j hj] at h1
  have h2 := upto_le (isp ds) (j + 1)
  have h3 : spanIno (ds[j]?.getD id0) = (ds[j]?.getD id0).2.2.2.1.length + 2 * (ds[j]?.getD id0).2.2.2.2.length := rfl
  have h4 : spanInos ds = (isp ds).sum := rfl
  unfold inum
  omega
theorem inum_all (k : Nat) (ds : List ID) : inum k ds ds.length = k + spanInos ds := by
  have := upto_all (isp ds)
  rw [isp_length] at this
  unfold inum spanInos
  rw [this]

set_option maxHeartbeats 3200000 in
theorem heldInos_walk (w : World) (a : Option Addr) (cap n k : Nat) (ds : List ID) (hn : ds.length = n) (hk0 : 1 ≤ k) (hk : k + spanInos ds ≤ 4294967296) (hn2 : n ≤ 9223372036854775807) (hc : AtI w a n (mkIns k ds)) :
    Calls Tryz.prog 85 #[.slice a n cap, .int .i64 (k : Int)] w fun e w' => e = .returned (.int .i64 ((k + spanInos ds : Nat) : Int)) ∧ Below w.heap.size w w' := by
  have HC : Hid (∀ j, j < n → ∃ b o, a = some ⟨b, o, none⟩ ∧ InoAt w b (o + j * 5) (mkI (inum k ds j) (ds[j]?.getD id0))) := fun j hj => by
    obtain ⟨b, o, e, h⟩ := hc j hj
    rw [mkIns_get k ds (by omega)] at h
    exact ⟨b, o, e, h⟩
  have HBD : Hid (∀ j, j < n → inum k ds j + 3 + (ds[j]?.getD id0).2.2.2.1.length + 2 * (ds[j]?.getD id0).2.2.2.2.length = inum k ds (j + 1) ∧ inum k ds (j + 1) ≤ 4294967296) := fun j hj => inum_next k ds hk j (by omega)
  have HE : Hid (inum k ds n = k + spanInos ds) := by unfold Hid; rw [← hn]; exact inum_all k ds
  have HI0 : Hid (inum k ds 0 = k) := by unfold Hid inum; rw [upto_zero, Nat.add_zero]
  have HK1 : Hid (∀ j, 1 ≤ inum k ds j) := fun j => by unfold inum; omega
  rw [← HE.out]
  clear hc hn hk HE
  generalize inum k ds = N at *
  go_enter Tryz.func85, Tryz.ntmps85
  go_wp2
  go_loopw [1, 5] (fun q i wr => ∃ j : Nat, j ≤ n ∧ i = .int .i64 j ∧ q = .int .i64 ((N j : Nat) : Int) ∧ Below w.heap.size w wr) (fun _ i _ => n - (intOf i).toNat)
  case atStart => exact ⟨0, Nat.zero_le _, rfl, by rw [HI0.out], Below.refl _ _⟩
  case round =>
    obtain ⟨j, hj, rfl, rfl, hbl⟩ := hrel
    have HBL : Hid (Below w.heap.size w wr) := hbl
    clear hbl
    by_cases hlt : j < n
    · obtain ⟨b, o, rfl, hI⟩ := HC.out j hlt
      obtain ⟨aB, cB, aE, cE, c0, c1, c2, c3, c4, h5⟩ := hI
      obtain ⟨hs, hle⟩ := HBD.out j hlt
      have hN1 := HK1.out j
      have HSN : Hid (N j + 3 + (ds[j]?.getD id0).2.2.2.1.length + 2 * (ds[j]?.getD id0).2.2.2.2.length = N (j + 1)) := hs
      have HI : Hid (Ints w (.slice aB (marks (((N j : Nat) : Int) + 1 + 1 + 1) (ds[j]?.getD id0).2.2.2.1.length).length cB) (marks (((N j : Nat) : Int) + 1 + 1 + 1) (ds[j]?.getD id0).2.2.2.1.length)) := h5.2.1
      have HEN : Hid (Ents w (.slice aE (marksN (N j + 3 + (ds[j]?.getD id0).2.2.2.1.length) (ds[j]?.getD id0).2.2.2.2.length).length cE) (marksN (N j + 3 + (ds[j]?.getD id0).2.2.2.1.length) (ds[j]?.getD id0).2.2.2.2.length)) := h5.2.2
      have g0 : wr.cell? ⟨b, o + j * 5, none⟩ = some (.int .i64 ((N j : Nat) : Int)) := cell_later HBL.out c0
      have g1 : wr.cell? ⟨b, o + j * 5 + 1, none⟩ = some (.int .i64 (((N j : Nat) : Int) + 1)) := cell_later HBL.out c1
      have g2 : wr.cell? ⟨b, o + j * 5 + 2, none⟩ = some (.int .i64 (((N j : Nat) : Int) + 1 + 1)) := cell_later HBL.out c2
      have g3 : wr.cell? ⟨b, o + j * 5 + 3, none⟩ = some (.slice aB (marks (((N j : Nat) : Int) + 1 + 1 + 1) (ds[j]?.getD id0).2.2.2.1.length).length cB) := cell_later HBL.out c3
      have g4 : w.cell? ⟨b, o + j * 5 + 4, none⟩ = some (.slice aE (marksN (N j + 3 + (ds[j]?.getD id0).2.2.2.1.length) (ds[j]?.getD id0).2.2.2.2.length).length cE) := c4
      clear h5 c0 c1 c2 c3 c4 hs
      generalize (ds[j]?.getD id0).2.2.2.1.length = lB at *
      generalize (ds[j]?.getD id0).2.2.2.2.length = lE at *
      have hx0 : (((N j : Nat) : Int) != ((N j : Nat) : Int)) = false := by simp
      have hx1 : (((N j : Nat) : Int) + 1 != ((N j : Nat) : Int) + 1) = false := by simp
      have hx2 : (((N j : Nat) : Int) + 1 + 1 != ((N j : Nat) : Int) + 1 + 1) = false := by simp
      have hNb : N j + 3 + lB + 2 * lE ≤ 4294967296 := by have := HSN.out; omega
      go_wp2_with fail
      refine (heldInts_any (((N j : Nat) : Int) + 1 + 1 + 1) lB (HI.out.later HBL.out) (by omega) (by omega)).mono ?_
      rintro e w1 ⟨rfl, hw1⟩
      have HB1 : Hid (Below w.heap.size w w1) := by first | (subst hw1; exact HBL.out) | exact HBL.out.trans (hw1.mono HBL.out.size)
      have hq : ((N j : Nat) : Int) + 1 + 1 + 1 + (lB : Int) = ((N j + 3 + lB : Nat) : Int) := by omega
      rw [hq]
      have g4' := cell_later HB1.out g4
      have hp : ¬ ((N j + 3 + lB : Nat) : Int) < 0 := by omega
      have hq1 : 1 ≤ N j + 3 + lB := by omega
      clear hq hw1 g0 g1 g2 g3
      generalize N j + 3 + lB = q at *
      go_wp2_with fail
      refine (heldEntsU q lE (HEN.out.later HB1.out) (by omega) (by omega)).mono ?_
      rintro e w2 ⟨rfl, hw2⟩
      have HB2 : Hid (Below w.heap.size w w2) := by first | (subst hw2; exact HB1.out) | exact HB1.out.trans (hw2.mono HB1.out.size)
      have HQ : Hid (((q + 2 * lE : Nat) : Int) = ((N (j + 1) : Nat) : Int)) := by unfold Hid; rw [HSN.out]
      have hp2 : ¬ ((q + 2 * lE : Nat) : Int) < 0 := by omega
      clear hw2 g4 g4'
      rw [HQ.out] at hp2 ⊢
      go_wp2
      go_roundw
      case rel => exact ⟨j + 1, by omega, by go_num, rfl, HB2.out⟩
      case measure => simp [intOf]; omega
    · have HJ : Hid (N j = N n) := by unfold Hid; rw [show j = n by omega]
      go_wp2
      go_ret
      exact ⟨ret_int (by rw [HJ.out]), HBL.out⟩

/-- The list of which the first j are marked. -/
def halfI (k : Nat) (ds : List ID) (j : Nat) : List ID := (List.range ds.length).map fun i => if i < j then mkI (inum k ds i) (ds[i]?.getD id0) else ds[i]?.getD id0
theorem halfI_length (k : Nat) (ds : List ID) (j : Nat) : (halfI k ds j).length = ds.length := by simp [halfI]
theorem halfI_get (k : Nat) (ds : List ID) (j : Nat) {i : Nat} (hi : i < ds.length) : (halfI k ds j)[i]?.getD id0 = if i < j then mkI (inum k ds i) (ds[i]?.getD id0) else ds[i]?.getD id0 := by
  unfold halfI; rw [List.getElem?_map, List.getElem?_range hi]; rfl
theorem halfI_zero (k : Nat) (ds : List ID) : halfI k ds 0 = ds := by
  apply List.ext_getElem?
  intro i
  unfold halfI
  rw [List.getElem?_map]
  by_cases hi : i < ds.length
  · rw [List.getElem?_range hi]; simp [List.getElem?_eq_getElem hi]
  · rw [List.getElem?_eq_none (by simpa using Nat.le_of_not_lt hi), List.getElem?_eq_none (by omega)]; rfl
theorem halfI_all (k : Nat) (ds : List ID) : halfI k ds ds.length = mkIns k ds := by
  unfold halfI mkIns
  apply List.map_congr_left
  intro i hi
  rw [if_pos (List.mem_range.1 hi)]
structure HalfM (w : World) (b n : Nat) (cs : List ID) (u : Nat → Value × Value) (F1 G1 : Nat → Nat → Prop) : Prop where
  row : OwnRow w b (n * 5) (inCell cs u)
  ints : ∀ i, i < n → IntsO w (u i).1 (cs[i]?.getD id0).2.2.2.1 (F1 i)
  ents : ∀ i, i < n → EntsO w (u i).2 (cs[i]?.getD id0).2.2.2.2 (G1 i)
/-- Three cells of one inode turned. -/
theorem inCell_three (cs cs' : List ID) (u : Nat → Value × Value) (j : Nat) (x0 x1 x2 : Int) (h0 : ∀ i, i ≠ j → (cs'[i]?.getD id0) = (cs[i]?.getD id0)) (e0 : (cs'[j]?.getD id0).1 = x0) (e1 : (cs'[j]?.getD id0).2.1 = x1) (e2 : (cs'[j]?.getD id0).2.2.1 = x2) (c : Nat) :
    (if c = j * 5 + 2 then .int .i64 x2 else if c = j * 5 + 1 then .int .i64 x1 else if c = j * 5 then .int .i64 x0 else inCell cs u c) = inCell cs' u c := by
  by_cases hj : c / 5 = j
  · unfold inCell
    rw [hj, e0, e1, e2]
    by_cases h0 : c % 5 = 0
    · rw [if_neg (by omega), if_neg (by omega), if_pos (by omega), if_pos h0]
    · by_cases h1 : c % 5 = 1
      · rw [if_neg (by omega), if_pos (by omega), if_neg h0, if_pos h1]
      · by_cases h2 : c % 5 = 2
        · rw [if_pos (by omega), if_neg h0, if_neg h1, if_pos h2]
        · rw [if_neg (by omega), if_neg (by omega), if_neg (by omega), if_neg h0, if_neg h1, if_neg h2, if_neg h0, if_neg h1, if_neg h2]
  · rw [if_neg (by omega), if_neg (by omega), if_neg (by omega)]
    unfold inCell
    rw [h0 _ hj]

set_option maxHeartbeats 6400000 in
theorem markInosM_walk (w : World) (b cap n k : Nat) (F : Nat → Prop) (ds : List ID) (u : Nat → Value × Value) (F1 G1 : Nat → Nat → Prop) (hF : F b) (hFF : ∀ i c, F1 i c → F c ∧ c ≠ b) (hGF : ∀ i c, G1 i c → F c ∧ c ≠ b) (hFG : ∀ i j c, F1 i c → ¬ G1 j c) (hFd : ∀ i j c, i ≠ j → F1 i c → ¬ F1 j c) (hGd : ∀ i j c, i ≠ j → G1 i c → ¬ G1 j c)
    (hn : ds.length = n) (hk0 : 1 ≤ k) (hk : k + spanInos ds ≤ 4294967296) (hn2 : n ≤ 9223372036854775807) (h0 : HalfM w b n ds u F1 G1) :
    Calls Tryz.prog 45 #[.slice (some ⟨b, 0, none⟩) n cap, .int .i64 (k : Int)] w fun e w' => e = .returned (.int .i64 ((k + spanInos ds : Nat) : Int)) ∧ HalfM w' b n (mkIns k ds) u F1 G1 ∧ Chg F w w' := by
  have H0 : Hid (HalfM w b n (halfI k ds 0) u F1 G1) := by unfold Hid; rw [halfI_zero]; exact h0
  have HF : Hid (F b) := hF
  have HFF : Hid (∀ i c, F1 i c → F c ∧ c ≠ b) := hFF
  have HGF : Hid (∀ i c, G1 i c → F c ∧ c ≠ b) := hGF
  have HFG : Hid (∀ i j c, F1 i c → ¬ G1 j c) := hFG
  have HFD : Hid (∀ i j c, i ≠ j → F1 i c → ¬ F1 j c) := hFd
  have HGD : Hid (∀ i j c, i ≠ j → G1 i c → ¬ G1 j c) := hGd
  have HBD : Hid (∀ j, j < n → inum k ds j + 3 + (ds[j]?.getD id0).2.2.2.1.length + 2 * (ds[j]?.getD id0).2.2.2.2.length = inum k ds (j + 1) ∧ inum k ds (j + 1) ≤ 4294967296) := fun j hj => inum_next k ds hk j (by omega)
  have HE : Hid (inum k ds n = k + spanInos ds) := by unfold Hid; rw [← hn]; exact inum_all k ds
  have HEL : Hid (halfI k ds n = mkIns k ds) := by unfold Hid; rw [← hn]; exact halfI_all k ds
  have HI0 : Hid (inum k ds 0 = k) := by unfold Hid inum; rw [upto_zero, Nat.add_zero]
  have HK1 : Hid (∀ j, 1 ≤ inum k ds j) := fun j => by unfold inum; omega
  have HGT : Hid (∀ j i, i < n → (halfI k ds j)[i]?.getD id0 = if i < j then mkI (inum k ds i) (ds[i]?.getD id0) else ds[i]?.getD id0) := fun j i hi => halfI_get k ds j (by omega)
  have HGO : Hid (∀ j i, i ≠ j → (halfI k ds (j + 1))[i]?.getD id0 = (halfI k ds j)[i]?.getD id0) := fun j i hij => by
    by_cases hi : i < ds.length
    · rw [halfI_get _ _ _ hi, halfI_get _ _ _ hi]
      by_cases e : i < j
      · rw [if_pos e, if_pos (by omega)]
      · rw [if_neg e, if_neg (by omega)]
    · rw [List.getElem?_eq_none (by rw [halfI_length]; omega), List.getElem?_eq_none (by rw [halfI_length]; omega)]
  rw [← HE.out, ← HEL.out]
  clear h0 hF hFF hGF hFG hFd hGd hn hk HE HEL
  generalize inum k ds = N at *
  generalize halfI k ds = CS at *
  go_enter Tryz.func45, Tryz.ntmps45
  go_wp2
  go_loopw [1, 5] (fun q i wr => ∃ j : Nat, j ≤ n ∧ i = .int .i64 j ∧ q = .int .i64 ((N j : Nat) : Int) ∧ HalfM wr b n (CS j) u F1 G1 ∧ Chg F w wr) (fun _ i _ => n - (intOf i).toNat)
  case atStart => exact ⟨0, Nat.zero_le _, rfl, by rw [HI0.out], H0.out, Chg.refl _ _⟩
  case round =>
    obtain ⟨j, hj, rfl, rfl, hh, hch⟩ := hrel
    have HH : Hid (HalfM wr b n (CS j) u F1 G1) := hh
    have HCH : Hid (Chg F w wr) := hch
    clear hh hch H0
    by_cases hlt : j < n
    · obtain ⟨hs, hle⟩ := HBD.out j hlt
      have hN1 := HK1.out j
      have hNb : N j + 3 ≤ 4294967296 := by omega
      have HSN : Hid (N j + 3 + (ds[j]?.getD id0).2.2.2.1.length + 2 * (ds[j]?.getD id0).2.2.2.2.length = N (j + 1)) := hs
      have hgj : (CS j)[j]?.getD id0 = ds[j]?.getD id0 := by rw [HGT.out j j hlt, if_neg (by omega)]
      have hgj' : (CS (j + 1))[j]?.getD id0 = mkI (N j) (ds[j]?.getD id0) := by rw [HGT.out (j + 1) j hlt, if_pos (by omega)]
      have HGJ : Hid ((CS (j + 1))[j]?.getD id0 = mkI (N j) (ds[j]?.getD id0)) := hgj'
      have hr := HH.out.row
      have c0 := hr.cell (i := j * 5) (by omega)
      have c1 := hr.cell (i := j * 5 + 1) (by omega)
      have c2 := hr.cell (i := j * 5 + 2) (by omega)
      have c3 := hr.cell (i := j * 5 + 3) (by omega)
      have c4 := hr.cell (i := j * 5 + 4) (by omega)
      rw [inCell_0] at c0
      rw [inCell_1] at c1
      rw [inCell_2] at c2
      rw [inCell_3] at c3
      rw [inCell_4] at c4
      have f0 := hr.frozen (j * 5)
      have f1 := hr.frozen (j * 5 + 1)
      have f2 := hr.frozen (j * 5 + 2)
      have hbw := hr.lt
      have HR3 : Hid (OwnRow (((wr.setCell ⟨b, j * 5, none⟩ (.int .i64 ((N j : Nat) : Int))).setCell ⟨b, j * 5 + 1, none⟩ (.int .i64 (((N j : Nat) : Int) + 1))).setCell ⟨b, j * 5 + 2, none⟩ (.int .i64 (((N j : Nat) : Int) + 1 + 1))) b (n * 5) (inCell (CS (j + 1)) u)) := by
        have := ((hr.set (j * 5) (.int .i64 ((N j : Nat) : Int))).set (j * 5 + 1) (.int .i64 (((N j : Nat) : Int) + 1))).set (j * 5 + 2) (.int .i64 (((N j : Nat) : Int) + 1 + 1))
        exact this.congr fun c _ => inCell_three (CS j) (CS (j + 1)) u j _ _ _ (HGO.out j) (by rw [hgj']; rfl) (by rw [hgj']; rfl) (by rw [hgj']; rfl) c
      have hset : ∀ c, c ≠ b → (((wr.setCell ⟨b, j * 5, none⟩ (.int .i64 ((N j : Nat) : Int))).setCell ⟨b, j * 5 + 1, none⟩ (.int .i64 (((N j : Nat) : Int) + 1))).setCell ⟨b, j * 5 + 2, none⟩ (.int .i64 (((N j : Nat) : Int) + 1 + 1))).heap[c]? = wr.heap[c]? := fun c hc => by
        rw [Below.heap_setCell _ _ _ _ hc, Below.heap_setCell _ _ _ _ hc, Below.heap_setCell _ _ _ _ hc]
      have HI3 : Hid (∀ i, i < n → IntsO (((wr.setCell ⟨b, j * 5, none⟩ (.int .i64 ((N j : Nat) : Int))).setCell ⟨b, j * 5 + 1, none⟩ (.int .i64 (((N j : Nat) : Int) + 1))).setCell ⟨b, j * 5 + 2, none⟩ (.int .i64 (((N j : Nat) : Int) + 1 + 1))) (u i).1 ((CS j)[i]?.getD id0).2.2.2.1 (F1 i)) := fun i hi => (HH.out.ints i hi).keep fun c hc _ => hset c (HFF.out i c hc).2
      have HE3 : Hid (∀ i, i < n → EntsO (((wr.setCell ⟨b, j * 5, none⟩ (.int .i64 ((N j : Nat) : Int))).setCell ⟨b, j * 5 + 1, none⟩ (.int .i64 (((N j : Nat) : Int) + 1))).setCell ⟨b, j * 5 + 2, none⟩ (.int .i64 (((N j : Nat) : Int) + 1 + 1))) (u i).2 ((CS j)[i]?.getD id0).2.2.2.2 (G1 i)) := fun i hi => (HH.out.ents i hi).keep fun c hc _ => hset c (HGF.out i c hc).2
      have HCH3 : Hid (Chg F w (((wr.setCell ⟨b, j * 5, none⟩ (.int .i64 ((N j : Nat) : Int))).setCell ⟨b, j * 5 + 1, none⟩ (.int .i64 (((N j : Nat) : Int) + 1))).setCell ⟨b, j * 5 + 2, none⟩ (.int .i64 (((N j : Nat) : Int) + 1 + 1)))) := ((HCH.out.set HF.out _ _).set HF.out _ _).set HF.out _ _
      have HIJ := HI3.out j hlt
      have HEJ := HE3.out j hlt
      rw [hgj] at HIJ HEJ c0 c1 c2
      obtain ⟨aB, cB, eB, _⟩ := HIJ.ints.shape
      obtain ⟨aE, cE, eE, _⟩ := HEJ.reads.open'
      have HEB : Hid ((u j).1 = .slice aB (ds[j]?.getD id0).2.2.2.1.length cB) := eB
      have HEE : Hid ((u j).2 = .slice aE (ds[j]?.getD id0).2.2.2.2.length cE) := eE
      rw [eB] at c3 HIJ
      rw [eE] at c4 HEJ
      have HIJ' : Hid (IntsO _ (.slice aB (ds[j]?.getD id0).2.2.2.1.length cB) (ds[j]?.getD id0).2.2.2.1 (F1 j)) := HIJ
      have HEJ' : Hid (EntsO _ (.slice aE (ds[j]?.getD id0).2.2.2.2.length cE) (ds[j]?.getD id0).2.2.2.2 (G1 j)) := HEJ
      clear HIJ HEJ eB eE hs hgj hgj' hset hr
      go_wp2_with fail
      clear c0 c1 c2 c3 c4 f0 f1 f2
      refine (markInts_any (((N j : Nat) : Int) + 1 + 1 + 1) HIJ'.out (by omega) (by have := HSN.out; omega)).mono ?_
      rintro e w1 ⟨rfl, hm1, hc1⟩
      have hr1 : OwnRow w1 b (n * 5) (inCell (CS (j + 1)) u) := HR3.out.block (hc1.block b HR3.out.lt (fun h => (HFF.out j b h).2 rfl))
      have c4 := hr1.cell (i := j * 5 + 4) (by omega)
      rw [inCell_4, HEE.out] at c4
      have HR1 : Hid (OwnRow w1 b (n * 5) (inCell (CS (j + 1)) u)) := hr1
      have HM1 : Hid (IntsO w1 (.slice aB (ds[j]?.getD id0).2.2.2.1.length cB) (marks (((N j : Nat) : Int) + 1 + 1 + 1) (ds[j]?.getD id0).2.2.2.1.length) (F1 j)) := hm1
      have HI1 : Hid (∀ i, i < n → i ≠ j → IntsO w1 (u i).1 ((CS j)[i]?.getD id0).2.2.2.1 (F1 i)) := fun i hi hij => (HI3.out i hi).keep fun c hc hl => hc1.block c hl (HFD.out i j c hij hc)
      have HE1 : Hid (∀ i, i < n → EntsO w1 (u i).2 ((CS j)[i]?.getD id0).2.2.2.2 (G1 i)) := fun i hi => (HE3.out i hi).keep fun c hc hl => hc1.block c hl (fun h => HFG.out j i c h hc)
      have HEJ1 : Hid (EntsO w1 (.slice aE (ds[j]?.getD id0).2.2.2.2.length cE) (ds[j]?.getD id0).2.2.2.2 (G1 j)) := HEJ'.out.keep fun c hc hl => hc1.block c hl (fun h => HFG.out j j c h hc)
      have HCH1 : Hid (Chg F w w1) := HCH3.out.trans (hc1.mono fun c hc => (HFF.out j c hc).1)
      have hq : ((N j : Nat) : Int) + 1 + 1 + 1 + ((ds[j]?.getD id0).2.2.2.1.length : Nat) = ((N j + 3 + (ds[j]?.getD id0).2.2.2.1.length : Nat) : Int) := by omega
      rw [hq]
      clear hq hm1 hc1 hr1 HI3 HE3 HCH3 HR3 HIJ' HEJ'
      go_wp2_with fail
      refine (markEntsU (N j + 3 + (ds[j]?.getD id0).2.2.2.1.length) HEJ1.out (by omega) (by have := HSN.out; omega)).mono ?_
      rintro e w2 ⟨rfl, hm2, hc2⟩
      have HQN : Hid (((N j + 3 + (ds[j]?.getD id0).2.2.2.1.length + 2 * (ds[j]?.getD id0).2.2.2.2.length : Nat) : Int) = ((N (j + 1) : Nat) : Int)) := by unfold Hid; rw [HSN.out]
      rw [HQN.out]
      have HH2 : Hid (HalfM w2 b n (CS (j + 1)) u F1 G1) := by
        refine ⟨HR1.out.block (hc2.block b HR1.out.lt (fun h => (HGF.out j b h).2 rfl)), fun i hi => ?_, fun i hi => ?_⟩
        · by_cases e : i = j
          · subst e
            rw [HGJ.out, HEB.out]
            exact HM1.out.keep fun c hc hl => hc2.block c hl (fun h => HFG.out i i c hc h)
          · rw [HGO.out j i e]
            exact (HI1.out i hi e).keep fun c hc hl => hc2.block c hl (fun h => HFG.out i j c hc h)
        · by_cases e : i = j
          · subst e
            rw [HGJ.out, HEE.out]
            exact hm2
          · rw [HGO.out j i e]
            exact (HE1.out i hi).keep fun c hc hl => hc2.block c hl (HGD.out i j c e hc)
      have HCH2 : Hid (Chg F w w2) := HCH1.out.trans (hc2.mono fun c hc => (HGF.out j c hc).1)
      clear hc2 hm2 c4 HR1 HM1 HI1 HE1 HEJ1 HCH1
      go_wp2
      go_roundw
      case rel => exact ⟨j + 1, by omega, by go_num, rfl, HH2.out, HCH2.out⟩
      case measure => simp [intOf]; omega
    · have HJ : Hid (j = n) := by unfold Hid; omega
      go_wp2
      go_ret
      exact ⟨ret_int (by rw [HJ.out]), by have := HH.out; rw [show CS j = CS n by rw [HJ.out]] at this; exact this, HCH.out⟩
end Go.Proofs.YtaibcofendjnnaaGreatDoor

namespace Go.Proofs.YtaibcofendjnnaaGreatDoor
open Go.RowKit
set_option maxRecDepth 100000

def ynum (k : Nat) (zss : List (List UInt8)) (j : Nat) : Nat := k + upto (ylens zss) j
def mkYs (k : Nat) (zss : List (List UInt8)) : List (List UInt8) := (List.range zss.length).map fun i => mkByt ((ynum k zss i : Nat) : Int) (zss[i]?.getD [])
theorem mkYs_length (k : Nat) (zss : List (List UInt8)) : (mkYs k zss).length = zss.length := by simp [mkYs]
theorem mkYs_get (k : Nat) (zss : List (List UInt8)) {i : Nat} (hi : i < zss.length) : (mkYs k zss)[i]?.getD [] = mkByt ((ynum k zss i : Nat) : Int) (zss[i]?.getD []) := by
  unfold mkYs; rw [List.getElem?_map, List.getElem?_range hi]; rfl
theorem ynum_next (k : Nat) (zss : List (List UInt8)) (j : Nat) (hj : j < zss.length) : ynum k zss (j + 1) = ynum k zss j + (zss[j]?.getD []).length ∧ ynum k zss (j + 1) ≤ k + (ylens zss).sum := by
  have h1 := upto_succ (ylens zss) j (by rw [ylens_length]; exact hj)
  rw [ylens_get] at h1
  have h2 := upto_le (ylens zss) (j + 1)
  unfold ynum
  omega
theorem ynum_all (k : Nat) (zss : List (List UInt8)) : ynum k zss zss.length = k + (ylens zss).sum := by
  have := upto_all (ylens zss)
  rw [ylens_length] at this
  unfold ynum
  rw [this]
set_option maxHeartbeats 800000 in
theorem heldByts_walk (w : World) (a : Option Addr) (cap n k : Nat) (zss : List (List UInt8)) (hn : zss.length = n) (hk : k + (ylens zss).sum ≤ 4294967296) (hn2 : n ≤ 9223372036854775807) (hc : AtYs w a n (mkYs k zss)) :
    Calls Tryz.prog 86 #[.slice a n cap, .int .i64 (k : Int)] w fun e w' => e = .returned (.int .i64 ((k + (ylens zss).sum : Nat) : Int)) ∧ Below w.heap.size w w' := by
  have HC : Hid (∀ j, j < n → ∃ b off ua uc, a = some ⟨b, off, none⟩ ∧ w.cell? ⟨b, off + j, none⟩ = some (.slice ua (zss[j]?.getD []).length uc) ∧ Byt w (.slice ua (zss[j]?.getD []).length uc) (mkByt ((ynum k zss j : Nat) : Int) (zss[j]?.getD []))) := fun j hj => by
    obtain ⟨b, o, ua, uc, e, h1, h2⟩ := hc j hj
    rw [mkYs_get k zss (by omega), mkByt_length] at h1 h2
    exact ⟨b, o, ua, uc, e, h1, h2⟩
  have HBD : Hid (∀ j, j < n → ynum k zss (j + 1) = ynum k zss j + (zss[j]?.getD []).length ∧ ynum k zss (j + 1) ≤ 4294967296) := fun j hj => by
    have := ynum_next k zss j (by omega)
    exact ⟨this.1, by omega⟩
  have HE : Hid (ynum k zss n = k + (ylens zss).sum) := by unfold Hid; rw [← hn]; exact ynum_all k zss
  have HI0 : Hid (ynum k zss 0 = k) := by unfold Hid ynum; rw [upto_zero, Nat.add_zero]
  rw [← HE.out]
  clear hc hn hk HE
  generalize ynum k zss = N at *
  go_enter Tryz.func86, Tryz.ntmps86
  go_wp2
  go_loopw [1, 5] (fun q i wr => ∃ j : Nat, j ≤ n ∧ i = .int .i64 j ∧ q = .int .i64 ((N j : Nat) : Int) ∧ Below w.heap.size w wr) (fun _ i _ => n - (intOf i).toNat)
  case atStart => exact ⟨0, Nat.zero_le _, rfl, by rw [HI0.out], Below.refl _ _⟩
  case round =>
    obtain ⟨j, hj, rfl, rfl, hbl⟩ := hrel
    have HBL : Hid (Below w.heap.size w wr) := hbl
    clear hbl
    by_cases hlt : j < n
    · obtain ⟨b, o, ua, uc, rfl, d0, hY⟩ := HC.out j hlt
      replace d0 := cell_later HBL.out d0
      obtain ⟨hs, hle⟩ := HBD.out j hlt
      have HY : Hid (Byt w (.slice ua (zss[j]?.getD []).length uc) (mkByt ((N j : Nat) : Int) (zss[j]?.getD []))) := hY
      have HS : Hid (((N j : Nat) : Int) + ((zss[j]?.getD []).length : Nat) = ((N (j + 1) : Nat) : Int)) := by unfold Hid; omega
      have hb : ((N j : Nat) : Int) + ((zss[j]?.getD []).length : Nat) ≤ 4611686018427387904 := by omega
      clear hY hs
      go_wp2_with fail
      refine (heldBytU ((N j : Nat) : Int) (HY.out.later HBL.out) (by omega) hb).mono ?_
      rintro e w1 ⟨rfl, hb1⟩
      have HB1 : Hid (Below w.heap.size w w1) := HBL.out.trans (hb1.mono HBL.out.size)
      rw [HS.out]
      have hp : ¬ ((N (j + 1) : Nat) : Int) < 0 := by omega
      clear hb1 d0 hb
      go_wp2
      go_roundw
      case rel => exact ⟨j + 1, by omega, by go_num, rfl, HB1.out⟩
      case measure => simp [intOf]; omega
    · have HJ : Hid (N j = N n) := by unfold Hid; rw [show j = n by omega]
      go_wp2
      go_ret
      exact ⟨ret_int (by rw [HJ.out]), HBL.out⟩

def halfY (k : Nat) (zss : List (List UInt8)) (j i : Nat) : List UInt8 := if i < j then mkByt ((ynum k zss i : Nat) : Int) (zss[i]?.getD []) else zss[i]?.getD []
set_option maxHeartbeats 1600000 in
theorem markBytsM_walk (w : World) (b cap n k : Nat) (F : Nat → Prop) (zss : List (List UInt8)) (u : Nat → Value) (G : Nat → Nat → Prop) (hG : ∀ i c, G i c → F c ∧ c ≠ b) (hGG : ∀ i j c, i ≠ j → G i c → ¬ G j c)
    (hn : zss.length = n) (hk : k + (ylens zss).sum ≤ 4294967296) (hn2 : n ≤ 9223372036854775807) (hr : OwnRow w b n u) (hu : ∀ i, i < n → BytO w (u i) (zss[i]?.getD []) (G i)) :
    Calls Tryz.prog 46 #[.slice (some ⟨b, 0, none⟩) n cap, .int .i64 (k : Int)] w fun e w' => e = .returned (.int .i64 ((k + (ylens zss).sum : Nat) : Int)) ∧ OwnRow w' b n u ∧ (∀ i, i < n → BytO w' (u i) ((mkYs k zss)[i]?.getD []) (G i)) ∧ Chg F w w' := by
  have HR : Hid (OwnRow w b n u) := hr
  have HU : Hid (∀ i, i < n → BytO w (u i) (halfY k zss 0 i) (G i)) := fun i hi => by unfold halfY; rw [if_neg (by omega)]; exact hu i hi
  have HG : Hid (∀ i c, G i c → F c ∧ c ≠ b) := hG
  have HGG : Hid (∀ i j c, i ≠ j → G i c → ¬ G j c) := hGG
  have HBD : Hid (∀ j, j < n → ynum k zss (j + 1) = ynum k zss j + (zss[j]?.getD []).length ∧ ynum k zss (j + 1) ≤ 4294967296) := fun j hj => by
    have := ynum_next k zss j (by omega)
    exact ⟨this.1, by omega⟩
  have HE : Hid (ynum k zss n = k + (ylens zss).sum) := by unfold Hid; rw [← hn]; exact ynum_all k zss
  have HI0 : Hid (ynum k zss 0 = k) := by unfold Hid ynum; rw [upto_zero, Nat.add_zero]
  have HHJ : Hid (∀ j, halfY k zss j j = zss[j]?.getD []) := fun j => by unfold halfY; rw [if_neg (by omega)]
  have HHN : Hid (∀ j, halfY k zss (j + 1) j = mkByt ((ynum k zss j : Nat) : Int) (zss[j]?.getD [])) := fun j => by unfold halfY; rw [if_pos (by omega)]
  have HHO : Hid (∀ j i, i ≠ j → halfY k zss (j + 1) i = halfY k zss j i) := fun j i e => by
    unfold halfY
    by_cases e2 : i < j
    · rw [if_pos e2, if_pos (by omega)]
    · rw [if_neg e2, if_neg (by omega)]
  have HHA : Hid (∀ i, i < n → halfY k zss n i = (mkYs k zss)[i]?.getD []) := fun i hi => by rw [mkYs_get k zss (by omega)]; unfold halfY; rw [if_pos hi]
  rw [← HE.out]
  clear hr hu hG hGG hn hk HE
  generalize ynum k zss = N at *
  generalize halfY k zss = HY at *
  go_enter Tryz.func46, Tryz.ntmps46
  go_wp2
  go_loopw [1, 5] (fun q i wr => ∃ j : Nat, j ≤ n ∧ i = .int .i64 j ∧ q = .int .i64 ((N j : Nat) : Int) ∧ OwnRow wr b n u ∧ (∀ i, i < n → BytO wr (u i) (HY j i) (G i)) ∧ Chg F w wr) (fun _ i _ => n - (intOf i).toNat)
  case atStart => exact ⟨0, Nat.zero_le _, rfl, by rw [HI0.out], HR.out, HU.out, Chg.refl _ _⟩
  case round =>
    obtain ⟨j, hj, rfl, rfl, hrow, hin, hch⟩ := hrel
    have HROW : Hid (OwnRow wr b n u) := hrow
    have HIN : Hid (∀ i, i < n → BytO wr (u i) (HY j i) (G i)) := hin
    have HCH : Hid (Chg F w wr) := hch
    by_cases hlt : j < n
    · have c1 := hrow.cell hlt
      clear hrow hin hch HU HR
      obtain ⟨hs, hle⟩ := HBD.out j hlt
      have HS : Hid (((N j : Nat) : Int) + ((zss[j]?.getD []).length : Nat) = ((N (j + 1) : Nat) : Int)) := by unfold Hid; omega
      have HIJ : Hid (BytO wr (u j) (zss[j]?.getD []) (G j)) := by have := HIN.out j hlt; rw [HHJ.out j] at this; exact this
      have hb : ((N j : Nat) : Int) + ((zss[j]?.getD []).length : Nat) ≤ 4611686018427387904 := by omega
      clear hs
      go_wp2_with fail
      refine (markBytU ((N j : Nat) : Int) HIJ.out (by omega) hb).mono ?_
      rintro e w' ⟨rfl, hm, hc⟩
      have HM : Hid (BytO w' (u j) (mkByt ((N j : Nat) : Int) (zss[j]?.getD [])) (G j)) := hm
      have HC : Hid (Chg (G j) wr w') := hc
      rw [HS.out]
      clear hm hc hb
      go_wp2
      go_roundw
      case rel =>
        refine ⟨j + 1, by omega, by go_num, rfl, HROW.out.block (HC.out.block b HROW.out.lt (fun h => (HG.out j b h).2 rfl)), fun i hi => ?_, HCH.out.trans (HC.out.mono fun c hc => (HG.out j c hc).1)⟩
        by_cases e : i = j
        · subst e
          rw [HHN.out]; exact HM.out
        · rw [HHO.out j i e]
          exact (HIN.out i hi).keep (w' := w') fun c hc hlt => HC.out.block c hlt (HGG.out i j c e hc)
      case measure => simp [intOf]; omega
    · have HJ : Hid (j = n) := by unfold Hid; omega
      clear hrow hin hch
      go_wp2
      go_ret
      exact ⟨ret_int (by rw [HJ.out]), HROW.out, fun i hi => by have := HIN.out i hi; rw [HJ.out, HHA.out i hi] at this; exact this, HCH.out⟩
theorem markBytsM {w : World} {v : Value} {zss : List (List UInt8)} {F : Nat → Prop} (k : Nat) (h : BytsO w v zss F) (hk : k + (ylens zss).sum ≤ 4294967296) :
    Calls Tryz.prog 46 #[v, .int .i64 (k : Int)] w fun e w' => e = .returned (.int .i64 ((k + (ylens zss).sum : Nat) : Int)) ∧ BytsO w' v (mkYs k zss) F ∧ Chg F w w' := by
  rcases h with ⟨rfl, a, cap, rfl⟩ | ⟨b, cap, u, G, hF, hG, hGG, rfl, hl, hr, hu⟩
  · exact (markByts_nil w a cap _).mono fun e w' ⟨he, hw⟩ => ⟨by rw [he]; simp [ylens], Or.inl ⟨rfl, _, _, rfl⟩, hw ▸ Chg.refl _ _⟩
  · refine (markBytsM_walk w b cap zss.length k F zss u G hG hGG rfl hk (by have := hl.1; unfold maxLen at this; omega) hr hu).mono fun e w' ⟨he, h1, h2, hc⟩ => ⟨he, Or.inr ⟨b, cap, u, G, hF, hG, hGG, by rw [mkYs_length], by rw [mkYs_length]; exact hl, by rw [mkYs_length]; exact h1, by rw [mkYs_length]; exact h2⟩, hc⟩
theorem heldBytsM {w : World} {v : Value} (k : Nat) (zss : List (List UInt8)) (h : Byts w v (mkYs k zss)) (hk : k + (ylens zss).sum ≤ 4294967296) :
    Calls Tryz.prog 86 #[v, .int .i64 (k : Int)] w fun e w' => e = .returned (.int .i64 ((k + (ylens zss).sum : Nat) : Int)) ∧ Below w.heap.size w w' := by
  obtain ⟨a, cap, rfl, hm, hc⟩ := h.open'
  rw [mkYs_length] at hm hc ⊢
  exact heldByts_walk w a cap zss.length k zss rfl hk (by have := hm.1; unfold maxLen at this; omega) hc
end Go.Proofs.YtaibcofendjnnaaGreatDoor

namespace Go.Proofs.YtaibcofendjnnaaGreatDoor
open Go.RowKit
set_option maxRecDepth 100000

open Classical in
theorem pickQ {α : Type} [Inhabited α] {n : Nat} {P : Nat → α → Prop} (h : ∀ i, i < n → ∃ q, P i q) : ∃ f : Nat → α, ∀ i, i < n → P i (f i) :=
  ⟨fun i => if hi : i < n then Classical.choose (h i hi) else default, fun i hi => by dsimp only; rw [dif_pos hi]; exact Classical.choose_spec (h i hi)⟩
def mkFs (k : Int) (d : FD) : FD := (mkIns k.toNat d.1, mkYs (k.toNat + spanInos d.1) d.2)
theorem markInosM {w : World} {v : Value} {ds : List ID} {F : Nat → Prop} (k : Nat) (h : InosO w v ds F) (hk0 : 1 ≤ k) (hk : k + spanInos ds ≤ 4294967296) :
    Calls Tryz.prog 45 #[v, .int .i64 (k : Int)] w fun e w' => e = .returned (.int .i64 ((k + spanInos ds : Nat) : Int)) ∧ InosO w' v (mkIns k ds) F ∧ Chg F w w' := by
  rcases h with ⟨rfl, a, cap, rfl⟩ | ⟨b, cap, u, G, hF, hG, hGG, rfl, hl, hr, hu⟩
  · exact (markInos_nil w a cap _).mono fun e w' ⟨he, hw⟩ => ⟨by rw [he]; simp [spanInos, isp], Or.inl ⟨rfl, _, _, rfl⟩, hw ▸ Chg.refl _ _⟩
  · have hch : ∀ i, i < ds.length → ∃ q : (Nat → Prop) × (Nat → Prop), IntsO w (u i).1 (ds[i]?.getD id0).2.2.2.1 q.1 ∧ EntsO w (u i).2 (ds[i]?.getD id0).2.2.2.2 q.2 ∧ (∀ c, q.1 c → ¬ q.2 c) ∧ ∀ c, q.1 c ∨ q.2 c → G i c := fun i hi => by
      obtain ⟨_, F1, G1, h1, h2, h3, h4⟩ := hu i hi
      exact ⟨(F1, G1), h1, h2, h3, h4⟩
    obtain ⟨Q, hQ⟩ := pickQ hch
    have hcapu : ∀ i, i < ds.length → capOK (u i).1 := fun i hi => (hu i hi).1.2.2.2
    refine (markInosM_walk w b cap ds.length k F ds u (fun i c => i < ds.length ∧ (Q i).1 c) (fun i c => i < ds.length ∧ (Q i).2 c) hF (fun i c hc => hG i c ((hQ i hc.1).2.2.2 c (Or.inl hc.2))) (fun i c hc => hG i c ((hQ i hc.1).2.2.2 c (Or.inr hc.2))) (fun i j c hc hc' => ?_) (fun i j c e hc hc' => hGG i j c e ((hQ i hc.1).2.2.2 c (Or.inl hc.2)) ((hQ j hc'.1).2.2.2 c (Or.inl hc'.2))) (fun i j c e hc hc' => hGG i j c e ((hQ i hc.1).2.2.2 c (Or.inr hc.2)) ((hQ j hc'.1).2.2.2 c (Or.inr hc'.2))) rfl hk0 hk (by have := hl.1; unfold maxLen at this; omega)
      ⟨hr, fun i hi => (hQ i hi).1.mono fun c hc => ⟨hi, hc⟩, fun i hi => (hQ i hi).2.1.mono fun c hc => ⟨hi, hc⟩⟩).mono fun e w' ⟨he, hm, hc⟩ => ⟨he, Or.inr ⟨b, cap, u, G, hF, hG, hGG, by rw [mkIns_length], by rw [mkIns_length]; exact hl, by rw [mkIns_length]; exact hm.row, fun i hi => ?_⟩, hc⟩
    · by_cases e : i = j
      · subst e; exact (hQ i hc.1).2.2.1 c hc.2 hc'.2
      · exact hGG i j c e ((hQ i hc.1).2.2.2 c (Or.inl hc.2)) ((hQ j hc'.1).2.2.2 c (Or.inr hc'.2))
    · rw [mkIns_length] at hi
      exact ⟨⟨rfl, rfl, rfl, hcapu i hi⟩, _, _, hm.ints i hi, hm.ents i hi, fun c hc hc' => (hQ i hi).2.2.1 c hc.2 hc'.2, fun c hc => (hQ i hi).2.2.2 c (hc.imp (·.2) (·.2))⟩
theorem heldInosM {w : World} {v : Value} (k : Nat) (ds : List ID) (h : Inos w v (mkIns k ds)) (hk0 : 1 ≤ k) (hk : k + spanInos ds ≤ 4294967296) :
    Calls Tryz.prog 85 #[v, .int .i64 (k : Int)] w fun e w' => e = .returned (.int .i64 ((k + spanInos ds : Nat) : Int)) ∧ Below w.heap.size w w' := by
  obtain ⟨a, cap, rfl, hm, hc⟩ := h.open'
  rw [mkIns_length] at hm hc ⊢
  exact heldInos_walk w a cap ds.length k ds rfl hk0 hk (by have := hm.1; unfold maxLen at this; omega) hc

set_option maxHeartbeats 800000 in
theorem markFsM (w : World) (v1 v2 : Value) (d : FD) (F : Nat → Prop) (k : Int) (h : FsU w v1 v2 d F) (hk0 : 1 ≤ k) (hk : k + (spanFs d : Nat) ≤ 4294967296) :
    Calls Tryz.prog 21 #[.agg #[v1, v2], .int .i64 k] w fun e w' => e = .returned (.int .i64 (k + (spanFs d : Nat))) ∧ FsU w' v1 v2 (mkFs k d) F ∧ Chg F w w' := by
  obtain ⟨q, rfl⟩ := Int.eq_ofNat_of_zero_le (a := k) (by omega)
  obtain ⟨F1, G1, h1, h2, hd, hf⟩ := h
  have H1 : Hid (InosO w v1 d.1 F1) := h1
  have H2 : Hid (BytsO w v2 d.2 G1) := h2
  have HD : Hid (∀ b, F1 b → ¬ G1 b) := hd
  have HF : Hid (∀ b, F1 b ∨ G1 b → F b) := hf
  have HE : Hid (((q : Nat) : Int) + (spanFs d : Nat) = ((q + spanInos d.1 + (ylens d.2).sum : Nat) : Int)) := by unfold Hid spanFs; omega
  have HMK : Hid (mkFs ((q : Nat) : Int) d = (mkIns q d.1, mkYs (q + spanInos d.1) d.2)) := by unfold Hid mkFs; simp
  have hk2 : q + spanInos d.1 + (ylens d.2).sum ≤ 4294967296 := by unfold spanFs at hk; omega
  rw [HE.out, HMK.out]
  clear h1 h2 hd hf hk HE HMK
  go_enter Tryz.func21, Tryz.ntmps21
  go_wp2_with fail
  refine (markInosM q (H1.out.bound.keep fun b hb hlt => (later1 _ _).block b hlt) (by omega) (by omega)).mono ?_
  rintro e w1 ⟨rfl, hm, hc⟩
  have c1 : w1.cell? ⟨w.heap.size, 1, none⟩ = some v2 := by
    rw [World.cell?_of_block (w := w.alloc (.cells #[v1, v2] 32)) (box_later hc fun b hb => hb.2), new_cell]; rfl
  have HM : Hid (InosO w1 v1 (mkIns q d.1) (fun b => F1 b ∧ b < w.heap.size)) := hm
  have HC : Hid (Chg (fun b => F1 b ∧ b < w.heap.size) (w.alloc (.cells #[v1, v2] 32)) w1) := hc
  have H2' : Hid (BytsO w1 v2 d.2 (fun b => G1 b ∧ b < w.heap.size)) := H2.out.bound.keep fun b hb hlt => (HC.out.block b (by simp; omega) (fun h => HD.out b h.1 hb.1)).trans ((later1 _ _).block b hlt)
  clear hc hm
  go_wp2_with fail
  refine (markBytsM _ H2'.out (by omega)).mono ?_
  rintro e w2 ⟨rfl, hm2, hc2⟩
  have HM2 : Hid (BytsO w2 v2 (mkYs (q + spanInos d.1) d.2) (fun b => G1 b ∧ b < w.heap.size)) := hm2
  have HC2 : Hid (Chg (fun b => G1 b ∧ b < w.heap.size) w1 w2) := hc2
  clear hc2 hm2
  go_wp2
  go_ret
  exact ⟨rfl, ⟨_, _, HM.out.keep fun b hb hlt => HC2.out.block b hlt (fun h => HD.out b hb.1 h.1), HM2.out, fun b hb hb' => HD.out b hb.1 hb'.1, fun b hb => HF.out b (hb.imp (·.1) (·.1))⟩, (Chg.of_below (later1 _ _)).trans ((HC.out.mono fun b hb => HF.out b (Or.inl hb.1)).trans (HC2.out.mono fun b hb => HF.out b (Or.inr hb.1)))⟩
set_option maxHeartbeats 800000 in
theorem heldFsM (w : World) (v1 v2 : Value) (d : FD) (k : Int) (h : FsR w v1 v2 (mkFs k d)) (hk0 : 1 ≤ k) (hk : k + (spanFs d : Nat) ≤ 4294967296) :
    Calls Tryz.prog 51 #[.agg #[v1, v2], .int .i64 k] w fun e w' => e = .returned (.int .i64 (k + (spanFs d : Nat))) ∧ Below w.heap.size w w' := by
  obtain ⟨q, rfl⟩ := Int.eq_ofNat_of_zero_le (a := k) (by omega)
  have HMK : Hid (mkFs ((q : Nat) : Int) d = (mkIns q d.1, mkYs (q + spanInos d.1) d.2)) := by unfold Hid mkFs; simp
  rw [HMK.out] at h
  have H1 : Hid (Inos w v1 (mkIns q d.1)) := h.1
  have H2 : Hid (Byts w v2 (mkYs (q + spanInos d.1) d.2)) := h.2
  have HE : Hid (((q : Nat) : Int) + (spanFs d : Nat) = ((q + spanInos d.1 + (ylens d.2).sum : Nat) : Int)) := by unfold Hid spanFs; omega
  have hk2 : q + spanInos d.1 + (ylens d.2).sum ≤ 4294967296 := by unfold spanFs at hk; omega
  have HX : Hid (Bx (w.alloc (.cells #[v1, v2] 32)) w.heap.size [v1, v2]) := Bx.new w [v1, v2] _
  rw [HE.out]
  clear h hk HE HMK
  go_enter Tryz.func51, Tryz.ntmps51
  go_wp2_with fail
  refine (heldInosM q d.1 (H1.out.later (later1 _ _)) (by omega) (by omega)).mono ?_
  rintro e w1 ⟨rfl, hb1⟩
  have HB1 : Hid (Below w.heap.size w w1) := (later1 _ _).trans (hb1.mono (by simp))
  have x1 := (HX.out.later hb1) 1 _ rfl
  have hp : ¬ ((q + spanInos d.1 : Nat) : Int) < 0 := by omega
  clear hb1
  go_wp2_with fail
  refine (heldBytsM (q + spanInos d.1) d.2 (H2.out.later HB1.out) (by omega)).mono ?_
  rintro e w2 ⟨rfl, hb2⟩
  have HB2 : Hid (Below w.heap.size w w2) := HB1.out.trans (hb2.mono HB1.out.size)
  have hp2 : ¬ ((q + spanInos d.1 + (ylens d.2).sum : Nat) : Int) < 0 := by omega
  clear hb2 x1
  go_wp2
  go_ret
  exact ⟨rfl, HB2.out⟩

/-- Answers that are a code and a file system. -/
def AnsFR (w : World) (r : Int × FD) (e : Ending) (w' : World) : Prop := ∃ a1 n1 c1 a2 n2 c2, e = .returned (.agg #[.int .i64 r.1, .slice a1 n1 c1, .slice a2 n2 c2]) ∧ Below w.heap.size w w' ∧ FsU w' (.slice a1 n1 c1) (.slice a2 n2 c2) r.2 (fresh w w')
end Go.Proofs.YtaibcofendjnnaaGreatDoor

namespace Go.Proofs.YtaibcofendjnnaaGreatDoor
open Go.RowKit
set_option maxRecDepth 100000

theorem set_getD {α : Type} (l : List α) (j : Nat) (x z : α) (i : Nat) (hj : j < l.length) : (l.set j x)[i]?.getD z = if i = j then x else l[i]?.getD z := by
  rw [List.getElem?_set]
  by_cases e : i = j
  · subst e; simp [hj]
  · rw [if_neg (fun h => e h.symm), if_neg e]

/-- Lists of bytes stand in the row at block b. -/
structure YsS (w : World) (b n cap : Nat) (zss : List (List UInt8)) (F : Nat → Prop) : Prop where
  len : zss.length = n
  max : n ≤ maxLen ∧ n ≤ cap
  own : ∃ (u : Nat → Value) (G : Nat → Nat → Prop), F b ∧ (∀ i c, G i c → F c ∧ c ≠ b) ∧ (∀ i j c, i ≠ j → G i c → ¬ G j c) ∧ OwnRow w b n u ∧ ∀ i, i < n → BytO w (u i) (zss[i]?.getD []) (G i)
theorem YsS.byts {w : World} {b n cap : Nat} {zss : List (List UInt8)} {F : Nat → Prop} (h : YsS w b n cap zss F) : BytsO w (.slice (some ⟨b, 0, none⟩) n cap) zss F := by
  obtain ⟨rfl, hm, u, G, h1, h2, h3, h4, h5⟩ := h
  exact Or.inr ⟨b, cap, u, G, h1, h2, h3, rfl, hm, h4, h5⟩
theorem YsS.of {w : World} {v : Value} {zss : List (List UInt8)} {F : Nat → Prop} (h : BytsO w v zss F) (h0 : 0 < zss.length) : ∃ b cap, v = .slice (some ⟨b, 0, none⟩) zss.length cap ∧ YsS w b zss.length cap zss F := by
  rcases h with ⟨rfl, _⟩ | ⟨b, cap, u, G, hF, hG, hGG, h1, h2, h3, h4⟩
  · simp at h0
  · exact ⟨b, cap, h1, rfl, h2, u, G, hF, hG, hGG, h3, h4⟩
theorem YsS.keep {w w' : World} {b n cap : Nat} {zss : List (List UInt8)} {F : Nat → Prop} (h : YsS w b n cap zss F) (e : ∀ c, F c → c < w.heap.size → w'.heap[c]? = w.heap[c]?) : YsS w' b n cap zss F := by
  obtain ⟨h0, hm, u, G, h1, h2, h3, h4, h5⟩ := h
  exact ⟨h0, hm, u, G, h1, h2, h3, h4.block (e b h1 h4.lt), fun i hi => (h5 i hi).keep fun c hc => e c (h2 i c hc).1⟩
theorem YsS.mono {w : World} {b n cap : Nat} {zss : List (List UInt8)} {F F' : Nat → Prop} (h : YsS w b n cap zss F) (e : ∀ c, F c → F' c) : YsS w b n cap zss F' := by
  obtain ⟨h0, hm, u, G, h1, h2, h3, h4, h5⟩ := h
  exact ⟨h0, hm, u, G, e b h1, fun i c hc => ⟨e c (h2 i c hc).1, (h2 i c hc).2⟩, h3, h4, h5⟩
theorem YsS.bound {w : World} {b n cap : Nat} {zss : List (List UInt8)} {F : Nat → Prop} (h : YsS w b n cap zss F) : YsS w b n cap zss (fun c => F c ∧ c < w.heap.size) := by
  obtain ⟨h0, hm, u, G, h1, h2, h3, h4, h5⟩ := h
  exact ⟨h0, hm, u, fun i c => G i c ∧ c < w.heap.size, ⟨h1, h4.lt⟩, fun i c hc => ⟨⟨(h2 i c hc.1).1, hc.2⟩, (h2 i c hc.1).2⟩, fun i j c e hc hc' => h3 i j c e hc.1 hc'.1, h4, fun i hi => (h5 i hi).bound⟩
theorem YsS.cell {w : World} {b n cap : Nat} {zss : List (List UInt8)} {F : Nat → Prop} (h : YsS w b n cap zss F) (y : Nat) (hy : y < n) : ∃ ua uc, w.cell? ⟨b, y, none⟩ = some (.slice ua (zss[y]?.getD []).length uc) ∧ w.frozen? ⟨b, y, none⟩ = false ∧ Byt w (.slice ua (zss[y]?.getD []).length uc) (zss[y]?.getD []) := by
  obtain ⟨h0, hm, u, G, h1, h2, h3, h4, h5⟩ := h
  obtain ⟨ua, uc, e, h6, h7⟩ := (h5 y hy).reads
  have := h4.cell hy
  rw [e] at this
  exact ⟨ua, uc, this, h4.frozen y, ua, uc, rfl, h6, h7⟩
/-- One list turns. -/
theorem YsS.put {w W : World} {b n cap : Nat} {zss : List (List UInt8)} {F G' : Nat → Prop} (h : YsS w b n cap zss F) (y : Nat) (hy : y < n) (hk : ∀ c, F c → c < w.heap.size → W.heap[c]? = w.heap[c]?) (v : Value) (zs : List UInt8) (hv : BytO W v zs G') (hG : ∀ c, G' c → w.heap.size ≤ c ∧ ¬ c = b) :
    YsS (W.setCell ⟨b, y, none⟩ v) b n cap (zss.set y zs) (fun c => F c ∨ G' c) := by
  obtain ⟨h0, hm, u, G, h1, h2, h3, h4, h5⟩ := h.bound
  refine ⟨by simpa using h0, hm, fun i => if i = y then v else u i, fun i c => if i = y then G' c else G i c, Or.inl h1.1, fun i c hc => ?_, fun i j c e hc hc' => ?_, ((h4.block (hk b h1.1 h1.2)).set y v).congr fun i _ => rfl, fun i hi => ?_⟩
  · by_cases e : i = y
    · simp only [e, if_true] at hc
      exact ⟨Or.inr hc, (hG c hc).2⟩
    · simp only [e, if_false] at hc
      exact ⟨Or.inl (h2 i c hc).1.1, (h2 i c hc).2⟩
  · by_cases ei : i = y
    · have ej : ¬ j = y := fun ej => e (ei.trans ej.symm)
      simp only [ei, ej, if_true, if_false] at hc hc'
      have := (h2 j c hc').1.2
      have := (hG c hc).1
      omega
    · by_cases ej : j = y
      · simp only [ei, ej, if_true, if_false] at hc hc'
        have := (h2 i c hc).1.2
        have := (hG c hc').1
        omega
      · simp only [ei, ej, if_false] at hc hc'
        exact h3 i j c e hc hc'
  · rw [set_getD _ _ _ _ _ (by omega)]
    by_cases e : i = y
    · simp only [e, if_true]
      exact hv.keep fun c hc _ => Below.heap_setCell _ _ _ _ (hG c hc).2
    · simp only [e, if_false]
      exact ((h5 i hi).keep fun c hc hlt => hk c (h2 i c hc).1.1 hlt).keep fun c hc _ => Below.heap_setCell _ _ _ _ (h2 i c hc).2

/-- Inodes stand in the row at block b. -/
structure InS (w : World) (b n cap : Nat) (ds : List ID) (F : Nat → Prop) : Prop where
  len : ds.length = n
  max : n ≤ maxLen ∧ n ≤ cap
  own : ∃ (u : Nat → Value × Value) (G : Nat → Nat → Prop), F b ∧ (∀ i c, G i c → F c ∧ c ≠ b) ∧ (∀ i j c, i ≠ j → G i c → ¬ G j c) ∧ OwnRow w b (n * 5) (inCell ds u) ∧
    ∀ i, i < n → InoU w (.int .i64 (ds[i]?.getD id0).1) (.int .i64 (ds[i]?.getD id0).2.1) (.int .i64 (ds[i]?.getD id0).2.2.1) (u i).1 (u i).2 (ds[i]?.getD id0) (G i)
theorem InS.inos {w : World} {b n cap : Nat} {ds : List ID} {F : Nat → Prop} (h : InS w b n cap ds F) : InosO w (.slice (some ⟨b, 0, none⟩) n cap) ds F := by
  obtain ⟨rfl, hm, u, G, h1, h2, h3, h4, h5⟩ := h
  exact Or.inr ⟨b, cap, u, G, h1, h2, h3, rfl, hm, h4, h5⟩
theorem InS.of {w : World} {v : Value} {ds : List ID} {F : Nat → Prop} (h : InosO w v ds F) (h0 : 0 < ds.length) : ∃ b cap, v = .slice (some ⟨b, 0, none⟩) ds.length cap ∧ InS w b ds.length cap ds F := by
  rcases h with ⟨rfl, _⟩ | ⟨b, cap, u, G, hF, hG, hGG, h1, h2, h3, h4⟩
  · simp at h0
  · exact ⟨b, cap, h1, rfl, h2, u, G, hF, hG, hGG, h3, h4⟩
theorem InS.keep {w w' : World} {b n cap : Nat} {ds : List ID} {F : Nat → Prop} (h : InS w b n cap ds F) (e : ∀ c, F c → c < w.heap.size → w'.heap[c]? = w.heap[c]?) : InS w' b n cap ds F := by
  obtain ⟨h0, hm, u, G, h1, h2, h3, h4, h5⟩ := h
  exact ⟨h0, hm, u, G, h1, h2, h3, h4.block (e b h1 h4.lt), fun i hi => (h5 i hi).keep fun c hc => e c (h2 i c hc).1⟩
theorem InS.mono {w : World} {b n cap : Nat} {ds : List ID} {F F' : Nat → Prop} (h : InS w b n cap ds F) (e : ∀ c, F c → F' c) : InS w b n cap ds F' := by
  obtain ⟨h0, hm, u, G, h1, h2, h3, h4, h5⟩ := h
  exact ⟨h0, hm, u, G, e b h1, fun i c hc => ⟨e c (h2 i c hc).1, (h2 i c hc).2⟩, h3, h4, h5⟩
theorem InS.bound {w : World} {b n cap : Nat} {ds : List ID} {F : Nat → Prop} (h : InS w b n cap ds F) : InS w b n cap ds (fun c => F c ∧ c < w.heap.size) := by
  obtain ⟨h0, hm, u, G, h1, h2, h3, h4, h5⟩ := h
  exact ⟨h0, hm, u, fun i c => G i c ∧ c < w.heap.size, ⟨h1, h4.lt⟩, fun i c hc => ⟨⟨(h2 i c hc.1).1, hc.2⟩, (h2 i c hc.1).2⟩, fun i j c e hc hc' => h3 i j c e hc.1 hc'.1, h4, fun i hi => (h5 i hi).bound⟩
/-- What lies at place j: its cells, and its blocks, each in memory of F and none of it the row. -/
theorem InS.at' {w : World} {b n cap : Nat} {ds : List ID} {F : Nat → Prop} (h : InS w b n cap ds F) (j : Nat) (hj : j < n) : ∃ aB cB aE cE,
    w.cell? ⟨b, j * 5, none⟩ = some (.int .i64 (ds[j]?.getD id0).1) ∧ w.cell? ⟨b, j * 5 + 1, none⟩ = some (.int .i64 (ds[j]?.getD id0).2.1) ∧ w.cell? ⟨b, j * 5 + 2, none⟩ = some (.int .i64 (ds[j]?.getD id0).2.2.1) ∧
    w.cell? ⟨b, j * 5 + 3, none⟩ = some (.slice aB (ds[j]?.getD id0).2.2.2.1.length cB) ∧ w.cell? ⟨b, j * 5 + 4, none⟩ = some (.slice aE (ds[j]?.getD id0).2.2.2.2.length cE) ∧
    ((ds[j]?.getD id0).2.2.2.1.length ≤ cB) ∧ (∀ i, w.frozen? ⟨b, i, none⟩ = false) ∧ b < w.heap.size ∧
    (∀ k, k < (ds[j]?.getD id0).2.2.2.1.length → ∃ b1, aB = some ⟨b1, 0, none⟩ ∧ F b1 ∧ b1 ≠ b ∧ b1 < w.heap.size ∧ w.cell? ⟨b1, k, none⟩ = some (.int .i64 ((ds[j]?.getD id0).2.2.2.1[k]?.getD 0))) ∧
    InoR w (.int .i64 (ds[j]?.getD id0).1) (.int .i64 (ds[j]?.getD id0).2.1) (.int .i64 (ds[j]?.getD id0).2.2.1) (.slice aB (ds[j]?.getD id0).2.2.2.1.length cB) (.slice aE (ds[j]?.getD id0).2.2.2.2.length cE) (ds[j]?.getD id0) := by
  obtain ⟨h0, hm, u, G, h1, h2, h3, h4, h5⟩ := h
  have hu := h5 j hj
  obtain ⟨aB, cB, eB, _, _⟩ := hu.reads.2.1.open'
  obtain ⟨aE, cE, eE, _, _⟩ := hu.reads.2.2.open'
  have e0 := h4.cell (i := j * 5) (by omega)
  have e1 := h4.cell (i := j * 5 + 1) (by omega)
  have e2 := h4.cell (i := j * 5 + 2) (by omega)
  have e3 := h4.cell (i := j * 5 + 3) (by omega)
  have e4 := h4.cell (i := j * 5 + 4) (by omega)
  rw [inCell_0] at e0
  rw [inCell_1] at e1
  rw [inCell_2] at e2
  rw [inCell_3, eB] at e3
  rw [inCell_4, eE] at e4
  have hr := hu.reads
  rw [eB, eE] at hr
  refine ⟨aB, cB, aE, cE, e0, e1, e2, e3, e4, ?_, h4.frozen, h4.lt, fun k hk => ?_, hr⟩
  · obtain ⟨_, _, _, e, hle⟩ := hr.1.2.2.2
    simp only [Value.slice.injEq] at e
    obtain ⟨_, rfl, rfl⟩ := e
    exact hle
  · obtain ⟨_, F1, G1, hI, _, _, hf⟩ := hu
    rcases hI with ⟨hI, _⟩ | ⟨b1, cap1, hF1, hv, hl, hr1⟩
    · rw [hI] at hk; simp at hk
    · rw [eB] at hv
      simp only [Value.slice.injEq] at hv
      obtain ⟨rfl, _, rfl⟩ := hv
      have := h2 j b1 (hf b1 (Or.inl hF1))
      exact ⟨b1, rfl, this.1, this.2, hr1.lt, hr1.cell hk⟩
/-- One inode turns. -/
theorem InS.put {w W : World} {b n cap : Nat} {ds : List ID} {F G' : Nat → Prop} (h : InS w b n cap ds F) (j : Nat) (_hj : j < n) (d' : ID) (vB vE : Value)
    (hrow : ∀ u, OwnRow w b (n * 5) (inCell ds u) → OwnRow W b (n * 5) (inCell (ds.set j d') (fun i => if i = j then (vB, vE) else u i)))
    (hk : ∀ c, F c → c ≠ b → c < w.heap.size → W.heap[c]? = w.heap[c]?) (hv : InoU W (.int .i64 d'.1) (.int .i64 d'.2.1) (.int .i64 d'.2.2.1) vB vE d' G') (hG : ∀ c, G' c → ¬ F c ∧ c ≠ b) :
    InS W b n cap (ds.set j d') (fun c => F c ∨ G' c) := by
  obtain ⟨h0, hm, u, G, h1, h2, h3, h4, h5⟩ := h
  refine ⟨by simpa using h0, hm, fun i => if i = j then (vB, vE) else u i, fun i c => if i = j then G' c else G i c, Or.inl h1, fun i c hc => ?_, fun i k c e hc hc' => ?_, hrow u h4, fun i hi => ?_⟩
  · by_cases e : i = j
    · simp only [e, if_true] at hc
      exact ⟨Or.inr hc, (hG c hc).2⟩
    · simp only [e, if_false] at hc
      exact ⟨Or.inl (h2 i c hc).1, (h2 i c hc).2⟩
  · by_cases ei : i = j
    · have ej : ¬ k = j := fun ej => e (ei.trans ej.symm)
      simp only [ei, ej, if_true, if_false] at hc hc'
      exact (hG c hc).1 (h2 k c hc').1
    · by_cases ej : k = j
      · simp only [ei, ej, if_true, if_false] at hc hc'
        exact (hG c hc').1 (h2 i c hc).1
      · simp only [ei, ej, if_false] at hc hc'
        exact h3 i k c e hc hc'
  · rw [set_getD _ _ _ _ _ (by omega)]
    by_cases e : i = j
    · simp only [e, if_true]
      exact hv
    · simp only [e, if_false]
      exact (h5 i hi).keep fun c hc hlt => hk c (h2 i c hc).1 (h2 i c hc).2 hlt

/-- How the row's cells turn where an inode does. -/
theorem inCell_set (ds : List ID) (u : Nat → Value × Value) (j : Nat) (hj : j < ds.length) (d' : ID) (vB vE : Value) (c : Nat) :
    inCell (ds.set j d') (fun i => if i = j then (vB, vE) else u i) c = if c = j * 5 then .int .i64 d'.1 else if c = j * 5 + 1 then .int .i64 d'.2.1 else if c = j * 5 + 2 then .int .i64 d'.2.2.1 else if c = j * 5 + 3 then vB else if c = j * 5 + 4 then vE else inCell ds u c := by
  unfold inCell
  dsimp only
  rw [set_getD _ _ _ _ _ hj]
  by_cases e : c / 5 = j
  · have : c % 5 = 0 ∨ c % 5 = 1 ∨ c % 5 = 2 ∨ c % 5 = 3 ∨ c % 5 = 4 := by omega
    rcases this with h | h | h | h | h
    · rw [if_pos e, if_pos h, if_pos (by omega)]
    · rw [if_pos e, if_neg (by omega), if_pos h, if_neg (by omega), if_pos (by omega)]
    · rw [if_pos e, if_neg (by omega), if_neg (by omega), if_pos h, if_neg (by omega), if_neg (by omega), if_pos (by omega)]
    · rw [if_neg (by omega), if_neg (by omega), if_neg (by omega), if_pos h, if_pos e, if_neg (by omega), if_neg (by omega), if_neg (by omega), if_pos (by omega)]
    · rw [if_neg (by omega), if_neg (by omega), if_neg (by omega), if_neg (by omega), if_pos e, if_neg (by omega), if_neg (by omega), if_neg (by omega), if_neg (by omega), if_pos (by omega)]
  · rw [if_neg e, if_neg e, if_neg (show ¬ c = j * 5 by omega), if_neg (show ¬ c = j * 5 + 1 by omega), if_neg (show ¬ c = j * 5 + 2 by omega), if_neg (show ¬ c = j * 5 + 3 by omega), if_neg (show ¬ c = j * 5 + 4 by omega)]

/-- A file system whose two rows stand at blocks bI and bD. -/
structure FsS (w : World) (bI n cI bD m cD : Nat) (d : FD) (F : Nat → Prop) : Prop where
  own : ∃ F1 G1 : Nat → Prop, InS w bI n cI d.1 F1 ∧ YsS w bD m cD d.2 G1 ∧ (∀ b, F1 b → ¬ G1 b) ∧ ∀ b, F1 b ∨ G1 b → F b ∧ b < w.heap.size
theorem FsS.fs {w : World} {bI n cI bD m cD : Nat} {d : FD} {F : Nat → Prop} (h : FsS w bI n cI bD m cD d F) : FsU w (.slice (some ⟨bI, 0, none⟩) n cI) (.slice (some ⟨bD, 0, none⟩) m cD) d F := by
  obtain ⟨F1, G1, h1, h2, h3, h4⟩ := h
  exact ⟨F1, G1, h1.inos, h2.byts, h3, fun b hb => (h4 b hb).1⟩
theorem FsS.of {w : World} {v1 v2 : Value} {d : FD} {F : Nat → Prop} (h : FsU w v1 v2 d F) (h1 : 0 < d.1.length) (h2 : 0 < d.2.length) : ∃ bI cI bD cD, v1 = .slice (some ⟨bI, 0, none⟩) d.1.length cI ∧ v2 = .slice (some ⟨bD, 0, none⟩) d.2.length cD ∧ FsS w bI d.1.length cI bD d.2.length cD d F := by
  obtain ⟨F1, G1, i1, i2, i3, i4⟩ := h
  obtain ⟨bI, cI, rfl, k1⟩ := InS.of i1 h1
  obtain ⟨bD, cD, rfl, k2⟩ := YsS.of i2 h2
  exact ⟨bI, cI, bD, cD, rfl, rfl, _, _, k1.bound, k2.bound, fun b hb hb' => i3 b hb.1 hb'.1, fun b hb => by
    rcases hb with hb | hb
    · exact ⟨i4 b (Or.inl hb.1), hb.2⟩
    · exact ⟨i4 b (Or.inr hb.1), hb.2⟩⟩
theorem FsS.later {w w' : World} {bI n cI bD m cD : Nat} {d : FD} {F : Nat → Prop} (h : FsS w bI n cI bD m cD d F) (hb : Below w.heap.size w w') : FsS w' bI n cI bD m cD d F := by
  obtain ⟨F1, G1, h1, h2, h3, h4⟩ := h
  exact ⟨F1, G1, h1.keep fun c _ hlt => hb.block c hlt, h2.keep fun c _ hlt => hb.block c hlt, h3, fun b hb' => ⟨(h4 b hb').1, Nat.lt_of_lt_of_le (h4 b hb').2 hb.size⟩⟩
theorem FsS.mono {w : World} {bI n cI bD m cD : Nat} {d : FD} {F F' : Nat → Prop} (h : FsS w bI n cI bD m cD d F) (e : ∀ c, F c → F' c) : FsS w bI n cI bD m cD d F' := by
  obtain ⟨F1, G1, h1, h2, h3, h4⟩ := h
  exact ⟨F1, G1, h1, h2, h3, fun b hb => ⟨e b (h4 b hb).1, (h4 b hb).2⟩⟩
/-- Stores elsewhere. -/
theorem FsS.chg {w w' : World} {bI n cI bD m cD : Nat} {d : FD} {F G : Nat → Prop} (h : FsS w bI n cI bD m cD d F) (hc : Chg G w w') (hd : ∀ b, F b → ¬ G b) : FsS w' bI n cI bD m cD d F := by
  obtain ⟨F1, G1, h1, h2, h3, h4⟩ := h
  exact ⟨F1, G1, h1.keep fun c hc' hlt => hc.block c hlt (hd c (h4 c (Or.inl hc')).1), h2.keep fun c hc' hlt => hc.block c hlt (hd c (h4 c (Or.inr hc')).1), h3, fun b hb' => ⟨(h4 b hb').1, Nat.lt_of_lt_of_le (h4 b hb').2 hc.size⟩⟩
theorem FsS.len {w : World} {bI n cI bD m cD : Nat} {d : FD} {F : Nat → Prop} (h : FsS w bI n cI bD m cD d F) : d.1.length = n ∧ d.2.length = m := by
  obtain ⟨F1, G1, h1, h2, h3, h4⟩ := h
  exact ⟨h1.len, h2.len⟩
theorem FsS.ne {w : World} {bI n cI bD m cD : Nat} {d : FD} {F : Nat → Prop} (h : FsS w bI n cI bD m cD d F) : bI ≠ bD ∧ (F bI ∧ bI < w.heap.size) ∧ (F bD ∧ bD < w.heap.size) := by
  obtain ⟨F1, G1, h1, h2, h3, h4⟩ := h
  obtain ⟨_, _, u, G, a1, _⟩ := h1
  obtain ⟨_, _, u', G', b1, _⟩ := h2
  exact ⟨fun e => h3 bI a1 (e ▸ b1), h4 _ (Or.inl a1), h4 _ (Or.inr b1)⟩
theorem FsS.data {w : World} {bI n cI bD m cD : Nat} {d : FD} {F : Nat → Prop} (h : FsS w bI n cI bD m cD d F) (y : Nat) (hy : y < m) : ∃ ua uc, w.cell? ⟨bD, y, none⟩ = some (.slice ua (d.2[y]?.getD []).length uc) ∧ w.frozen? ⟨bD, y, none⟩ = false ∧ Byt w (.slice ua (d.2[y]?.getD []).length uc) (d.2[y]?.getD []) := by
  obtain ⟨F1, G1, h1, h2, h3, h4⟩ := h
  exact h2.cell y hy
/-- The bytes of one block turn. -/
theorem FsS.put {w W : World} {bI n cI bD m cD : Nat} {d : FD} {F G : Nat → Prop} (h : FsS w bI n cI bD m cD d F) (y : Nat) (hy : y < m) (hb : Below w.heap.size w W) (v : Value) (zs : List UInt8) (hv : BytO W v zs G) (hG : ∀ c, G c → F c ∧ w.heap.size ≤ c ∧ c < W.heap.size) :
    FsS (W.setCell ⟨bD, y, none⟩ v) bI n cI bD m cD (d.1, d.2.set y zs) F := by
  have hne := h.ne
  obtain ⟨F1, G1, h1, h2, h3, h4⟩ := h
  refine ⟨F1, fun c => G1 c ∨ G c, h1.keep fun c hc hlt => ?_, h2.put y hy (fun c _ hlt => hb.block c hlt) v zs hv (fun c hc => ⟨(hG c hc).2.1, ?_⟩), fun b hb1 hb2 => ?_, fun b hb' => ?_⟩
  · rw [Below.heap_setCell _ _ _ _ (fun e => h3 c hc (by
      obtain ⟨_, _, u', G', b1, _⟩ := h2
      show G1 c
      rw [show c = bD from e]
      exact b1)), hb.block c hlt]
  · have := (hG c hc).2.1
    have := hne.2.2.2
    omega
  · rcases hb2 with hb2 | hb2
    · exact h3 b hb1 hb2
    · have := (h4 b (Or.inl hb1)).2
      have := (hG b hb2).2.1
      omega
  · have hs := hb.size
    have e : (W.setCell ⟨bD, y, none⟩ v).heap.size = W.heap.size := by simp [World.setCell]
    rw [e]
    rcases hb' with hb' | hb' | hb'
    · exact ⟨(h4 b (Or.inl hb')).1, Nat.lt_of_lt_of_le (h4 b (Or.inl hb')).2 hs⟩
    · exact ⟨(h4 b (Or.inr hb')).1, Nat.lt_of_lt_of_le (h4 b (Or.inr hb')).2 hs⟩
    · exact ⟨(hG b hb').1, (hG b hb').2.2⟩
/-- The inode at a place turns: its row is stored into, and its blocks are a list in block kb. -/
theorem FsS.putI {w W : World} {bI n cI bD m cD : Nat} {d : FD} {F G : Nat → Prop} (h : FsS w bI n cI bD m cD d F) (j : Nat) (hj : j < n) (d' : ID) (vB vE : Value)
    (hrow : ∀ u, OwnRow w bI (n * 5) (inCell d.1 u) → OwnRow W bI (n * 5) (inCell (d.1.set j d') (fun i => if i = j then (vB, vE) else u i)))
    (hc : Chg (fun c => c = bI) w W) (hv : InoU W (.int .i64 d'.1) (.int .i64 d'.2.1) (.int .i64 d'.2.2.1) vB vE d' G) (hG : ∀ c, G c → ¬ F c ∧ c < W.heap.size) :
    FsS W bI n cI bD m cD (d.1.set j d', d.2) (fun c => F c ∨ G c) := by
  have hne := h.ne
  obtain ⟨F1, G1, h1, h2, h3, h4⟩ := h
  refine ⟨fun c => F1 c ∨ G c, G1, h1.put j hj d' vB vE hrow (fun c _ hc1 hlt => hc.block c hlt hc1) hv (fun c hc' => ⟨fun h => (hG c hc').1 (h4 c (Or.inl h)).1, fun e => (hG c hc').1 (e ▸ hne.2.1.1)⟩), h2.keep fun c hc' hlt => hc.block c hlt (fun e => ?_), fun b hb1 hb2 => ?_, fun b hb' => ?_⟩
  · obtain ⟨_, _, u, G, a1, _⟩ := h1
    exact h3 bI a1 (e ▸ hc')
  · rcases hb1 with hb1 | hb1
    · exact h3 b hb1 hb2
    · exact (hG b hb1).1 (h4 b (Or.inr hb2)).1
  · have hs := hc.size
    rcases hb' with (hb' | hb') | hb'
    · exact ⟨Or.inl (h4 b (Or.inl hb')).1, Nat.lt_of_lt_of_le (h4 b (Or.inl hb')).2 hs⟩
    · exact ⟨Or.inr hb', (hG b hb').2⟩
    · exact ⟨Or.inl (h4 b (Or.inr hb')).1, Nat.lt_of_lt_of_le (h4 b (Or.inr hb')).2 hs⟩
/-- What lies at place j. -/
theorem FsS.ino {w : World} {bI n cI bD m cD : Nat} {d : FD} {F : Nat → Prop} (h : FsS w bI n cI bD m cD d F) (j : Nat) (hj : j < n) : ∃ aB cB aE cE,
    w.cell? ⟨bI, j * 5, none⟩ = some (.int .i64 (d.1[j]?.getD id0).1) ∧ w.cell? ⟨bI, j * 5 + 1, none⟩ = some (.int .i64 (d.1[j]?.getD id0).2.1) ∧ w.cell? ⟨bI, j * 5 + 2, none⟩ = some (.int .i64 (d.1[j]?.getD id0).2.2.1) ∧
    w.cell? ⟨bI, j * 5 + 3, none⟩ = some (.slice aB (d.1[j]?.getD id0).2.2.2.1.length cB) ∧ w.cell? ⟨bI, j * 5 + 4, none⟩ = some (.slice aE (d.1[j]?.getD id0).2.2.2.2.length cE) ∧
    ((d.1[j]?.getD id0).2.2.2.1.length ≤ cB) ∧ (∀ i, w.frozen? ⟨bI, i, none⟩ = false) ∧
    (∀ k, k < (d.1[j]?.getD id0).2.2.2.1.length → ∃ b1, aB = some ⟨b1, 0, none⟩ ∧ F b1 ∧ b1 ≠ bI ∧ b1 ≠ bD ∧ b1 < w.heap.size ∧ w.cell? ⟨b1, k, none⟩ = some (.int .i64 ((d.1[j]?.getD id0).2.2.2.1[k]?.getD 0))) := by
  obtain ⟨F1, G1, h1, h2, h3, h4⟩ := h
  obtain ⟨aB, cB, aE, cE, e0, e1, e2, e3, e4, e5, e6, e7, e8, e9⟩ := h1.at' j hj
  refine ⟨aB, cB, aE, cE, e0, e1, e2, e3, e4, e5, e6, fun k hk => ?_⟩
  obtain ⟨b1, f1, f2, f3, f4, f5⟩ := e8 k hk
  refine ⟨b1, f1, (h4 b1 (Or.inl f2)).1, f3, fun e => ?_, f4, f5⟩
  obtain ⟨_, _, u', G', g1, _⟩ := h2
  exact h3 b1 f2 (e ▸ g1)
end Go.Proofs.YtaibcofendjnnaaGreatDoor

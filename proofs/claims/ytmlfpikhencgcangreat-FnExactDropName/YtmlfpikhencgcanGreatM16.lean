/- The program's DropName: a file that an entry less leads to. The program's AddName: what it asks; places of a file system that are told. The program's DropName. Rows that grow by append, each element with bytes of its own. -/
import Derived.Test.YtmlfpikhencgcanGreatM15
import Derived.Test.YtmlfpikhencgcanGreatM13
import Derived.Test.YtmlfpikhencgcanGreatM04
namespace Go.Proofs.YtmlfpikhencgcanGreat
open Go.RowKit
set_option maxRecDepth 100000

theorem cell_blk {w w' : World} {b o : Nat} {v : Value} (e : w'.heap[b]? = w.heap[b]?) (h : w.cell? ⟨b, o, none⟩ = some v) : w'.cell? ⟨b, o, none⟩ = some v := by
  simp only [World.cell?] at h ⊢
  rw [e]; exact h
/-- A file with one entry less. -/
def unlD (d : FD) (z : Nat) : FD := if 1 < (d.1[z]?.getD id0).2.1 then lnkD d z ((d.1[z]?.getD id0).2.1 - 1) else if (allE d.1).count (z : Int) = 0 then dropD d z else d
theorem lnkD_self (d : FD) (z : Nat) (hz : z < d.1.length) : lnkD d z (d.1[z]?.getD id0).2.1 = d := by
  unfold lnkD
  have e : d.1.set z (d.1[z]?.getD id0) = d.1 := by rw [List.getElem?_eq_getElem hz, Option.getD_some, List.set_getElem_self]
  have : ((d.1[z]?.getD id0).1, (d.1[z]?.getD id0).2.1, (d.1[z]?.getD id0).2.2) = d.1[z]?.getD id0 := rfl
  rw [this, e]
/-- An inode stored as it lies, but for its links. -/
theorem cls_lnk {w : World} {bI n cI bD cD : Nat} {d : FD} {F : Nat → Prop} (hfs : FsS w bI n cI bD 20 cD d F) (j : Nat) (hj : j < n) (l : Int) {vB vE : Value} (h3 : w.cell? ⟨bI, j * 5 + 3, none⟩ = some vB) (h4 : w.cell? ⟨bI, j * 5 + 4, none⟩ = some vE) (va vb : Value) :
    FsS (clsW w bI j ((d.1[j]?.getD id0).1, l, (d.1[j]?.getD id0).2.2) vB vE va vb) bI n cI bD 20 cD (lnkD d j l) F := by
  have h1 := cls_chg w bI j ((d.1[j]?.getD id0).1, l, (d.1[j]?.getD id0).2.2) vB vE va vb
  obtain ⟨F1, G1, ⟨g0, gm, u, G, g1, g2, g3, g4, g5⟩, k2, k3, k4⟩ := hfs
  have e3 : (u j).1 = vB := by
    have := g4.cell (i := j * 5 + 3) (by omega)
    rw [h3, inCell_3] at this
    exact (Option.some.inj this).symm
  have e4 : (u j).2 = vE := by
    have := g4.cell (i := j * 5 + 4) (by omega)
    rw [h4, inCell_4] at this
    exact (Option.some.inj this).symm
  have eu : (fun i => if i = j then (vB, vE) else u i) = u := by
    funext i
    by_cases h : i = j
    · rw [if_pos h, h, ← e3, ← e4]
    · rw [if_neg h]
  unfold lnkD
  have hrow := cls_row w bI j n d.1 ((d.1[j]?.getD id0).1, l, (d.1[j]?.getD id0).2.2) vB vE va vb u (by omega) g4
  rw [eu] at hrow
  refine ⟨F1, G1, ⟨by simpa using g0, gm, u, G, g1, g2, g3, hrow, fun i hi => ?_⟩, k2.keep fun c hc hlt => h1.block c hlt fun e => k3 bI g1 (e ▸ hc), k3, fun b hb => ⟨(k4 b hb).1, Nat.lt_of_lt_of_le (k4 b hb).2 h1.size⟩⟩
  rw [set_getD _ _ _ _ _ (by omega)]
  have hk : ∀ c, G i c → c < w.heap.size → (clsW w bI j ((d.1[j]?.getD id0).1, l, (d.1[j]?.getD id0).2.2) vB vE va vb).heap[c]? = w.heap[c]? := fun c hc hlt => h1.block c hlt fun e => (g2 i c hc).2 e
  by_cases e : i = j
  · rw [if_pos e]
    have hv := (g5 i hi).keep hk
    rw [e] at hv ⊢
    obtain ⟨⟨_, _, _, hcap⟩, hrest⟩ := hv
    exact ⟨⟨rfl, rfl, rfl, hcap⟩, hrest⟩
  · rw [if_neg e]
    exact (g5 i hi).keep hk
/-- A file closed as it was opened, but for its links. -/
theorem close_lnk (w : World) (bf bI n cI bD cD : Nat) (d : FD) (F : Nat → Prop) (j : Nat) (l : Int) (aB : Option Addr) (nB cB : Nat) (aE : Option Addr) (nE cE : Nat) (hbox : OwnRow w bf 8 (cel [.int .i64 (d.1[j]?.getD id0).1, .int .i64 l, .int .i64 (d.1[j]?.getD id0).2.2.1, .slice aB nB cB, .slice aE nE cE, .int .i64 (j : Int), .slice (some ⟨bI, 0, none⟩) n cI, .slice (some ⟨bD, 0, none⟩) 20 cD])) (hfs : FsS w bI n cI bD 20 cD d F) (hbf : bf ≠ bI) (hj : j < n) (hn : n ≤ 10)
    (h3 : w.cell? ⟨bI, j * 5 + 3, none⟩ = some (.slice aB nB cB)) (h4 : w.cell? ⟨bI, j * 5 + 4, none⟩ = some (.slice aE nE cE)) :
    Calls Tryz.prog 49 #[.pointer (some ⟨bf, 0, none⟩)] w fun e w' => e = .returned (.agg #[.slice (some ⟨bI, 0, none⟩) n cI, .slice (some ⟨bD, 0, none⟩) 20 cD]) ∧ (Chg (fun c => c = bI) w w' ∧ FsS w' bI n cI bD 20 cD (lnkD d j l) F) :=
  close_raw w bf bI n cI bD cD d F (fun w' => Chg (fun c => c = bI) w w' ∧ FsS w' bI n cI bD 20 cD (lnkD d j l) F) j ((d.1[j]?.getD id0).1, l, (d.1[j]?.getD id0).2.2) aB nB cB aE nE cE hbox hfs hbf hj hn fun va vb => ⟨cls_chg _ _ _ _ _ _ _ _, cls_lnk hfs j hj l h3 h4 va vb⟩
/-- What a file that an entry less leads to comes to. -/
def AnsUn (w : World) (n : Nat) (d : FD) (e : Ending) (w' : World) : Prop := ∃ bI cI bD cD, e = .returned (.agg #[.slice (some ⟨bI, 0, none⟩) n cI, .slice (some ⟨bD, 0, none⟩) 20 cD]) ∧ Below w.heap.size w w' ∧ FsS w' bI n cI bD 20 cD d (fun c => w.heap.size ≤ c)
theorem AnsUn.put {w W : World} {n bI cI bD cD : Nat} {d : FD} (hB : Below w.heap.size w W) (h : FsS W bI n cI bD 20 cD d (fun c => w.heap.size + 2 ≤ c)) {rb : Nat} (hrb : w.heap.size ≤ rb ∧ rb < w.heap.size + 2) (x y : Value) : AnsUn w n d (.returned (.agg #[.slice (some ⟨bI, 0, none⟩) n cI, .slice (some ⟨bD, 0, none⟩) 20 cD])) ((W.setCell ⟨rb, 0, none⟩ x).setCell ⟨rb, 1, none⟩ y) := by
  have h1 : Chg (fun c => c = rb) W ((W.setCell ⟨rb, 0, none⟩ x).setCell ⟨rb, 1, none⟩ y) := Chg.set (F := fun c => c = rb) (Chg.set (F := fun c => c = rb) (Chg.refl _ W) rfl 0 x) rfl 1 y
  exact ⟨bI, cI, bD, cD, rfl, (hB.setCell hrb.1 _).setCell hrb.1 _, (h.chg h1 fun b hb e => by omega).mono fun c hc => by omega⟩
set_option maxHeartbeats 6400000 in
theorem unlinked_any (w : World) (a1 : Option Addr) (n1 c1 : Nat) (a2 : Option Addr) (n2 c2 : Nat) (d : FD) (z : Nat) (h : FsR w (.slice a1 n1 c1) (.slice a2 n2 c2) d) (hs : sizeFs d ≤ 1048576) (h20 : d.2.length = 20) (hz : z < d.1.length) (h10 : d.1.length ≤ 10) (hins : insF d.1 = 0) (hl1 : 1 ≤ (d.1[z]?.getD id0).2.1) (hl60 : (d.1[z]?.getD id0).2.1 ≤ 60)
    (hr : ∀ k : Nat, k < (blkA d z).length → 0 ≤ (blkA d z)[k]?.getD 0 ∧ (blkA d z)[k]?.getD 0 < 20) (h4 : (blkA d z).length ≤ 4) :
    Calls Tryz.prog 26 #[.agg #[.slice a1 n1 c1, .slice a2 n2 c2], .int .i64 (z : Int)] w fun e w' => AnsUn w d.1.length (unlD d z) e w' := by
  have HOP : Hid (∀ W, Below w.heap.size w W → Calls Tryz.prog 46 #[.agg #[.slice a1 n1 c1, .slice a2 n2 c2], .int .i64 (z : Int)] W fun e w' => ∃ bf bI cI bD cD aB cB aE cE, e = .returned (.pointer (some ⟨bf, 0, none⟩)) ∧ (FileS W w' bf bI d.1.length cI bD cD d z (d.1[z]?.getD id0) aB cB aE cE ∧ w'.cell? ⟨bI, z * 5 + 3, none⟩ = some (.slice aB (d.1[z]?.getD id0).2.2.2.1.length cB) ∧ w'.cell? ⟨bI, z * 5 + 4, none⟩ = some (.slice aE (d.1[z]?.getD id0).2.2.2.2.length cE))) := fun W hW => openFile_row W a1 n1 c1 a2 n2 c2 d z (h.later hW) hs h20 hz h10
  have HLK : Hid (∀ W, Below w.heap.size w W → Calls Tryz.prog 47 #[.slice a1 n1 c1, .int .i64 (z : Int)] W fun e w' => e = .returned (.agg #[.int .i64 0, .int .i64 (((allE d.1).count (z : Int) : Nat) : Int)]) ∧ Below W.heap.size W w') := fun W hW => by
    have := implLnkU W a1 n1 c1 d.1 (z : Int) (h.1.later hW) (by unfold sizeFs at hs; omega)
    unfold lnkR at this
    rw [if_pos hins, if_pos ⟨by omega, by omega⟩] at this
    exact this
  have HX : Hid (Bx ((w.alloc (.cells #[.slice a1 n1 c1, .slice a2 n2 c2] 29)).alloc (.cells #[.slice none 0 0, .slice none 0 0] 29)) w.heap.size [.slice a1 n1 c1, .slice a2 n2 c2]) := (Bx.new w [.slice a1 n1 c1, .slice a2 n2 c2] _).later (later1 _ _)
  have HB0 : Hid (Below w.heap.size w ((w.alloc (.cells #[.slice a1 n1 c1, .slice a2 n2 c2] 29)).alloc (.cells #[.slice none 0 0, .slice none 0 0] 29))) := later2 _ _ _
  have hz0 : ((w.alloc (.cells #[.slice a1 n1 c1, .slice a2 n2 c2] 29)).alloc (.cells #[.slice none 0 0, .slice none 0 0] 29)).heap.size = w.heap.size + 2 := by simp
  have HRS : Hid (OwnRow ((w.alloc (.cells #[.slice a1 n1 c1, .slice a2 n2 c2] 29)).alloc (.cells #[.slice none 0 0, .slice none 0 0] 29)) (w.heap.size + 1) 2 (cel [.slice none 0 0, .slice none 0 0])) := by
    have p2 := newCel (w.alloc (.cells #[.slice a1 n1 c1, .slice a2 n2 c2] 29)) [.slice none 0 0, .slice none 0 0] 29
    rw [World.size_alloc] at p2
    exact p2
  have HU : Hid (unlD d z = if 1 < (d.1[z]?.getD id0).2.1 then lnkD d z ((d.1[z]?.getD id0).2.1 - 1) else if (allE d.1).count (z : Int) = 0 then dropD d z else d) := rfl
  rw [HU.out]
  have HBR : Hid (∀ k : Nat, k < (blkA d z).length → 0 ≤ (blkA d z)[k]?.getD 0 ∧ (blkA d z)[k]?.getD 0 < 20) := hr
  have H4 : Hid ((blkA d z).length ≤ 4) := h4
  clear h hs hins HU hr h4
  generalize hkl : (d.1[z]?.getD id0).2.1 = kl at *
  have HKL : Hid ((d.1[z]?.getD id0).2.1 = kl) := hkl
  clear hkl
  by_cases hl : 1 < kl
  · rw [if_pos hl]
    go_enter Tryz.func26, Tryz.ntmps26
    go_wp2_with fail
    generalize ((w.alloc (.cells #[.slice a1 n1 c1, .slice a2 n2 c2] 29)).alloc (.cells #[.slice none 0 0, .slice none 0 0] 29)) = W0 at *
    refine (HOP.out _ HB0.out).mono ?_
    rintro e w1 ⟨bf, bI, cI, bD, cD, aB, cB, aE, cE, rfl, hfl, r3, r4⟩
    have hne := hfl.fs.ne
    have t1 : w1.cell? ⟨bf, 1, none⟩ = some (.int .i64 kl) := by rw [← HKL.out]; exact hfl.box.cell (i := 1) (by omega)
    have s1 := hfl.box.frozen 1
    have hbfI : bf ≠ bI := fun e => hne.2.1.1.2 e.symm
    have h1 : Chg (fun c => c = bf) w1 (w1.setCell ⟨bf, 1, none⟩ (.int .i64 (kl - 1))) := Chg.set (F := fun c => c = bf) (Chg.refl _ w1) rfl 1 _
    have HBX2 : Hid (OwnRow (w1.setCell ⟨bf, 1, none⟩ (.int .i64 (kl - 1))) bf 8 (cel [.int .i64 (d.1[z]?.getD id0).1, .int .i64 (kl - 1), .int .i64 (d.1[z]?.getD id0).2.2.1, .slice aB (d.1[z]?.getD id0).2.2.2.1.length cB, .slice aE (d.1[z]?.getD id0).2.2.2.2.length cE, .int .i64 (z : Int), .slice (some ⟨bI, 0, none⟩) d.1.length cI, .slice (some ⟨bD, 0, none⟩) 20 cD])) := by
      refine (hfl.box.set 1 _).congr fun i hi => ?_
      match i, hi with
      | 0, _ => rfl
      | 1, _ => rfl
      | 2, _ => rfl
      | 3, _ => rfl
      | 4, _ => rfl
      | 5, _ => rfl
      | 6, _ => rfl
      | 7, _ => rfl
    have HF2 : Hid (FsS (w1.setCell ⟨bf, 1, none⟩ (.int .i64 (kl - 1))) bI d.1.length cI bD 20 cD d (fun c => W0.heap.size ≤ c ∧ c ≠ bf)) := hfl.fs.chg h1 fun b hb e => hb.2 e
    have HBL2 : Hid (Below W0.heap.size W0 (w1.setCell ⟨bf, 1, none⟩ (.int .i64 (kl - 1)))) := hfl.below.setCell (by have := hfl.new; exact this) _
    have HR3 : Hid ((w1.setCell ⟨bf, 1, none⟩ (.int .i64 (kl - 1))).cell? ⟨bI, z * 5 + 3, none⟩ = some (.slice aB (d.1[z]?.getD id0).2.2.2.1.length cB)) := cell_blk (h1.block bI hne.2.1.2 fun e => hbfI e.symm) r3
    have HR4 : Hid ((w1.setCell ⟨bf, 1, none⟩ (.int .i64 (kl - 1))).cell? ⟨bI, z * 5 + 4, none⟩ = some (.slice aE (d.1[z]?.getD id0).2.2.2.2.length cE)) := cell_blk (h1.block bI hne.2.1.2 fun e => hbfI e.symm) r4
    have HCL : Hid (Calls Tryz.prog 49 #[.pointer (some ⟨bf, 0, none⟩)] (w1.setCell ⟨bf, 1, none⟩ (.int .i64 (kl - 1))) _) := close_lnk _ bf bI d.1.length cI bD cD d _ z (kl - 1) aB _ cB aE _ cE HBX2.out HF2.out hbfI hz h10 HR3.out HR4.out
    have hW0 : w.heap.size ≤ W0.heap.size := HB0.out.size
    have hwI : W0.heap.size ≤ bI := hne.2.1.1.1
    clear hfl r3 r4 HOP HLK h1 HBX2 HF2 HR3 HR4 hne
    go_wp2_with fail
    refine HCL.out.mono ?_
    rintro e w3 ⟨rfl, hc3, hf3⟩
    have HBL3 : Hid (Below W0.heap.size W0 w3) := HBL2.out.trans (hc3.below HBL2.out.size fun b hb => by rw [hb]; omega)
    have HB3 : Hid (Below w.heap.size w w3) := HB0.out.trans (HBL3.out.mono HB0.out.size)
    have HF3 : Hid (FsS w3 bI d.1.length cI bD 20 cD (lnkD d z (kl - 1)) (fun c => w.heap.size + 2 ≤ c)) := hf3.mono fun c hc => by have := hc.1; omega
    clear hc3 hf3 t1 s1
    have hrr := HRS.out.later HBL3.out
    have u0 : w3.cell? ⟨w.heap.size + 1, 0, none⟩ = some (.slice none 0 0) := hrr.cell (i := 0) (by omega)
    have u1 : w3.cell? ⟨w.heap.size + 1, 1, none⟩ = some (.slice none 0 0) := hrr.cell (i := 1) (by omega)
    have v0 := hrr.frozen 0
    have v1 := hrr.frozen 1
    clear hrr
    go_wp2
    exact bodyPost_ret (v := .agg #[.slice (some ⟨bI, 0, none⟩) d.1.length cI, .slice (some ⟨bD, 0, none⟩) 20 cD]) (by simp [results, Tryz.results26, go_sem, u0, u1]) rfl (AnsUn.put HB3.out HF3.out (by omega) _ _)
  · rw [if_neg hl]
    by_cases hc : (allE d.1).count (z : Int) = 0
    · rw [if_pos hc]
      have hcb : ((((allE d.1).count (z : Int) : Nat) : Int) == 0) = true := beq_iff_eq.2 (by omega)
      clear hc
      generalize (((allE d.1).count (z : Int) : Nat) : Int) = cnt at *
      go_enter Tryz.func26, Tryz.ntmps26
      go_wp2_with fail
      generalize ((w.alloc (.cells #[.slice a1 n1 c1, .slice a2 n2 c2] 29)).alloc (.cells #[.slice none 0 0, .slice none 0 0] 29)) = W0 at *
      refine (HOP.out _ HB0.out).mono ?_
      rintro e w1 ⟨bf, bI, cI, bD, cD, aB, cB, aE, cE, rfl, hfl, r3, r4⟩
      have HFL : Hid (FileS W0 w1 bf bI d.1.length cI bD cD d z (d.1[z]?.getD id0) aB cB aE cE) := hfl
      have HR3 : Hid (_ = _) := r3
      have HR4 : Hid (_ = _) := r4
      have hne := hfl.fs.ne
      have t1 : w1.cell? ⟨bf, 1, none⟩ = some (.int .i64 kl) := by rw [← HKL.out]; exact hfl.box.cell (i := 1) (by omega)
      have hbfI : bf ≠ bI := fun e => hne.2.1.1.2 e.symm
      have HB1 : Hid (Below w.heap.size w w1) := HB0.out.trans (hfl.below.mono HB0.out.size)
      have x0 := (HX.out.later hfl.below) 0 _ rfl
      have x1 := (HX.out.later hfl.below) 1 _ rfl
      have hW0 : w.heap.size ≤ W0.heap.size := HB0.out.size
      have hwI : W0.heap.size ≤ bI := hne.2.1.1.1
      have hwz : W0.heap.size ≤ w1.heap.size := hfl.below.size
      clear hfl r3 r4 HOP
      go_wp2_with fail
      refine (HLK.out _ HB1.out).mono ?_
      rintro e w2 ⟨rfl, hb2⟩
      have hfd := field_intR 0 cnt
      have HBL2 : Hid (Below W0.heap.size W0 w2) := HFL.out.below.trans (hb2.mono HFL.out.below.size)
      have HFL2 : Hid (FileS W0 w2 bf bI d.1.length cI bD cD d z (d.1[z]?.getD id0) aB cB aE cE) := HFL.out.later hb2
      clear hb2 x0 x1 t1 HFL HR3 HR4 HLK
      go_wp2_with fail
      refine (dropF_any W0 w2 bf bI d.1.length cI bD cD d z (d.1[z]?.getD id0) aB cB aE cE HFL2.out HBR.out H4.out).mono ?_
      rintro e w4 ⟨rfl, hf4⟩
      have HBX4 : Hid (OwnRow w4 bf 8 (cel [.int .i64 id0.1, .int .i64 id0.2.1, .int .i64 id0.2.2.1, .slice none 0 0, .slice none 0 0, .int .i64 (z : Int), .slice (some ⟨bI, 0, none⟩) d.1.length cI, .slice (some ⟨bD, 0, none⟩) 20 cD])) := hf4.box
      have HF4 : Hid (FsS w4 bI d.1.length cI bD 20 cD (d.1, clrK d.2 (blkA d z) (blkA d z).length) (fun c => W0.heap.size ≤ c ∧ c ≠ bf)) := hf4.fs
      have HBL4 : Hid (Below W0.heap.size W0 w4) := hf4.below
      clear hf4 HFL2
      go_wp2_with fail
      refine (close_any w4 bf bI d.1.length cI bD cD _ _ (fun _ => False) z id0 none 0 0 none 0 0 HBX4.out HF4.out hbfI hz h10 (setZ_ino _ _) (fun c hc => hc.elim)).mono ?_
      rintro e w5 ⟨rfl, hc5, hf5⟩
      have HBL5 : Hid (Below W0.heap.size W0 w5) := HBL4.out.trans (hc5.below HBL4.out.size fun b hb => by rw [hb]; omega)
      have HB5 : Hid (Below w.heap.size w w5) := HB0.out.trans (HBL5.out.mono HB0.out.size)
      have HF5 : Hid (FsS w5 bI d.1.length cI bD 20 cD (dropD d z) (fun c => w.heap.size + 2 ≤ c)) := hf5.mono fun c hc => by
        rcases hc with hc | hc
        · have := hc.1; omega
        · exact hc.elim
      clear hc5 hf5
      have hrr := HRS.out.later HBL5.out
      have u0 : w5.cell? ⟨w.heap.size + 1, 0, none⟩ = some (.slice none 0 0) := hrr.cell (i := 0) (by omega)
      have u1 : w5.cell? ⟨w.heap.size + 1, 1, none⟩ = some (.slice none 0 0) := hrr.cell (i := 1) (by omega)
      have v0 := hrr.frozen 0
      have v1 := hrr.frozen 1
      clear hrr
      go_wp2
      exact bodyPost_ret (v := .agg #[.slice (some ⟨bI, 0, none⟩) d.1.length cI, .slice (some ⟨bD, 0, none⟩) 20 cD]) (by simp [results, Tryz.results26, go_sem, u0, u1]) rfl (AnsUn.put HB5.out HF5.out (by omega) _ _)
    · rw [if_neg hc]
      have hcb : ((((allE d.1).count (z : Int) : Nat) : Int) == 0) = false := beq_eq_false_iff_ne.2 (by omega)
      clear hc
      generalize (((allE d.1).count (z : Int) : Nat) : Int) = cnt at *
      go_enter Tryz.func26, Tryz.ntmps26
      go_wp2_with fail
      generalize ((w.alloc (.cells #[.slice a1 n1 c1, .slice a2 n2 c2] 29)).alloc (.cells #[.slice none 0 0, .slice none 0 0] 29)) = W0 at *
      refine (HOP.out _ HB0.out).mono ?_
      rintro e w1 ⟨bf, bI, cI, bD, cD, aB, cB, aE, cE, rfl, hfl, r3, r4⟩
      have HFL : Hid (FileS W0 w1 bf bI d.1.length cI bD cD d z (d.1[z]?.getD id0) aB cB aE cE) := hfl
      have HR3 : Hid (_ = _) := r3
      have HR4 : Hid (_ = _) := r4
      have hne := hfl.fs.ne
      have t1 : w1.cell? ⟨bf, 1, none⟩ = some (.int .i64 kl) := by rw [← HKL.out]; exact hfl.box.cell (i := 1) (by omega)
      have hbfI : bf ≠ bI := fun e => hne.2.1.1.2 e.symm
      have HB1 : Hid (Below w.heap.size w w1) := HB0.out.trans (hfl.below.mono HB0.out.size)
      have x0 := (HX.out.later hfl.below) 0 _ rfl
      have x1 := (HX.out.later hfl.below) 1 _ rfl
      have hW0 : w.heap.size ≤ W0.heap.size := HB0.out.size
      have hwI : W0.heap.size ≤ bI := hne.2.1.1.1
      have hwz : W0.heap.size ≤ w1.heap.size := hfl.below.size
      clear hfl r3 r4 HOP
      go_wp2_with fail
      refine (HLK.out _ HB1.out).mono ?_
      rintro e w2 ⟨rfl, hb2⟩
      have hfd := field_intR 0 cnt
      have HBL2 : Hid (Below W0.heap.size W0 w2) := HFL.out.below.trans (hb2.mono HFL.out.below.size)
      have HFL2 : Hid (FileS W0 w2 bf bI d.1.length cI bD cD d z (d.1[z]?.getD id0) aB cB aE cE) := HFL.out.later hb2
      have HCL : Hid (Calls Tryz.prog 49 #[.pointer (some ⟨bf, 0, none⟩)] w2 _) := close_lnk w2 bf bI d.1.length cI bD cD d _ z (d.1[z]?.getD id0).2.1 aB _ cB aE _ cE HFL2.out.box HFL2.out.fs hbfI hz h10 (cell_later hb2 HR3.out) (cell_later hb2 HR4.out)
      clear hb2 x0 x1 t1 HFL HR3 HR4 HLK
      go_wp2_with fail
      refine HCL.out.mono ?_
      rintro e w5 ⟨rfl, hc5, hf5⟩
      have HBL5 : Hid (Below W0.heap.size W0 w5) := HBL2.out.trans (hc5.below HBL2.out.size fun b hb => by rw [hb]; omega)
      have HB5 : Hid (Below w.heap.size w w5) := HB0.out.trans (HBL5.out.mono HB0.out.size)
      have HF5 : Hid (FsS w5 bI d.1.length cI bD 20 cD d (fun c => w.heap.size + 2 ≤ c)) := by
        unfold Hid
        have := hf5.mono (F' := fun c => w.heap.size + 2 ≤ c) fun c hc => by have := hc.1; omega
        rw [lnkD_self d z hz] at this
        exact this
      clear hc5 hf5
      have hrr := HRS.out.later HBL5.out
      have u0 : w5.cell? ⟨w.heap.size + 1, 0, none⟩ = some (.slice none 0 0) := hrr.cell (i := 0) (by omega)
      have u1 : w5.cell? ⟨w.heap.size + 1, 1, none⟩ = some (.slice none 0 0) := hrr.cell (i := 1) (by omega)
      have v0 := hrr.frozen 0
      have v1 := hrr.frozen 1
      clear hrr
      go_wp2
      exact bodyPost_ret (v := .agg #[.slice (some ⟨bI, 0, none⟩) d.1.length cI, .slice (some ⟨bD, 0, none⟩) 20 cD]) (by simp [results, Tryz.results26, go_sem, u0, u1]) rfl (AnsUn.put HB5.out HF5.out (by omega) _ _)
end Go.Proofs.YtmlfpikhencgcanGreat

namespace Go.Proofs.YtmlfpikhencgcanGreat
open Go.RowKit
set_option maxRecDepth 100000

theorem cloneS_any (w : World) (s : ByteArray) (hs : s.size ≤ 1048576) : Calls Tryz.prog 70 #[.string s] w fun e w' => e = .returned (.string s) ∧ Below w.heap.size w w' := by
  have := clone_any w s.data.toList (by have : s.data.toList.length = s.size := Array.length_toList; omega)
  rw [mkB_data] at this
  exact this
/-- What lies at a place. -/
theorem FsR.five {w : World} {b0 o0 n1 c1 : Nat} {v2 : Value} {d : FD} (h : FsR w (.slice (some ⟨b0, o0, none⟩) n1 c1) v2 d) {j : Nat} (hj : j < d.1.length) : ∃ aB cB aE cE, w.cell? ⟨b0, o0 + j * 5, none⟩ = some (.int .i64 (d.1[j]?.getD id0).1) ∧ w.cell? ⟨b0, o0 + j * 5 + 1, none⟩ = some (.int .i64 (d.1[j]?.getD id0).2.1) ∧ w.cell? ⟨b0, o0 + j * 5 + 2, none⟩ = some (.int .i64 (d.1[j]?.getD id0).2.2.1) ∧ w.cell? ⟨b0, o0 + j * 5 + 3, none⟩ = some (.slice aB (d.1[j]?.getD id0).2.2.2.1.length cB) ∧ w.cell? ⟨b0, o0 + j * 5 + 4, none⟩ = some (.slice aE (entA d j).length cE) ∧ Ents w (.slice aE (entA d j).length cE) (entA d j) := by
  obtain ⟨_, _, e1, _, hAt⟩ := h.1.open'
  simp only [Value.slice.injEq] at e1
  obtain ⟨rfl, rfl, rfl⟩ := e1
  obtain ⟨b, o, e, hI⟩ := hAt j hj
  simp only [Option.some.injEq, Addr.mk.injEq, and_true] at e
  obtain ⟨rfl, rfl⟩ := e
  obtain ⟨aB, cB, aE, cE, k0, k1, k2, k3, k4, hR⟩ := hI
  exact ⟨aB, cB, aE, cE, k0, k1, k2, k3, k4, hR.2.2⟩
theorem Ents.cap {w : World} {a : Option Addr} {n c : Nat} {es : List EN} (h : Ents w (.slice a n c) es) : es.length = n ∧ n ≤ c ∧ AtN w a n es ∧ (a = none → n = 0) ∧ ∀ k : Nat, (es[k]?.getD en0).1.size ≤ maxLen := by
  obtain ⟨a', c', e, ⟨_, h2, h3⟩, h4⟩ := h
  simp only [Value.slice.injEq] at e
  obtain ⟨rfl, rfl, rfl⟩ := e
  refine ⟨rfl, h2, h4, fun e => ?_, h3⟩
  by_cases h0 : es.length = 0
  · exact h0
  · obtain ⟨b, off, e2, _⟩ := h4 0 (by omega)
    rw [e] at e2
    simp at e2
theorem dir_blk {x : ID} (h : inoF x = 0) (hk : x.1 = 2) : x.2.2.2.1 = [] := by
  unfold inoF at h
  rw [if_neg (by omega), if_neg (by omega), if_pos hk] at h
  by_cases hd : fpB x = true
  · rw [if_pos hd] at h; omega
  · unfold fpB at hd
    simp at hd
    exact hd.2
theorem insE_size {es : List EN} {k : Nat} {s : ByteArray} {y : Int} (hz : ∀ k : Nat, (es[k]?.getD en0).1.size ≤ maxLen) (hs : s.size ≤ maxLen) (i : Nat) : ((insE es k (s, y))[i]?.getD en0).1.size ≤ maxLen := by
  have h0 : (en0 : EN).1.size ≤ maxLen := by simp [en0, ByteArray.size]
  have hm : ∀ e ∈ insE es k (s, y), e.1.size ≤ maxLen := fun e he => by
    unfold insE at he
    have hall : ∀ e ∈ es, e.1.size ≤ maxLen := fun e he => by
      obtain ⟨i, hi, rfl⟩ := List.mem_iff_getElem.1 he
      have := hz i
      rw [List.getElem?_eq_getElem hi] at this
      exact this
    rcases List.mem_append.1 he with he | he
    · rcases List.mem_append.1 he with he | he
      · exact hall e (List.mem_of_mem_take he)
      · simp at he; rw [he]; exact hs
    · exact hall e (List.mem_of_mem_drop he)
  cases hq : (insE es k (s, y))[i]? with
  | none => exact h0
  | some e => exact hm e (List.mem_of_getElem? hq)

theorem ino_lnk {x : ID} (h : inoF x = 0) (hk : x.1 = 1) : 1 ≤ x.2.1 ∧ x.2.1 ≤ 60 := by
  unfold inoF at h
  rw [if_neg (by omega), if_pos hk] at h
  by_cases hd : dpB x = true
  · rw [if_pos hd] at h; omega
  · rw [if_neg hd] at h
    unfold fileF at h
    by_cases hl : linkB x.2.1 = true ∧ sizeB x.2.2.1 = true
    · have := hl.1
      unfold linkB at this
      simpa using this
    · rw [if_neg hl] at h; omega
theorem entD_kind (d : FD) (j z : Nat) (es : List EN) (hj : j < d.1.length) : ((entD d j es).1[z]?.getD id0).1 = (d.1[z]?.getD id0).1 ∧ ((entD d j es).1[z]?.getD id0).2.1 = (d.1[z]?.getD id0).2.1 := by
  unfold entD
  dsimp only
  rw [set_getD _ _ _ _ _ hj]
  by_cases e : z = j
  · rw [if_pos e, e]; exact ⟨rfl, rfl⟩
  · rw [if_neg e]; exact ⟨rfl, rfl⟩
/-- What is answered where a file system in own memory is in a box. -/
theorem AnsFR.box {w W : World} {bI n cI bD cD rb : Nat} {d : FD} {F : Nat → Prop} (hB : Below w.heap.size w W) (hrb : w.heap.size ≤ rb) (h : FsS W bI n cI bD 20 cD d F) (hF : ∀ c, F c → w.heap.size ≤ c ∧ c ≠ rb) (x y z : Value) : AnsFR w (0, d) (.returned (.agg #[.int .i64 0, .slice (some ⟨bI, 0, none⟩) n cI, .slice (some ⟨bD, 0, none⟩) 20 cD])) (((W.setCell ⟨rb, 0, none⟩ x).setCell ⟨rb, 1, none⟩ y).setCell ⟨rb, 2, none⟩ z) :=
  AnsFR.put hB hrb (h.fsB.mono fun b hb => ⟨(hF b hb.1).1, hb.2, (hF b hb.1).2⟩) x y z
end Go.Proofs.YtmlfpikhencgcanGreat

namespace Go.Proofs.YtmlfpikhencgcanGreat
open Go.RowKit
set_option maxRecDepth 100000

/-- An entry gone, and what it led to, if nothing else does; DropName. -/
def delD (d : FD) (j k : Nat) : FD := if kindAt d.1 ((entA d j)[k]?.getD en0).2.toNat = 1 then unlD (entD d j (delE (entA d j) k)) ((entA d j)[k]?.getD en0).2.toNat else entD d j (delE (entA d j) k)
def delR (d : FD) (x : Int) (s : ByteArray) : Int × FD := if (lookR d x s).1 = 0 then (0, delD d x.toNat (idxE (entA d x.toNat) s)) else noFs (lookR d x s).1
theorem lookR_in {d : FD} {x : Int} {s : ByteArray} (h : (lookR d x s).1 = 0) : dirN d x s = 0 ∧ idxE (entA d x.toNat) s < (entA d x.toNat).length ∧ (lookR d x s).2 = ((entA d x.toNat)[idxE (entA d x.toNat) s]?.getD en0).2 := by
  unfold lookR at h ⊢
  by_cases hd : dirN d x s = 0
  · rw [if_pos hd] at h ⊢
    by_cases hi : idxE (entA d x.toNat) s < (entA d x.toNat).length
    · rw [if_pos hi]; exact ⟨hd, hi, rfl⟩
    · rw [if_neg hi] at h; exact absurd h (by decide)
  · rw [if_neg hd] at h; exact absurd h hd
/-- What stands where an entry of a directory is gone. -/
structure DelS (d : FD) (j k z : Nat) (dn : FD) : Prop where
  ins : insF dn.1 = 0
  len : dn.1.length = d.1.length
  dat : dn.2 = d.2
  size : sizeFs dn ≤ 1048576
  kind : (dn.1[z]?.getD id0).1 = (d.1[z]?.getD id0).1
  lnk : (dn.1[z]?.getD id0).2.1 = (d.1[z]?.getD id0).2.1
  file : (d.1[z]?.getD id0).1 = 1 → 1 ≤ (dn.1[z]?.getD id0).2.1 ∧ (dn.1[z]?.getD id0).2.1 ≤ 60
  blk : ∀ i : Nat, i < (blkA dn z).length → 0 ≤ (blkA dn z)[i]?.getD 0 ∧ (blkA dn z)[i]?.getD 0 < 20
  four : (blkA dn z).length ≤ 4
theorem delS {d : FD} {j k z : Nat} (h : DirS d j) (hk : k < (entA d j).length) (hz : z < d.1.length) : DelS d j k z (entD d j (delE (entA d j) k)) := by
  have hins : insF (entD d j (delE (entA d j) k)).1 = 0 := insF_set h.ins j _ (inoF_dir h.kind (ins_ino h.ins j h.lt) ((dirF_E (ino_dir (ins_ino h.ins j h.lt) h.kind)).del hk))
  have hlen : (entD d j (delE (entA d j) k)).1.length = d.1.length := by unfold entD; exact List.length_set
  have hek := entD_kind d j z (delE (entA d j) k) h.lt
  have hzi := ins_ino hins z (by omega)
  refine ⟨hins, hlen, rfl, ?_, hek.1, hek.2, fun e => ino_lnk hzi (by rw [hek.1]; exact e), fun i hi => ins_blk hins z i (by omega) hi, ?_⟩
  · have := fs_small (d := entD d j (delE (entA d j) k)) hins h.dat h.eight
    omega
  · have := ino_size hzi
    unfold blkA
    omega

set_option maxHeartbeats 12800000 in
theorem implDelU (w : World) (a1 : Option Addr) (n1 c1 : Nat) (a2 : Option Addr) (n2 c2 : Nat) (d : FD) (x : Int) (s : ByteArray) (h : FsR w (.slice a1 n1 c1) (.slice a2 n2 c2) d) (hs : sizeFs d ≤ 1048576) (hl : s.size ≤ 1048576) :
    Calls Tryz.prog 7 #[.agg #[.slice a1 n1 c1, .slice a2 n2 c2], .int .i64 x, .string s] w (AnsFR w (delR d x s)) := by
  have HB0 : Hid (Below w.heap.size w ((w.alloc (.cells #[.slice a1 n1 c1, .slice a2 n2 c2] 29)).alloc (.cells #[.int .i64 0, .slice none 0 0, .slice none 0 0] 31))) := later2 _ _ _
  have HBX : Hid (Bx ((w.alloc (.cells #[.slice a1 n1 c1, .slice a2 n2 c2] 29)).alloc (.cells #[.int .i64 0, .slice none 0 0, .slice none 0 0] 31)) w.heap.size [.slice a1 n1 c1, .slice a2 n2 c2]) := (Bx.new w [.slice a1 n1 c1, .slice a2 n2 c2] _).later (later1 _ _)
  have HRS : Hid (OwnRow ((w.alloc (.cells #[.slice a1 n1 c1, .slice a2 n2 c2] 29)).alloc (.cells #[.int .i64 0, .slice none 0 0, .slice none 0 0] 31)) (w.heap.size + 1) 3 (cel zero3)) := by
    have p2 := row3 (w.alloc (.cells #[.slice a1 n1 c1, .slice a2 n2 c2] 29)) 31
    rw [World.size_alloc] at p2
    exact p2
  have HLK : Hid (∀ W, Below w.heap.size w W → Calls Tryz.prog 22 #[.agg #[.slice a1 n1 c1, .slice a2 n2 c2], .int .i64 x, .string s] W fun e w' => e = .returned (.agg #[.int .i64 (lookR d x s).1, .int .i64 (lookR d x s).2]) ∧ Below W.heap.size W w') := fun W hW => implLookU W _ _ _ _ _ _ d x s (h.later hW) hs hl
  have HRR : Hid (delR d x s = if (lookR d x s).1 = 0 then (0, delD d x.toNat (idxE (entA d x.toNat) s)) else noFs (lookR d x s).1) := rfl
  rw [HRR.out]
  clear HRR
  by_cases hq : (lookR d x s).1 = 0
  rotate_left
  · rw [if_neg hq]
    have hb : ((lookR d x s).1 != 0) = true := by simpa using hq
    clear hq h hs
    generalize (lookR d x s).1 = r at *
    generalize (lookR d x s).2 = r2 at *
    go_enter Tryz.func7, Tryz.ntmps7
    go_wp2_with fail
    generalize ((w.alloc (.cells #[.slice a1 n1 c1, .slice a2 n2 c2] 29)).alloc (.cells #[.int .i64 0, .slice none 0 0, .slice none 0 0] 31)) = W0 at *
    refine (HLK.out _ HB0.out).mono ?_
    rintro e w1 ⟨rfl, hb1⟩
    have HB1 : Hid (Below w.heap.size w w1) := HB0.out.trans (hb1.mono HB0.out.size)
    have hrr := HRS.out.later hb1
    have t0 : w1.cell? ⟨w.heap.size + 1, 0, none⟩ = some (.int .i64 0) := hrr.cell (i := 0) (by omega)
    have t1 : w1.cell? ⟨w.heap.size + 1, 1, none⟩ = some (.slice none 0 0) := hrr.cell (i := 1) (by omega)
    have t2 : w1.cell? ⟨w.heap.size + 1, 2, none⟩ = some (.slice none 0 0) := hrr.cell (i := 2) (by omega)
    have s0 := hrr.frozen 0
    have s1 := hrr.frozen 1
    have s2 := hrr.frozen 2
    have hlw : w.heap.size + 1 < w1.heap.size := hrr.lt
    clear hb1 hrr
    go_wp2
    exact bodyPost_ret (v := .agg #[.int .i64 r, .slice none 0 0, .slice none 0 0]) (by simp [results, Tryz.results7, go_sem, t0, t1, t2, hlw]) rfl ((AnsFR.none' r HB1.out (by omega) _ _ _).later (later1 _ _))
  · rw [if_pos hq]
    obtain ⟨hdn, hidx, hval⟩ := lookR_in hq
    have hq0 : dirQ d x = 0 := dirN_in hdn
    have hds := dirS hq0
    obtain ⟨-, hp, -⟩ := dirQ_in hq0
    obtain ⟨j, rfl⟩ : ∃ j : Nat, x = (j : Int) := ⟨x.toNat, by omega⟩
    rw [Int.toNat_natCast] at hds hidx hval ⊢
    have hld : 0 ≤ ((entA d j)[idxE (entA d j) s]?.getD en0).2 ∧ ((entA d j)[idxE (entA d j) s]?.getD en0).2 < (d.1.length : Int) := hds.leads j hds.lt _ hidx
    obtain ⟨z, hzz⟩ : ∃ z : Nat, ((entA d j)[idxE (entA d j) s]?.getD en0).2 = (z : Int) := ⟨((entA d j)[idxE (entA d j) s]?.getD en0).2.toNat, by omega⟩
    have hzn : z < d.1.length := by omega
    rw [hzz] at hval
    rw [hq, hval] at HLK
    have hplc := idx_plc hds.rises hidx
    have hdel := delS (z := z) hds hidx hzn
    have HDEL : Hid (DelS d j (idxE (entA d j) s) z (entD d j (delE (entA d j) (idxE (entA d j) s)))) := hdel
    have HDD : Hid (delD d j (idxE (entA d j) s) = if (d.1[z]?.getD id0).1 = 1 then unlD (entD d j (delE (entA d j) (idxE (entA d j) s))) z else entD d j (delE (entA d j) (idxE (entA d j) s))) := by
      unfold Hid delD
      rw [hzz, Int.toNat_natCast]; rfl
    rw [HDD.out]
    have HCF : Hid (∀ W, Below w.heap.size w W → Calls Tryz.prog 23 #[.agg #[.slice a1 n1 c1, .slice a2 n2 c2]] W (AnsFs W d)) := fun W hW => copyOfFs_any W _ _ _ _ _ _ d (h.later hW) hs (by have := hds.dat; omega)
    have HPL : Hid (∀ (W : World) (aH : Option Addr) (cH : Nat), Ents W (.slice aH (entA d j).length cH) (entA d j) → Calls Tryz.prog 24 #[.slice aH (entA d j).length cH, .string s] W fun e w' => e = .returned (.tuple #[.int .i64 ((idxE (entA d j) s : Nat) : Int), .bool true]) ∧ Below W.heap.size W w') := fun W aH cH hh => by
      obtain ⟨_, _, h3, _, _⟩ := hh.cap
      have := placeOf_any W aH _ cH (entA d j) s rfl (by have := hds.six; omega) h3
      rw [fnd_iff hds.rises, hplc, decide_eq_true hidx] at this
      exact this
    have HWE : Hid (∀ (W : World) (aH : Option Addr) (cH : Nat), Ents W (.slice aH (entA d j).length cH) (entA d j) → Calls Tryz.prog 25 #[.slice aH (entA d j).length cH, .int .i64 ((idxE (entA d j) s : Nat) : Int)] W fun e w' => ∃ a m c, e = .returned (.slice a m c) ∧ Below W.heap.size W w' ∧ ((idxE (entA d j) s + 1 < (entA d j).length ∧ WdE w' W.heap.size (.slice a m c) (delE (entA d j) (idxE (entA d j) s))) ∨ (idxE (entA d j) s + 1 = (entA d j).length ∧ (.slice a m c : Value) = .slice aH (idxE (entA d j) s) (idxE (entA d j) s)))) := fun W aH cH hh => by
      obtain ⟨_, h2, h3, h4, _⟩ := hh.cap
      refine (withoutEntry_any W aH _ cH (idxE (entA d j) s) (entA d j) rfl h2 hidx hds.six h3 h4).mono ?_
      rintro e w' ⟨v, rfl, hb, hv⟩
      rcases hv with ⟨hv1, hv2⟩ | ⟨hv1, rfl⟩
      · obtain ⟨a, c, rfl⟩ := hv2.shape
        exact ⟨_, _, _, rfl, hb, Or.inl ⟨hv1, hv2⟩⟩
      · exact ⟨_, _, _, rfl, hb, Or.inr ⟨hv1, rfl⟩⟩
    have HEZ : Hid (∀ i : Nat, ((delE (entA d j) (idxE (entA d j) s))[i]?.getD en0).1.size ≤ maxLen) := delE_size hidx (by
      obtain ⟨b0, o0, _, _, rfl, rfl, -, -⟩ := h.dir hds.lt
      obtain ⟨_, _, _, _, _, _, _, _, _, hh⟩ := h.five hds.lt
      exact hh.cap.2.2.2.2)
    have HBK : Hid ((d.1[j]?.getD id0).2.2.2.1 = []) := dir_blk (ins_ino hds.ins j hds.lt) hds.kind
    have HDL : Hid (idxE (entA d j) s + 1 = (entA d j).length → delE (entA d j) (idxE (entA d j) s) = (entA d j).take (idxE (entA d j) s)) := fun e => delE_last e
    have HED : Hid (∀ es, entD d j es = (d.1.set j ((d.1[j]?.getD id0).1, (d.1[j]?.getD id0).2.1, (d.1[j]?.getD id0).2.2.1, [], es), d.2)) := fun _ => rfl
    have HDAT : Hid (d.2.length = 20) := hds.dat
    have hjl := hds.lt
    have hten := hds.ten
    have hsix := hds.six
    obtain ⟨n, hn⟩ : ∃ n, d.1.length = n := ⟨_, rfl⟩
    have HN : Hid (d.1.length = n) := hn
    rw [hn] at hjl hten hzn
    clear h hs hq hdn hq0 hds hp hld hzz hval hplc hdel HDD hn
    generalize delE (entA d j) (idxE (entA d j) s) = nes at *
    generalize hent : entD d j nes = dn at *
    have HDN : Hid (entD d j nes = dn) := hent
    clear hent
    generalize hee : entA d j = ee at *
    have HEE : Hid (entA d j = ee) := hee
    clear hee
    generalize idxE ee s = k at *
    generalize hm : ee.length = m at *
    have HM : Hid (ee.length = m) := hm
    clear hm
    generalize hkd : (d.1[z]?.getD id0).1 = kd at *
    have HKD : Hid ((d.1[z]?.getD id0).1 = kd) := hkd
    clear hkd
    generalize hRES : (if kd = 1 then unlD dn z else dn) = RES
    have HRES : Hid ((if kd = 1 then unlD dn z else dn) = RES) := hRES
    clear hRES
    have hjI : (j : Int) < (n : Int) := by omega
    have hzI : (z : Int) < (n : Int) := by omega
    go_enter Tryz.func7, Tryz.ntmps7
    go_wp2_with fail
    generalize ((w.alloc (.cells #[.slice a1 n1 c1, .slice a2 n2 c2] 29)).alloc (.cells #[.int .i64 0, .slice none 0 0, .slice none 0 0] 31)) = W0 at *
    refine (HLK.out _ HB0.out).mono ?_
    rintro e w1 ⟨rfl, hb1⟩
    have HB1 : Hid (Below w.heap.size w (w1.alloc (.cells #[.int .i64 0, .int .i64 (z : Int)] 54))) := (HB0.out.trans (hb1.mono HB0.out.size)).trans ((later1 _ _).mono (HB0.out.trans (hb1.mono HB0.out.size)).size)
    have HR1 : Hid (OwnRow (w1.alloc (.cells #[.int .i64 0, .int .i64 (z : Int)] 54)) (w.heap.size + 1) 3 (cel zero3)) := (HRS.out.later hb1).later (later1 _ _)
    have HX1 : Hid (Bx (w1.alloc (.cells #[.int .i64 0, .int .i64 (z : Int)] 54)) w.heap.size [.slice a1 n1 c1, .slice a2 n2 c2]) := (HBX.out.later hb1).later (later1 _ _)
    have HI1 : Hid (Bx (w1.alloc (.cells #[.int .i64 0, .int .i64 (z : Int)] 54)) w1.heap.size [.int .i64 0, .int .i64 (z : Int)]) := Bx.new w1 [.int .i64 0, .int .i64 (z : Int)] _
    have hsw : w.heap.size + 1 < w1.heap.size := (HRS.out.later hb1).lt
    have hsw1 : (w1.alloc (.cells #[.int .i64 0, .int .i64 (z : Int)] 54)).heap.size = w1.heap.size + 1 := by simp
    have x0 := HX1.out 0 _ rfl
    have x1 := HX1.out 1 _ rfl
    clear hb1
    go_wp2_with fail
    refine (HCF.out _ HB1.out).mono ?_
    rintro e w2 ⟨q1, m1, cI, q2, m2, cD, rfl, hb2, hf2⟩
    generalize (w1.alloc (.cells #[.int .i64 0, .int .i64 (z : Int)] 54)) = W1 at *
    obtain ⟨bI, e1, bD, e2, eI, eD, hfs⟩ := FsS.of hf2 (by have := HN.out; omega) (by have := HDAT.out; omega)
    simp only [Value.slice.injEq] at eI eD
    obtain ⟨rfl, rfl, rfl⟩ := eI
    obtain ⟨rfl, rfl, rfl⟩ := eD
    rw [HDAT.out, HN.out] at hfs
    rw [HDAT.out, HN.out]
    have HL3 : Hid (Below W1.heap.size W1 (w2.alloc (.cells #[.slice (some ⟨bI, 0, none⟩) n cI, .slice (some ⟨bD, 0, none⟩) 20 cD] 29))) := hb2.trans ((later1 _ _).mono hb2.size)
    have HF3 : Hid (FsS (w2.alloc (.cells #[.slice (some ⟨bI, 0, none⟩) n cI, .slice (some ⟨bD, 0, none⟩) 20 cD] 29)) bI n cI bD 20 cD d (fun c => W1.heap.size ≤ c ∧ c < w2.heap.size)) := hfs.later (later1 _ _)
    have HO3 : Hid (OwnRow (w2.alloc (.cells #[.slice (some ⟨bI, 0, none⟩) n cI, .slice (some ⟨bD, 0, none⟩) 20 cD] 29)) w2.heap.size 2 (cel [.slice (some ⟨bI, 0, none⟩) n cI, .slice (some ⟨bD, 0, none⟩) 20 cD])) := newCel w2 [.slice (some ⟨bI, 0, none⟩) n cI, .slice (some ⟨bD, 0, none⟩) 20 cD] 29
    have HS3 : Hid (W1.heap.size ≤ w2.heap.size ∧ (w2.alloc (.cells #[.slice (some ⟨bI, 0, none⟩) n cI, .slice (some ⟨bD, 0, none⟩) 20 cD] 29)).heap.size = w2.heap.size + 1) := ⟨hb2.size, by simp⟩
    clear hb2 hf2 hfs x0 x1 HCF HLK
    have hne := HF3.out.ne
    obtain ⟨aH', cH', aH, cH, _, _, _, _, c4, hEn⟩ := FsR.five HF3.out.fs.reads (j := j) (by have := HN.out; omega)
    rw [HEE.out, HM.out, Nat.zero_add] at c4
    rw [HEE.out, HM.out] at hEn
    have HEN : Hid (Ents (w2.alloc (.cells #[.slice (some ⟨bI, 0, none⟩) n cI, .slice (some ⟨bD, 0, none⟩) 20 cD] 29)) (.slice aH m cH) ee) := hEn
    obtain ⟨_, _, _, _, _, _, _, _, _, _, i6, _⟩ := HF3.out.ino j hjl
    have HC4 : Hid (_ = some (Value.slice aH m cH)) := c4
    have HC4F : Hid (_ = false) := i6 (j * 5 + 4)
    clear hEn i6
    go_wp2_with fail
    generalize (w2.alloc (.cells #[.slice (some ⟨bI, 0, none⟩) n cI, .slice (some ⟨bD, 0, none⟩) 20 cD] 29)) = W3 at *
    refine (HPL.out _ aH cH HEN.out).mono ?_
    rintro e w4 ⟨rfl, hb4⟩
    have HB4 : Hid (Below W3.heap.size W3 w4) := hb4
    clear c4
    have c4 := cell_later hb4 HC4.out
    clear hb4
    go_wp2_with fail
    refine (HWE.out _ aH cH (HEN.out.later HB4.out)).mono ?_
    rintro e w5 ⟨av, mv, cv, rfl, hb5, hv5⟩
    have HB5 : Hid (Below W3.heap.size W3 w5) := HB4.out.trans (hb5.mono HB4.out.size)
    clear c4
    have c4 := cell_later HB5.out HC4.out
    have c4f := (HB5.out.frozen (p := ⟨bI, j * 5 + 4, none⟩) hne.2.1.2).trans HC4F.out
    have hs4 := HB4.out.size
    have hs5 := hb5.size
    have hS3 := HS3.out
    have hsz5 := HB5.out.size
    have HF6 : Hid (FsS (w5.setCell ⟨bI, j * 5 + 4, none⟩ (.slice av mv cv)) bI n cI bD 20 cD dn (fun c => W1.heap.size ≤ c ∧ c ≠ w2.heap.size)) := by
      unfold Hid
      rcases hv5 with ⟨_, hw⟩ | ⟨hk1, e⟩
      · have := ((HF3.out.later HB5.out).entS j hjl HBK.out nes _ (hw.own HEZ.out) (fun c hc => ⟨fun hh => by have := hh.2; have := hc.1; omega, hc.2⟩)).mono (F' := fun c => W1.heap.size ≤ c ∧ c ≠ w2.heap.size) fun c hh => by
          rcases hh with hh | hh
          · exact ⟨hh.1, by omega⟩
          · exact ⟨by have := hh.1; omega, by have := hh.1; omega⟩
        rw [← HDN.out]
        exact this
      · simp only [Value.slice.injEq] at e
        obtain ⟨rfl, rfl, rfl⟩ := e
        have := ((HF3.out.later HB5.out).entCut j hjl HBK.out c4 cv (by omega)).mono (F' := fun c => W1.heap.size ≤ c ∧ c ≠ w2.heap.size) fun c hh => ⟨hh.1, by omega⟩
        rw [HEE.out, ← HDL.out hk1, HDN.out] at this
        exact this
    have hC6 : Chg (fun c => c = bI) w5 (w5.setCell ⟨bI, j * 5 + 4, none⟩ (.slice av mv cv)) := Chg.set (F := fun c => c = bI) (Chg.refl _ w5) rfl _ _
    have hoI : w2.heap.size ≠ bI := fun e => by have := hne.2.1.1.2; omega
    have hB6 : Below W1.heap.size W1 (w5.setCell ⟨bI, j * 5 + 4, none⟩ (.slice av mv cv)) := (HL3.out.trans (HB5.out.mono HL3.out.size)).setCell (by have := hne.2.1.1.1; exact this) _
    have HB6 : Hid (Below W1.heap.size W1 (w5.setCell ⟨bI, j * 5 + 4, none⟩ (.slice av mv cv))) := hB6
    have HO6 : Hid (OwnRow (w5.setCell ⟨bI, j * 5 + 4, none⟩ (.slice av mv cv)) w2.heap.size 2 (cel [.slice (some ⟨bI, 0, none⟩) n cI, .slice (some ⟨bD, 0, none⟩) 20 cD])) := (HO3.out.later HB5.out).block (hC6.block _ (HO3.out.later HB5.out).lt hoI)
    have p0 : (w5.setCell ⟨bI, j * 5 + 4, none⟩ (.slice av mv cv)).cell? ⟨w2.heap.size, 0, none⟩ = some (.slice (some ⟨bI, 0, none⟩) n cI) := HO6.out.cell (i := 0) (by omega)
    have p1 : (w5.setCell ⟨bI, j * 5 + 4, none⟩ (.slice av mv cv)).cell? ⟨w2.heap.size, 1, none⟩ = some (.slice (some ⟨bD, 0, none⟩) 20 cD) := HO6.out.cell (i := 1) (by omega)
    have y1 := (HI1.out.later hB6) 1 _ rfl
    obtain ⟨_, _, _, _, z0, -, -, -, -, -, -, -⟩ := HF6.out.ino z hzn
    rw [HDEL.out.kind, HKD.out] at z0
    have hS6 : w2.heap.size + 1 ≤ (w5.setCell ⟨bI, j * 5 + 4, none⟩ (.slice av mv cv)).heap.size := by
      have := hC6.size
      omega
    clear hb5 hv5 hC6 hB6 HF3 HO3 HPL HWE HEN HL3 hS3 hs4 hs5 hsz5
    by_cases hk1 : kd = 1
    · have hkb1 : (kd == 1) = true := by simpa using hk1
      have HR : Hid (RES = unlD dn z) := by unfold Hid; rw [← HRES.out, if_pos hk1]
      have hdl := HDEL.out
      have hfl := hdl.file (by rw [HKD.out]; exact hk1)
      have HUN : Hid (Calls Tryz.prog 26 #[.agg #[.slice (some ⟨bI, 0, none⟩) n cI, .slice (some ⟨bD, 0, none⟩) 20 cD], .int .i64 (z : Int)] (w5.setCell ⟨bI, j * 5 + 4, none⟩ (.slice av mv cv)) (AnsUn (w5.setCell ⟨bI, j * 5 + 4, none⟩ (.slice av mv cv)) n (unlD dn z))) := by
        have := unlinked_any (w5.setCell ⟨bI, j * 5 + 4, none⟩ (.slice av mv cv)) _ n cI _ 20 cD dn z HF6.out.fs.reads hdl.size (by rw [hdl.dat]; exact HDAT.out) (by rw [hdl.len, HN.out]; exact hzn) (by rw [hdl.len, HN.out]; exact hten) hdl.ins hfl.1 hfl.2 hdl.blk hdl.four
        rw [hdl.len, HN.out] at this
        exact this
      clear hdl hfl hk1
      go_wp2_with fail
      generalize (w5.setCell ⟨bI, j * 5 + 4, none⟩ (.slice av mv cv)) = W6 at *
      refine HUN.out.mono ?_
      rintro e w7 ⟨bI2, cI2, bD2, cD2, rfl, hb7, hf7⟩
      have HO7 : Hid (OwnRow w7 w2.heap.size 2 (cel [.slice (some ⟨bI, 0, none⟩) n cI, .slice (some ⟨bD, 0, none⟩) 20 cD])) := HO6.out.later hb7
      have HB7 : Hid (Below W1.heap.size W1 w7) := HB6.out.trans (hb7.mono HB6.out.size)
      have hC8 : Chg (fun c => c = w2.heap.size) w7 ((w7.setCell ⟨w2.heap.size, 0, none⟩ (.slice (some ⟨bI2, 0, none⟩) n cI2)).setCell ⟨w2.heap.size, 1, none⟩ (.slice (some ⟨bD2, 0, none⟩) 20 cD2)) := Chg.set (F := fun c => c = w2.heap.size) (Chg.set (F := fun c => c = w2.heap.size) (Chg.refl _ w7) rfl 0 _) rfl 1 _
      have HF8 : Hid (FsS ((w7.setCell ⟨w2.heap.size, 0, none⟩ (.slice (some ⟨bI2, 0, none⟩) n cI2)).setCell ⟨w2.heap.size, 1, none⟩ (.slice (some ⟨bD2, 0, none⟩) 20 cD2)) bI2 n cI2 bD2 20 cD2 (unlD dn z) (fun c => W6.heap.size ≤ c)) := hf7.chg hC8 fun b hb e => by omega
      have HB8 : Hid (Below W1.heap.size W1 ((w7.setCell ⟨w2.heap.size, 0, none⟩ (.slice (some ⟨bI2, 0, none⟩) n cI2)).setCell ⟨w2.heap.size, 1, none⟩ (.slice (some ⟨bD2, 0, none⟩) 20 cD2))) := (HB7.out.setCell (by show W1.heap.size ≤ w2.heap.size; exact HS3.out.1) _).setCell (by show W1.heap.size ≤ w2.heap.size; exact HS3.out.1) _
      have u0 : w7.cell? ⟨w2.heap.size, 0, none⟩ = some (.slice (some ⟨bI, 0, none⟩) n cI) := HO7.out.cell (i := 0) (by omega)
      have u1 : w7.cell? ⟨w2.heap.size, 1, none⟩ = some (.slice (some ⟨bD, 0, none⟩) 20 cD) := HO7.out.cell (i := 1) (by omega)
      have uf0 := HO7.out.frozen 0
      have uf1 := HO7.out.frozen 1
      have hrr := HR1.out.later HB8.out
      have t0 : ((w7.setCell ⟨w2.heap.size, 0, none⟩ (.slice (some ⟨bI2, 0, none⟩) n cI2)).setCell ⟨w2.heap.size, 1, none⟩ (.slice (some ⟨bD2, 0, none⟩) 20 cD2)).cell? ⟨w.heap.size + 1, 0, none⟩ = some (.int .i64 0) := hrr.cell (i := 0) (by omega)
      have t1 : ((w7.setCell ⟨w2.heap.size, 0, none⟩ (.slice (some ⟨bI2, 0, none⟩) n cI2)).setCell ⟨w2.heap.size, 1, none⟩ (.slice (some ⟨bD2, 0, none⟩) 20 cD2)).cell? ⟨w.heap.size + 1, 1, none⟩ = some (.slice none 0 0) := hrr.cell (i := 1) (by omega)
      have t2 : ((w7.setCell ⟨w2.heap.size, 0, none⟩ (.slice (some ⟨bI2, 0, none⟩) n cI2)).setCell ⟨w2.heap.size, 1, none⟩ (.slice (some ⟨bD2, 0, none⟩) 20 cD2)).cell? ⟨w.heap.size + 1, 2, none⟩ = some (.slice none 0 0) := hrr.cell (i := 2) (by omega)
      have s0 := hrr.frozen 0
      have s1 := hrr.frozen 1
      have s2 := hrr.frozen 2
      clear hrr hC8 hf7 hb7 z0 y1 p0 p1
      have hw1 : w1.heap.size + 1 = W1.heap.size := by omega
      go_wp2
      exact bodyPost_ret (v := .agg #[.int .i64 0, .slice (some ⟨bI2, 0, none⟩) n cI2, .slice (some ⟨bD2, 0, none⟩) 20 cD2]) (by simp [results, Tryz.results7, go_sem, t0, t1, t2]) rfl (by rw [HR.out]; exact AnsFR.box (HB1.out.trans (HB8.out.mono HB1.out.size)) (by omega) HF8.out (fun c hc => ⟨by omega, by omega⟩) _ _ _)
    · have hkb1 : (kd == 1) = false := by simpa using hk1
      have HR : Hid (RES = dn) := by unfold Hid; rw [← HRES.out, if_neg hk1]
      have hrr := HR1.out.later HB6.out
      have t0 : (w5.setCell ⟨bI, j * 5 + 4, none⟩ (.slice av mv cv)).cell? ⟨w.heap.size + 1, 0, none⟩ = some (.int .i64 0) := hrr.cell (i := 0) (by omega)
      have t1 : (w5.setCell ⟨bI, j * 5 + 4, none⟩ (.slice av mv cv)).cell? ⟨w.heap.size + 1, 1, none⟩ = some (.slice none 0 0) := hrr.cell (i := 1) (by omega)
      have t2 : (w5.setCell ⟨bI, j * 5 + 4, none⟩ (.slice av mv cv)).cell? ⟨w.heap.size + 1, 2, none⟩ = some (.slice none 0 0) := hrr.cell (i := 2) (by omega)
      have s0 := hrr.frozen 0
      have s1 := hrr.frozen 1
      have s2 := hrr.frozen 2
      clear hrr hk1
      go_wp2
      exact bodyPost_ret (v := .agg #[.int .i64 0, .slice (some ⟨bI, 0, none⟩) n cI, .slice (some ⟨bD, 0, none⟩) 20 cD]) (by simp [results, Tryz.results7, go_sem, t0, t1, t2]) rfl (by rw [HR.out]; exact AnsFR.box (HB1.out.trans (HB6.out.mono HB1.out.size)) (by omega) HF6.out (fun c hc => ⟨by omega, by omega⟩) _ _ _)
end Go.Proofs.YtmlfpikhencgcanGreat

namespace Go.Proofs.YtmlfpikhencgcanGreat
open Go.RowKit
set_option maxRecDepth 100000

/-- A row of n elements that the call owns; element i is told by C i (u i), where u i is a list of its own in block k i. -/
structure YRow (C : Nat → Value → List Value) (w : World) (base lo : Nat) (e : TypeId) (size : Nat) (v : Value) (n : Nat) (f : Nat → List UInt8) (k : Nat → Nat) (u : Nat → Value) : Prop where
  own : w.ownsRow base e size v n ((List.range n).flatMap fun i => C i (u i))
  lo : ∀ i, i < n → lo ≤ k i ∧ k i < w.heap.size
  ne : ∀ i, i < n → v.ownBlock ≠ some (k i)
  inj : ∀ i j, i < n → j < n → i ≠ j → k i ≠ k j
  sh : ∀ i, i < n → ∃ a c, u i = .slice a (f i).length c
  at' : ∀ i, i < n → BytO w (u i) (f i) (fun c => c = k i)

theorem YRow.nil {C : Nat → Value → List Value} (w : World) (base lo : Nat) (e : TypeId) (size : Nat) (f : Nat → List UInt8) : YRow C w base lo e size (.slice none 0 0) 0 f (fun _ => 0) (fun _ => .slice none 0 0) :=
  ⟨World.ownsRow_nil _ _ _ _, fun i hi => by omega, fun i hi => by omega, fun i j hi => by omega, fun i hi => by omega, fun i hi => by omega⟩
theorem YRow.keep {C : Nat → Value → List Value} {w w' : World} {base lo : Nat} {e : TypeId} {size : Nat} {v : Value} {n : Nat} {f : Nat → List UInt8} {k : Nat → Nat} {u : Nat → Value} (h : YRow C w base lo e size v n f k u) (hs : w.heap.size ≤ w'.heap.size)
    (hrow : ∀ g, v.ownBlock = some g → w'.heap[g]? = w.heap[g]?) (hk : ∀ i, i < n → w'.heap[k i]? = w.heap[k i]?) : YRow C w' base lo e size v n f k u := by
  refine ⟨?_, fun i hi => ⟨(h.lo i hi).1, Nat.lt_of_lt_of_le (h.lo i hi).2 hs⟩, h.ne, h.inj, h.sh, fun i hi => (h.at' i hi).keep fun b hb _ => by rw [hb]; exact hk i hi⟩
  obtain ⟨h1, h2⟩ := h.own
  refine ⟨h1, ?_⟩
  rcases h2 with h2 | ⟨g, cap, cur, hv, hg, hh, r⟩
  · exact Or.inl h2
  · exact Or.inr ⟨g, cap, cur, hv, hg, by rw [hrow g (by rw [hv]; rfl)]; exact hh, r⟩
theorem YRow.later {C : Nat → Value → List Value} {w w' : World} {base lo : Nat} {e : TypeId} {size : Nat} {v : Value} {n : Nat} {f : Nat → List UInt8} {k : Nat → Nat} {u : Nat → Value} (h : YRow C w base lo e size v n f k u) (hb : Below w.heap.size w w') : YRow C w' base lo e size v n f k u :=
  h.keep hb.size (fun g hg => hb.block g (h.own.lt g hg).2) (fun i hi => hb.block _ (h.lo i hi).2)
theorem YRow.store {C : Nat → Value → List Value} {w : World} {base lo : Nat} {e : TypeId} {size : Nat} {v : Value} {n : Nat} {f : Nat → List UInt8} {k : Nat → Nat} {u : Nat → Value} (h : YRow C w base lo e size v n f k u) {p : Addr} (h1 : p.block < base) (h2 : p.block < lo) (x : Value) : YRow C (w.setCell p x) base lo e size v n f k u :=
  h.keep (by simp [World.setCell]) (fun g hg => Below.heap_setCell _ _ _ _ (by have := (h.own.lt g hg).1; omega)) (fun i hi => Below.heap_setCell _ _ _ _ (by have := (h.lo i hi).1; omega))
theorem YRow.shape {C : Nat → Value → List Value} {w : World} {base lo : Nat} {e : TypeId} {size : Nat} {v : Value} {n : Nat} {f : Nat → List UInt8} {k : Nat → Nat} {u : Nat → Value} (h : YRow C w base lo e size v n f k u) : ∃ a c, v = .slice a n c := by
  rcases h.own.2 with ⟨rfl, rfl⟩ | ⟨g, c, cur, rfl, _⟩
  · exact ⟨_, _, rfl⟩
  · exact ⟨_, _, rfl⟩

/-- What 'append' of one element comes to. -/
theorem YRow.append {C : Nat → Value → List Value} (w w1 : World) (t ty e : TypeId) (i : TypeInfo) (z : Value) (size bytes : Nat) (ht : Tryz.prog.underlying t = some (.slice e)) (hi : Tryz.prog.info? e = some i) (hz : i.zero = some z) (hsize : i.size = size) (hby : i.bytes = bytes) (hzs : z.cells.size = size) (hsz : 0 < size) (hbb : bytes ≤ 1000)
    (base lo n : Nat) (v : Value) (f : Nat → List UInt8) (k : Nat → Nat) (u : Nat → Value) (h : YRow C w base lo e size v n f k u) (hb : base ≤ w.heap.size) (hn : n ≤ 1048600) (hb1 : Below w.heap.size w w1)
    (a : Option Addr) (c : Nat) (hlen : (C n (.slice a (f n).length c)).length = size) (hone : ∀ x ∈ C n (.slice a (f n).length c), x.oneCell' = true) (kb : Nat) (hk1 : lo ≤ kb) (hk2 : kb ≤ w1.heap.size) (hk3 : v.ownBlock ≠ some kb) (hk4 : ∀ i, i < n → k i ≠ kb) (hf : BytO w1 (.slice a (f n).length c) (f n) (fun x => x = kb)) :
    ∃ g cap X, (Builtin.append_ #[t, t] ty #[v, .slice (some ⟨w1.heap.size, 0, none⟩) 1 1]).run Tryz.prog (w1.alloc (.cells (C n (.slice a (f n).length c)).toArray e)) = .ok (.slice (some ⟨g, 0, none⟩) (n + 1) cap) X ∧
      (∀ b, b < w1.heap.size → v.ownBlock ≠ some b → X.heap[b]? = w1.heap[b]?) ∧ Below base w X ∧ w1.heap.size < X.heap.size ∧
      YRow C X base lo e size (.slice (some ⟨g, 0, none⟩) (n + 1) cap) (n + 1) f (fun j => if j = n then kb else k j) (fun j => if j = n then .slice a (f n).length c else u j) := by
  have hsz1 := hb1.size
  have hbW : Below w.heap.size w (w1.alloc (.cells (C n (.slice a (f n).length c)).toArray e)) := hb1.trans ((later1 _ _).mono hb1.size)
  have hW := h.later hbW
  obtain ⟨g, cap, X, hr, ho, hg, hat, hgX⟩ := run_append_lies (P := Tryz.prog) (w1.alloc (.cells (C n (.slice a (f n).length c)).toArray e)) t ty base e i z size bytes ht hi hz hsize hby hzs hsz v n _ hW.own ⟨w1.heap.size, 0, none⟩ 1 1 (C n (.slice a (f n).length c)) (by rw [hlen, Nat.one_mul])
    (fun j x hx => by
      rw [add_plain', Nat.zero_add, new_cell]
      simpa using hx) hone (by decide) (by unfold maxLen; omega) (by have : (n + 1) * bytes ≤ 1048601 * 1000 := Nat.mul_le_mul (by omega) hbb; omega) (by simp; omega) (w1.heap.size + 1) (by simp)
  have hrow : ∀ g, v.ownBlock = some g → g < w.heap.size := fun g hg => (h.own.lt g hg).2
  have hrowb : ∀ g, v.ownBlock = some g → base ≤ g := fun g hg => (h.own.lt g hg).1
  have hXb : ∀ b, b < w1.heap.size → v.ownBlock ≠ some b → X.heap[b]? = w1.heap[b]? := fun b hb' hne => (hg.block b (by simp; omega) (fun e => hne e.symm)).trans ((later1 _ _).block b hb')
  have hne : ∀ b, b ≤ w1.heap.size → v.ownBlock ≠ some b → g ≠ b := by
    intro b hb' hb2 e
    subst e
    rcases hat with h | h
    · exact hb2 h
    · omega
  have old : ∀ b, b < w.heap.size → v.ownBlock ≠ some b → X.heap[b]? = w.heap[b]? := fun b hb' hne => (hXb b (by omega) hne).trans (hb1.block b hb')
  have hXs : w1.heap.size < X.heap.size := by have := hg.size; simp at this; omega
  refine ⟨g, cap, X, hr, hXb, (hbW.mono hb).trans (below_grown hg (by simp; omega) (fun g hg' => hrowb g hg')), hXs, ⟨?_, fun j hj => ?_, fun j hj => ?_, fun j j' hj hj' e => ?_, fun j hj => ?_, fun j hj => ?_⟩⟩
  · rw [List.range_succ, List.flatMap_append]
    have e1 : (List.range n).flatMap (fun i => C i (if i = n then .slice a (f n).length c else u i)) = (List.range n).flatMap (fun i => C i (u i)) := by
      have e0 : (List.range n).map (fun i => C i (if i = n then .slice a (f n).length c else u i)) = (List.range n).map (fun i => C i (u i)) := List.map_congr_left fun i hi => by rw [if_neg (by have := List.mem_range.1 hi; omega)]
      rw [List.flatMap_def, List.flatMap_def, e0]
    have e2 : [n].flatMap (fun i => C i (if i = n then .slice a (f n).length c else u i)) = C n (.slice a (f n).length c) := by simp only [List.flatMap_cons, List.flatMap_nil, List.append_nil, if_true]
    rw [e1, e2]
    exact ho
  · by_cases e : j = n
    · subst e; simp; omega
    · have := h.lo j (by omega); simp [e]; omega
  · by_cases e : j = n
    · subst e
      simp only [if_true]
      exact fun e => hne kb hk2 hk3 (by simpa [Value.ownBlock] using e)
    · have hj' : j < n := by omega
      have hl := h.lo j hj'
      simp only [e, if_false]
      exact fun e => hne (k j) (by omega) (h.ne j hj') (by simpa [Value.ownBlock] using e)
  · by_cases e1 : j = n
    · by_cases e2 : j' = n
      · omega
      · simp [e1, e2]; exact fun e => hk4 j' (by omega) e.symm
    · by_cases e2 : j' = n
      · simp [e1, e2]; exact hk4 j (by omega)
      · simp [e1, e2]; exact h.inj j j' (by omega) (by omega) e
  · by_cases e : j = n
    · subst e; exact ⟨a, c, by simp⟩
    · simp only [e, if_false]; exact h.sh j (by omega)
  · by_cases e : j = n
    · subst e
      simp only [if_true]
      exact hf.keep fun b hb' hlt' => by subst hb'; exact hXb _ hlt' hk3
    · have hj' : j < n := by omega
      simp only [e, if_false]
      exact (h.at' j hj').keep fun b hb' hlt' => by rw [hb']; exact old _ (h.lo j hj').2 (h.ne j hj')

/-- The one block of a list that is fresh. -/
theorem BytO.one {w w1 : World} {v : Value} {zs : List UInt8} (h : BytO w1 v zs (fresh w w1)) (hlt : w.heap.size < w1.heap.size) : ∃ kb, w.heap.size ≤ kb ∧ kb < w1.heap.size ∧ BytO w1 v zs (fun c => c = kb) := by
  rcases h with h | ⟨b, cap, hF, r⟩
  · exact ⟨w.heap.size, Nat.le_refl _, hlt, Or.inl h⟩
  · exact ⟨b, hF.1, hF.2, Or.inr ⟨b, cap, rfl, r⟩⟩

/-- The cells of such a row. -/
theorem YRow.cells {C : Nat → Value → List Value} {w : World} {base lo : Nat} {e : TypeId} {size : Nat} {v : Value} {n : Nat} {f : Nat → List UInt8} {k : Nat → Nat} {u : Nat → Value} (h : YRow C w base lo e size v n f k u) (hsz : 0 < size) (hC : ∀ i, (C i (u i)).length = size) (hn : 0 < n) :
    ∃ g cap, v = .slice (some ⟨g, 0, none⟩) n cap ∧ base ≤ g ∧ g < w.heap.size ∧ n ≤ maxLen ∧ n ≤ cap ∧ OwnRow w g (n * size) (fun c => (C (c / size) (u (c / size)))[c % size]?.getD undef) := by
  obtain ⟨hl, h2 | ⟨g, cap, cur, rfl, hb, hh, hnc, hcm, hcs, htake⟩⟩ := h.own
  · omega
  · have hle : n * size ≤ cap * size := Nat.mul_le_mul_right _ hnc
    refine ⟨g, cap, rfl, hb, (Array.getElem?_eq_some_iff.1 hh).1, by omega, hnc, cur, e, hh, by omega, fun c hc => ?_⟩
    have hd : c / size < n := by rw [Nat.div_lt_iff_lt_mul hsz]; exact hc
    have hm : c % size < size := Nat.mod_lt _ hsz
    have hg := flat_get hsz u hC n (c / size) (c % size) hd hm
    rw [Nat.div_add_mod'] at hg
    have h1 : ((List.range n).flatMap fun i => C i (u i))[c]? = cur[c]? := by rw [← htake, List.getElem?_take, if_pos hc, Array.getElem?_toList]
    rw [h1] at hg
    have hlt : c < cur.size := by omega
    show cur[c]? = some ((C (c / size) (u (c / size)))[c % size]?.getD undef)
    rw [← hg, Array.getElem?_eq_getElem hlt]; rfl

theorem YRow.byts {w : World} {base lo : Nat} {e : TypeId} {v : Value} {n : Nat} {k : Nat → Nat} {u : Nat → Value} {zss : List (List UInt8)} (h : YRow C1 w base lo e 1 v n (fun i => zss[i]?.getD []) k u) (hn : zss.length = n) (F : Nat → Prop) (hF : ∀ c, base ≤ c → c < w.heap.size → F c) (hF' : ∀ c, lo ≤ c → c < w.heap.size → F c) : BytsO w v zss F := by
  subst hn
  by_cases h0 : zss.length = 0
  · obtain ⟨a, c, rfl⟩ := h.shape
    exact Or.inl ⟨List.eq_nil_of_length_eq_zero h0, a, c, by rw [h0]⟩
  · obtain ⟨g, cap, rfl, hb, hg, hm, hnc, hrow⟩ := h.cells (by decide) (fun _ => rfl) (by omega)
    refine Or.inr ⟨g, cap, u, fun i c => i < zss.length ∧ c = k i, hF g hb hg, fun i c hc => ?_, fun i j c e h1 h2 => h.inj i j h1.1 h2.1 e (h1.2.symm.trans h2.2), rfl, ⟨hm, hnc⟩, ?_, fun i hi => (h.at' i hi).mono fun c hc => ⟨hi, hc⟩⟩
    · have hl := h.lo i hc.1
      have hne := h.ne i hc.1
      rw [hc.2]
      exact ⟨hF' _ hl.1 hl.2, fun e => hne (by simp [Value.ownBlock, e])⟩
    · rw [Nat.mul_one] at hrow
      exact hrow.congr fun i hi => by simp [C1, Nat.mod_one]
end Go.Proofs.YtmlfpikhencgcanGreat

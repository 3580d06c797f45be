/- The specification's DropName: the contract. From the reading of an argument to the lists that it holds. No program is named here. What the rows of this seat share: how a disk that came in is opened. How inodes that came in are opened. How lists of inodes that came in are opened. How file systems that came in are opened. -/
import Derived.Test.YtmlfpikhencgcanGreatM17
import Derived.Test.YtmlfpikhencgcanGreatM00
import Derived.ProofKit
import Derived.Deep.Slices
import Derived.Deep.SlicePairs
import Derived.Lib.SmallJoins
import Derived.Test.YtmlfpikhencgcanGreatRows
import Derived.Test.YtmlfpikhencgcanGreatM02
import Derived.Test.YtmlfpikhencgcanGreatM03
import Derived.Test.YtmlfpikhencgcanGreatM05
namespace Go.Proofs.YtmlfpikhencgcanGreat
open Go.RowKit
set_option maxRecDepth 100000

set_option maxHeartbeats 6400000 in
theorem specDelU (w : World) (a1 : Option Addr) (n1 c1 : Nat) (a2 : Option Addr) (n2 c2 : Nat) (d : FD) (x : Int) (s : ByteArray) (h : FsR w (.slice a1 n1 c1) (.slice a2 n2 c2) d) (hs : sizeFs d ≤ 1048576) (hl : s.size ≤ 1048576) :
    Calls Tryz.prog 5 #[.agg #[.slice a1 n1 c1, .slice a2 n2 c2], .int .i64 x, .string s] w (AnsFR w (delR d x s)) := by
  have hml : s.size ≤ maxLen := by unfold maxLen; omega
  obtain ⟨hx0, -, -⟩ := FsX.box h 29
  have HB0 : Hid (Below w.heap.size w ((w.alloc (.cells #[.slice a1 n1 c1, .slice a2 n2 c2] 29)).alloc (.cells #[.int .i64 0, .slice none 0 0, .slice none 0 0] 31))) := later2 _ _ _
  have HBX : Hid (Bx ((w.alloc (.cells #[.slice a1 n1 c1, .slice a2 n2 c2] 29)).alloc (.cells #[.int .i64 0, .slice none 0 0, .slice none 0 0] 31)) w.heap.size [.slice a1 n1 c1, .slice a2 n2 c2]) := (Bx.new w [.slice a1 n1 c1, .slice a2 n2 c2] _).later (later1 _ _)
  have HRS : Hid (OwnRow ((w.alloc (.cells #[.slice a1 n1 c1, .slice a2 n2 c2] 29)).alloc (.cells #[.int .i64 0, .slice none 0 0, .slice none 0 0] 31)) (w.heap.size + 1) 3 (cel zero3)) := by
    have p2 := row3 (w.alloc (.cells #[.slice a1 n1 c1, .slice a2 n2 c2] 29)) 31
    rw [World.size_alloc] at p2
    exact p2
  have HF : Hid (∀ W, Below ((w.alloc (.cells #[.slice a1 n1 c1, .slice a2 n2 c2] 29)).alloc (.cells #[.int .i64 0, .slice none 0 0, .slice none 0 0] 31)).heap.size ((w.alloc (.cells #[.slice a1 n1 c1, .slice a2 n2 c2] 29)).alloc (.cells #[.int .i64 0, .slice none 0 0, .slice none 0 0] 31)) W → Calls Tryz.prog 15 #[.pointer (some ⟨w.heap.size, 0, none⟩), .int .i64 x, .string s] W fun e w' => e = .returned (.int .i64 (dirN d x s)) ∧ Below W.heap.size W w') := fun W hW => l8Name_any W _ _ d _ _ _ _ x s ((hx0.later (later1 _ _)).later hW) (by unfold sizeFs at hs; omega) hml
  have HCF : Hid (∀ W, Below w.heap.size w W → Calls Tryz.prog 17 #[.agg #[.slice a1 n1 c1, .slice a2 n2 c2]] W (AnsFs W d)) := fun W hW => l6Copy_any W a1 n1 c1 a2 n2 c2 d (h.later hW) hs
  have HRR : Hid (delR d x s = if (lookR d x s).1 = 0 then (0, delD d x.toNat (idxE (entA d x.toNat) s)) else noFs (lookR d x s).1) := rfl
  rw [HRR.out]
  have HLR : Hid (lookR d x s = if dirN d x s = 0 then (if idxE (entA d x.toNat) s < (entA d x.toNat).length then (0, ((entA d x.toNat)[idxE (entA d x.toNat) s]?.getD en0).2) else (4, 0)) else (dirN d x s, 0)) := rfl
  rw [HLR.out]
  clear HRR hx0 HLR
  by_cases hq : dirN d x s = 0
  rotate_left
  · rw [if_neg hq, if_neg hq]
    have hb : (dirN d x s != 0) = true := by simpa using hq
    clear hq hs h
    generalize dirN d x s = r at *
    dsimp only
    go_enter Tryz.func5, Tryz.ntmps5
    go_wp2_with fail
    generalize ((w.alloc (.cells #[.slice a1 n1 c1, .slice a2 n2 c2] 29)).alloc (.cells #[.int .i64 0, .slice none 0 0, .slice none 0 0] 31)) = W0 at *
    refine (HF.out _ (Below.refl _ _)).mono ?_
    rintro e w1 ⟨rfl, hb1⟩
    have HB1 : Hid (Below w.heap.size w w1) := HB0.out.trans (hb1.mono HB0.out.size)
    have hrr := HRS.out.later hb1
    have t0 : w1.cell? ⟨w.heap.size + 1, 0, none⟩ = some (.int .i64 0) := hrr.cell (i := 0) (by omega)
    have t1 : w1.cell? ⟨w.heap.size + 1, 1, none⟩ = some (.slice none 0 0) := hrr.cell (i := 1) (by omega)
    have t2 : w1.cell? ⟨w.heap.size + 1, 2, none⟩ = some (.slice none 0 0) := hrr.cell (i := 2) (by omega)
    have s0 := hrr.frozen 0
    have s1 := hrr.frozen 1
    have s2 := hrr.frozen 2
    clear hb1 hrr
    go_wp2
    exact bodyPost_ret (v := .agg #[.int .i64 r, .slice none 0 0, .slice none 0 0]) (by simp [results, Tryz.results5, go_sem, t0, t1, t2]) rfl (AnsFR.none' r HB1.out (by omega) _ _ _)
  · rw [if_pos hq]
    have hq0 : dirQ d x = 0 := dirN_in hq
    have hds := dirS hq0
    obtain ⟨-, hp, -⟩ := dirQ_in hq0
    obtain ⟨j, rfl⟩ : ∃ j : Nat, x = (j : Int) := ⟨x.toNat, by omega⟩
    rw [Int.toNat_natCast] at hds ⊢
    have HDS : Hid (DirS d j) := hds
    rw [hq] at HF
    obtain ⟨b0, o0, aE, cE, rfl, rfl, k4, hE⟩ := h.dir hds.lt
    have HK4 : Hid (_ = _) := k4
    obtain ⟨-, -, hAt, -, -⟩ := hE.cap
    have HPL : Hid (∀ W, Below w.heap.size w W → Calls Tryz.prog 16 #[.slice aE (entA d j).length cE, .string s] W fun e w' => e = .returned (.int .i64 (at8 (entA d j) s)) ∧ w' = W) := fun W hW => l8At_any W aE _ cE (entA d j) s rfl (by have := hds.six; omega) (hAt.later hW)
    have hjl := hds.lt
    have hjI : (j : Int) < ((d.1.length : Nat) : Int) := by omega
    clear hq hq0 hp hs hml k4 hE hAt h
    by_cases hidx : idxE (entA d j) s < (entA d j).length
    rotate_left
    · rw [if_neg hidx]
      have ha8 : at8 (entA d j) s = -1 := by unfold at8; rw [if_neg hidx]
      rw [ha8] at HPL
      clear hds hidx ha8 HCF
      show Calls _ _ _ _ (AnsFR w (noFs 4))
      generalize (entA d j).length = m at *
      generalize d.1.length = n at *
      go_enter Tryz.func5, Tryz.ntmps5
      go_wp2_with fail
      generalize ((w.alloc (.cells #[.slice (some ⟨b0, o0, none⟩) n c1, .slice a2 n2 c2] 29)).alloc (.cells #[.int .i64 0, .slice none 0 0, .slice none 0 0] 31)) = W0 at *
      refine (HF.out _ (Below.refl _ _)).mono ?_
      rintro e w1 ⟨rfl, hb1⟩
      have HB1 : Hid (Below w.heap.size w w1) := HB0.out.trans (hb1.mono HB0.out.size)
      have hrr := HRS.out.later hb1
      have t0 : w1.cell? ⟨w.heap.size + 1, 0, none⟩ = some (.int .i64 0) := hrr.cell (i := 0) (by omega)
      have t1 : w1.cell? ⟨w.heap.size + 1, 1, none⟩ = some (.slice none 0 0) := hrr.cell (i := 1) (by omega)
      have t2 : w1.cell? ⟨w.heap.size + 1, 2, none⟩ = some (.slice none 0 0) := hrr.cell (i := 2) (by omega)
      have s0 := hrr.frozen 0
      have s1 := hrr.frozen 1
      have s2 := hrr.frozen 2
      have x0 := (HBX.out.later hb1) 0 _ rfl
      have x1 := (HBX.out.later hb1) 1 _ rfl
      have k1 := cell_later HB1.out HK4.out
      clear hb1 hrr
      go_wp2_with fail
      refine (HPL.out _ HB1.out).mono ?_
      rintro e w2 ⟨rfl, rfl⟩
      go_wp2
      exact bodyPost_ret (v := .agg #[.int .i64 4, .slice none 0 0, .slice none 0 0]) (by simp [results, Tryz.results5, go_sem, t0, t1, t2]) rfl (AnsFR.none' 4 HB1.out (by omega) _ _ _)
    · rw [if_pos hidx]
      have ha8 : at8 (entA d j) s = ((idxE (entA d j) s : Nat) : Int) := by unfold at8; rw [if_pos hidx]
      rw [ha8] at HPL
      have hld : 0 ≤ ((entA d j)[idxE (entA d j) s]?.getD en0).2 ∧ ((entA d j)[idxE (entA d j) s]?.getD en0).2 < (d.1.length : Int) := hds.leads j hds.lt _ hidx
      obtain ⟨z, hzz⟩ : ∃ z : Nat, ((entA d j)[idxE (entA d j) s]?.getD en0).2 = (z : Int) := ⟨((entA d j)[idxE (entA d j) s]?.getD en0).2.toNat, by omega⟩
      have hzn : z < d.1.length := by omega
      have HDEL : Hid (DelS d j (idxE (entA d j) s) z (entD d j (delE (entA d j) (idxE (entA d j) s)))) := delS hds hidx hzn
      have HDD : Hid (delD d j (idxE (entA d j) s) = lessD (entD d j (delE (entA d j) (idxE (entA d j) s))) z) := by
        unfold Hid delD lessD
        rw [hzz, Int.toNat_natCast, (delS hds hidx hzn).kind]; rfl
      show Calls _ _ _ _ (AnsFR w (0, delD d j (idxE (entA d j) s)))
      rw [HDD.out]
      have HTK : Hid (∀ (W : World) (bo bI cI bD cD : Nat) (F : Nat → Prop), W.cell? ⟨bo, 0, none⟩ = some (.slice (some ⟨bI, 0, none⟩) d.1.length cI) → W.cell? ⟨bo, 1, none⟩ = some (.slice (some ⟨bD, 0, none⟩) 20 cD) → FsS W bI d.1.length cI bD 20 cD d F → Calls Tryz.prog 18 #[.pointer (some ⟨bo, 0, none⟩), .int .i64 (j : Int), .int .i64 ((idxE (entA d j) s : Nat) : Int)] W fun e w' => e = .returned (.int .i64 (z : Int)) ∧ Chg (fun c => c = bI) W w' ∧ FsS w' bI d.1.length cI bD 20 cD (entD d j (delE (entA d j) (idxE (entA d j) s))) (fun c => F c ∨ W.heap.size ≤ c)) := fun W bo bI cI bD cD F g0 g1 gf => by
        have := l8Take_any W bo bI d.1.length cI bD cD d F j (idxE (entA d j) s) g0 g1 gf rfl hds.lt hds.ten hds.six (dir_blk (ins_ino hds.ins j hds.lt) hds.kind) hidx
        rw [hzz] at this
        exact this
      clear hds hidx ha8 hld hzz HDD
      generalize idxE (entA d j) s = k at *
      generalize delE (entA d j) k = nes at *
      generalize entD d j nes = dn at *
      generalize (entA d j).length = m at *
      obtain ⟨n, hn⟩ : ∃ n, d.1.length = n := ⟨_, rfl⟩
      have HN : Hid (d.1.length = n) := hn
      rw [hn] at HB0 HBX HRS HF HCF HTK hjl hjI hzn
      rw [hn]
      clear hn
      go_enter Tryz.func5, Tryz.ntmps5
      go_wp2_with fail
      generalize ((w.alloc (.cells #[.slice (some ⟨b0, o0, none⟩) n c1, .slice a2 n2 c2] 29)).alloc (.cells #[.int .i64 0, .slice none 0 0, .slice none 0 0] 31)) = W0 at *
      refine (HF.out _ (Below.refl _ _)).mono ?_
      rintro e w1 ⟨rfl, hb1⟩
      have HB1 : Hid (Below w.heap.size w w1) := HB0.out.trans (hb1.mono HB0.out.size)
      have HR1 : Hid (OwnRow w1 (w.heap.size + 1) 3 (cel zero3)) := HRS.out.later hb1
      have x0 := (HBX.out.later hb1) 0 _ rfl
      have x1 := (HBX.out.later hb1) 1 _ rfl
      have k1 := cell_later HB1.out HK4.out
      have hlw : w.heap.size + 1 < w1.heap.size := HR1.out.lt
      clear hb1
      go_wp2_with fail
      refine (HPL.out _ HB1.out).mono ?_
      rintro e w2 ⟨rfl, hw2⟩
      subst hw2
      go_wp2_with fail
      clear x0 x1 k1
      refine (HCF.out _ HB1.out).mono ?_
      rintro e w5 ⟨q1, m1, cI, q2, m2, cD, rfl, hb5, hf5⟩
      obtain ⟨bI, e1, bD, e2, eI, eD, hfs⟩ := FsS.of hf5 (by have := HDS.out.lt; omega) (by have := HDS.out.dat; omega)
      simp only [Value.slice.injEq] at eI eD
      obtain ⟨rfl, rfl, rfl⟩ := eI
      obtain ⟨rfl, rfl, rfl⟩ := eD
      rw [HDS.out.dat, HN.out] at hfs
      rw [HDS.out.dat, HN.out]
      have HL6 : Hid (Below w2.heap.size w2 (w5.alloc (.cells #[.slice (some ⟨bI, 0, none⟩) n cI, .slice (some ⟨bD, 0, none⟩) 20 cD] 29))) := hb5.trans ((later1 _ _).mono hb5.size)
      have HF6 : Hid (FsS (w5.alloc (.cells #[.slice (some ⟨bI, 0, none⟩) n cI, .slice (some ⟨bD, 0, none⟩) 20 cD] 29)) bI n cI bD 20 cD d (fun c => w2.heap.size ≤ c ∧ c < w5.heap.size)) := hfs.later (later1 _ _)
      have HO6 : Hid (Bx (w5.alloc (.cells #[.slice (some ⟨bI, 0, none⟩) n cI, .slice (some ⟨bD, 0, none⟩) 20 cD] 29)) w5.heap.size [.slice (some ⟨bI, 0, none⟩) n cI, .slice (some ⟨bD, 0, none⟩) 20 cD]) := Bx.new w5 [.slice (some ⟨bI, 0, none⟩) n cI, .slice (some ⟨bD, 0, none⟩) 20 cD] _
      have HS6 : Hid (w2.heap.size ≤ w5.heap.size ∧ (w5.alloc (.cells #[.slice (some ⟨bI, 0, none⟩) n cI, .slice (some ⟨bD, 0, none⟩) 20 cD] 29)).heap.size = w5.heap.size + 1) := ⟨hb5.size, by simp⟩
      clear hb5 hf5 hfs
      go_wp2_with fail
      generalize (w5.alloc (.cells #[.slice (some ⟨bI, 0, none⟩) n cI, .slice (some ⟨bD, 0, none⟩) 20 cD] 29)) = W6 at *
      have hne := HF6.out.ne
      have hoI : w5.heap.size ≠ bI := fun e => by have := hne.2.1.1.2; omega
      have hoD : w5.heap.size ≠ bD := fun e => by have := hne.2.2.1.2; omega
      refine (HTK.out W6 w5.heap.size bI cI bD cD _ (HO6.out 0 _ rfl) (HO6.out 1 _ rfl) HF6.out).mono ?_
      rintro e w7 ⟨rfl, hc7, hf7⟩
      have p0 := hc7.cellOf (HO6.out 0 _ rfl) hoI
      have p1 := hc7.cellOf (HO6.out 1 _ rfl) hoI
      have HF7 : Hid (FsS w7 bI n cI bD 20 cD dn (fun c => w2.heap.size ≤ c ∧ c ≠ w5.heap.size)) := hf7.mono fun c hh => by
        have := HS6.out
        rcases hh with hh | hh
        · exact ⟨hh.1, by have := hh.2; omega⟩
        · exact ⟨by omega, by omega⟩
      have HL7 : Hid (Below w2.heap.size w2 w7) := HL6.out.trans (hc7.below HL6.out.size fun b hb => by have := hne.2.1.1.1; omega)
      have HLE : Hid (Calls Tryz.prog 19 #[.pointer (some ⟨w5.heap.size, 0, none⟩), .int .i64 (z : Int)] w7 _) := l8Less_any w7 w5.heap.size bI n cI bD cD dn _ z p0 p1 HF7.out (fun hh => hh.2 rfl) (by rw [HDEL.out.len, HN.out]) hzn HDEL.out.ins
      clear hc7 hf7 HTK
      go_wp2_with fail
      refine HLE.out.mono ?_
      rintro e w8 ⟨rfl, hc8, hf8⟩
      have HF8 : Hid (FsS w8 bI n cI bD 20 cD (lessD dn z) (fun c => w2.heap.size ≤ c ∧ c ≠ w5.heap.size)) := hf8
      have HL8 : Hid (Below w2.heap.size w2 w8) := HL7.out.trans (hc8.below HL7.out.size fun b hb => by
        have := hne.2.1.1.1
        have := hne.2.2.1.1
        rcases hb with hb | hb <;> omega)
      have r0 := hc8.cellOf p0 (fun hh => hh.elim hoI hoD)
      have r1 := hc8.cellOf p1 (fun hh => hh.elim hoI hoD)
      have hrr := HR1.out.later HL8.out
      have t0 : w8.cell? ⟨w.heap.size + 1, 0, none⟩ = some (.int .i64 0) := hrr.cell (i := 0) (by omega)
      have t1 : w8.cell? ⟨w.heap.size + 1, 1, none⟩ = some (.slice none 0 0) := hrr.cell (i := 1) (by omega)
      have t2 : w8.cell? ⟨w.heap.size + 1, 2, none⟩ = some (.slice none 0 0) := hrr.cell (i := 2) (by omega)
      have s0 := hrr.frozen 0
      have s1 := hrr.frozen 1
      have s2 := hrr.frozen 2
      have HB8 : Hid (Below w.heap.size w w8) := HB1.out.trans (HL8.out.mono HB1.out.size)
      clear hrr hc8 hf8 p0 p1
      go_wp2
      exact bodyPost_ret (v := .agg #[.int .i64 0, .slice (some ⟨bI, 0, none⟩) n cI, .slice (some ⟨bD, 0, none⟩) 20 cD]) (by simp [results, Tryz.results5, go_sem, t0, t1, t2]) rfl (AnsFR.box HB8.out (by omega) HF8.out (fun c hc => ⟨by omega, by omega⟩) _ _ _)
theorem delR_span (d : FD) (x : Int) (s : ByteArray) : spanFs (delR d x s).2 ≤ 1000 := by
  unfold delR
  by_cases hc : (lookR d x s).1 = 0
  · rw [if_pos hc]
    obtain ⟨hdn, hidx, _⟩ := lookR_in hc
    have hs := dirS (dirN_in hdn)
    generalize x.toNat = j at *
    show spanFs (delD d j (idxE (entA d j) s)) ≤ 1000
    have hld : 0 ≤ ((entA d j)[idxE (entA d j) s]?.getD en0).2 ∧ ((entA d j)[idxE (entA d j) s]?.getD en0).2 < (d.1.length : Int) := hs.leads j hs.lt _ hidx
    have hdl := delS (z := ((entA d j)[idxE (entA d j) s]?.getD en0).2.toNat) hs hidx (by omega)
    unfold delD
    generalize ((entA d j)[idxE (entA d j) s]?.getD en0).2.toNat = z at *
    generalize entD d j (delE (entA d j) (idxE (entA d j) s)) = dn at *
    have e1 := ins_spans hdl.ins
    have e8 : ∀ i : Nat, (dn.2[i]?.getD []).length ≤ 8 := by rw [hdl.dat]; exact hs.eight
    have e20 : dn.2.length = 20 := by rw [hdl.dat]; exact hs.dat
    have e2 := ylens_eight e8
    have hlen := hdl.len
    have ht := hs.ten
    have e3 := spanInos_each e1
    have hsame : spanFs dn ≤ 1000 := by unfold spanFs; omega
    have hlnk : ∀ l, spanFs (lnkD dn z l) ≤ 1000 := fun l => by
      have e4 := spanInos_each (set_span e1 z ((dn.1[z]?.getD id0).1, l, (dn.1[z]?.getD id0).2.2) (e1 z))
      rw [List.length_set] at e4
      unfold lnkD spanFs
      dsimp only
      omega
    have hdrop : spanFs (dropD dn z) ≤ 1000 := by
      have e4 := spanInos_each (set_span e1 z id0 (by simp [spanIno, id0]))
      have e5 := ylens_eight (clrK_le e8 (blkA dn z) (blkA dn z).length)
      rw [List.length_set] at e4
      rw [clrK_length, e20] at e5
      unfold dropD spanFs
      dsimp only
      omega
    split
    · unfold unlD
      split
      · exact hlnk _
      · split
        · exact hdrop
        · exact hsame
    · exact hsame
  · rw [if_neg hc, noFs_span]; omega
end Go.Proofs.YtmlfpikhencgcanGreat

namespace Go.Proofs.YtmlfpikhencgcanGreat
open Go.ChangeShapes Go.WideShapes Go.ChangeAt Go.RowKit Go.Deep
set_option maxRecDepth 100000

section
variable {H : Type} {enc : TypeId × Value → H} {P : Program} {w : World} {base : Nat} {held : Bool}

theorem addr_of {a : Addr} {v : Value} (h : w.cell? (a.add 0) = some v) : a = ⟨a.block, a.off, none⟩ := by
  obtain ⟨b, o, s⟩ := a
  have : s = none := by simpa [Addr.add] using World.cell?_spot h
  subst this; rfl
theorem add_plain (b off k : Nat) : (⟨b, off, none⟩ : Addr).add k = ⟨b, off + k, none⟩ := by
  by_cases h : k = 0
  · subst h; simp [Addr.add]
  · simp [Addr.add, h]

theorem open_Ints {t e : TypeId} {fuel : Nat} {v : Value} {x : DataW H × List MemPlace} (ht : P.underlying t = some (.slice e)) (he : P.underlying e = some (.int .i64)) (ce : P.cellsOf e = 1) (h : DataW.trod enc P w base (fun _ => true) held fuel t [v] = some x) :
    ∃ zs, Ints w v zs := by
  rcases open_ints ht he ce h with ⟨hcs, _⟩ | ⟨a, len, cap, zs, hcs, _, hl, hm, hz, _, hcell, _⟩
  · simp only [List.cons.injEq, and_true] at hcs
    exact ⟨[], Or.inl ⟨rfl, none, 0, hcs⟩⟩
  · simp only [List.cons.injEq, and_true] at hcs
    simp only [if_true] at hz
    by_cases h0 : len = 0
    · subst h0; exact ⟨[], Or.inl ⟨rfl, some a, cap, hcs⟩⟩
    · have ha := addr_of (hcell 0 (by omega))
      refine ⟨zs.take len, Or.inr ⟨a.block, a.off, cap, ?_, ?_, fun k hk => ?_⟩⟩
      · rw [hcs, List.length_take, Nat.min_eq_left (by omega), ← ha]
      · rw [List.length_take]; omega
      · rw [List.length_take] at hk
        have h1 := hcell k (by omega)
        rw [ha, add_plain] at h1
        rw [h1, List.getElem?_take, if_pos (by omega)]
        rfl

theorem open_IntsS {t e q : TypeId} {fuel : Nat} {v : Value} {x : DataW H × List MemPlace} (ht : P.underlying t = some (.slice e)) (he : P.underlying e = some (.slice q)) (hq : P.underlying q = some (.int .i64)) (ce : P.cellsOf e = 1) (cq : P.cellsOf q = 1)
    (h : DataW.trod enc P w base (fun _ => true) held fuel t [v] = some x) : ∃ zss, IntsS w v zss := by
  rcases open_slice1 ht ce h with ⟨hcs, _⟩ | ⟨a, len, cap, m, n, V, D, Pl, hcs, _, hl, hm, hmm, _, hx⟩
  · simp only [List.cons.injEq, and_true] at hcs
    exact ⟨[], Or.inl ⟨rfl, none, 0, hcs⟩⟩
  · simp only [List.cons.injEq, and_true] at hcs
    simp only [if_true] at hmm
    by_cases h0 : len = 0
    · subst h0; exact ⟨[], Or.inl ⟨rfl, some a, cap, hcs⟩⟩
    · have ha := addr_of (hx 0 (by omega)).1
      obtain ⟨Z, hZ⟩ := choose_lt (α := List Int) (n := m) (p := fun i zs => Ints w (V i) zs) fun i hi => open_Ints he hq cq (hx i hi).2
      refine ⟨(List.range len).map Z, Or.inr ⟨a.block, a.off, cap, V, ?_, ?_, fun k hk => ?_⟩⟩
      · simp only [List.length_map, List.length_range]; rw [hcs, ← ha]
      · simp only [List.length_map, List.length_range]; omega
      · simp only [List.length_map, List.length_range] at hk
        have h1 := (hx k (by omega)).1
        rw [ha, add_plain] at h1
        refine ⟨h1, ?_⟩
        have := hZ k (by omega)
        simpa [hk] using this

theorem open_Puts {t e q : TypeId} {f0 f1 : Field} {fuel : Nat} {v : Value} {x : DataW H × List MemPlace} (ht : P.underlying t = some (.slice e)) (he : P.underlying e = some (.struct #[f0, f1]))
    (ce : P.cellsOf e = 2) (o0 : f0.offset = 0) (o1 : f1.offset = 1) (c0 : P.cellsOf f0.type = 1) (c1 : P.cellsOf f1.type = 1) (h0 : P.underlying f0.type = some (.int .i64)) (h1 : P.underlying f1.type = some (.slice q)) (hq : P.underlying q = some (.int .i64)) (cq : P.cellsOf q = 1)
    (h : DataW.trod enc P w base (fun _ => true) held fuel t [v] = some x) : ∃ ps, Puts w v ps := by
  rcases open_slice_pairs ht he ce o0 o1 c0 c1 h with ⟨hcs, _⟩ | ⟨a, len, cap, m, n, V0, V1, D0, D1, P0, P1, hcs, _, hl, hm, hmm, _, hx⟩
  · simp only [List.cons.injEq, and_true] at hcs
    exact ⟨[], Or.inl ⟨rfl, none, 0, hcs⟩⟩
  · simp only [List.cons.injEq, and_true] at hcs
    simp only [if_true] at hmm
    by_cases hl0 : len = 0
    · subst hl0; exact ⟨[], Or.inl ⟨rfl, some a, cap, hcs⟩⟩
    · have ha := addr_of (by simpa using (hx 0 (by omega)).1)
      obtain ⟨Z, hZ⟩ := choose_lt (α := Int × List Int) (n := m) (p := fun i z => V0 i = .int .i64 z.1 ∧ Ints w (V1 i) z.2) fun i hi => by
        obtain ⟨_, _, g0, g1⟩ := hx i hi
        obtain ⟨zs, hzs⟩ := open_Ints h1 hq cq g1
        obtain ⟨y, hy, _⟩ := DataW.trod_int h0 g0
        simp only [List.cons.injEq, and_true] at hy
        exact ⟨(y, zs), hy, hzs⟩
      refine ⟨(List.range len).map Z, Or.inr ⟨a.block, a.off, cap, V1, ?_, ?_, fun k hk => ?_⟩⟩
      · simp only [List.length_map, List.length_range]; rw [hcs, ← ha]
      · simp only [List.length_map, List.length_range]; omega
      · simp only [List.length_map, List.length_range] at hk
        obtain ⟨e0, e1, _, _⟩ := hx k (by omega)
        rw [ha, add_plain] at e0 e1
        obtain ⟨g0, g1⟩ := hZ k (by omega)
        rw [g0] at e0
        have hg : ((List.range len).map Z)[k]?.getD (0, []) = Z k := by simp [hk]
        rw [hg]
        exact ⟨e0, e1, g1⟩
end

end Go.Proofs.YtmlfpikhencgcanGreat

namespace Go.Proofs.YtmlfpikhencgcanGreat
open Go.ChangeShapes Go.WideShapes Go.ChangeAt Go.RowKit Go.Joins
set_option maxRecDepth 100000

theorem Tryz.own : ownKnob Tryz.prog.godebug = none := by kernel_rfl
theorem Tryz.laidOut : laidOutB Tryz.prog = true := by kernel_rfl
theorem Tryz.cellsInt : Tryz.prog.cellsOf 2 = 1 := by kernel_rfl
theorem Tryz.cellsInts : Tryz.prog.cellsOf 44 = 1 := by kernel_rfl

end Go.Proofs.YtmlfpikhencgcanGreat

namespace Go.Proofs.YtmlfpikhencgcanGreat
open Go.ChangeShapes Go.WideShapes Go.ChangeAt Go.RowKit Go.Joins Go.Deep
set_option maxRecDepth 100000

theorem open_Ents {H : Type} {enc : TypeId × Value → H} {P : Program} {w : World} {base : Nat} {held : Bool} {t e : TypeId} {f0 f1 : Field} {fuel : Nat} {v : Value} {x : DataW H × List MemPlace} (ht : P.underlying t = some (.slice e)) (he : P.underlying e = some (.struct #[f0, f1]))
    (ce : P.cellsOf e = 2) (o0 : f0.offset = 0) (o1 : f1.offset = 1) (c0 : P.cellsOf f0.type = 1) (c1 : P.cellsOf f1.type = 1) (h0 : P.underlying f0.type = some .string) (h1 : P.underlying f1.type = some (.int .i64))
    (h : DataW.trod enc P w base (fun _ => true) held fuel t [v] = some x) : ∃ es, Ents w v es := by
  rcases open_slice ht h with ⟨hcs, _⟩ | ⟨a, len, cap, m, n, D, Pl, hcs, hb, hl, hm, hmm, _, hx⟩
  · simp only [List.cons.injEq, and_true] at hcs
    exact ⟨[], by rw [hcs]; exact Ents.nil w none 0⟩
  · simp only [List.cons.injEq, and_true] at hcs
    simp only [if_true] at hmm
    by_cases hl0 : len = 0
    · subst hl0; exact ⟨[], by rw [hcs]; exact Ents.nil w (some a) cap⟩
    · have each : ∀ i, i < m → ∃ q : EN, w.cell? (a.add (i * 2)) = some (.string q.1) ∧ w.cell? (a.add (i * 2 + 1)) = some (.int .i64 q.2) ∧ q.1.size ≤ maxLen := by
        intro i hi
        obtain ⟨cs', k1, k2⟩ := hx i hi
        rw [ce] at k1
        obtain ⟨_, hlen, hcell⟩ := World.cells?_some k1
        obtain ⟨xs, k, hk, hxy, _, hxl, hf⟩ := DataW.trod_struct he k2
        match xs, hxl, cs', hlen with
        | [y0, y1], _, [v0, v1], _ =>
          have g0 := hf 0 f0 rfl
          have g1 := hf 1 f1 rfl
          simp [o0, o1, c0, c1] at g0 g1
          have e0 := hcell 0 (by omega)
          have e1 := hcell 1 (by omega)
          rw [add_add] at e0 e1
          obtain ⟨z0, hz0, _, hs⟩ := DataW.trod_string h0 g0
          obtain ⟨z1, hz1, _⟩ := DataW.trod_int h1 g1
          simp only [List.cons.injEq, and_true] at hz0 hz1
          subst hz0 hz1
          exact ⟨(z0, z1), by simpa using e0, by simpa using e1, hs⟩
      obtain ⟨q, hq⟩ := choose_lt each
      have ha := addr_of (by simpa using (hq 0 (by omega)).1)
      refine ⟨(List.range len).map q, some a, cap, ?_, ?_, fun k hk => ?_⟩
      · simp only [List.length_map, List.length_range]; exact hcs
      · simp only [List.length_map, List.length_range]
        refine ⟨by omega, by omega, fun k => ?_⟩
        by_cases hk : k < len
        · have hg : ((List.range len).map q)[k]?.getD en0 = q k := by simp [hk]
          rw [hg]
          exact (hq k (by omega)).2.2
        · rw [List.getElem?_eq_none (by simpa using Nat.le_of_not_lt hk)]
          simp [en0, ByteArray.size]
      · simp only [List.length_map, List.length_range] at hk
        obtain ⟨e0, e1, _⟩ := hq k (by omega)
        rw [ha, add_plain] at e0 e1
        have hg : ((List.range len).map q)[k]?.getD en0 = q k := by simp [hk]
        rw [hg]
        exact ⟨a.block, a.off, by rw [← ha], e0, e1⟩

theorem open_cap {H : Type} {enc : TypeId × Value → H} {P : Program} {w : World} {base : Nat} {held : Bool} {t e : TypeId} {fuel : Nat} {v : Value} {x : DataW H × List MemPlace} (ht : P.underlying t = some (.slice e)) (h : DataW.trod enc P w base (fun _ => true) held fuel t [v] = some x) : capOK v := by
  rcases DataW.trod_slice ht h with ⟨hcs, _⟩ | ⟨a, len, cap, _, _, _, _, hcs, _, _, hl, _⟩
  · simp only [List.cons.injEq, and_true] at hcs
    exact ⟨none, 0, 0, hcs, Nat.le_refl _⟩
  · simp only [List.cons.injEq, and_true] at hcs
    exact ⟨some a, len, cap, hcs, hl⟩
theorem Tryz.cellsStr : Tryz.prog.cellsOf 9 = 1 := by kernel_rfl
theorem Tryz.cellsEnt : Tryz.prog.cellsOf 108 = 2 := by kernel_rfl
theorem Tryz.cellsEnts : Tryz.prog.cellsOf 65 = 1 := by kernel_rfl
theorem Tryz.cellsIno : Tryz.prog.cellsOf 67 = 5 := by kernel_rfl
theorem array5 {α : Type} {a : Array α} (h : a.size = 5) : ∃ x0 x1 x2 x3 x4, a = #[x0, x1, x2, x3, x4] := by
  obtain ⟨l⟩ := a
  match l, h with
  | [x0, x1, x2, x3, x4], _ => exact ⟨x0, x1, x2, x3, x4, rfl⟩
theorem open_InoU {H : Type} {enc : TypeId × Value → H} {W : World} {r : Reach} {b0 : Nat} {v : Value} {d : DataW H} {p : List MemPlace} (hv : Value.okWide Tryz.prog W r b0 67 v) (h : DataW.Trod enc Tryz.prog W 0 (fun _ => true) true 67 v d p) :
    ∃ v0 v1 v2 vB vE id, v = .agg #[v0, v1, v2, vB, vE] ∧ InoR W v0 v1 v2 vB vE id := by
  obtain ⟨cs, rfl, hsz⟩ := okWide_struct Tryz.underlying67 hv
  obtain ⟨c0, c1, c2, c3, c4, rfl⟩ := array5 (hsz.trans Tryz.cellsIno)
  obtain ⟨fuel, hf⟩ := h
  obtain ⟨xs, k, hk, hxy, _, hxl, hg⟩ := DataW.trod_struct Tryz.underlying67 hf
  match xs, hxl with
  | [y0, y1, y2, y3, y4], _ =>
    have g0 : DataW.trod enc Tryz.prog W 0 (fun _ => true) true k 2 [c0] = some y0 := by simpa [Value.cells, Tryz.cellsInt] using hg 0 _ rfl
    have g1 : DataW.trod enc Tryz.prog W 0 (fun _ => true) true k 2 [c1] = some y1 := by simpa [Value.cells, Tryz.cellsInt] using hg 1 _ rfl
    have g2 : DataW.trod enc Tryz.prog W 0 (fun _ => true) true k 2 [c2] = some y2 := by simpa [Value.cells, Tryz.cellsInt] using hg 2 _ rfl
    have g3 : DataW.trod enc Tryz.prog W 0 (fun _ => true) true k 44 [c3] = some y3 := by simpa [Value.cells, Tryz.cellsInts] using hg 3 _ rfl
    have g4 : DataW.trod enc Tryz.prog W 0 (fun _ => true) true k 65 [c4] = some y4 := by simpa [Value.cells, Tryz.cellsEnts] using hg 4 _ rfl
    obtain ⟨z0, hz0, _⟩ := DataW.trod_int Tryz.underlying2 g0
    obtain ⟨z1, hz1, _⟩ := DataW.trod_int Tryz.underlying2 g1
    obtain ⟨z2, hz2, _⟩ := DataW.trod_int Tryz.underlying2 g2
    simp only [List.cons.injEq, and_true] at hz0 hz1 hz2
    obtain ⟨bs, hbs⟩ := open_Ints Tryz.underlying44 Tryz.underlying2 Tryz.cellsInt g3
    obtain ⟨es, hes⟩ := open_Ents Tryz.underlying65 Tryz.underlying108 Tryz.cellsEnt rfl rfl Tryz.cellsStr Tryz.cellsInt Tryz.underlying9 Tryz.underlying2 g4
    exact ⟨c0, c1, c2, c3, c4, (z0, z1, z2, bs, es), rfl, ⟨hz0, hz1, hz2, open_cap Tryz.underlying44 g3⟩, hbs, hes⟩
end Go.Proofs.YtmlfpikhencgcanGreat

namespace Go.Proofs.YtmlfpikhencgcanGreat
open Go.ChangeShapes Go.WideShapes Go.ChangeAt Go.RowKit Go.Joins Go.Deep
set_option maxRecDepth 100000

theorem open_Inos {H : Type} {enc : TypeId × Value → H} {w : World} {base : Nat} {held : Bool} {fuel : Nat} {v : Value} {x : DataW H × List MemPlace}
    (h : DataW.trod enc Tryz.prog w base (fun _ => true) held fuel 22 [v] = some x) : ∃ ds, Inos w v ds := by
  rcases open_slice Tryz.underlying22 h with ⟨hcs, _⟩ | ⟨a, len, cap, m, n, D, Pl, hcs, hb, hl, hm, hmm, _, hx⟩
  · simp only [List.cons.injEq, and_true] at hcs
    exact ⟨[], by rw [hcs]; exact Inos.nil w none 0⟩
  · simp only [List.cons.injEq, and_true] at hcs
    simp only [if_true] at hmm
    by_cases hl0 : len = 0
    · subst hl0; exact ⟨[], by rw [hcs]; exact Inos.nil w (some a) cap⟩
    · have each : ∀ i, i < m → ∃ q : ID, ∃ vB vE, w.cell? (a.add (i * 5)) = some (.int .i64 q.1) ∧ w.cell? (a.add (i * 5 + 1)) = some (.int .i64 q.2.1) ∧ w.cell? (a.add (i * 5 + 2)) = some (.int .i64 q.2.2.1) ∧ w.cell? (a.add (i * 5 + 3)) = some vB ∧ w.cell? (a.add (i * 5 + 4)) = some vE ∧ InoR w (.int .i64 q.1) (.int .i64 q.2.1) (.int .i64 q.2.2.1) vB vE q := by
        intro i hi
        obtain ⟨cs', k1, k2⟩ := hx i hi
        rw [Tryz.cellsIno] at k1
        obtain ⟨_, hlen, hcell⟩ := World.cells?_some k1
        obtain ⟨xs, k, hk, hxy, _, hxl, hg⟩ := DataW.trod_struct Tryz.underlying67 k2
        match xs, hxl, cs', hlen with
        | [y0, y1, y2, y3, y4], _, [c0, c1, c2, c3, c4], _ =>
          have g0 : DataW.trod enc Tryz.prog w base (fun _ => true) held k 2 [c0] = some y0 := by simpa [Tryz.cellsInt] using hg 0 _ rfl
          have g1 : DataW.trod enc Tryz.prog w base (fun _ => true) held k 2 [c1] = some y1 := by simpa [Tryz.cellsInt] using hg 1 _ rfl
          have g2 : DataW.trod enc Tryz.prog w base (fun _ => true) held k 2 [c2] = some y2 := by simpa [Tryz.cellsInt] using hg 2 _ rfl
          have g3 : DataW.trod enc Tryz.prog w base (fun _ => true) held k 44 [c3] = some y3 := by simpa [Tryz.cellsInts] using hg 3 _ rfl
          have g4 : DataW.trod enc Tryz.prog w base (fun _ => true) held k 65 [c4] = some y4 := by simpa [Tryz.cellsEnts] using hg 4 _ rfl
          have e0 := hcell 0 (by omega)
          have e1 := hcell 1 (by omega)
          have e2 := hcell 2 (by omega)
          have e3 := hcell 3 (by omega)
          have e4 := hcell 4 (by omega)
          rw [add_add] at e0 e1 e2 e3 e4
          obtain ⟨z0, hz0, _⟩ := DataW.trod_int Tryz.underlying2 g0
          obtain ⟨z1, hz1, _⟩ := DataW.trod_int Tryz.underlying2 g1
          obtain ⟨z2, hz2, _⟩ := DataW.trod_int Tryz.underlying2 g2
          simp only [List.cons.injEq, and_true] at hz0 hz1 hz2
          subst hz0 hz1 hz2
          obtain ⟨bs, hbs⟩ := open_Ints Tryz.underlying44 Tryz.underlying2 Tryz.cellsInt g3
          obtain ⟨es, hes⟩ := open_Ents Tryz.underlying65 Tryz.underlying108 Tryz.cellsEnt rfl rfl Tryz.cellsStr Tryz.cellsInt Tryz.underlying9 Tryz.underlying2 g4
          exact ⟨(z0, z1, z2, bs, es), c3, c4, by simpa using e0, by simpa using e1, by simpa using e2, by simpa using e3, by simpa using e4, ⟨rfl, rfl, rfl, open_cap Tryz.underlying44 g3⟩, hbs, hes⟩
      obtain ⟨q, hq⟩ := choose_lt each
      obtain ⟨_, _, hq0, _⟩ := hq 0 (by omega)
      have ha := addr_of (by simpa using hq0)
      refine ⟨(List.range len).map q, some a, cap, ?_, ?_, fun k hk => ?_⟩
      · simp only [List.length_map, List.length_range]; exact hcs
      · simp only [List.length_map, List.length_range]
        exact ⟨by omega, by omega⟩
      · simp only [List.length_map, List.length_range] at hk
        obtain ⟨vB, vE, e0, e1, e2, e3, e4, hR⟩ := hq k (by omega)
        rw [ha, add_plain] at e0 e1 e2 e3 e4
        have hg : ((List.range len).map q)[k]?.getD id0 = q k := by simp [hk]
        rw [hg]
        exact ⟨a.block, a.off, by rw [← ha], InoAt.mk' e0 e1 e2 e3 e4 hR⟩
end Go.Proofs.YtmlfpikhencgcanGreat

namespace Go.Proofs.YtmlfpikhencgcanGreat
open Go.ChangeShapes Go.WideShapes Go.ChangeAt Go.RowKit Go.Joins Go.Deep
set_option maxRecDepth 100000

theorem Tryz.cellsByteF : Tryz.prog.cellsOf 5 = 1 := by kernel_rfl
theorem Tryz.cellsBytF : Tryz.prog.cellsOf 69 = 1 := by kernel_rfl
theorem Tryz.cellsBytsF : Tryz.prog.cellsOf 23 = 1 := by kernel_rfl
theorem Tryz.cellsInosF : Tryz.prog.cellsOf 22 = 1 := by kernel_rfl
theorem Tryz.cellsFsF : Tryz.prog.cellsOf 25 = 2 := by kernel_rfl
theorem open_Byt {H : Type} {enc : TypeId × Value → H} {P : Program} {w : World} {base : Nat} {held : Bool} {t e : TypeId} {fuel : Nat} {v : Value} {x : DataW H × List MemPlace} (ht : P.underlying t = some (.slice e)) (he : P.underlying e = some (.int .u8)) (ce : P.cellsOf e = 1) (h : DataW.trod enc P w base (fun _ => true) held fuel t [v] = some x) :
    ∃ zs, Byt w v zs := by
  rcases open_slice1 ht ce h with ⟨hcs, _⟩ | ⟨a, len, cap, m, n, V, D, Pl, hcs, _, hl, hm, hmm, _, hx⟩
  · simp only [List.cons.injEq, and_true] at hcs
    exact ⟨[], by rw [hcs]; exact Byt.nil w none 0⟩
  · simp only [List.cons.injEq, and_true] at hcs
    simp only [if_true] at hmm
    by_cases h0 : len = 0
    · subst h0; exact ⟨[], by rw [hcs]; exact Byt.nil w (some a) cap⟩
    · have ha := addr_of (hx 0 (by omega)).1
      obtain ⟨Z, hZ⟩ := choose_lt (α := UInt8) (n := m) (p := fun i b => V i = .int .u8 ((b.toNat : Nat) : Int)) fun i hi => by
        obtain ⟨z, h1, _, hw⟩ := DataW.trod_int he (hx i hi).2
        have hz0 : IntKind.u8.min ≤ z ∧ z ≤ IntKind.u8.max := by simpa [Lit.wf] using hw
        have hz : 0 ≤ z ∧ z ≤ 255 := hz0
        refine ⟨UInt8.ofNat z.toNat, ?_⟩
        simp only [List.cons.injEq, and_true] at h1
        rw [h1]
        congr 1
        have : (UInt8.ofNat z.toNat).toNat = z.toNat := by simp; omega
        rw [this]; omega
      refine ⟨(List.range len).map Z, some a, cap, ?_, ?_, fun k hk => ?_⟩
      · simp only [List.length_map, List.length_range]; exact hcs
      · simp only [List.length_map, List.length_range]; exact ⟨by omega, by omega⟩
      · simp only [List.length_map, List.length_range] at hk
        have h1 := (hx k (by omega)).1
        rw [ha, add_plain] at h1
        refine ⟨a.block, a.off, by rw [← ha], ?_⟩
        rw [h1, hZ k (by omega)]
        simp [hk]
theorem open_Byts {H : Type} {enc : TypeId × Value → H} {P : Program} {w : World} {base : Nat} {held : Bool} {t e q : TypeId} {fuel : Nat} {v : Value} {x : DataW H × List MemPlace} (ht : P.underlying t = some (.slice e)) (he : P.underlying e = some (.slice q)) (hq : P.underlying q = some (.int .u8)) (ce : P.cellsOf e = 1) (cq : P.cellsOf q = 1)
    (h : DataW.trod enc P w base (fun _ => true) held fuel t [v] = some x) : ∃ zss, Byts w v zss := by
  rcases open_slice1 ht ce h with ⟨hcs, _⟩ | ⟨a, len, cap, m, n, V, D, Pl, hcs, _, hl, hm, hmm, _, hx⟩
  · simp only [List.cons.injEq, and_true] at hcs
    exact ⟨[], by rw [hcs]; exact Byts.nil w none 0⟩
  · simp only [List.cons.injEq, and_true] at hcs
    simp only [if_true] at hmm
    by_cases h0 : len = 0
    · subst h0; exact ⟨[], by rw [hcs]; exact Byts.nil w (some a) cap⟩
    · have ha := addr_of (hx 0 (by omega)).1
      obtain ⟨Z, hZ⟩ := choose_lt (α := List UInt8) (n := m) (p := fun i zs => Byt w (V i) zs) fun i hi => open_Byt he hq cq (hx i hi).2
      refine ⟨(List.range len).map Z, some a, cap, ?_, ?_, fun k hk => ?_⟩
      · simp only [List.length_map, List.length_range]; exact hcs
      · simp only [List.length_map, List.length_range]; exact ⟨by omega, by omega⟩
      · simp only [List.length_map, List.length_range] at hk
        have h1 := (hx k (by omega)).1
        rw [ha, add_plain] at h1
        have hg : ((List.range len).map Z)[k]?.getD [] = Z k := by simp [hk]
        rw [hg]
        obtain ⟨ua, uc, e1, e2, e3⟩ := hZ k (by omega)
        rw [e1] at h1
        exact ⟨a.block, a.off, ua, uc, by rw [← ha], h1, ua, uc, rfl, e2, e3⟩
theorem open_FsU {H : Type} {enc : TypeId × Value → H} {W : World} {r : Reach} {b0 : Nat} {v : Value} {d : DataW H} {p : List MemPlace} (hv : Value.okWide Tryz.prog W r b0 25 v) (h : DataW.Trod enc Tryz.prog W 0 (fun _ => true) true 25 v d p) :
    ∃ v0 v1 fd, v = .agg #[v0, v1] ∧ FsR W v0 v1 fd := by
  obtain ⟨cs, rfl, hsz⟩ := okWide_struct Tryz.underlying25 hv
  obtain ⟨c0, c1, rfl⟩ := array2 (hsz.trans Tryz.cellsFsF)
  obtain ⟨fuel, hf⟩ := h
  obtain ⟨xs, k, hk, hxy, _, hxl, hg⟩ := DataW.trod_struct Tryz.underlying25 hf
  match xs, hxl with
  | [y0, y1], _ =>
    have g0 : DataW.trod enc Tryz.prog W 0 (fun _ => true) true k 22 [c0] = some y0 := by simpa [Value.cells, Tryz.cellsInosF] using hg 0 _ rfl
    have g1 : DataW.trod enc Tryz.prog W 0 (fun _ => true) true k 23 [c1] = some y1 := by simpa [Value.cells, Tryz.cellsBytsF] using hg 1 _ rfl
    obtain ⟨ds, hds⟩ := open_Inos g0
    obtain ⟨zss, hz⟩ := open_Byts Tryz.underlying23 Tryz.underlying69 Tryz.underlying5 Tryz.cellsBytF Tryz.cellsByteF g1
    exact ⟨c0, c1, (ds, zss), rfl, hds, hz⟩
end Go.Proofs.YtmlfpikhencgcanGreat

/- The program's DropName. The specification's DropName: an entry taken out of a directory. The specification's DropName: one entry less leads to a file. The specification's DropName: the contract. Names that are renamed: the models, and what stands where a name is taken away. -/
import Derived.Test.YtpfafcodihhdfaaGreatDoorM29
import Derived.Test.YtpfafcodihhdfaaGreatDoorM24
import Derived.Test.YtpfafcodihhdfaaGreatDoorM23
import Derived.Test.YtpfafcodihhdfaaGreatDoorM27
import Derived.Test.YtpfafcodihhdfaaGreatDoorM13
import Derived.Test.YtpfafcodihhdfaaGreatDoorM26
import Derived.Test.YtpfafcodihhdfaaGreatDoorM28
namespace Go.Proofs.YtpfafcodihhdfaaGreatDoor
open Go.RowKit
set_option maxRecDepth 100000

/-- An entry gone, and what it led to, if nothing else does; DropName. -/
def delD (d : FD) (j k : Nat) : FD := if kindAt d.1 ((entA d j)[k]?.getD en0).2.toNat = 1 then unlD (entD d j (delE (entA d j) k)) ((entA d j)[k]?.getD en0).2.toNat else entD d j (delE (entA d j) k)
def delR (d : FD) (x : Int) (s : ByteArray) : Int × FD := if (lookR d x s).1 = 0 then (0, delD d x.toNat (idxE (entA d x.toNat) s)) else noFs (lookR d x s).1
theorem lookR_in {d : FD} {x : Int} {s : ByteArray} (h : (lookR d x s).1 = 0) : dirN d x s = 0 ∧ idxE (entA d x.toNat) s < (entA d x.toNat).length ∧ (lookR d x s).2 = ((entA d x.toNat)[idxE (entA d x.toNat) s]?.getD en0).2 := by
  unfold lookR at h ⊢
  by_cases hd : dirN d x s = 0
  · rw [if_pos hd] at h ⊢
    by_cases hi : idxE (entA d x.toNat) s < (entA d x.toNat).length
    · rw [if_pos hi]; exact ⟨hd, hi, rfl⟩
    · rw [if_neg hi] at h; exact absurd h (by decide)
  · rw [if_neg hd] at h; exact absurd h hd
/-- What stands where an entry of a directory is gone. -/
structure DelS (d : FD) (j k z : Nat) (dn : FD) : Prop where
  ins : insF dn.1 = 0
  len : dn.1.length = d.1.length
  dat : dn.2 = d.2
  size : sizeFs dn ≤ 1048576
  kind : (dn.1[z]?.getD id0).1 = (d.1[z]?.getD id0).1
  lnk : (dn.1[z]?.getD id0).2.1 = (d.1[z]?.getD id0).2.1
  file : (d.1[z]?.getD id0).1 = 1 → 1 ≤ (dn.1[z]?.getD id0).2.1 ∧ (dn.1[z]?.getD id0).2.1 ≤ 60
  blk : ∀ i : Nat, i < (blkA dn z).length → 0 ≤ (blkA dn z)[i]?.getD 0 ∧ (blkA dn z)[i]?.getD 0 < 20
  four : (blkA dn z).length ≤ 4
theorem delS {d : FD} {j k z : Nat} (h : DirS d j) (hk : k < (entA d j).length) (hz : z < d.1.length) : DelS d j k z (entD d j (delE (entA d j) k)) := by
  have hins : insF (entD d j (delE (entA d j) k)).1 = 0 := insF_set h.ins j _ (inoF_dir h.kind (ins_ino h.ins j h.lt) ((dirF_E (ino_dir (ins_ino h.ins j h.lt) h.kind)).del hk))
  have hlen : (entD d j (delE (entA d j) k)).1.length = d.1.length := by unfold entD; exact List.length_set
  have hek := entD_kind d j z (delE (entA d j) k) h.lt
  have hzi := ins_ino hins z (by omega)
  refine ⟨hins, hlen, rfl, ?_, hek.1, hek.2, fun e => ino_lnk hzi (by rw [hek.1]; exact e), fun i hi => ins_blk hins z i (by omega) hi, ?_⟩
  · have := fs_small (d := entD d j (delE (entA d j) k)) hins h.dat h.eight
    omega
  · have := ino_size hzi
    unfold blkA
    omega

set_option maxHeartbeats 12800000 in
theorem implDelU (w : World) (a1 : Option Addr) (n1 c1 : Nat) (a2 : Option Addr) (n2 c2 : Nat) (d : FD) (x : Int) (s : ByteArray) (h : FsR w (.slice a1 n1 c1) (.slice a2 n2 c2) d) (hs : sizeFs d ≤ 1048576) (hl : s.size ≤ 1048576) :
    Calls Tryz.prog 163 #[.agg #[.slice a1 n1 c1, .slice a2 n2 c2], .int .i64 x, .string s] w (AnsFR w (delR d x s)) := by
  have HB0 : Hid (Below w.heap.size w ((w.alloc (.cells #[.slice a1 n1 c1, .slice a2 n2 c2] 32)).alloc (.cells #[.int .i64 0, .slice none 0 0, .slice none 0 0] 94))) := later2 _ _ _
  have HBX : Hid (Bx ((w.alloc (.cells #[.slice a1 n1 c1, .slice a2 n2 c2] 32)).alloc (.cells #[.int .i64 0, .slice none 0 0, .slice none 0 0] 94)) w.heap.size [.slice a1 n1 c1, .slice a2 n2 c2]) := (Bx.new w [.slice a1 n1 c1, .slice a2 n2 c2] _).later (later1 _ _)
  have HRS : Hid (OwnRow ((w.alloc (.cells #[.slice a1 n1 c1, .slice a2 n2 c2] 32)).alloc (.cells #[.int .i64 0, .slice none 0 0, .slice none 0 0] 94)) (w.heap.size + 1) 3 (cel zero3)) := by
    have p2 := row3 (w.alloc (.cells #[.slice a1 n1 c1, .slice a2 n2 c2] 32)) 94
    rw [World.size_alloc] at p2
    exact p2
  have HLK : Hid (∀ W, Below w.heap.size w W → Calls Tryz.prog 103 #[.agg #[.slice a1 n1 c1, .slice a2 n2 c2], .int .i64 x, .string s] W fun e w' => e = .returned (.agg #[.int .i64 (lookR d x s).1, .int .i64 (lookR d x s).2]) ∧ Below W.heap.size W w') := fun W hW => implLookU W _ _ _ _ _ _ d x s (h.later hW) hs hl
  have HRR : Hid (delR d x s = if (lookR d x s).1 = 0 then (0, delD d x.toNat (idxE (entA d x.toNat) s)) else noFs (lookR d x s).1) := rfl
  rw [HRR.out]
  clear HRR
  by_cases hq : (lookR d x s).1 = 0
  rotate_left
  · rw [if_neg hq]
    have hb : ((lookR d x s).1 != 0) = true := by simpa using hq
    clear hq h hs
    generalize (lookR d x s).1 = r at *
    generalize (lookR d x s).2 = r2 at *
    go_enter Tryz.func163, Tryz.ntmps163
    go_wp2_with fail
    generalize ((w.alloc (.cells #[.slice a1 n1 c1, .slice a2 n2 c2] 32)).alloc (.cells #[.int .i64 0, .slice none 0 0, .slice none 0 0] 94)) = W0 at *
    refine (HLK.out _ HB0.out).mono ?_
    rintro e w1 ⟨rfl, hb1⟩
    have HB1 : Hid (Below w.heap.size w w1) := HB0.out.trans (hb1.mono HB0.out.size)
    have hrr := HRS.out.later hb1
    have t0 : w1.cell? ⟨w.heap.size + 1, 0, none⟩ = some (.int .i64 0) := hrr.cell (i := 0) (by omega)
    have t1 : w1.cell? ⟨w.heap.size + 1, 1, none⟩ = some (.slice none 0 0) := hrr.cell (i := 1) (by omega)
    have t2 : w1.cell? ⟨w.heap.size + 1, 2, none⟩ = some (.slice none 0 0) := hrr.cell (i := 2) (by omega)
    have s0 := hrr.frozen 0
    have s1 := hrr.frozen 1
    have s2 := hrr.frozen 2
    have hlw : w.heap.size + 1 < w1.heap.size := hrr.lt
    clear hb1 hrr
    go_wp2
    exact bodyPost_ret (v := .agg #[.int .i64 r, .slice none 0 0, .slice none 0 0]) (by simp [results, Tryz.results163, go_sem, t0, t1, t2, hlw]) rfl ((AnsFR.none' r HB1.out (by omega) _ _ _).later (later1 _ _))
  · rw [if_pos hq]
    obtain ⟨hdn, hidx, hval⟩ := lookR_in hq
    have hq0 : dirQ d x = 0 := dirN_in hdn
    have hds := dirS hq0
    obtain ⟨-, hp, -⟩ := dirQ_in hq0
    obtain ⟨j, rfl⟩ : ∃ j : Nat, x = (j : Int) := ⟨x.toNat, by omega⟩
    rw [Int.toNat_natCast] at hds hidx hval ⊢
    have hld : 0 ≤ ((entA d j)[idxE (entA d j) s]?.getD en0).2 ∧ ((entA d j)[idxE (entA d j) s]?.getD en0).2 < (d.1.length : Int) := hds.leads j hds.lt _ hidx
    obtain ⟨z, hzz⟩ : ∃ z : Nat, ((entA d j)[idxE (entA d j) s]?.getD en0).2 = (z : Int) := ⟨((entA d j)[idxE (entA d j) s]?.getD en0).2.toNat, by omega⟩
    have hzn : z < d.1.length := by omega
    rw [hzz] at hval
    rw [hq, hval] at HLK
    have hplc := idx_plc hds.rises hidx
    have hdel := delS (z := z) hds hidx hzn
    have HDEL : Hid (DelS d j (idxE (entA d j) s) z (entD d j (delE (entA d j) (idxE (entA d j) s)))) := hdel
    have HDD : Hid (delD d j (idxE (entA d j) s) = if (d.1[z]?.getD id0).1 = 1 then unlD (entD d j (delE (entA d j) (idxE (entA d j) s))) z else entD d j (delE (entA d j) (idxE (entA d j) s))) := by
      unfold Hid delD
      rw [hzz, Int.toNat_natCast]; rfl
    rw [HDD.out]
    have HCF : Hid (∀ W, Below w.heap.size w W → Calls Tryz.prog 104 #[.agg #[.slice a1 n1 c1, .slice a2 n2 c2]] W (AnsFs W d)) := fun W hW => copyOfFs_any W _ _ _ _ _ _ d (h.later hW) hs (by have := hds.dat; omega)
    have HBK : Hid ((d.1[j]?.getD id0).2.2.2.1 = []) := dir_blk (ins_ino hds.ins j hds.lt) hds.kind
    have HRI : Hid (Rises (entA d j) ∧ (entA d j).length ≤ 6 ∧ idxE (entA d j) s < (entA d j).length) := ⟨hds.rises, hds.six, hidx⟩
    have HSD : Hid (entD d j (delE (entA d j) (idxE (entA d j) s)) = entD d j (delE (entA d j) (idxE (entA d j) s))) := rfl
    have HDAT : Hid (d.2.length = 20) := hds.dat
    have hjl := hds.lt
    have hten := hds.ten
    have hsix := hds.six
    obtain ⟨n, hn⟩ : ∃ n, d.1.length = n := ⟨_, rfl⟩
    have HN : Hid (d.1.length = n) := hn
    rw [hn] at hjl hten hzn
    clear h hs hq hdn hq0 hds hp hld hzz hval hplc hdel HDD hn
    obtain ⟨dn, hdn⟩ : ∃ dn, entD d j (delE (entA d j) (idxE (entA d j) s)) = dn := ⟨_, rfl⟩
    have HDN : Hid (entD d j (delE (entA d j) (idxE (entA d j) s)) = dn) := hdn
    rw [hdn] at HDEL ⊢
    clear hdn HSD hidx hsix
    generalize hkd : (d.1[z]?.getD id0).1 = kd at *
    have HKD : Hid ((d.1[z]?.getD id0).1 = kd) := hkd
    clear hkd
    generalize hRES : (if kd = 1 then unlD dn z else dn) = RES
    have HRES : Hid ((if kd = 1 then unlD dn z else dn) = RES) := hRES
    clear hRES
    have hjI : (j : Int) < (n : Int) := by omega
    have hzI : (z : Int) < (n : Int) := by omega
    go_enter Tryz.func163, Tryz.ntmps163
    go_wp2_with fail
    generalize ((w.alloc (.cells #[.slice a1 n1 c1, .slice a2 n2 c2] 32)).alloc (.cells #[.int .i64 0, .slice none 0 0, .slice none 0 0] 94)) = W0 at *
    refine (HLK.out _ HB0.out).mono ?_
    rintro e w1 ⟨rfl, hb1⟩
    have HB1 : Hid (Below w.heap.size w (w1.alloc (.cells #[.int .i64 0, .int .i64 (z : Int)] 72))) := (HB0.out.trans (hb1.mono HB0.out.size)).trans ((later1 _ _).mono (HB0.out.trans (hb1.mono HB0.out.size)).size)
    have HR1 : Hid (OwnRow (w1.alloc (.cells #[.int .i64 0, .int .i64 (z : Int)] 72)) (w.heap.size + 1) 3 (cel zero3)) := (HRS.out.later hb1).later (later1 _ _)
    have HX1 : Hid (Bx (w1.alloc (.cells #[.int .i64 0, .int .i64 (z : Int)] 72)) w.heap.size [.slice a1 n1 c1, .slice a2 n2 c2]) := (HBX.out.later hb1).later (later1 _ _)
    have HI1 : Hid (Bx (w1.alloc (.cells #[.int .i64 0, .int .i64 (z : Int)] 72)) w1.heap.size [.int .i64 0, .int .i64 (z : Int)]) := Bx.new w1 [.int .i64 0, .int .i64 (z : Int)] _
    have hsw : w.heap.size + 1 < w1.heap.size := (HRS.out.later hb1).lt
    have hsw1 : (w1.alloc (.cells #[.int .i64 0, .int .i64 (z : Int)] 72)).heap.size = w1.heap.size + 1 := by simp
    have x0 := HX1.out 0 _ rfl
    have x1 := HX1.out 1 _ rfl
    clear hb1
    go_wp2_with fail
    refine (HCF.out _ HB1.out).mono ?_
    rintro e w2 ⟨q1, m1, cI, q2, m2, cD, rfl, hb2, hf2⟩
    generalize (w1.alloc (.cells #[.int .i64 0, .int .i64 (z : Int)] 72)) = W1 at *
    obtain ⟨bI, e1, bD, e2, eI, eD, hfs⟩ := FsS.of hf2 (by have := HN.out; omega) (by have := HDAT.out; omega)
    simp only [Value.slice.injEq] at eI eD
    obtain ⟨rfl, rfl, rfl⟩ := eI
    obtain ⟨rfl, rfl, rfl⟩ := eD
    rw [HDAT.out, HN.out] at hfs
    rw [HDAT.out, HN.out]
    have HL3 : Hid (Below W1.heap.size W1 (w2.alloc (.cells #[.slice (some ⟨bI, 0, none⟩) n cI, .slice (some ⟨bD, 0, none⟩) 20 cD] 32))) := hb2.trans ((later1 _ _).mono hb2.size)
    have HF3 : Hid (FsS (w2.alloc (.cells #[.slice (some ⟨bI, 0, none⟩) n cI, .slice (some ⟨bD, 0, none⟩) 20 cD] 32)) bI n cI bD 20 cD d (fun c => W1.heap.size ≤ c ∧ c < w2.heap.size)) := hfs.later (later1 _ _)
    have HO3 : Hid (OwnRow (w2.alloc (.cells #[.slice (some ⟨bI, 0, none⟩) n cI, .slice (some ⟨bD, 0, none⟩) 20 cD] 32)) w2.heap.size 2 (cel [.slice (some ⟨bI, 0, none⟩) n cI, .slice (some ⟨bD, 0, none⟩) 20 cD])) := newCel w2 [.slice (some ⟨bI, 0, none⟩) n cI, .slice (some ⟨bD, 0, none⟩) 20 cD] 32
    have HS3 : Hid (W1.heap.size ≤ w2.heap.size ∧ (w2.alloc (.cells #[.slice (some ⟨bI, 0, none⟩) n cI, .slice (some ⟨bD, 0, none⟩) 20 cD] 32)).heap.size = w2.heap.size + 1) := ⟨hb2.size, by simp⟩
    clear hb2 hf2 hfs x0 x1 HCF HLK
    have hne := HF3.out.ne
    have HST : Hid (∀ W4, Below (w2.alloc (.cells #[.slice (some ⟨bI, 0, none⟩) n cI, .slice (some ⟨bD, 0, none⟩) 20 cD] 32)).heap.size (w2.alloc (.cells #[.slice (some ⟨bI, 0, none⟩) n cI, .slice (some ⟨bD, 0, none⟩) 20 cD] 32)) W4 → Calls Tryz.prog 109 #[.pointer (some ⟨bI, j * 5, none⟩), .string s] W4 fun e w' => e = .returned (.tuple #[]) ∧ FsS w' bI n cI bD 20 cD dn (fun c => (W1.heap.size ≤ c ∧ c < w2.heap.size) ∨ W4.heap.size ≤ c) ∧ Chg (fun c => c = bI) W4 w') := fun W4 h4 => by
      have := strike_any W4 bI n cI bD cD d _ j s (HF3.out.later h4) hjl HRI.out.1 HRI.out.2.1 HRI.out.2.2 HBK.out
      rw [HDN.out] at this
      exact this
    have o0 : (w2.alloc (.cells #[.slice (some ⟨bI, 0, none⟩) n cI, .slice (some ⟨bD, 0, none⟩) 20 cD] 32)).cell? ⟨w2.heap.size, 0, none⟩ = some (.slice (some ⟨bI, 0, none⟩) n cI) := HO3.out.cell (i := 0) (by omega)
    go_wp2_with fail
    generalize (w2.alloc (.cells #[.slice (some ⟨bI, 0, none⟩) n cI, .slice (some ⟨bD, 0, none⟩) 20 cD] 32)) = W3 at *
    clear o0
    refine (HST.out _ (Below.refl _ _)).mono ?_
    rintro e w5 ⟨rfl, hf5, hC6⟩
    have hS3 := HS3.out
    have HF6 : Hid (FsS w5 bI n cI bD 20 cD dn (fun c => W1.heap.size ≤ c ∧ c ≠ w2.heap.size)) := hf5.mono fun c hh => by
      rcases hh with hh | hh
      · exact ⟨hh.1, by omega⟩
      · exact ⟨by omega, by omega⟩
    have hoI : w2.heap.size ≠ bI := fun e => by have := hne.2.1.1.2; omega
    have hB6 : Below W1.heap.size W1 w5 := HL3.out.trans (hC6.below HL3.out.size (fun b e => by subst e; exact hne.2.1.1.1))
    have HB6 : Hid (Below W1.heap.size W1 w5) := hB6
    have HO6 : Hid (OwnRow w5 w2.heap.size 2 (cel [.slice (some ⟨bI, 0, none⟩) n cI, .slice (some ⟨bD, 0, none⟩) 20 cD])) := HO3.out.block (hC6.block _ HO3.out.lt hoI)
    have p0 : w5.cell? ⟨w2.heap.size, 0, none⟩ = some (.slice (some ⟨bI, 0, none⟩) n cI) := HO6.out.cell (i := 0) (by omega)
    have p1 : w5.cell? ⟨w2.heap.size, 1, none⟩ = some (.slice (some ⟨bD, 0, none⟩) 20 cD) := HO6.out.cell (i := 1) (by omega)
    have y1 := (HI1.out.later hB6) 1 _ rfl
    obtain ⟨_, _, _, _, z0, -, -, -, -, -, -, -⟩ := HF6.out.ino z hzn
    rw [HDEL.out.kind, HKD.out] at z0
    have hS6 : w2.heap.size + 1 ≤ w5.heap.size := by
      have := hC6.size
      omega
    clear hf5 hC6 hB6 HF3 HO3 HST HL3 hS3
    by_cases hk1 : kd = 1
    · have hkb1 : (kd == 1) = true := by simpa using hk1
      have HR : Hid (RES = unlD dn z) := by unfold Hid; rw [← HRES.out, if_pos hk1]
      have hdl := HDEL.out
      have hfl := hdl.file (by rw [HKD.out]; exact hk1)
      have HUN : Hid (Calls Tryz.prog 206 #[.agg #[.slice (some ⟨bI, 0, none⟩) n cI, .slice (some ⟨bD, 0, none⟩) 20 cD], .int .i64 (z : Int)] w5 (AnsUn w5 n (unlD dn z))) := by
        have := unlinked_any w5 _ n cI _ 20 cD dn z HF6.out.fs.reads hdl.size (by rw [hdl.dat]; exact HDAT.out) (by rw [hdl.len, HN.out]; exact hzn) (by rw [hdl.len, HN.out]; exact hten) hdl.ins hfl.1 hfl.2 hdl.blk hdl.four
        rw [hdl.len, HN.out] at this
        exact this
      clear hdl hfl hk1
      go_wp2_with fail
      refine HUN.out.mono ?_
      rintro e w7 ⟨bI2, cI2, bD2, cD2, rfl, hb7, hf7⟩
      have HO7 : Hid (OwnRow w7 w2.heap.size 2 (cel [.slice (some ⟨bI, 0, none⟩) n cI, .slice (some ⟨bD, 0, none⟩) 20 cD])) := HO6.out.later hb7
      have HB7 : Hid (Below W1.heap.size W1 w7) := HB6.out.trans (hb7.mono HB6.out.size)
      have hC8 : Chg (fun c => c = w2.heap.size) w7 ((w7.setCell ⟨w2.heap.size, 0, none⟩ (.slice (some ⟨bI2, 0, none⟩) n cI2)).setCell ⟨w2.heap.size, 1, none⟩ (.slice (some ⟨bD2, 0, none⟩) 20 cD2)) := Chg.set (F := fun c => c = w2.heap.size) (Chg.set (F := fun c => c = w2.heap.size) (Chg.refl _ w7) rfl 0 _) rfl 1 _
      have HF8 : Hid (FsS ((w7.setCell ⟨w2.heap.size, 0, none⟩ (.slice (some ⟨bI2, 0, none⟩) n cI2)).setCell ⟨w2.heap.size, 1, none⟩ (.slice (some ⟨bD2, 0, none⟩) 20 cD2)) bI2 n cI2 bD2 20 cD2 (unlD dn z) (fun c => w5.heap.size ≤ c)) := hf7.chg hC8 fun b hb e => by omega
      have HB8 : Hid (Below W1.heap.size W1 ((w7.setCell ⟨w2.heap.size, 0, none⟩ (.slice (some ⟨bI2, 0, none⟩) n cI2)).setCell ⟨w2.heap.size, 1, none⟩ (.slice (some ⟨bD2, 0, none⟩) 20 cD2))) := (HB7.out.setCell (by show W1.heap.size ≤ w2.heap.size; exact HS3.out.1) _).setCell (by show W1.heap.size ≤ w2.heap.size; exact HS3.out.1) _
      have u0 : w7.cell? ⟨w2.heap.size, 0, none⟩ = some (.slice (some ⟨bI, 0, none⟩) n cI) := HO7.out.cell (i := 0) (by omega)
      have u1 : w7.cell? ⟨w2.heap.size, 1, none⟩ = some (.slice (some ⟨bD, 0, none⟩) 20 cD) := HO7.out.cell (i := 1) (by omega)
      have uf0 := HO7.out.frozen 0
      have uf1 := HO7.out.frozen 1
      have hrr := HR1.out.later HB8.out
      have t0 : ((w7.setCell ⟨w2.heap.size, 0, none⟩ (.slice (some ⟨bI2, 0, none⟩) n cI2)).setCell ⟨w2.heap.size, 1, none⟩ (.slice (some ⟨bD2, 0, none⟩) 20 cD2)).cell? ⟨w.heap.size + 1, 0, none⟩ = some (.int .i64 0) := hrr.cell (i := 0) (by omega)
      have t1 : ((w7.setCell ⟨w2.heap.size, 0, none⟩ (.slice (some ⟨bI2, 0, none⟩) n cI2)).setCell ⟨w2.heap.size, 1, none⟩ (.slice (some ⟨bD2, 0, none⟩) 20 cD2)).cell? ⟨w.heap.size + 1, 1, none⟩ = some (.slice none 0 0) := hrr.cell (i := 1) (by omega)
      have t2 : ((w7.setCell ⟨w2.heap.size, 0, none⟩ (.slice (some ⟨bI2, 0, none⟩) n cI2)).setCell ⟨w2.heap.size, 1, none⟩ (.slice (some ⟨bD2, 0, none⟩) 20 cD2)).cell? ⟨w.heap.size + 1, 2, none⟩ = some (.slice none 0 0) := hrr.cell (i := 2) (by omega)
      have s0 := hrr.frozen 0
      have s1 := hrr.frozen 1
      have s2 := hrr.frozen 2
      clear hrr hC8 hf7 hb7 z0 y1 p0 p1
      have hw1 : w1.heap.size + 1 = W1.heap.size := by omega
      go_wp2
      exact bodyPost_ret (v := .agg #[.int .i64 0, .slice (some ⟨bI2, 0, none⟩) n cI2, .slice (some ⟨bD2, 0, none⟩) 20 cD2]) (by simp [results, Tryz.results163, go_sem, t0, t1, t2]) rfl (by rw [HR.out]; exact AnsFR.box (HB1.out.trans (HB8.out.mono HB1.out.size)) (by omega) HF8.out (fun c hc => ⟨by omega, by omega⟩) _ _ _)
    · have hkb1 : (kd == 1) = false := by simpa using hk1
      have HR : Hid (RES = dn) := by unfold Hid; rw [← HRES.out, if_neg hk1]
      have hrr := HR1.out.later HB6.out
      have t0 : w5.cell? ⟨w.heap.size + 1, 0, none⟩ = some (.int .i64 0) := hrr.cell (i := 0) (by omega)
      have t1 : w5.cell? ⟨w.heap.size + 1, 1, none⟩ = some (.slice none 0 0) := hrr.cell (i := 1) (by omega)
      have t2 : w5.cell? ⟨w.heap.size + 1, 2, none⟩ = some (.slice none 0 0) := hrr.cell (i := 2) (by omega)
      have s0 := hrr.frozen 0
      have s1 := hrr.frozen 1
      have s2 := hrr.frozen 2
      clear hrr hk1
      go_wp2
      exact bodyPost_ret (v := .agg #[.int .i64 0, .slice (some ⟨bI, 0, none⟩) n cI, .slice (some ⟨bD, 0, none⟩) 20 cD]) (by simp [results, Tryz.results163, go_sem, t0, t1, t2]) rfl (by rw [HR.out]; exact AnsFR.box (HB1.out.trans (HB6.out.mono HB1.out.size)) (by omega) HF6.out (fun c hc => ⟨by omega, by omega⟩) _ _ _)
end Go.Proofs.YtpfafcodihhdfaaGreatDoor

namespace Go.Proofs.YtpfafcodihhdfaaGreatDoor
open Go.RowKit
set_option maxRecDepth 100000

set_option maxHeartbeats 6400000 in
theorem l8Take_any (w : World) (bo bI n cI bD cD : Nat) (d : FD) (F : Nat → Prop) (j k : Nat) (h0 : w.cell? ⟨bo, 0, none⟩ = some (.slice (some ⟨bI, 0, none⟩) n cI)) (_h1 : w.cell? ⟨bo, 1, none⟩ = some (.slice (some ⟨bD, 0, none⟩) 20 cD)) (hfs : FsS w bI n cI bD 20 cD d F) (hn : d.1.length = n) (hjn : j < n) (_hten : n ≤ 10) (hsix : (entA d j).length ≤ 6) (hblk : (d.1[j]?.getD id0).2.2.2.1 = []) (hk : k < (entA d j).length) :
    Calls Tryz.prog 101 #[.pointer (some ⟨bo, 0, none⟩), .int .i64 (j : Int), .int .i64 (k : Int)] w fun e w' => e = .returned (.int .i64 ((entA d j)[k]?.getD en0).2) ∧ Chg (fun c => c = bI) w w' ∧ FsS w' bI n cI bD 20 cD (entD d j (delE (entA d j) k)) (fun c => F c ∨ w.heap.size ≤ c) := by
  have hjI : (j : Int) < (n : Int) := by omega
  obtain ⟨aB, cB, aE, cE, -, -, -, -, k4, hE⟩ := FsR.five hfs.fs.reads (j := j) (by omega)
  rw [Nat.zero_add] at k4
  obtain ⟨-, hcE, hAt, -, hZ⟩ := hE.cap
  obtain ⟨_, _, _, _, -, -, -, -, -, -, i6, -⟩ := hfs.ino j hjn
  have k4f := i6 (j * 5 + 4)
  have hne := hfs.ne
  have hlo : bo < w.heap.size := World.block_lt_of_cell? _ _ h0
  have hlI : bI < w.heap.size := hne.2.1.2
  have HFS : Hid (FsS w bI n cI bD 20 cD d F) := hfs
  have HZZ : Hid (∀ i : Nat, ((delE (entA d j) k)[i]?.getD en0).1.size ≤ maxLen) := delE_size hk hZ
  have HED : Hid (∀ es, entD d j es = (d.1.set j ((d.1[j]?.getD id0).1, (d.1[j]?.getD id0).2.1, (d.1[j]?.getD id0).2.2.1, [], es), d.2)) := fun _ => rfl
  have HBK : Hid ((d.1[j]?.getD id0).2.2.2.1 = []) := hblk
  have HAT : Hid (AtN w aE (entA d j).length (entA d j)) := hAt
  obtain ⟨b, off, rfl, _, c1⟩ := hAt k hk
  clear hfs hE hAt hZ i6 hne hblk
  have HDE : Hid (delE (entA d j) k = (entA d j).take k ++ (entA d j).drop (k + 1)) := rfl
  generalize entA d j = es at *
  obtain ⟨m, hm⟩ : ∃ m, es.length = m := ⟨_, rfl⟩
  have HM : Hid (es.length = m) := hm
  rw [hm] at k4 hcE HAT hk hsix
  clear hm
  generalize hnes : delE es k = nes at *
  clear hnes
  obtain ⟨k1, hk1⟩ : ∃ k1, k + 1 = k1 := ⟨_, rfl⟩
  rw [hk1] at HDE
  have hwr : IntKind.i64.wrap ((k : Int) + 1) = (k1 : Int) := by
    rw [show (k : Int) + 1 = (k1 : Int) by omega]
    exact wrap_in _ (by omega) (by omega)
  have hk1I : (k1 : Int) ≤ (m : Int) := by omega
  have hk1N : k1 ≤ m := by omega
  have hkI : (k : Int) < (m : Int) := by omega
  have hkc : k ≤ cE := by omega
  have hkk1 : k ≤ k1 := by omega
  have hlt1 : (es.take k).length = k := by rw [List.length_take, HM.out]; omega
  have HL1 : Hid ((es.take k).length = k) := hlt1
  have HTK : Hid (∀ W, Below w.heap.size w W → AtN W (some ⟨b, off, none⟩) k (es.take k)) := fun W hW => ((HAT.out.take k (by omega)).later hW)
  have HDL : Hid ((es.drop k1).length = m - k1) := by unfold Hid; rw [List.length_drop, HM.out]
  have HTL : Hid (∀ W, Below w.heap.size w W → AtN W (some ⟨b, off + k1 * 2, none⟩) (m - k1) (es.drop k1)) := fun W hW => (HAT.out.drop k1).later hW
  have HT0 : Hid (cE = k1 → ∀ W A, AtN W A (m - k1) (es.drop k1)) := fun e W A i hi => by omega
  have HA1 : Hid (WdE (w.drew.alloc (.cells #[] 134)) w.heap.size (.slice (some ⟨w.heap.size, 0, none⟩) 0 0) []) := WdE.lit0 w.drew w.heap.size (Nat.le_refl _)
  have HCELL : Hid (∀ W, Below w.heap.size w W → W.cell? ⟨bo, 0, none⟩ = some (.slice (some ⟨bI, 0, none⟩) n cI) ∧ W.cell? ⟨bI, j * 5 + 4, none⟩ = some (.slice (some ⟨b, off, none⟩) m cE) ∧ W.frozen? ⟨bI, j * 5 + 4, none⟩ = false) := fun W hW => ⟨cell_later hW h0, cell_later hW k4, (hW.frozen (p := ⟨bI, j * 5 + 4, none⟩) hlI).trans k4f⟩
  have HEND : Hid (∀ X a q c, Below w.heap.size w X → WdE X w.heap.size (.slice a q c) nes → Chg (fun c => c = bI) w (X.setCell ⟨bI, j * 5 + 4, none⟩ (.slice a q c)) ∧ FsS (X.setCell ⟨bI, j * 5 + 4, none⟩ (.slice a q c)) bI n cI bD 20 cD (entD d j nes) (fun c => F c ∨ w.heap.size ≤ c)) := fun X a q c hX hw => ⟨Chg.set (F := fun c => c = bI) (Chg.of_below hX) rfl _ _, (((HFS.out.boundF.later hX).entS j hjn HBK.out nes _ (hw.own HZZ.out) (fun c hc => ⟨fun hh => by have := hh.2; have := hc.1; omega, hc.2⟩)).mono fun c hh => by
    rcases hh with hh | hh
    · exact Or.inl hh.1
    · exact Or.inr hh.1)⟩
  have HF1 : Hid True := trivial
  generalize hy : (es[k]?.getD en0).2 = y at *
  clear hlt1 hk1 hy HAT HFS HBK HZZ HED
  by_cases hce : cE = k1
  all_goals
    go_enter Tryz.func101, Tryz.ntmps101
    go_wp2_with fail
    go_region_law (first
      | (have f1 := HF1.out; clear HF1 f1
         refine step_append_ex rfl _ _ 66 rfl _ _ rfl rfl _ (WdE.pushO _ 66 w.heap.size _ [] (es.take k) HA1.out (by simp) _ _ _ HL1.out (HTK.out _ ((Below.refl _ _).drew.trans (later1 w.drew _))) (by simp; omega)) ?_
         rintro v1 X1 ⟨hw1, hb1, _⟩
         rw [List.nil_append] at hw1
         obtain ⟨p1, q1, e1⟩ := hw1.shape
         rw [HL1.out] at e1
         subst e1
         have HW1 : Hid (WdE X1 w.heap.size (.slice p1 k q1) (es.take k)) := hw1
         have HX1 : Hid (Below w.heap.size w X1) := (Below.refl _ _).drew.trans ((later1 w.drew _).trans hb1)
         obtain ⟨g0, g1, g2⟩ := HCELL.out X1 HX1.out
         clear hw1 hb1)
      | (have f2 := HW1.out; clear HW1
         refine step_append_ex rfl _ _ 66 rfl _ _ rfl rfl _ (WdE.pushO _ 66 w.heap.size _ (es.take k) (es.drop k1) f2 HX1.out.size _ _ _ HDL.out (by first | exact HTL.out _ HX1.out | exact HT0.out hce _ _) (by rw [HL1.out]; omega)) ?_
         rintro v2 X2 ⟨hw2, hb2, _⟩
         rw [← HDE.out] at hw2
         obtain ⟨p2, q2, e2⟩ := hw2.shape
         subst e2
         have HX2 : Hid (Below w.heap.size w X2) := HX1.out.trans hb2
         have HFIN := HEND.out X2 _ _ _ HX2.out hw2
         have HC3 : Hid (Chg (fun c => c = bI) w _) := HFIN.1
         have HF3 : Hid (FsS _ bI n cI bD 20 cD (entD d j nes) (fun c => F c ∨ w.heap.size ≤ c)) := HFIN.2
         obtain ⟨g3, g4, g5⟩ := HCELL.out X2 HX2.out
         clear hw2 hb2 f2 HFIN)
      | fail)
    all_goals
      go_wp2
      all_goals
        go_ret
        first
          | exact ⟨rfl, HC3.out, HF3.out⟩
          | exact ⟨rfl, HC3.out.trans (Chg.of_below (Below.refl _ _).drew), HF3.out.later (Below.refl _ _).drew⟩
end Go.Proofs.YtpfafcodihhdfaaGreatDoor

namespace Go.Proofs.YtpfafcodihhdfaaGreatDoor
open Go.RowKit
set_option maxRecDepth 100000

theorem allE_lnk (d : FD) (z : Nat) (l : Int) : allE (lnkD d z l).1 = allE d.1 := by
  unfold lnkD allE
  dsimp only
  by_cases hz : z < d.1.length
  · have e : d.1 = d.1.set z (d.1[z]?.getD id0) := by rw [List.getElem?_eq_getElem hz, Option.getD_some, List.set_getElem_self]
    conv => rhs; rw [e]
    rw [List.flatMap_def, List.flatMap_def, List.map_set, List.map_set]
  · rw [List.set_eq_of_length_le (by omega)]
theorem lnk_drop (d : FD) (z : Nat) (l : Int) (hz : z < d.1.length) : dropD (lnkD d z l) z = dropD d z := by
  have hb : blkA (lnkD d z l) z = blkA d z := by
    unfold blkA lnkD
    dsimp only
    rw [set_getD _ _ _ _ _ hz, if_pos rfl]
  unfold dropD
  rw [hb]
  unfold lnkD
  dsimp only
  rw [List.set_set]
theorem lnk_lnk (d : FD) (z : Nat) (l k : Int) (hz : z < d.1.length) : lnkD (lnkD d z l) z k = lnkD d z k := by
  unfold lnkD
  dsimp only
  rw [set_getD _ _ _ _ _ hz, if_pos rfl, List.set_set]
/-- What one entry less comes to. -/
def lessD (d : FD) (z : Nat) : FD := if (d.1[z]?.getD id0).1 = 1 then unlD d z else d
set_option maxHeartbeats 6400000 in
theorem l8Less_any (w : World) (bo bI n cI bD cD : Nat) (d : FD) (F : Nat → Prop) (z : Nat) (h0 : w.cell? ⟨bo, 0, none⟩ = some (.slice (some ⟨bI, 0, none⟩) n cI)) (h1 : w.cell? ⟨bo, 1, none⟩ = some (.slice (some ⟨bD, 0, none⟩) 20 cD)) (hfs : FsS w bI n cI bD 20 cD d F) (hFo : ¬ F bo) (hn : d.1.length = n) (hzn : z < n) (hins : insF d.1 = 0) :
    Calls Tryz.prog 159 #[.pointer (some ⟨bo, 0, none⟩), .int .i64 (z : Int)] w fun e w' => e = .returned (.tuple #[]) ∧ Chg (fun c => c = bI ∨ c = bD) w w' ∧ FsS w' bI n cI bD 20 cD (lessD d z) F := by
  have hzI : (z : Int) < (n : Int) := by omega
  have hten : n ≤ 10 := by have := insF_ten hins; omega
  have hne := hfs.ne
  have hoI : bo ≠ bI := fun e => hFo (e ▸ hne.2.1.1)
  have hIo : bI ≠ bo := fun e => hoI e.symm
  obtain ⟨_, _, _, _, z0, z1, -, -, -, -, i6, -⟩ := hfs.ino z hzn
  have z1f := i6 (z * 5 + 1)
  have HFS : Hid (FsS w bI n cI bD 20 cD d F) := hfs
  have HLS : Hid (lessD d z = if (d.1[z]?.getD id0).1 = 1 then unlD d z else d) := rfl
  rw [HLS.out]
  have hzi := ins_ino hins z (by omega)
  clear HLS i6
  by_cases hk : (d.1[z]?.getD id0).1 = 1
  rotate_left
  · rw [if_neg hk]
    have hkb : ((d.1[z]?.getD id0).1 != 1) = true := by simpa using hk
    clear hfs hins hne hzi hk
    generalize (d.1[z]?.getD id0).1 = kd at *
    go_enter Tryz.func159, Tryz.ntmps159
    go_wp2
    (try simp only [Exit.inBlock, Exit.then])
    refine bodyPost_ret (results_none rfl _ _ _) rfl ?_
    exact ⟨rfl, Chg.refl _ _, HFS.out⟩
  · rw [if_pos hk]
    have hkb : ((d.1[z]?.getD id0).1 != 1) = false := by simpa using hk
    have hl := ino_lnk hzi hk
    have hb4 : (blkA d z).length ≤ 4 := by have := ino_size hzi; unfold blkA; omega
    have HUN : Hid (unlD d z = if 1 < (d.1[z]?.getD id0).2.1 then lnkD d z ((d.1[z]?.getD id0).2.1 - 1) else if (allE d.1).count (z : Int) = 0 then dropD d z else d) := rfl
    rw [HUN.out]
    have hself := lnkD_self d z (by omega)
    generalize hkl : (d.1[z]?.getD id0).2.1 = kl at *
    have HKL : Hid ((d.1[z]?.getD id0).2.1 = kl) := hkl
    have HSELF : Hid (lnkD d z kl = d) := hself
    have HF1 : Hid (FsS (w.setCell ⟨bI, z * 5 + 1, none⟩ (.int .i64 (kl - 1))) bI n cI bD 20 cD (lnkD d z (kl - 1)) F) := hfs.lnkS z hzn (kl - 1)
    have hC1 : Chg (fun c => c = bI) w (w.setCell ⟨bI, z * 5 + 1, none⟩ (.int .i64 (kl - 1))) := Chg.set (F := fun c => c = bI) (Chg.refl _ w) rfl _ _
    have HC1 : Hid (Chg (fun c => c = bI ∨ c = bD) w (w.setCell ⟨bI, z * 5 + 1, none⟩ (.int .i64 (kl - 1)))) := hC1.mono fun c hc => Or.inl hc
    have r0 := hC1.cellOf h0 hoI
    have r1 := hC1.cellOf h1 hoI
    have hlen1 : (lnkD d z (kl - 1)).1.length = n := by unfold lnkD; dsimp only; rw [List.length_set]; exact hn
    obtain ⟨_, _, _, _, -, y1, -, -, -, -, j6, -⟩ := HF1.out.ino z hzn
    have y1f := j6 (z * 5 + 1)
    have e1 : ((lnkD d z (kl - 1)).1[z]?.getD id0).2.1 = kl - 1 := by unfold lnkD; dsimp only; rw [set_getD _ _ _ _ _ (by omega), if_pos rfl]
    rw [e1] at y1
    have HLK : Hid (∀ q, Calls Tryz.prog 123 #[.slice (some ⟨bI, 0, none⟩) n cI, .int .i64 (z : Int)] ((w.setCell ⟨bI, z * 5 + 1, none⟩ (.int .i64 (kl - 1))).drewN q) fun e w' => e = .returned (.int .i64 (((allE d.1).count (z : Int) : Nat) : Int)) ∧ ∃ m, w' = ((w.setCell ⟨bI, z * 5 + 1, none⟩ (.int .i64 (kl - 1))).drewN q).drewN m) := fun q => by
      have hsm : sizeInos (lnkD d z (kl - 1)).1 ≤ 1048576 := by
        have h410 := ins_small hins
        have : sizeInos (lnkD d z (kl - 1)).1 = sizeInos d.1 := by
          unfold sizeInos isz lnkD
          dsimp only
          rw [List.length_set, List.map_set]
          have e2 : sizeIno ((d.1[z]?.getD id0).1, kl - 1, (d.1[z]?.getD id0).2.2) = (d.1.map sizeIno)[z]'(by rw [List.length_map]; omega) := by
            rw [List.getElem_map, List.getElem?_eq_getElem (by omega)]; rfl
          rw [e2, List.set_getElem_self]
        omega
      have := l5Links_any (w := (w.setCell ⟨bI, z * 5 + 1, none⟩ (.int .i64 (kl - 1))).drewN q) (((HF1.out.later (below_drewN (Below.refl _ _) q)).fs.reads).1) hsm (z : Int)
      rw [allE_lnk] at this
      exact this
    have HDR : Hid (∀ q, ((w.setCell ⟨bI, z * 5 + 1, none⟩ (.int .i64 (kl - 1))).drewN q).cell? ⟨bo, 0, none⟩ = some (.slice (some ⟨bI, 0, none⟩) n cI) → ((w.setCell ⟨bI, z * 5 + 1, none⟩ (.int .i64 (kl - 1))).drewN q).cell? ⟨bo, 1, none⟩ = some (.slice (some ⟨bD, 0, none⟩) 20 cD) → Calls Tryz.prog 201 #[.pointer (some ⟨bo, 0, none⟩), .int .i64 (z : Int)] ((w.setCell ⟨bI, z * 5 + 1, none⟩ (.int .i64 (kl - 1))).drewN q) fun e w' => e = .returned (.tuple #[]) ∧ Chg (fun c => c = bI ∨ c = bD) ((w.setCell ⟨bI, z * 5 + 1, none⟩ (.int .i64 (kl - 1))).drewN q) w' ∧ FsS w' bI n cI bD 20 cD (dropD d z) F) := fun q g0 g1 => by
      have hbk : blkA (lnkD d z (kl - 1)) z = blkA d z := by
        unfold blkA lnkD
        dsimp only
        rw [set_getD _ _ _ _ _ (by omega), if_pos rfl]
      have := l7Drop_raw ((w.setCell ⟨bI, z * 5 + 1, none⟩ (.int .i64 (kl - 1))).drewN q) bo bI n cI bD cD (lnkD d z (kl - 1)) F z g0 g1 (HF1.out.later (below_drewN (Below.refl _ _) q)) hFo hzn hten (by rw [hbk]; exact fun k hk => ins_blk hins z k (by omega) hk) (by rw [hbk]; exact hb4)
      rw [lnk_drop d z _ (by omega)] at this
      exact this
    have HF2 : Hid (∀ q, FsS (((w.setCell ⟨bI, z * 5 + 1, none⟩ (.int .i64 (kl - 1))).drewN q).setCell ⟨bI, z * 5 + 1, none⟩ (.int .i64 1)) bI n cI bD 20 cD (lnkD d z 1) F) := fun q => by
      have this : FsS (((w.setCell ⟨bI, z * 5 + 1, none⟩ (.int .i64 (kl - 1))).drewN q).setCell ⟨bI, z * 5 + 1, none⟩ (.int .i64 1)) bI n cI bD 20 cD (lnkD (lnkD d z (kl - 1)) z 1) F := (HF1.out.later (below_drewN (Below.refl _ _) q)).lnkS z hzn 1
      rw [lnk_lnk d z _ _ (by omega)] at this
      exact this
    clear hfs hins hne hzi hk hkl hself hC1 hb4 hlen1 j6 e1
    generalize (d.1[z]?.getD id0).1 = kd at *
    by_cases h1l : 1 < kl
    · rw [if_pos h1l]
      have hgt : decide (0 < kl - 1) = true := decide_eq_true (by omega)
      clear HLK HDR HF2
      go_enter Tryz.func159, Tryz.ntmps159
      go_wp2
      (try simp only [Exit.inBlock, Exit.then])
      refine bodyPost_ret (results_none rfl _ _ _) rfl ?_
      exact ⟨rfl, HC1.out, HF1.out⟩
    · rw [if_neg h1l]
      have hk1 : kl = 1 := by omega
      subst hk1
      generalize hcn : (allE d.1).count (z : Int) = cnt at *
      clear hcn
      have HL0 : Hid (_ = _) := h0
      by_cases hc : cnt = 0
      · rw [if_pos hc]
        have hcb : decide (0 < ((cnt : Nat) : Int)) = false := decide_eq_false (by omega)
        clear hc h1l
        generalize ((cnt : Nat) : Int) = cn at *
        go_enter Tryz.func159, Tryz.ntmps159
        go_wp2_with fail
        refine (HLK.out 0).mono ?_
        rintro e w2 ⟨rfl, q, rfl⟩
        have g0 : ((w.setCell ⟨bI, z * 5 + 1, none⟩ (.int .i64 (1 - 1))).drewN q).cell? ⟨bo, 0, none⟩ = some (.slice (some ⟨bI, 0, none⟩) n cI) := r0
        have g1 : ((w.setCell ⟨bI, z * 5 + 1, none⟩ (.int .i64 (1 - 1))).drewN q).cell? ⟨bo, 1, none⟩ = some (.slice (some ⟨bD, 0, none⟩) 20 cD) := r1
        go_wp2_with fail
        refine (HDR.out q g0 g1).mono ?_
        rintro e w3 ⟨rfl, hc3, hf3⟩
        have HC3 : Hid (Chg (fun c => c = bI ∨ c = bD) w w3) := (HC1.out.trans (Chg.of_below (below_drewN (Below.refl _ _) q))).trans hc3
        have HF3 : Hid (FsS w3 bI n cI bD 20 cD (dropD d z) F) := hf3
        clear hc3 hf3
        go_wp2
        go_end0
        exact ⟨rfl, HC3.out, HF3.out⟩
      · rw [if_neg hc]
        have hcb : decide (0 < ((cnt : Nat) : Int)) = true := decide_eq_true (by omega)
        clear hc h1l
        generalize ((cnt : Nat) : Int) = cn at *
        go_enter Tryz.func159, Tryz.ntmps159
        go_wp2_with fail
        refine (HLK.out 0).mono ?_
        rintro e w2 ⟨rfl, q, rfl⟩
        have g0 : ((w.setCell ⟨bI, z * 5 + 1, none⟩ (.int .i64 (1 - 1))).drewN q).cell? ⟨bo, 0, none⟩ = some (.slice (some ⟨bI, 0, none⟩) n cI) := r0
        have g3 : ((w.setCell ⟨bI, z * 5 + 1, none⟩ (.int .i64 (1 - 1))).drewN q).cell? ⟨bI, z * 5 + 1, none⟩ = some (.int .i64 (1 - 1)) := y1
        have g4 : ((w.setCell ⟨bI, z * 5 + 1, none⟩ (.int .i64 (1 - 1))).drewN q).frozen? ⟨bI, z * 5 + 1, none⟩ = false := y1f
        have HF3 : Hid (FsS (((w.setCell ⟨bI, z * 5 + 1, none⟩ (.int .i64 (1 - 1))).drewN q).setCell ⟨bI, z * 5 + 1, none⟩ (.int .i64 1)) bI n cI bD 20 cD d F) := by
          have := HF2.out q
          rw [HSELF.out] at this
          exact this
        have HC3 : Hid (Chg (fun c => c = bI ∨ c = bD) w (((w.setCell ⟨bI, z * 5 + 1, none⟩ (.int .i64 (1 - 1))).drewN q).setCell ⟨bI, z * 5 + 1, none⟩ (.int .i64 1))) := Chg.set (F := fun c => c = bI ∨ c = bD) (HC1.out.trans (Chg.of_below (below_drewN (Below.refl _ _) q))) (Or.inl rfl) _ _
        go_wp2
        (try simp only [Exit.inBlock, Exit.then])
        refine bodyPost_ret (results_none rfl _ _ _) rfl ?_
        exact ⟨rfl, HC3.out, HF3.out⟩
end Go.Proofs.YtpfafcodihhdfaaGreatDoor

namespace Go.Proofs.YtpfafcodihhdfaaGreatDoor
open Go.RowKit
set_option maxRecDepth 100000

theorem delR_span (d : FD) (x : Int) (s : ByteArray) : spanFs (delR d x s).2 ≤ 1000 := by
  unfold delR
  by_cases hc : (lookR d x s).1 = 0
  · rw [if_pos hc]
    obtain ⟨hdn, hidx, _⟩ := lookR_in hc
    have hs := dirS (dirN_in hdn)
    generalize x.toNat = j at *
    show spanFs (delD d j (idxE (entA d j) s)) ≤ 1000
    have hld : 0 ≤ ((entA d j)[idxE (entA d j) s]?.getD en0).2 ∧ ((entA d j)[idxE (entA d j) s]?.getD en0).2 < (d.1.length : Int) := hs.leads j hs.lt _ hidx
    have hdl := delS (z := ((entA d j)[idxE (entA d j) s]?.getD en0).2.toNat) hs hidx (by omega)
    unfold delD
    generalize ((entA d j)[idxE (entA d j) s]?.getD en0).2.toNat = z at *
    generalize entD d j (delE (entA d j) (idxE (entA d j) s)) = dn at *
    have e1 := ins_spans hdl.ins
    have e8 : ∀ i : Nat, (dn.2[i]?.getD []).length ≤ 8 := by rw [hdl.dat]; exact hs.eight
    have e20 : dn.2.length = 20 := by rw [hdl.dat]; exact hs.dat
    have e2 := ylens_eight e8
    have hlen := hdl.len
    have ht := hs.ten
    have e3 := spanInos_each e1
    have hsame : spanFs dn ≤ 1000 := by unfold spanFs; omega
    have hlnk : ∀ l, spanFs (lnkD dn z l) ≤ 1000 := fun l => by
      have e4 := spanInos_each (set_span e1 z ((dn.1[z]?.getD id0).1, l, (dn.1[z]?.getD id0).2.2) (e1 z))
      rw [List.length_set] at e4
      unfold lnkD spanFs
      dsimp only
      omega
    have hdrop : spanFs (dropD dn z) ≤ 1000 := by
      have e4 := spanInos_each (set_span e1 z id0 (by simp [spanIno, id0]))
      have e5 := ylens_eight (clrK_le e8 (blkA dn z) (blkA dn z).length)
      rw [List.length_set] at e4
      rw [clrK_length, e20] at e5
      unfold dropD spanFs
      dsimp only
      omega
    split
    · unfold unlD
      split
      · exact hlnk _
      · split
        · exact hdrop
        · exact hsame
    · exact hsame
  · rw [if_neg hc, noFs_span]; omega
end Go.Proofs.YtpfafcodihhdfaaGreatDoor

namespace Go.Proofs.YtpfafcodihhdfaaGreatDoor
open Go.RowKit
set_option maxRecDepth 100000

/-- Whether a name is in a directory, and where it leads. -/
def hasE (d : FD) (j : Nat) (s : ByteArray) : Bool := decide (idxE (entA d j) s < (entA d j).length)
def atE (d : FD) (j : Nat) (s : ByteArray) : Int := if idxE (entA d j) s < (entA d j).length then ((entA d j)[idxE (entA d j) s]?.getD en0).2 else 0
theorem look_spot {d : FD} {j : Nat} {s : ByteArray} (h : dirQ d (j : Int) = 0) (hn : nameF s = 0) : lookR d (j : Int) s = (if hasE d j s then 0 else 4, atE d j s) := by
  unfold lookR dirN hasE atE
  rw [if_pos h, if_pos hn, Int.toNat_natCast]
  by_cases hi : idxE (entA d j) s < (entA d j).length
  · rw [if_pos hi, if_pos hi, if_pos (by simpa using hi)]
  · rw [if_neg hi, if_neg hi, if_neg (by simpa using hi)]
/-- A name in a directory by its path: the directory, the name, whether it is there and where it leads; a code. -/
def lastN (s : ByteArray) : ByteArray := mkB (lastT s.data.toList)
def spotR (d : FD) (s : ByteArray) : (Int × ByteArray × Bool × Int) × Int :=
  if (wparR d s).1 = 0 then (((wparR d s).2, lastN s, hasE d (wparR d s).2.toNat (lastN s), atE d (wparR d s).2.toNat (lastN s)), 0) else ((0, ⟨#[]⟩, false, 0), (wparR d s).1)
theorem atE_in {d : FD} {j : Nat} {s : ByteArray} (h : DirS d j) (hh : hasE d j s = true) : ∃ z : Nat, atE d j s = (z : Int) ∧ z < d.1.length ∧ idxE (entA d j) s < (entA d j).length := by
  unfold hasE at hh
  have hi : idxE (entA d j) s < (entA d j).length := by simpa using hh
  have hl := h.leads j h.lt _ hi
  refine ⟨(atE d j s).toNat, ?_, ?_, hi⟩
  · unfold atE; rw [if_pos hi]; unfold entA at hl ⊢; omega
  · unfold atE; rw [if_pos hi]; unfold entA at hl ⊢; omega
theorem par_spot {d : FD} {s : ByteArray} (hf : fsF d = 0) (h0 : (wparR d s).1 = 0) : ∃ j : Nat, (wparR d s).2 = (j : Int) ∧ dirQ d (j : Int) = 0 ∧ DirS d j ∧ nameF (lastN s) = 0 := by
  rw [wpar_par, if_pos hf] at h0 ⊢
  obtain ⟨j, h1, h2, h3, h4⟩ := par_in hf h0
  have h5 := dirS h2
  rw [Int.toNat_natCast] at h5
  rw [h4] at h3
  exact ⟨j, h1, h2, h5, h3⟩
/-- What stands against a renaming. -/
def renF (d : FD) (j z tj : Nat) (gf : Bool) (tz : Nat) : Int :=
  if kindAt d.1 z = 2 ∧ winB d (tj : Int) (z : Int) = true then 1
  else if gf = true ∧ tz = z then 0
  else if gf = true ∧ ¬ (kindAt d.1 z = 2 ↔ kindAt d.1 tz = 2) then 9
  else if gf = true ∧ 0 < (entA d tz).length then 8
  else if gf = false ∧ tj ≠ j ∧ (entA d tj).length = 6 then 2
  else 0
/-- A name taken out, and what it led to where nothing else leads there. -/
def goneD (d : FD) (j k z : Nat) : FD := if kindAt (delD d j k).1 z = 2 then ((delD d j k).1.set z id0, (delD d j k).2) else delD d j k
def movedD (d : FD) (j : Nat) (s : ByteArray) (tj : Nat) (t : ByteArray) (z : Nat) : FD :=
  entD (entD d j (delE (entA d j) (idxE (entA d j) s))) tj (insE (entA (entD d j (delE (entA d j) (idxE (entA d j) s))) tj) (plcE (entA (entD d j (delE (entA d j) (idxE (entA d j) s))) tj) t) (t, (z : Int)))
def clearD (d : FD) (tj : Nat) (t : ByteArray) : FD := if hasE d tj t then goneD d tj (idxE (entA d tj) t) (atE d tj t).toNat else d
def renD (d : FD) (j : Nat) (s : ByteArray) (tj : Nat) (t : ByteArray) (z : Nat) : FD := movedD (clearD d tj t) j s tj t z
def renQ2 (d : FD) (j : Nat) (s : ByteArray) (tj : Nat) (t : ByteArray) : Int × CRD :=
  if ¬ renF d j (atE d j s).toNat tj (hasE d tj t) (atE d tj t).toNat = 0 ∨ (hasE d tj t = true ∧ atE d tj t = atE d j s) then stayR d (renF d j (atE d j s).toNat tj (hasE d tj t) (atE d tj t).toNat)
  else (0, 0, 0, [], [], renD d j s tj t (atE d j s).toNat)
def renQ (d : FD) (s t : ByteArray) : Int × CRD :=
  if (wparR d s).1 = 0 then
    (if hasE d (wparR d s).2.toNat (lastN s) = true then
      (if (wparR d t).1 = 0 then renQ2 d (wparR d s).2.toNat (lastN s) (wparR d t).2.toNat (lastN t) else stayR d (wparR d t).1)
    else stayR d 4)
  else stayR d (wparR d s).1
def renR (d : FD) (s t : ByteArray) : Int × CRD := if fsF d = 0 then renQ d s t else noCR (fsF d)

theorem ent_at (d : FD) (j : Nat) (es : List EN) (i : Nat) (hj : j < d.1.length) : (entD d j es).1[i]?.getD id0 = if i = j then ((d.1[j]?.getD id0).1, (d.1[j]?.getD id0).2.1, (d.1[j]?.getD id0).2.2.1, [], es) else d.1[i]?.getD id0 := set_getD _ _ _ _ _ hj
theorem lnk_at (d : FD) (j : Nat) (l : Int) (i : Nat) (hj : j < d.1.length) : (lnkD d j l).1[i]?.getD id0 = if i = j then ((d.1[j]?.getD id0).1, l, (d.1[j]?.getD id0).2.2) else d.1[i]?.getD id0 := set_getD _ _ _ _ _ hj
theorem drop_at (d : FD) (j : Nat) (i : Nat) (hj : j < d.1.length) : (dropD d j).1[i]?.getD id0 = if i = j then id0 else d.1[i]?.getD id0 := set_getD _ _ _ _ _ hj
theorem unl_at (d : FD) (z i : Nat) (hz : z < d.1.length) (hi : i ≠ z) : (unlD d z).1[i]?.getD id0 = d.1[i]?.getD id0 := by
  unfold unlD
  split
  · rw [lnk_at _ _ _ _ hz, if_neg hi]
  · split
    · rw [drop_at _ _ _ hz, if_neg hi]
    · rfl
theorem ent_len (d : FD) (j : Nat) (es : List EN) : (entD d j es).1.length = d.1.length := List.length_set
theorem unl_len (d : FD) (z : Nat) : (unlD d z).1.length = d.1.length := by
  unfold unlD
  split
  · exact List.length_set
  · split
    · exact List.length_set
    · rfl
theorem del_len (d : FD) (j k : Nat) : (delD d j k).1.length = d.1.length := by
  unfold delD
  split
  · rw [unl_len, ent_len]
  · rw [ent_len]
theorem gone_len (d : FD) (j k z : Nat) : (goneD d j k z).1.length = d.1.length := by
  unfold goneD
  split
  · rw [List.length_set, del_len]
  · rw [del_len]
theorem del_at {d : FD} {j k z i : Nat} (hz : ((entA d j)[k]?.getD en0).2 = (z : Int)) (hzn : z < d.1.length) (hj : j < d.1.length) (hi : i ≠ z) : (delD d j k).1[i]?.getD id0 = if i = j then ((d.1[j]?.getD id0).1, (d.1[j]?.getD id0).2.1, (d.1[j]?.getD id0).2.2.1, [], delE (entA d j) k) else d.1[i]?.getD id0 := by
  unfold delD
  rw [hz, Int.toNat_natCast]
  split
  · rw [unl_at _ _ _ (by rw [ent_len]; exact hzn) hi, ent_at _ _ _ _ hj]
  · rw [ent_at _ _ _ _ hj]
theorem gone_at {d : FD} {j k z i : Nat} (hz : ((entA d j)[k]?.getD en0).2 = (z : Int)) (hzn : z < d.1.length) (hj : j < d.1.length) (hi : i ≠ z) : (goneD d j k z).1[i]?.getD id0 = if i = j then ((d.1[j]?.getD id0).1, (d.1[j]?.getD id0).2.1, (d.1[j]?.getD id0).2.2.1, [], delE (entA d j) k) else d.1[i]?.getD id0 := by
  unfold goneD
  split
  · rw [set_getD _ _ _ _ _ (by rw [del_len]; exact hzn), if_neg hi, del_at hz hzn hj hi]
  · rw [del_at hz hzn hj hi]
theorem Rises.one {es : List EN} (h : Rises es) {i k : Nat} {s : ByteArray} (hi : i < es.length) (hk : k < es.length) (ei : eqE s (es[i]?.getD en0) = true) (ek : eqE s (es[k]?.getD en0) = true) : i = k := by
  have a := eqE_self ei
  have b := eqE_self ek
  rcases Nat.lt_trichotomy i k with hh | hh | hh
  · have := h.lt hh hk; rw [a, b, bl_irr] at this; exact absurd this (by decide)
  · exact hh
  · have := h.lt hh hi; rw [a, b, bl_irr] at this; exact absurd this (by decide)
theorem idx_del {es : List EN} (_h : Rises es) {s : ByteArray} {k : Nat} (hi : idxE es s < es.length) (hk : k < es.length) (hne : idxE es s ≠ k) : idxE (delE es k) s < (delE es k).length := by
  have he : eqE s (es[idxE es s]?.getD en0) = true := findIdx_at hi
  by_cases hc : idxE (delE es k) s < (delE es k).length
  · exact hc
  · exfalso
    have hn : ∀ i, i < (delE es k).length → eqE s ((delE es k)[i]?.getD en0) = false := fun i hh => findIdx_lt (p := eqE s) (by unfold idxE at hc; omega)
    have hl := delE_len hk
    rcases Nat.lt_or_ge (idxE es s) k with hlt | hge
    · have := hn (idxE es s) (by omega)
      rw [delE_get hk, if_pos hlt, he] at this
      exact absurd this (by decide)
    · have := hn (idxE es s - 1) (by omega)
      rw [delE_get hk, if_neg (by omega), show idxE es s - 1 + 1 = idxE es s by omega, he] at this
      exact absurd this (by decide)

/-- What stands of the directories where a name is renamed, the other name cleared. -/
structure RenS (d D : FD) (j : Nat) (s : ByteArray) (tj : Nat) : Prop where
  len : D.1.length = d.1.length
  jlt : j < d.1.length
  tlt : tj < d.1.length
  rises : Rises (entA D j)
  six : (entA D j).length ≤ 6
  has : idxE (entA D j) s < (entA D j).length
  blk : (D.1[j]?.getD id0).2.2.2.1 = []
  six2 : (entA (entD D j (delE (entA D j) (idxE (entA D j) s))) tj).length ≤ 6
  blk2 : ((entD D j (delE (entA D j) (idxE (entA D j) s))).1[tj]?.getD id0).2.2.2.1 = []
theorem dir_blk0 {d : FD} {j : Nat} (h : DirS d j) : (d.1[j]?.getD id0).2.2.2.1 = [] := dir_blk (ins_ino h.ins j h.lt) h.kind
theorem renS_of {d D : FD} {j tj : Nat} {s : ByteArray} (hl : D.1.length = d.1.length) (hj : DirS d j) (ht : DirS d tj) (hr : Rises (entA D j)) (h6 : (entA D j).length ≤ 6) (hh : idxE (entA D j) s < (entA D j).length) (hb : (D.1[j]?.getD id0).2.2.2.1 = []) (h6t : (entA D tj).length ≤ 6) (hbt : (D.1[tj]?.getD id0).2.2.2.1 = []) : RenS d D j s tj := by
  have hlt : j < D.1.length := by rw [hl]; exact hj.lt
  refine ⟨hl, hj.lt, ht.lt, hr, h6, hh, hb, ?_, ?_⟩
  · unfold entA at h6t ⊢
    rw [ent_at _ _ _ _ hlt]
    split
    · have := delE_len hh
      dsimp only
      unfold entA at this h6
      omega
    · exact h6t
  · rw [ent_at _ _ _ _ hlt]
    split
    · rfl
    · exact hbt
theorem renS {d : FD} {j tj z : Nat} {s t : ByteArray} (hj : DirS d j) (ht : DirS d tj) (hz : atE d j s = (z : Int)) (hs : hasE d j s = true) (hf : renF d j z tj (hasE d tj t) (atE d tj t).toNat = 0) (hne : ¬ (hasE d tj t = true ∧ atE d tj t = atE d j s)) : RenS d (clearD d tj t) j s tj := by
  obtain ⟨z', hz', -, hi⟩ := atE_in hj hs
  unfold clearD
  by_cases hg : hasE d tj t = true
  · rw [if_pos hg]
    obtain ⟨tz, htz, htl, hk⟩ := atE_in ht hg
    have hw : ((entA d tj)[idxE (entA d tj) t]?.getD en0).2 = (tz : Int) := by rw [← htz]; unfold atE; rw [if_pos hk]
    rw [htz, Int.toNat_natCast] at hf ⊢
    have hne' : ¬ tz = z := fun e => hne ⟨hg, by rw [htz, hz, e]⟩
    have h0 : (entA d tz).length = 0 := by
      unfold renF at hf
      split at hf
      · exact absurd hf (by decide)
      · rw [if_neg (fun hh => hne' hh.2)] at hf
        split at hf
        · exact absurd hf (by decide)
        · split at hf
          · exact absurd hf (by decide)
          · rename_i hc
            rcases Nat.eq_zero_or_pos (entA d tz).length with h0 | h0
            · exact h0
            · exact absurd ⟨hg, h0⟩ hc
    have njz : j ≠ tz := fun e => by rw [e] at hi; omega
    have ntz : tj ≠ tz := fun e => by rw [e] at hk; omega
    have ej : entA (goneD d tj (idxE (entA d tj) t) tz) j = if j = tj then delE (entA d tj) (idxE (entA d tj) t) else entA d j := by
      show ((goneD d tj (idxE (entA d tj) t) tz).1[j]?.getD id0).2.2.2.2 = _
      rw [gone_at hw htl ht.lt njz]
      split <;> rfl
    have et : entA (goneD d tj (idxE (entA d tj) t) tz) tj = delE (entA d tj) (idxE (entA d tj) t) := by
      show ((goneD d tj (idxE (entA d tj) t) tz).1[tj]?.getD id0).2.2.2.2 = _
      rw [gone_at hw htl ht.lt ntz, if_pos rfl]
    have hde : DirE (delE (entA d tj) (idxE (entA d tj) t)) := (dirF_E (ino_dir (ins_ino ht.ins tj ht.lt) ht.kind)).del hk
    refine renS_of (gone_len _ _ _ _) hj ht ?_ ?_ ?_ ?_ ?_ ?_
    · rw [ej]; split
      · exact hde.rises
      · exact hj.rises
    · rw [ej]; split
      · exact hde.six
      · exact hj.six
    · rw [ej]; split
      · rename_i e
        subst e
        refine idx_del hj.rises hi hk (fun e => hne' ?_)
        have h1 : (z : Int) = (tz : Int) := by
          rw [← hw, ← e, ← hz]; unfold atE; rw [if_pos hi]
        omega
      · exact hi
    · rw [gone_at hw htl ht.lt njz]; split
      · rfl
      · exact dir_blk0 hj
    · rw [et]; exact hde.six
    · rw [gone_at hw htl ht.lt ntz, if_pos rfl]
  · rw [if_neg hg]
    exact renS_of rfl hj ht hj.rises hj.six hi (dir_blk0 hj) ht.six (dir_blk0 ht)
end Go.Proofs.YtpfafcodihhdfaaGreatDoor

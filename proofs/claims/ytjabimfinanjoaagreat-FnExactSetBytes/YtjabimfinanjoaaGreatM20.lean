/- The specification's SetBytes: a file with other bytes, where they are few. The specification's DropFile: the walk; how great what is answered is. The specification's SetBytes: the contract; how great what is answered is. Lists of bytes as arguments: compared and marked, in the one form. From the reading of an argument to the lists that it holds. No program is named here. What the rows of this seat share: how a disk that came in is opened. How inodes that came in are opened. How lists of inodes that came in are opened. -/
import Derived.Test.YtjabimfinanjoaaGreatM19
import Derived.Test.YtjabimfinanjoaaGreatM04
import Derived.Test.YtjabimfinanjoaaGreatM00
import Derived.ProofKit
import Derived.Deep.Slices
import Derived.Deep.SlicePairs
import Derived.Lib.SmallJoins
import Derived.Test.YtjabimfinanjoaaGreatRows
import Derived.Test.YtjabimfinanjoaaGreatM02
import Derived.Test.YtjabimfinanjoaaGreatM03
namespace Go.Proofs.YtjabimfinanjoaaGreat
open Go.RowKit
set_option maxRecDepth 100000

set_option maxHeartbeats 12800000 in
theorem l7Set_in (w : World) (a1 : Option Addr) (n1 c1 : Nat) (a2 : Option Addr) (n2 c2 : Nat) (d : FD) (j : Nat) (aT : Option Addr) (L cT : Nat) (data : List UInt8) (aB : Option Addr) (nB cB : Nat) (busy : List Int) (h : FsR w (.slice a1 n1 c1) (.slice a2 n2 c2) d) (ht : Byt w (.slice aT L cT) data) (hb : Ints w (.slice aB nB cB) busy) (hs : sizeFs d ≤ 1048576) (hbl : busy.length ≤ 1048576) (hsd : Sound d j) (hL : L ≤ 32) (k0 : Nat) (hk : (L + 7) / 8 = k0) (pc : Int) (bs : List Int) (hp : pickR d.1 busy (k0 : Int) = (pc, bs)) :
    Calls Tryz.prog 22 #[.agg #[.slice a1 n1 c1, .slice a2 n2 c2], .int .i64 (j : Int), .slice aT L cT, .slice aB nB cB] w (AnsFR w (if pc = 0 then (0, d.1.set j (setI d j bs L), putK (clrK d.2 (blkA d j) (blkA d j).length) bs data bs.length) else noFs pc)) := by
  have ht0 := ht
  obtain ⟨_, _, esh, hmT, _⟩ := ht0
  simp only [Value.slice.injEq] at esh
  obtain ⟨rfl, hdl, rfl⟩ := esh
  have hcT : L ≤ cT := by have := hmT.2; omega
  have HDL : Hid (data.length = L) := hdl.symm
  have HSD : Hid (Sound d j) := hsd
  have hsz : sizeInos d.1 ≤ 1048576 := by unfold sizeFs at hs; omega
  have HB0 : Hid (Below w.heap.size w ((w.alloc (.cells #[.slice a1 n1 c1, .slice a2 n2 c2] 31)).alloc (.cells #[.int .i64 0, .slice none 0 0, .slice none 0 0] 33))) := later2 _ _ _
  have HBX : Hid (Bx ((w.alloc (.cells #[.slice a1 n1 c1, .slice a2 n2 c2] 31)).alloc (.cells #[.int .i64 0, .slice none 0 0, .slice none 0 0] 33)) w.heap.size [.slice a1 n1 c1, .slice a2 n2 c2]) := (Bx.new w [.slice a1 n1 c1, .slice a2 n2 c2] _).later (later1 _ _)
  have HRS : Hid (OwnRow ((w.alloc (.cells #[.slice a1 n1 c1, .slice a2 n2 c2] 31)).alloc (.cells #[.int .i64 0, .slice none 0 0, .slice none 0 0] 33)) (w.heap.size + 1) 3 (cel zero3)) := by
    have p2 := row3 (w.alloc (.cells #[.slice a1 n1 c1, .slice a2 n2 c2] 31)) 33
    rw [World.size_alloc] at p2
    exact p2
  have hz0 : ((w.alloc (.cells #[.slice a1 n1 c1, .slice a2 n2 c2] 31)).alloc (.cells #[.int .i64 0, .slice none 0 0, .slice none 0 0] 33)).heap.size = w.heap.size + 2 := by simp
  have HSZ : Hid (sizeB (L : Int) = true) := by unfold Hid sizeB; simp; omega
  have HFO : Hid (∀ W, Calls Tryz.prog 42 #[.int .i64 (L : Int)] W fun e w' => e = .returned (.int .i64 (k0 : Int)) ∧ w' = W) := fun W => by
    have := l4For_any W (L : Int) (by omega) (by omega)
    rw [show ((L : Int) + 7) / 8 = (k0 : Int) by omega] at this
    exact this
  have HPK : Hid (∀ W, Below w.heap.size w W → Calls Tryz.prog 41 #[.slice a1 n1 c1, .slice aB nB cB, .int .i64 (k0 : Int)] W fun e w' => ∃ ap cp, e = .returned (.agg #[.int .i64 pc, .slice ap bs.length cp]) ∧ Below W.heap.size W w' ∧ IntsO w' (.slice ap bs.length cp) bs (fresh W w') ∧ bs.length ≤ cp) := fun W hW => by
    have := specPickC W a1 n1 c1 d.1 aB nB cB busy (k0 : Int) (h.1.later hW) (hb.later hW) hsz hbl
    rw [hp] at this
    refine this.mono ?_
    rintro e w' ⟨⟨ap, np, cp, rfl, hb1, ho⟩, hcap⟩
    have hcp : np ≤ cp := hcap _ _ _ _ rfl
    obtain ⟨_, _, en, _⟩ := ho.reads.open'
    simp only [Value.slice.injEq] at en
    obtain ⟨rfl, rfl, rfl⟩ := en
    exact ⟨ap, cp, rfl, hb1, ho, hcp⟩
  have HCP : Hid (∀ W, Below w.heap.size w W → Calls Tryz.prog 43 #[.agg #[.slice a1 n1 c1, .slice a2 n2 c2]] W (AnsFs W d)) := fun W hW => l6Copy_any W a1 n1 c1 a2 n2 c2 d (h.later hW) hs
  have HTX : Hid (∀ W, Below w.heap.size w W → Byt W (.slice aT L cT) data) := fun W hW => ht.later hW
  have HOK : Hid (pc = 0 → bs.length = k0 ∧ ∀ k : Nat, k < bs.length → 0 ≤ bs[k]?.getD 0 ∧ bs[k]?.getD 0 < 20) := fun e => by
    have := pick_ok (ds := d.1) (busy := busy) (n := k0) (by rw [hp]; exact e)
    rw [hp] at this
    exact this
  have HK4 : Hid ((L + 7) / 8 = k0) := hk
  generalize hRES : (if pc = 0 then ((0 : Int), d.1.set j (setI d j bs L), putK (clrK d.2 (blkA d j) (blkA d j).length) bs data bs.length) else noFs pc) = RES
  have HRES : Hid ((if pc = 0 then ((0 : Int), d.1.set j (setI d j bs L), putK (clrK d.2 (blkA d j) (blkA d j).length) bs data bs.length) else noFs pc) = RES) := hRES
  clear h ht hb hs hbl hsd hmT hdl hp hsz hk hRES
  go_enter Tryz.func22, Tryz.ntmps22
  go_wp2_with fail
  refine (l4Size_any _ _).mono ?_
  rw [HSZ.out]
  rintro e w1 ⟨rfl, rfl⟩
  generalize ((w.alloc (.cells #[.slice a1 n1 c1, .slice a2 n2 c2] 31)).alloc (.cells #[.int .i64 0, .slice none 0 0, .slice none 0 0] 33)) = W0 at *
  have x0 := HBX.out 0 _ rfl
  have x1 := HBX.out 1 _ rfl
  have hl0 : w.heap.size < W0.heap.size := by omega
  have HZ0 : Hid (W0.heap.size = w.heap.size + 2) := hz0
  clear hz0
  go_wp2_with fail
  go_cut [9] from 15 (fun s9 wx => ∃ g ap cp, s9 = .pointer (some ⟨g, 0, none⟩) ∧ Picked W0 wx pc bs g ap cp)
  case first =>
    go_wp2_with fail
    go_region_with (first
      | (go_at_call 42; refine (HFO.out _).mono ?_; rintro e w2 ⟨rfl, rfl⟩)
      | (go_at_call 41; refine (HPK.out W0.drew HB0.out.drew).mono ?_; rintro e w2 ⟨ap, cp, rfl, hb2, ho2, hc2⟩
         have HPA : Hid (∀ t, Picked W0 (w2.alloc (.cells #[.int .i64 pc, .slice ap bs.length cp] t)) pc bs w2.heap.size ap cp) := fun t => Picked.after (Below.refl _ _).drew hb2 ho2 hc2 t
         clear hb2 ho2 hc2)
      | (go_at_call 41; refine (HPK.out (W0.drew.alloc (.cells #[.int .i64 0, .slice none 0 0] 60)) (HB0.out.drew.trans ((later1 _ _).mono HB0.out.drew.size))).mono ?_; rintro e w2 ⟨ap, cp, rfl, hb2, ho2, hc2⟩
         have hrw := (box2 W0.drew 60).later hb2
         have t0 : w2.cell? ⟨W0.heap.size, 0, none⟩ = some (.int .i64 0) := hrw.cell (i := 0) (by omega)
         have t1 : w2.cell? ⟨W0.heap.size, 1, none⟩ = some (.slice none 0 0) := hrw.cell (i := 1) (by omega)
         have s0 : w2.frozen? ⟨W0.heap.size, 0, none⟩ = false := hrw.frozen 0
         have s1 : w2.frozen? ⟨W0.heap.size, 1, none⟩ = false := hrw.frozen 1
         have hlg : W0.heap.size < w2.heap.size := by have := hrw.lt; simpa using this
         have HPA : Hid (Picked W0 ((w2.setCell ⟨W0.heap.size, 0, none⟩ (.int .i64 pc)).setCell ⟨W0.heap.size, 1, none⟩ (.slice ap bs.length cp)) pc bs W0.heap.size ap cp) := Picked.ahead ((Below.refl _ _).drew.trans ((later1 W0.drew _).mono (Nat.le_refl _))) (Nat.le_refl _) (by simp) _ (box2 W0.drew 60) hb2 ho2 hc2
         clear hb2 ho2 hc2 hrw)
      | fail)
    all_goals
      go_wp2
      go_meet
      case rel => first | exact ⟨_, ap, cp, rfl, HPA.out _⟩ | exact ⟨_, ap, cp, rfl, HPA.out⟩
  case rest =>
    obtain ⟨g, ap, cp, rfl, hpk⟩ := hcut
    obtain ⟨hbW, hgW, hbx, hcp, hio⟩ := hpk
    have HBW : Hid (Below W0.heap.size W0 wc) := hbW
    have HBC : Hid (Below w.heap.size w wc) := HB0.out.trans (hbW.mono HB0.out.size)
    have HGB : Hid (Bx wc g [.int .i64 pc, .slice ap bs.length cp]) := hbx
    have HIO : Hid (IntsO wc (.slice ap bs.length cp) bs (fun c => W0.heap.size ≤ c ∧ c < wc.heap.size ∧ c ≠ g)) := hio
    have q0 := hbx 0 _ rfl
    have y0 := (HBX.out.later hbW) 0 _ rfl
    have y1 := (HBX.out.later hbW) 1 _ rfl
    have hl1 : w.heap.size < wc.heap.size := Nat.lt_of_lt_of_le hl0 hbW.size
    have hgl : g < wc.heap.size := hbx.lt
    have HGL : Hid (W0.heap.size ≤ g ∧ W0.heap.size ≤ wc.heap.size) := ⟨hgW, hbW.size⟩
    clear hbW hbx hio x0 x1 hgW HPK HFO
    by_cases hpc : pc = 0
    rotate_left
    · have hpb : (pc != 0) = true := by simpa using hpc
      have HR : Hid (RES = noFs pc) := by unfold Hid; rw [← HRES.out, if_neg hpc]
      have hrr := HRS.out.later HBW.out
      have t0 : wc.cell? ⟨w.heap.size + 1, 0, none⟩ = some (.int .i64 0) := hrr.cell (i := 0) (by omega)
      have t1 : wc.cell? ⟨w.heap.size + 1, 1, none⟩ = some (.slice none 0 0) := hrr.cell (i := 1) (by omega)
      have t2 : wc.cell? ⟨w.heap.size + 1, 2, none⟩ = some (.slice none 0 0) := hrr.cell (i := 2) (by omega)
      have s0 := hrr.frozen 0
      have s1 := hrr.frozen 1
      have s2 := hrr.frozen 2
      clear hrr hpc HRES
      go_wp2
      exact bodyPost_ret (v := .agg #[.int .i64 pc, .slice none 0 0, .slice none 0 0]) (by simp [results, Tryz.results22, go_sem, t0, t1, t2]) rfl (by rw [HR.out]; exact AnsFR.none' pc HBC.out (by omega) _ _ _)
    · subst hpc
      obtain ⟨hlk, hbs⟩ := HOK.out rfl
      have HBS : Hid (∀ k : Nat, k < bs.length → 0 ≤ bs[k]?.getD 0 ∧ bs[k]?.getD 0 < 20) := hbs
      have HLK : Hid (bs.length = k0) := hlk
      have HR : Hid (RES = (0, d.1.set j (setI d j bs L), putK (clrK d.2 (blkA d j) (blkA d j).length) bs data bs.length)) := by unfold Hid; rw [← HRES.out, if_pos rfl]
      clear hlk hbs HOK HRES
      go_wp2_with fail
      refine (HCP.out _ HBC.out).mono ?_
      rintro e w5 ⟨b1, m1, cI, b2, m2, cD, rfl, hb5, hf5⟩
      obtain ⟨bI, e1, bD, e2, eI, eD, hfs⟩ := FsS.of hf5 (by have := HSD.out.lt; omega) (by have := HSD.out.dat; omega)
      simp only [Value.slice.injEq] at eI eD
      obtain ⟨rfl, rfl, rfl⟩ := eI
      obtain ⟨rfl, rfl, rfl⟩ := eD
      rw [HSD.out.dat] at hfs
      rw [HSD.out.dat]
      have hB5 : Below w.heap.size w w5 := HBC.out.trans (hb5.mono HBC.out.size)
      have HB6 : Hid (Below wc.heap.size wc (w5.alloc (.cells #[.slice (some ⟨bI, 0, none⟩) d.1.length cI, .slice (some ⟨bD, 0, none⟩) 20 cD] 31))) := hb5.trans ((later1 _ _).mono hb5.size)
      have HF6 : Hid (FsS (w5.alloc (.cells #[.slice (some ⟨bI, 0, none⟩) d.1.length cI, .slice (some ⟨bD, 0, none⟩) 20 cD] 31)) bI d.1.length cI bD 20 cD d (fun c => wc.heap.size ≤ c ∧ c < w5.heap.size)) := hfs.later (later1 _ _)
      have HO6 : Hid (Bx (w5.alloc (.cells #[.slice (some ⟨bI, 0, none⟩) d.1.length cI, .slice (some ⟨bD, 0, none⟩) 20 cD] 31)) w5.heap.size [.slice (some ⟨bI, 0, none⟩) d.1.length cI, .slice (some ⟨bD, 0, none⟩) 20 cD]) := Bx.new w5 [.slice (some ⟨bI, 0, none⟩) d.1.length cI, .slice (some ⟨bD, 0, none⟩) 20 cD] _
      have HL6 : Hid (wc.heap.size ≤ w5.heap.size ∧ (w5.alloc (.cells #[.slice (some ⟨bI, 0, none⟩) d.1.length cI, .slice (some ⟨bD, 0, none⟩) 20 cD] 31)).heap.size = w5.heap.size + 1) := ⟨hb5.size, by simp⟩
      have hjn : j < d.1.length := HSD.out.lt
      have hn10 : d.1.length ≤ 10 := HSD.out.ten
      have hjI : (j : Int) < ((d.1.length : Nat) : Int) := by omega
      clear hb5 hf5 hfs hB5 HCP y0 y1 q0
      obtain ⟨n, hn⟩ : ∃ n, d.1.length = n := ⟨_, rfl⟩
      have HN : Hid (d.1.length = n) := hn
      rw [hn] at HB6 HF6 HO6 HL6 hjn hn10 hjI ⊢
      clear hn
      go_wp2_with fail
      generalize (w5.alloc (.cells #[.slice (some ⟨bI, 0, none⟩) n cI, .slice (some ⟨bD, 0, none⟩) 20 cD] 31)) = W6 at *
      obtain ⟨aX, cX, aE, cE, _, _, _, i3, _, _, _, i7⟩ := HF6.out.ino j hjn
      have hne := HF6.out.ne
      have hoI : w5.heap.size ≠ bI := fun e => by have := hne.2.1.1.2; omega
      have hoD : w5.heap.size ≠ bD := fun e => by have := hne.2.2.1.2; omega
      have hgD : g ≠ bD := fun e => by have := hne.2.2.1.1; omega
      have hID : bI ≠ bD := hne.1
      have HCW : Hid (wc.heap.size ≤ bI ∧ wc.heap.size ≤ bD) := ⟨hne.2.1.1.1, hne.2.2.1.1⟩
      have HBR : Hid (BlkR W6 bD aX (blkA d j)) := fun k hk => by
        obtain ⟨b, f1, _, _, f4, f5, f6⟩ := i7 k hk
        exact ⟨b, f1, f4, f5, f6⟩
      have HRG : Hid (∀ k : Nat, k < (blkA d j).length → 0 ≤ (blkA d j)[k]?.getD 0 ∧ (blkA d j)[k]?.getD 0 < 20) := HSD.out.blk
      have h4 := HSD.out.four
      replace i3 : W6.cell? ⟨bI, j * 5 + 3, none⟩ = some (.slice aX (blkA d j).length cX) := i3
      have o0 := HO6.out 0 _ rfl
      have o1 := HO6.out 1 _ rfl
      have g1 : W6.cell? ⟨g, 1, none⟩ = some (.slice ap bs.length cp) := (HGB.out.later HB6.out) 1 _ rfl
      have HENT : Hid ((d.1[j]?.getD id0).2.2.2.2 = []) := HSD.out.ent
      clear i7 hne HGB HO6
      generalize blkA d j = bo at *
      obtain ⟨nO, hnO⟩ : ∃ nO, bo.length = nO := ⟨_, rfl⟩
      have HNO : Hid (bo.length = nO) := hnO
      rw [hnO] at i3 HRG h4
      clear hnO
      go_loopw [12] (fun i wr => ∃ k : Nat, k ≤ nO ∧ i = .int .i64 k ∧ Chg (fun c => c = bD) W6 wr ∧ FsS wr bI n cI bD 20 cD (d.1, clrK d.2 bo k) (fun c => wc.heap.size ≤ c ∧ c < w5.heap.size)) (fun i _ => nO - (intOf i).toNat)
      case atStart => exact ⟨0, Nat.zero_le _, rfl, Chg.refl _ _, HF6.out⟩
      case round =>
        obtain ⟨k, hk, rfl, hc, hf⟩ := hrel
        have HC : Hid (Chg (fun c => c = bD) W6 wr) := hc
        have HF : Hid (FsS wr bI n cI bD 20 cD (d.1, clrK d.2 bo k) (fun c => wc.heap.size ≤ c ∧ c < w5.heap.size)) := hf
        have r1 := hc.cellOf o1 hoD
        have r3 := hc.cellOf i3 hID
        by_cases hlt : k < nO
        · obtain ⟨b1, rfl, hb1, _, c1⟩ := HBR.out k (by rw [HNO.out]; exact hlt)
          have c1r := HC.out.cellOf c1 hb1
          have hrg := HRG.out k hlt
          have HCL : Hid (∀ y : Nat, y < 20 → bo[k]?.getD 0 = (y : Int) → FsS (wr.setCell ⟨bD, y, none⟩ (.slice none 0 0)) bI n cI bD 20 cD (d.1, clrK d.2 bo (k + 1)) (fun c => wc.heap.size ≤ c ∧ c < w5.heap.size)) := fun y hy e => HF.out.clr hy e
          clear hc hf o0 o1 g1 i3
          generalize bo[k]?.getD 0 = x at *
          obtain ⟨y, rfl⟩ : ∃ y : Nat, x = (y : Int) := ⟨x.toNat, by omega⟩
          have hy : y < 20 := by omega
          have hyI : (y : Int) < 20 := by omega
          obtain ⟨ua, uc, d0, d1, _⟩ := HF.out.data y hy
          have HNX : Hid (FsS (wr.setCell ⟨bD, y, none⟩ (.slice none 0 0)) bI n cI bD 20 cD (d.1, clrK d.2 bo (k + 1)) (fun c => wc.heap.size ≤ c ∧ c < w5.heap.size)) := HCL.out y hy rfl
          have hDb : bD ≠ b1 := fun e => hb1 e.symm
          have hDo : bD ≠ w5.heap.size := fun e => hoD e.symm
          have hDI : bD ≠ bI := fun e => hID e.symm
          clear HCL hrg c1
          go_wp2_with fail
          go_region_held3 (fun W => W.cell? ⟨w5.heap.size, 1, none⟩ = some (.slice (some ⟨bD, 0, none⟩) 20 cD) ∧ W.cell? ⟨bI, j * 5 + 3, none⟩ = some (.slice (some ⟨b1, 0, none⟩) nO cX) ∧ W.cell? ⟨b1, k, none⟩ = some (.int .i64 (y : Int))) (go_keep) (fail)
          all_goals
            go_wp2
            go_roundw
            case rel => exact ⟨k + 1, by omega, by go_num, by first | exact HC.out.set rfl _ _ | exact (HC.out.set rfl _ _).trans (Chg.of_below (Below.refl _ _).drew) | exact (HC.out.trans (Chg.of_below (Below.refl _ _).drew)).set rfl _ _, by first | exact HNX.out | exact HNX.out.later (Below.refl _ _).drew⟩
            case measure => simp [intOf]; omega
        · have e : nO = k := by omega
          subst e
          obtain ⟨_, _, _, _, _, _, z2, z3, _, _, z6, _⟩ := HF.out.ino j hjn
          have z52 := z6 (j * 5 + 2)
          have z53 := z6 (j * 5 + 3)
          have gr1 := hc.cellOf g1 hgD
          have or0 := hc.cellOf o0 hoD
          have or1 := hc.cellOf o1 hoD
          have hszW : W6.heap.size ≤ wr.heap.size := hc.size
          have hL6 := HL6.out
          have hCW := HCW.out
          have hGL := HGL.out
          have HP : Hid (IntsO wr (.slice ap bs.length cp) bs (fun c => W0.heap.size ≤ c ∧ c < wc.heap.size ∧ c ≠ g)) := (HIO.out.later HB6.out).chg hc fun b hb e => by have := hb.2.1; omega
          have HT : Hid (FsS ((wr.setCell ⟨bI, j * 5 + 3, none⟩ (.slice ap bs.length cp)).setCell ⟨bI, j * 5 + 2, none⟩ (.int .i64 (L : Int))) bI n cI bD 20 cD (d.1.set j (setI d j bs L), clrK d.2 bo nO) (fun c => W0.heap.size ≤ c ∧ c ≠ g ∧ c ≠ w5.heap.size)) := (HF.out.two j hjn HENT.out bs L ap cp HP.out hcp (fun c hh => ⟨fun h2 => by have := h2.1; have := hh.2.1; omega, by have := hh.2.1; omega⟩)).mono fun c hh => by
            rcases hh with hh | hh
            · exact ⟨by omega, by omega, by omega⟩
            · exact ⟨hh.1, hh.2.2, by omega⟩
          have hC1 : Chg (fun c => c = bI) wr (wr.setCell ⟨bI, j * 5 + 3, none⟩ (.slice ap bs.length cp)) := Chg.set (F := fun c => c = bI) (Chg.refl _ wr) rfl (j * 5 + 3) (.slice ap bs.length cp)
          have hC2 : Chg (fun c => c = bI) wr ((wr.setCell ⟨bI, j * 5 + 3, none⟩ (.slice ap bs.length cp)).setCell ⟨bI, j * 5 + 2, none⟩ (.int .i64 (L : Int))) := Chg.set (F := fun c => c = bI) hC1 rfl (j * 5 + 2) (.int .i64 (L : Int))
          have HB7 : Hid (Below wc.heap.size wc ((wr.setCell ⟨bI, j * 5 + 3, none⟩ (.slice ap bs.length cp)).setCell ⟨bI, j * 5 + 2, none⟩ (.int .i64 (L : Int)))) := (HB6.out.trans (hc.below HB6.out.size fun b hb => by omega)).trans (hC2.below (by have := HB6.out.size; omega) fun b hb => by omega)
          have p0 := hC2.cellOf or0 hoI
          have p1 := hC2.cellOf or1 hoI
          have HP7 : Hid (IntsO ((wr.setCell ⟨bI, j * 5 + 3, none⟩ (.slice ap bs.length cp)).setCell ⟨bI, j * 5 + 2, none⟩ (.int .i64 (L : Int))) (.slice ap bs.length cp) bs (fun c => W0.heap.size ≤ c ∧ c < wc.heap.size ∧ c ≠ g)) := HP.out.chg hC2 fun b hb e => by have := hb.2.1; omega
          obtain ⟨uR, hRow⟩ : ∃ u, OwnRow wr bI (n * 5) (inCell d.1 u) := by
            obtain ⟨_, _, ⟨_, _, u, _, _, _, _, h4, _⟩, _⟩ := HF.out
            exact ⟨u, h4⟩
          have HROW : Hid (OwnRow wr bI (n * 5) (inCell d.1 uR)) := hRow
          clear hRow
          clear hc hf r1 z6 hC1 hC2 HP or0 or1 o0 o1 g1 i3 HF HC hL6 hCW hGL
          go_wp2_with fail
          have xb := ((HROW.out.set (j * 5 + 3) (.slice ap bs.length cp)).set (j * 5 + 2) (.int .i64 (L : Int))).cell (i := j * 5 + 3) (by omega)
          have xs := ((HROW.out.set (j * 5 + 3) (.slice ap bs.length cp)).set (j * 5 + 2) (.int .i64 (L : Int))).cell (i := j * 5 + 2) (by omega)
          simp at xb xs
          clear z2 z3 z52 z53 gr1 r3
          generalize ((wr.setCell ⟨bI, j * 5 + 3, none⟩ (.slice ap bs.length cp)).setCell ⟨bI, j * 5 + 2, none⟩ (.int .i64 (L : Int))) = W7 at *
          obtain ⟨nP, hnP⟩ : ∃ nP, bs.length = nP := ⟨_, rfl⟩
          have HNP : Hid (bs.length = nP) := hnP
          have hn4 : nP ≤ 4 := by have := HLK.out; have := HK4.out; omega
          have HNL : Hid (nP = (L + 7) / 8) := by unfold Hid; have := HLK.out; have := HK4.out; omega
          have HR2 : Hid (RES = (0, d.1.set j (setI d j bs L), putK (clrK d.2 bo nO) bs data nP)) := by
            have := HR.out
            rw [HNO.out, hnP] at this
            exact this
          rw [hnP] at HP7 xb HBS hcp
          clear hnP HR
          generalize setI d j bs L = xj at *
          generalize clrK d.2 bo nO = Z at *
          go_loopw [13] (fun i wr2 => ∃ k : Nat, k ≤ nP ∧ i = .int .i64 k ∧ Chg (fun c => c = bD) W7 wr2 ∧ FsS wr2 bI n cI bD 20 cD (d.1.set j xj, putK Z bs data k) (fun c => W0.heap.size ≤ c ∧ c ≠ g ∧ c ≠ w5.heap.size)) (fun i _ => nP - (intOf i).toNat)
          case atStart => exact ⟨0, Nat.zero_le _, rfl, Chg.refl _ _, HT.out⟩
          case round =>
            obtain ⟨k, hk, rfl, hc, hf⟩ := hrel
            have HC : Hid (Chg (fun c => c = bD) W7 wr) := hc
            have HF : Hid (FsS wr bI n cI bD 20 cD (d.1.set j xj, putK Z bs data k) (fun c => W0.heap.size ≤ c ∧ c ≠ g ∧ c ≠ w5.heap.size)) := hf
            have q1 := hc.cellOf p1 hoD
            have q3 := hc.cellOf xb hID
            have q2 := hc.cellOf xs hID
            have hCW := HCW.out
            have hB8 : Below wc.heap.size wc wr := HB7.out.trans (hc.below HB7.out.size fun b hb => by omega)
            have HB8 : Hid (Below w.heap.size w wr) := HBC.out.trans (hB8.mono HBC.out.size)
            have hl8 : W0.heap.size ≤ wr.heap.size ∧ g < wr.heap.size ∧ w5.heap.size < wr.heap.size := ⟨by have := HGL.out; have := hB8.size; omega, by have := hB8.size; omega, World.block_lt_of_cell? _ _ q1⟩
            have HL8 : Hid (W0.heap.size ≤ wr.heap.size ∧ g < wr.heap.size ∧ w5.heap.size < wr.heap.size) := hl8
            clear hl8 hB8 hCW
            by_cases hlt : k < nP
            · rcases HP7.out with ⟨e, _⟩ | ⟨b1, cap, hG1, e, _, hrow⟩
              · exfalso
                have := HNP.out
                rw [e] at this
                simp at this
                omega
              simp only [Value.slice.injEq] at e
              obtain ⟨rfl, _, rfl⟩ := e
              have hb1 : b1 ≠ bD := fun e => by have := hG1.2.1; have := HCW.out; omega
              have hDb : bD ≠ b1 := fun e => hb1 e.symm
              have hDo : bD ≠ w5.heap.size := fun e => hoD e.symm
              have hDI : bD ≠ bI := fun e => hID e.symm
              have c1 := hc.cellOf (hrow.cell (i := k) (by rw [HNP.out]; exact hlt)) hb1
              have hrg := HBS.out k hlt
              obtain ⟨hi, hhi⟩ : ∃ hi, min (k * 8 + 8) L = hi := ⟨_, rfl⟩
              obtain ⟨lo, hlo⟩ : ∃ lo, k * 8 = lo := ⟨_, rfl⟩
              have hnl := HNL.out
              have hcne : ¬ cT = lo := by omega
              have hlohi : lo ≤ hi := by omega
              have hhc : hi ≤ cT := by omega
              have hhL : hi ≤ L := by omega
              have HMI : Hid (min (L : Int) (((k : Int) + 1) * 8) = (hi : Int)) := by unfold Hid; omega
              have hloI : (k : Int) * 8 = (lo : Int) := by omega
              have hwr1 : IntKind.i64.wrap ((k : Int) * 8) = (lo : Int) := by rw [IntKind.wrap_i64]; omega
              have hwr2 : IntKind.i64.wrap (lo : Int) = (lo : Int) := by rw [IntKind.wrap_i64]; omega
              have hle1 : (lo : Int) ≤ (hi : Int) := by omega
              have hle2 : (hi : Int) ≤ (cT : Int) := by omega
              have hT8 : (data.drop lo).take (hi - lo) = (data.drop (k * 8)).take 8 := by rw [← hlo]; exact take8 data k hi (by rw [HDL.out]; exact hhi)
              have hBT : Byt wr (.slice (cutA aT cT lo) (hi - lo) (cT - lo)) ((data.drop lo).take (hi - lo)) := cut_Y hhL hcT HDL.out (HTX.out wr HB8.out)
              rw [hT8] at hBT
              have HYL : Hid (((data.drop (k * 8)).take 8).length = hi - lo) := by
                unfold Hid
                rw [← hT8, List.length_take, List.length_drop, HDL.out]
                omega
              have HWR : Hid (∀ (y : Nat) (W : World) (v : Value), y < 20 → bs[k]?.getD 0 = (y : Int) → Below wr.heap.size wr W → BytO W v ((data.drop (k * 8)).take 8) (fresh wr W) → FsS (W.setCell ⟨bD, y, none⟩ v) bI n cI bD 20 cD (d.1.set j xj, putK Z bs data (k + 1)) (fun c => W0.heap.size ≤ c ∧ c ≠ g ∧ c ≠ w5.heap.size)) := fun y W v hy e hW hv =>
                FsS.wrt (d := (d.1.set j xj, Z)) HF.out hy e hW v hv (fun c hc' => by have := HL8.out; exact ⟨by omega, by omega, by omega⟩)
              have hlD : bD < wr.heap.size := HF.out.ne.2.2.2
              clear hT8 hnl hhi hlo hc hf xb xs p0 p1 hrow
              generalize bs[k]?.getD 0 = z at *
              generalize ((data.drop (k * 8)).take 8) = ys at *
              obtain ⟨y, rfl⟩ : ∃ y : Nat, z = (y : Int) := ⟨z.toNat, by omega⟩
              have hy : y < 20 := by omega
              have hyI : (y : Int) < 20 := by omega
              obtain ⟨ua, uc, d0, d1, _⟩ := HF.out.data y hy
              obtain ⟨v', X, hr, hwx, hbx⟩ := append_y (wr.drew.alloc (.cells #[] 5)) wr.heap.size (.slice (some ⟨wr.heap.size, 0, none⟩) 0 0) [] ys (cutA aT cT lo) (hi - lo) (cT - lo) (by
                have := WdY.lit0 wr.drew wr.heap.size (by simp)
                simpa using this) (by simp) (by simp) (by have := HYL.out; omega) (hBT.later ((Below.refl _ _).drew.trans ((later1 wr.drew _).mono (Nat.le_refl _))))
              rw [List.nil_append] at hwx
              obtain ⟨av, cv, rfl⟩ := hwx.shape
              unfold cutA at hr
              rw [if_neg hcne] at hr
              have hbX : Below wr.heap.size wr X := (Below.refl _ _).drew.trans (((later1 wr.drew _).mono (Nat.le_refl _)).trans hbx)
              have HNX : Hid (FsS (X.setCell ⟨bD, y, none⟩ (.slice av ys.length cv)) bI n cI bD 20 cD (d.1.set j xj, putK Z bs data (k + 1)) (fun c => W0.heap.size ≤ c ∧ c ≠ g ∧ c ≠ w5.heap.size)) := HWR.out y X _ hy rfl hbX (hwx.own (w0 := wr) (Nat.le_refl _))
              have HCX : Hid (Chg (fun c => c = bD) W7 (X.setCell ⟨bD, y, none⟩ (.slice av ys.length cv))) := Chg.set (F := fun c => c = bD) (HC.out.trans (Chg.of_below hbX)) rfl y _
              rw [HYL.out] at hr HNX HCX
              have HRN : Hid (_ = _) := hr
              have m1 := cell_later hbX q1
              have m3 := cell_later hbX q3
              have mb := cell_later hbX c1
              have md := cell_later hbX d0
              have mf := (hbX.frozen (p := ⟨bD, y, none⟩) hlD).trans d1
              clear hr hwx hbx hbX HWR hBT hrg
              generalize (putK Z bs data k)[y]?.getD [] = oldz at *
              go_wp2_with fail
              refine (l1Min_nat _ _ _ hi HMI.out).mono ?_
              rintro e w9 ⟨rfl, rfl⟩
              go_wp2_with fail
              go_region_held3 (fun W => W.cell? ⟨w5.heap.size, 1, none⟩ = some (.slice (some ⟨bD, 0, none⟩) 20 cD) ∧ W.cell? ⟨bI, j * 5 + 3, none⟩ = some (.slice (some ⟨b1, 0, none⟩) nP cp) ∧ W.cell? ⟨b1, k, none⟩ = some (.int .i64 (y : Int))) (go_keep) (first
                | (refine step_append_run rfl _ _ 26 rfl _ _ rfl rfl _ _ HRN.out ?_)
                | fail)
              all_goals
                go_wp2
                go_roundw
                case rel => exact ⟨k + 1, by omega, by go_num, HCX.out, HNX.out⟩
                case measure => simp [intOf]; omega
            · have e : nP = k := by omega
              subst e
              have r0 := hc.cellOf p0 hoD
              have hne8 := HF.out.ne
              have HFS : Hid (FsU wr (.slice (some ⟨bI, 0, none⟩) n cI) (.slice (some ⟨bD, 0, none⟩) 20 cD) (d.1.set j xj, putK Z bs data nP) (fun b => w.heap.size ≤ b ∧ b < wr.heap.size ∧ b ≠ w.heap.size + 1)) := hf.fsB.mono fun b hb => by have := HZ0.out; have := hb.1.1; exact ⟨by omega, hb.2, by omega⟩
              have hWr : Below W0.heap.size W0 wr := by
                have h1 := HBW.out
                have h2 : Below wc.heap.size wc wr := HB7.out.trans (hc.below HB7.out.size fun b hb => by have := HCW.out; omega)
                exact h1.trans (h2.mono h1.size)
              have hrr := HRS.out.later hWr
              have t0 : wr.cell? ⟨w.heap.size + 1, 0, none⟩ = some (.int .i64 0) := hrr.cell (i := 0) (by omega)
              have t1 : wr.cell? ⟨w.heap.size + 1, 1, none⟩ = some (.slice none 0 0) := hrr.cell (i := 1) (by omega)
              have t2 : wr.cell? ⟨w.heap.size + 1, 2, none⟩ = some (.slice none 0 0) := hrr.cell (i := 2) (by omega)
              have s0 := hrr.frozen 0
              have s1 := hrr.frozen 1
              have s2 := hrr.frozen 2
              clear hrr hc hf hWr hne8 xb xs p0 p1
              go_wp2
              exact bodyPost_ret (v := .agg #[.int .i64 0, .slice (some ⟨bI, 0, none⟩) n cI, .slice (some ⟨bD, 0, none⟩) 20 cD]) (by simp [results, Tryz.results22, go_sem, t0, t1, t2]) rfl (by rw [HR2.out]; exact AnsFR.put HB8.out (by omega) HFS.out _ _ _)
end Go.Proofs.YtjabimfinanjoaaGreat

namespace Go.Proofs.YtjabimfinanjoaaGreat
open Go.RowKit
set_option maxRecDepth 100000

theorem spanInos_each {ds : List ID} {m : Nat} (h : ∀ i : Nat, spanIno (ds[i]?.getD id0) ≤ m) : spanInos ds ≤ (3 + m) * ds.length := by
  unfold spanInos isp
  induction ds with
  | nil => simp
  | cons x ds ih =>
    have h0 := h 0
    have := ih fun i => by have := h (i + 1); simpa using this
    simp at h0
    simp only [List.map_cons, List.sum_cons, List.length_cons, Nat.mul_add, Nat.mul_one]
    omega
theorem fsF_spans {d : FD} (h : fsF d = 0) (i : Nat) : spanIno (d.1[i]?.getD id0) ≤ 16 := by
  obtain ⟨h1, _, _, _, _⟩ := fsE_zero (fsF_zero h)
  by_cases hi : i < d.1.length
  · have hz := ino_size (ins_ino h1 i hi)
    have h6 := ino_six (ins_ino h1 i hi)
    unfold spanIno
    omega
  · rw [List.getElem?_eq_none (by omega)]
    simp [spanIno, id0]
theorem set_span {ds : List ID} {m : Nat} (h : ∀ i : Nat, spanIno (ds[i]?.getD id0) ≤ m) (j : Nat) (x : ID) (hx : spanIno x ≤ m) (i : Nat) : spanIno ((ds.set j x)[i]?.getD id0) ≤ m := by
  rw [List.getElem?_set]
  by_cases e : j = i
  · rw [if_pos e]
    by_cases hl : j < ds.length
    · rw [if_pos hl]; exact hx
    · rw [if_neg hl]; simp [spanIno, id0]
  · rw [if_neg e]; exact h i
theorem noFs_span (c : Int) : spanFs (noFs c).2 = 0 := by simp [noFs, spanFs, spanInos, isp, ylens]
theorem dropR_span (d : FD) (x : Int) : spanFs (dropR d x).2 ≤ 1000 := by
  unfold dropR
  by_cases hc : (bytR d x).1 = 0
  · rw [if_pos hc]
    have hs := sound hc
    show spanFs (dropD d x.toNat) ≤ 1000
    unfold spanFs dropD
    have e1 := spanInos_each (set_span (fsF_spans hs.fs) x.toNat id0 (by simp [spanIno, id0]))
    have e2 := ylens_eight (clrK_le hs.eight (blkA d x.toNat) (blkA d x.toNat).length)
    rw [clrK_length, hs.dat] at e2
    rw [List.length_set] at e1
    have := hs.ten
    dsimp only
    omega
  · rw [if_neg hc, noFs_span]; omega
end Go.Proofs.YtjabimfinanjoaaGreat

namespace Go.Proofs.YtjabimfinanjoaaGreat
open Go.RowKit
set_option maxRecDepth 100000

theorem l7SetU (w : World) (a1 : Option Addr) (n1 c1 : Nat) (a2 : Option Addr) (n2 c2 : Nat) (d : FD) (j : Nat) (aT : Option Addr) (L cT : Nat) (data : List UInt8) (aB : Option Addr) (nB cB : Nat) (busy : List Int) (h : FsR w (.slice a1 n1 c1) (.slice a2 n2 c2) d) (ht : Byt w (.slice aT L cT) data) (hb : Ints w (.slice aB nB cB) busy) (hs : sizeFs d ≤ 1048576) (hbl : busy.length ≤ 1048576) (hsd : Sound d j) :
    Calls Tryz.prog 22 #[.agg #[.slice a1 n1 c1, .slice a2 n2 c2], .int .i64 (j : Int), .slice aT L cT, .slice aB nB cB] w (AnsFR w (setQ d j data busy)) := by
  have ht0 := ht
  obtain ⟨_, _, esh, _, _⟩ := ht0
  simp only [Value.slice.injEq] at esh
  obtain ⟨rfl, rfl, rfl⟩ := esh
  unfold setQ
  by_cases hL : data.length ≤ 32
  · rw [if_pos hL]
    exact l7Set_in w a1 n1 c1 a2 n2 c2 d j aT data.length cT data aB nB cB busy h ht hb hs hbl hsd hL _ rfl _ _ rfl
  · rw [if_neg hL]
    exact l7Set_long w a1 n1 c1 a2 n2 c2 j aT data.length cT _ hL
/-- What a callee answers is stored and answered. -/
theorem AnsFR.pass {w W W2 : World} {rb : Nat} {c : Int} {d : FD} {a1 a2 : Option Addr} {n1 c1 n2 c2 : Nat} (hB : Below w.heap.size w W) (hrb : w.heap.size ≤ rb) (hr : rb < W.heap.size) (hb : Below W.heap.size W W2) (h : FsU W2 (.slice a1 n1 c1) (.slice a2 n2 c2) d (fresh W W2)) (x y z : Value) : AnsFR w (c, d) (.returned (.agg #[.int .i64 c, .slice a1 n1 c1, .slice a2 n2 c2])) (((W2.setCell ⟨rb, 0, none⟩ x).setCell ⟨rb, 1, none⟩ y).setCell ⟨rb, 2, none⟩ z) :=
  AnsFR.put (hB.trans (hb.mono hB.size)) hrb (h.mono fun b hh => ⟨by have := hh.1; have := hB.size; omega, hh.2, by have := hh.1; omega⟩) x y z

set_option maxHeartbeats 3200000 in
theorem specSetU (w : World) (a1 : Option Addr) (n1 c1 : Nat) (a2 : Option Addr) (n2 c2 : Nat) (d : FD) (xx : Int) (aT : Option Addr) (L cT : Nat) (data : List UInt8) (aB : Option Addr) (nB cB : Nat) (busy : List Int) (h : FsR w (.slice a1 n1 c1) (.slice a2 n2 c2) d) (ht : Byt w (.slice aT L cT) data) (hb : Ints w (.slice aB nB cB) busy) (hs : sizeFs d ≤ 1048576) (_hl : data.length ≤ 1048576) (hbl : busy.length ≤ 1048576) :
    Calls Tryz.prog 5 #[.agg #[.slice a1 n1 c1, .slice a2 n2 c2], .int .i64 xx, .slice aT L cT, .slice aB nB cB] w (AnsFR w (setR d xx data busy)) := by
  have HB0 : Hid (Below w.heap.size w ((w.alloc (.cells #[.slice a1 n1 c1, .slice a2 n2 c2] 31)).alloc (.cells #[.int .i64 0, .slice none 0 0, .slice none 0 0] 33))) := later2 _ _ _
  have HBX : Hid (Bx ((w.alloc (.cells #[.slice a1 n1 c1, .slice a2 n2 c2] 31)).alloc (.cells #[.int .i64 0, .slice none 0 0, .slice none 0 0] 33)) w.heap.size [.slice a1 n1 c1, .slice a2 n2 c2]) := (Bx.new w [.slice a1 n1 c1, .slice a2 n2 c2] _).later (later1 _ _)
  have HRS : Hid (OwnRow ((w.alloc (.cells #[.slice a1 n1 c1, .slice a2 n2 c2] 31)).alloc (.cells #[.int .i64 0, .slice none 0 0, .slice none 0 0] 33)) (w.heap.size + 1) 3 (cel zero3)) := by
    have p2 := row3 (w.alloc (.cells #[.slice a1 n1 c1, .slice a2 n2 c2] 31)) 33
    rw [World.size_alloc] at p2
    exact p2
  have HAS : Hid (Calls Tryz.prog 21 #[.pointer (some ⟨w.heap.size, 0, none⟩), .int .i64 xx, .slice aB nB cB] ((w.alloc (.cells #[.slice a1 n1 c1, .slice a2 n2 c2] 31)).alloc (.cells #[.int .i64 0, .slice none 0 0, .slice none 0 0] 33)) fun e w' => e = .returned (.int .i64 (askR d xx busy)) ∧ Below ((w.alloc (.cells #[.slice a1 n1 c1, .slice a2 n2 c2] 31)).alloc (.cells #[.int .i64 0, .slice none 0 0, .slice none 0 0] 33)).heap.size ((w.alloc (.cells #[.slice a1 n1 c1, .slice a2 n2 c2] 31)).alloc (.cells #[.int .i64 0, .slice none 0 0, .slice none 0 0] 33)) w') := l7With_any _ _ d a1 n1 c1 a2 n2 c2 xx _ busy (HBX.out 0 _ rfl) (HBX.out 1 _ rfl) (h.later (later2 _ _ _)) hs (hb.later (later2 _ _ _))
  have HRR : Hid (setR d xx data busy = if askR d xx busy = 0 then setQ d xx.toNat data busy else noFs (askR d xx busy)) := rfl
  rw [HRR.out]
  clear HRR
  by_cases hc : askR d xx busy = 0
  rotate_left
  · rw [if_neg hc]
    have hcb : (askR d xx busy != 0) = true := by simpa using hc
    clear h hs hc ht hb
    go_enter Tryz.func5, Tryz.ntmps5
    go_wp2_with fail
    generalize ((w.alloc (.cells #[.slice a1 n1 c1, .slice a2 n2 c2] 31)).alloc (.cells #[.int .i64 0, .slice none 0 0, .slice none 0 0] 33)) = W0 at *
    refine HAS.out.mono ?_
    rintro e w1 ⟨rfl, hb1⟩
    have HB1 : Hid (Below w.heap.size w w1) := HB0.out.trans (hb1.mono HB0.out.size)
    have hrr := HRS.out.later hb1
    have t0 : w1.cell? ⟨w.heap.size + 1, 0, none⟩ = some (.int .i64 0) := hrr.cell (i := 0) (by omega)
    have t1 : w1.cell? ⟨w.heap.size + 1, 1, none⟩ = some (.slice none 0 0) := hrr.cell (i := 1) (by omega)
    have t2 : w1.cell? ⟨w.heap.size + 1, 2, none⟩ = some (.slice none 0 0) := hrr.cell (i := 2) (by omega)
    have s0 := hrr.frozen 0
    have s1 := hrr.frozen 1
    have s2 := hrr.frozen 2
    clear hb1 hrr
    generalize askR d xx busy = r at *
    go_wp2
    exact bodyPost_ret (v := .agg #[.int .i64 r, .slice none 0 0, .slice none 0 0]) (by simp [results, Tryz.results5, go_sem, t0, t1, t2]) rfl (AnsFR.none' r HB1.out (by omega) _ _ _)
  · rw [if_pos hc]
    rw [hc] at HAS
    have hbc := (askR_code hc).1
    have hsd := sound hbc
    obtain ⟨_, _, hpl, _, _⟩ := bytR_code hbc
    obtain ⟨j, rfl⟩ : ∃ j : Nat, xx = (j : Int) := ⟨xx.toNat, by omega⟩
    rw [Int.toNat_natCast] at hsd ⊢
    have HSE : Hid (∀ W, Below w.heap.size w W → Calls Tryz.prog 22 #[.agg #[.slice a1 n1 c1, .slice a2 n2 c2], .int .i64 (j : Int), .slice aT L cT, .slice aB nB cB] W (AnsFR W (setQ d j data busy))) := fun W hW => l7SetU W a1 n1 c1 a2 n2 c2 d j aT L cT data aB nB cB busy (h.later hW) (ht.later hW) (hb.later hW) hs hbl hsd
    clear h hs hc ht hb hsd hpl hbc
    generalize setQ d j data busy = sq at *
    obtain ⟨sc, sd⟩ := sq
    go_enter Tryz.func5, Tryz.ntmps5
    go_wp2_with fail
    generalize ((w.alloc (.cells #[.slice a1 n1 c1, .slice a2 n2 c2] 31)).alloc (.cells #[.int .i64 0, .slice none 0 0, .slice none 0 0] 33)) = W0 at *
    refine HAS.out.mono ?_
    rintro e w1 ⟨rfl, hb1⟩
    have HB1 : Hid (Below w.heap.size w w1) := HB0.out.trans (hb1.mono HB0.out.size)
    have HR1 : Hid (OwnRow w1 (w.heap.size + 1) 3 (cel zero3)) := HRS.out.later hb1
    have x0 := (HBX.out.later hb1) 0 _ rfl
    have x1 := (HBX.out.later hb1) 1 _ rfl
    have hlw : w.heap.size + 1 < w1.heap.size := HR1.out.lt
    clear hb1 HAS
    go_wp2_with fail
    refine (HSE.out _ HB1.out).mono ?_
    rintro e w2 ⟨b1, m1, k1, b2, m2, k2, rfl, hb2, hf2⟩
    have HB2 : Hid (Below w1.heap.size w1 w2) := hb2
    have HF2 : Hid (FsU w2 (.slice b1 m1 k1) (.slice b2 m2 k2) sd (fresh w1 w2)) := hf2
    have hrr := HR1.out.later hb2
    have t0 : w2.cell? ⟨w.heap.size + 1, 0, none⟩ = some (.int .i64 0) := hrr.cell (i := 0) (by omega)
    have t1 : w2.cell? ⟨w.heap.size + 1, 1, none⟩ = some (.slice none 0 0) := hrr.cell (i := 1) (by omega)
    have t2 : w2.cell? ⟨w.heap.size + 1, 2, none⟩ = some (.slice none 0 0) := hrr.cell (i := 2) (by omega)
    have s0 := hrr.frozen 0
    have s1 := hrr.frozen 1
    have s2 := hrr.frozen 2
    clear hb2 hf2 hrr x0 x1
    dsimp only
    go_wp2
    exact bodyPost_ret (v := .agg #[.int .i64 sc, .slice b1 m1 k1, .slice b2 m2 k2]) (by simp [results, Tryz.results5, go_sem, t0, t1, t2]) rfl (AnsFR.pass HB1.out (by omega) hlw HB2.out HF2.out _ _ _)

theorem setQ_span {d : FD} {j : Nat} (hs : Sound d j) (data : List UInt8) (busy : List Int) : spanFs (setQ d j data busy).2 ≤ 1000 := by
  unfold setQ
  by_cases hL : data.length ≤ 32
  · rw [if_pos hL]
    by_cases hp : (pickR d.1 busy (((data.length + 7) / 8 : Nat) : Int)).1 = 0
    · rw [if_pos hp]
      have hk := pick_ok hp
      show spanFs (setD d j _ data) ≤ 1000
      unfold spanFs setD
      have e1 := spanInos_each (set_span (fsF_spans hs.fs) j (setI d j (pickR d.1 busy (((data.length + 7) / 8 : Nat) : Int)).2 data.length) (by
        have he : (setI d j (pickR d.1 busy (((data.length + 7) / 8 : Nat) : Int)).2 data.length).2.2.2.2 = [] := hs.ent
        unfold spanIno
        rw [he]
        show (pickR d.1 busy (((data.length + 7) / 8 : Nat) : Int)).2.length + 2 * 0 ≤ 16
        omega))
      have e2 := ylens_eight (putK_le (clrK_le hs.eight (blkA d j) (blkA d j).length) (pickR d.1 busy (((data.length + 7) / 8 : Nat) : Int)).2 data (pickR d.1 busy (((data.length + 7) / 8 : Nat) : Int)).2.length)
      rw [putK_length, clrK_length, hs.dat] at e2
      rw [List.length_set] at e1
      have := hs.ten
      dsimp only
      omega
    · rw [if_neg hp, noFs_span]; omega
  · rw [if_neg hL, noFs_span]; omega
theorem setR_span (d : FD) (x : Int) (data : List UInt8) (busy : List Int) : spanFs (setR d x data busy).2 ≤ 1000 := by
  unfold setR
  by_cases hc : askR d x busy = 0
  · rw [if_pos hc]; exact setQ_span (sound (askR_code hc).1) data busy
  · rw [if_neg hc, noFs_span]; omega
end Go.Proofs.YtjabimfinanjoaaGreat

namespace Go.Proofs.YtjabimfinanjoaaGreat
open Go.RowKit
set_option maxRecDepth 100000

theorem Tryz.cellsU8V : Tryz.prog.cellsOf 5 = 1 := by kernel_rfl
theorem eqBytV {w : World} {v v' : Value} {zs : List UInt8} (h : Byt w v zs) (h' : Byt w v' zs) : Calls Tryz.prog 12 #[v, v'] w fun e w' => e = .returned (.bool true) ∧ Below w.heap.size w w' :=
  (eqBytU h h').mono fun _ _ ⟨h1, m, h2⟩ => ⟨h1, h2 ▸ below_drewN (Below.refl _ _) m⟩
theorem markBytV {w : World} {v : Value} {zs : List UInt8} {F : Nat → Prop} (k : Int) (h : BytO w v zs F) (hk0 : 0 ≤ k) (hk : k + (zs.length : Nat) ≤ 4611686018427387904) :
    Calls Tryz.prog 15 #[v, .int .i64 k] w fun e w' => e = .returned (.int .i64 (k + (zs.length : Nat))) ∧ Chg F w w' :=
  (markBytU k h hk0 hk).mono fun _ _ ⟨h1, _, h2⟩ => ⟨h1, h2⟩
end Go.Proofs.YtjabimfinanjoaaGreat

namespace Go.Proofs.YtjabimfinanjoaaGreat
open Go.ChangeShapes Go.WideShapes Go.ChangeAt Go.RowKit Go.Deep
set_option maxRecDepth 100000

section
variable {H : Type} {enc : TypeId × Value → H} {P : Program} {w : World} {base : Nat} {held : Bool}

theorem addr_of {a : Addr} {v : Value} (h : w.cell? (a.add 0) = some v) : a = ⟨a.block, a.off, none⟩ := by
  obtain ⟨b, o, s⟩ := a
  have : s = none := by simpa [Addr.add] using World.cell?_spot h
  subst this; rfl
theorem add_plain (b off k : Nat) : (⟨b, off, none⟩ : Addr).add k = ⟨b, off + k, none⟩ := by
  by_cases h : k = 0
  · subst h; simp [Addr.add]
  · simp [Addr.add, h]

theorem open_Ints {t e : TypeId} {fuel : Nat} {v : Value} {x : DataW H × List MemPlace} (ht : P.underlying t = some (.slice e)) (he : P.underlying e = some (.int .i64)) (ce : P.cellsOf e = 1) (h : DataW.trod enc P w base (fun _ => true) held fuel t [v] = some x) :
    ∃ zs, Ints w v zs := by
  rcases open_ints ht he ce h with ⟨hcs, _⟩ | ⟨a, len, cap, zs, hcs, _, hl, hm, hz, _, hcell, _⟩
  · simp only [List.cons.injEq, and_true] at hcs
    exact ⟨[], Or.inl ⟨rfl, none, 0, hcs⟩⟩
  · simp only [List.cons.injEq, and_true] at hcs
    simp only [if_true] at hz
    by_cases h0 : len = 0
    · subst h0; exact ⟨[], Or.inl ⟨rfl, some a, cap, hcs⟩⟩
    · have ha := addr_of (hcell 0 (by omega))
      refine ⟨zs.take len, Or.inr ⟨a.block, a.off, cap, ?_, ?_, fun k hk => ?_⟩⟩
      · rw [hcs, List.length_take, Nat.min_eq_left (by omega), ← ha]
      · rw [List.length_take]; omega
      · rw [List.length_take] at hk
        have h1 := hcell k (by omega)
        rw [ha, add_plain] at h1
        rw [h1, List.getElem?_take, if_pos (by omega)]
        rfl

theorem open_IntsS {t e q : TypeId} {fuel : Nat} {v : Value} {x : DataW H × List MemPlace} (ht : P.underlying t = some (.slice e)) (he : P.underlying e = some (.slice q)) (hq : P.underlying q = some (.int .i64)) (ce : P.cellsOf e = 1) (cq : P.cellsOf q = 1)
    (h : DataW.trod enc P w base (fun _ => true) held fuel t [v] = some x) : ∃ zss, IntsS w v zss := by
  rcases open_slice1 ht ce h with ⟨hcs, _⟩ | ⟨a, len, cap, m, n, V, D, Pl, hcs, _, hl, hm, hmm, _, hx⟩
  · simp only [List.cons.injEq, and_true] at hcs
    exact ⟨[], Or.inl ⟨rfl, none, 0, hcs⟩⟩
  · simp only [List.cons.injEq, and_true] at hcs
    simp only [if_true] at hmm
    by_cases h0 : len = 0
    · subst h0; exact ⟨[], Or.inl ⟨rfl, some a, cap, hcs⟩⟩
    · have ha := addr_of (hx 0 (by omega)).1
      obtain ⟨Z, hZ⟩ := choose_lt (α := List Int) (n := m) (p := fun i zs => Ints w (V i) zs) fun i hi => open_Ints he hq cq (hx i hi).2
      refine ⟨(List.range len).map Z, Or.inr ⟨a.block, a.off, cap, V, ?_, ?_, fun k hk => ?_⟩⟩
      · simp only [List.length_map, List.length_range]; rw [hcs, ← ha]
      · simp only [List.length_map, List.length_range]; omega
      · simp only [List.length_map, List.length_range] at hk
        have h1 := (hx k (by omega)).1
        rw [ha, add_plain] at h1
        refine ⟨h1, ?_⟩
        have := hZ k (by omega)
        simpa [hk] using this

theorem open_Puts {t e q : TypeId} {f0 f1 : Field} {fuel : Nat} {v : Value} {x : DataW H × List MemPlace} (ht : P.underlying t = some (.slice e)) (he : P.underlying e = some (.struct #[f0, f1]))
    (ce : P.cellsOf e = 2) (o0 : f0.offset = 0) (o1 : f1.offset = 1) (c0 : P.cellsOf f0.type = 1) (c1 : P.cellsOf f1.type = 1) (h0 : P.underlying f0.type = some (.int .i64)) (h1 : P.underlying f1.type = some (.slice q)) (hq : P.underlying q = some (.int .i64)) (cq : P.cellsOf q = 1)
    (h : DataW.trod enc P w base (fun _ => true) held fuel t [v] = some x) : ∃ ps, Puts w v ps := by
  rcases open_slice_pairs ht he ce o0 o1 c0 c1 h with ⟨hcs, _⟩ | ⟨a, len, cap, m, n, V0, V1, D0, D1, P0, P1, hcs, _, hl, hm, hmm, _, hx⟩
  · simp only [List.cons.injEq, and_true] at hcs
    exact ⟨[], Or.inl ⟨rfl, none, 0, hcs⟩⟩
  · simp only [List.cons.injEq, and_true] at hcs
    simp only [if_true] at hmm
    by_cases hl0 : len = 0
    · subst hl0; exact ⟨[], Or.inl ⟨rfl, some a, cap, hcs⟩⟩
    · have ha := addr_of (by simpa using (hx 0 (by omega)).1)
      obtain ⟨Z, hZ⟩ := choose_lt (α := Int × List Int) (n := m) (p := fun i z => V0 i = .int .i64 z.1 ∧ Ints w (V1 i) z.2) fun i hi => by
        obtain ⟨_, _, g0, g1⟩ := hx i hi
        obtain ⟨zs, hzs⟩ := open_Ints h1 hq cq g1
        obtain ⟨y, hy, _⟩ := DataW.trod_int h0 g0
        simp only [List.cons.injEq, and_true] at hy
        exact ⟨(y, zs), hy, hzs⟩
      refine ⟨(List.range len).map Z, Or.inr ⟨a.block, a.off, cap, V1, ?_, ?_, fun k hk => ?_⟩⟩
      · simp only [List.length_map, List.length_range]; rw [hcs, ← ha]
      · simp only [List.length_map, List.length_range]; omega
      · simp only [List.length_map, List.length_range] at hk
        obtain ⟨e0, e1, _, _⟩ := hx k (by omega)
        rw [ha, add_plain] at e0 e1
        obtain ⟨g0, g1⟩ := hZ k (by omega)
        rw [g0] at e0
        have hg : ((List.range len).map Z)[k]?.getD (0, []) = Z k := by simp [hk]
        rw [hg]
        exact ⟨e0, e1, g1⟩
end

end Go.Proofs.YtjabimfinanjoaaGreat

namespace Go.Proofs.YtjabimfinanjoaaGreat
open Go.ChangeShapes Go.WideShapes Go.ChangeAt Go.RowKit Go.Joins
set_option maxRecDepth 100000

theorem Tryz.own : ownKnob Tryz.prog.godebug = none := by kernel_rfl
theorem Tryz.laidOut : laidOutB Tryz.prog = true := by kernel_rfl
theorem Tryz.cellsInt : Tryz.prog.cellsOf 2 = 1 := by kernel_rfl
theorem Tryz.cellsInts : Tryz.prog.cellsOf 27 = 1 := by kernel_rfl

end Go.Proofs.YtjabimfinanjoaaGreat

namespace Go.Proofs.YtjabimfinanjoaaGreat
open Go.ChangeShapes Go.WideShapes Go.ChangeAt Go.RowKit Go.Joins Go.Deep
set_option maxRecDepth 100000

theorem open_Ents {H : Type} {enc : TypeId × Value → H} {P : Program} {w : World} {base : Nat} {held : Bool} {t e : TypeId} {f0 f1 : Field} {fuel : Nat} {v : Value} {x : DataW H × List MemPlace} (ht : P.underlying t = some (.slice e)) (he : P.underlying e = some (.struct #[f0, f1]))
    (ce : P.cellsOf e = 2) (o0 : f0.offset = 0) (o1 : f1.offset = 1) (c0 : P.cellsOf f0.type = 1) (c1 : P.cellsOf f1.type = 1) (h0 : P.underlying f0.type = some .string) (h1 : P.underlying f1.type = some (.int .i64))
    (h : DataW.trod enc P w base (fun _ => true) held fuel t [v] = some x) : ∃ es, Ents w v es := by
  rcases open_slice ht h with ⟨hcs, _⟩ | ⟨a, len, cap, m, n, D, Pl, hcs, hb, hl, hm, hmm, _, hx⟩
  · simp only [List.cons.injEq, and_true] at hcs
    exact ⟨[], by rw [hcs]; exact Ents.nil w none 0⟩
  · simp only [List.cons.injEq, and_true] at hcs
    simp only [if_true] at hmm
    by_cases hl0 : len = 0
    · subst hl0; exact ⟨[], by rw [hcs]; exact Ents.nil w (some a) cap⟩
    · have each : ∀ i, i < m → ∃ q : EN, w.cell? (a.add (i * 2)) = some (.string q.1) ∧ w.cell? (a.add (i * 2 + 1)) = some (.int .i64 q.2) ∧ q.1.size ≤ maxLen := by
        intro i hi
        obtain ⟨cs', k1, k2⟩ := hx i hi
        rw [ce] at k1
        obtain ⟨_, hlen, hcell⟩ := World.cells?_some k1
        obtain ⟨xs, k, hk, hxy, _, hxl, hf⟩ := DataW.trod_struct he k2
        match xs, hxl, cs', hlen with
        | [y0, y1], _, [v0, v1], _ =>
          have g0 := hf 0 f0 rfl
          have g1 := hf 1 f1 rfl
          simp [o0, o1, c0, c1] at g0 g1
          have e0 := hcell 0 (by omega)
          have e1 := hcell 1 (by omega)
          rw [add_add] at e0 e1
          obtain ⟨z0, hz0, _, hs⟩ := DataW.trod_string h0 g0
          obtain ⟨z1, hz1, _⟩ := DataW.trod_int h1 g1
          simp only [List.cons.injEq, and_true] at hz0 hz1
          subst hz0 hz1
          exact ⟨(z0, z1), by simpa using e0, by simpa using e1, hs⟩
      obtain ⟨q, hq⟩ := choose_lt each
      have ha := addr_of (by simpa using (hq 0 (by omega)).1)
      refine ⟨(List.range len).map q, some a, cap, ?_, ?_, fun k hk => ?_⟩
      · simp only [List.length_map, List.length_range]; exact hcs
      · simp only [List.length_map, List.length_range]
        refine ⟨by omega, by omega, fun k => ?_⟩
        by_cases hk : k < len
        · have hg : ((List.range len).map q)[k]?.getD en0 = q k := by simp [hk]
          rw [hg]
          exact (hq k (by omega)).2.2
        · rw [List.getElem?_eq_none (by simpa using Nat.le_of_not_lt hk)]
          simp [en0, ByteArray.size]
      · simp only [List.length_map, List.length_range] at hk
        obtain ⟨e0, e1, _⟩ := hq k (by omega)
        rw [ha, add_plain] at e0 e1
        have hg : ((List.range len).map q)[k]?.getD en0 = q k := by simp [hk]
        rw [hg]
        exact ⟨a.block, a.off, by rw [← ha], e0, e1⟩

theorem open_cap {H : Type} {enc : TypeId × Value → H} {P : Program} {w : World} {base : Nat} {held : Bool} {t e : TypeId} {fuel : Nat} {v : Value} {x : DataW H × List MemPlace} (ht : P.underlying t = some (.slice e)) (h : DataW.trod enc P w base (fun _ => true) held fuel t [v] = some x) : capOK v := by
  rcases DataW.trod_slice ht h with ⟨hcs, _⟩ | ⟨a, len, cap, _, _, _, _, hcs, _, _, hl, _⟩
  · simp only [List.cons.injEq, and_true] at hcs
    exact ⟨none, 0, 0, hcs, Nat.le_refl _⟩
  · simp only [List.cons.injEq, and_true] at hcs
    exact ⟨some a, len, cap, hcs, hl⟩
theorem Tryz.cellsStr : Tryz.prog.cellsOf 9 = 1 := by kernel_rfl
theorem Tryz.cellsEnt : Tryz.prog.cellsOf 117 = 2 := by kernel_rfl
theorem Tryz.cellsEnts : Tryz.prog.cellsOf 70 = 1 := by kernel_rfl
theorem Tryz.cellsIno : Tryz.prog.cellsOf 72 = 5 := by kernel_rfl
theorem array5 {α : Type} {a : Array α} (h : a.size = 5) : ∃ x0 x1 x2 x3 x4, a = #[x0, x1, x2, x3, x4] := by
  obtain ⟨l⟩ := a
  match l, h with
  | [x0, x1, x2, x3, x4], _ => exact ⟨x0, x1, x2, x3, x4, rfl⟩
theorem open_InoU {H : Type} {enc : TypeId × Value → H} {W : World} {r : Reach} {b0 : Nat} {v : Value} {d : DataW H} {p : List MemPlace} (hv : Value.okWide Tryz.prog W r b0 72 v) (h : DataW.Trod enc Tryz.prog W 0 (fun _ => true) true 72 v d p) :
    ∃ v0 v1 v2 vB vE id, v = .agg #[v0, v1, v2, vB, vE] ∧ InoR W v0 v1 v2 vB vE id := by
  obtain ⟨cs, rfl, hsz⟩ := okWide_struct Tryz.underlying72 hv
  obtain ⟨c0, c1, c2, c3, c4, rfl⟩ := array5 (hsz.trans Tryz.cellsIno)
  obtain ⟨fuel, hf⟩ := h
  obtain ⟨xs, k, hk, hxy, _, hxl, hg⟩ := DataW.trod_struct Tryz.underlying72 hf
  match xs, hxl with
  | [y0, y1, y2, y3, y4], _ =>
    have g0 : DataW.trod enc Tryz.prog W 0 (fun _ => true) true k 2 [c0] = some y0 := by simpa [Value.cells, Tryz.cellsInt] using hg 0 _ rfl
    have g1 : DataW.trod enc Tryz.prog W 0 (fun _ => true) true k 2 [c1] = some y1 := by simpa [Value.cells, Tryz.cellsInt] using hg 1 _ rfl
    have g2 : DataW.trod enc Tryz.prog W 0 (fun _ => true) true k 2 [c2] = some y2 := by simpa [Value.cells, Tryz.cellsInt] using hg 2 _ rfl
    have g3 : DataW.trod enc Tryz.prog W 0 (fun _ => true) true k 27 [c3] = some y3 := by simpa [Value.cells, Tryz.cellsInts] using hg 3 _ rfl
    have g4 : DataW.trod enc Tryz.prog W 0 (fun _ => true) true k 70 [c4] = some y4 := by simpa [Value.cells, Tryz.cellsEnts] using hg 4 _ rfl
    obtain ⟨z0, hz0, _⟩ := DataW.trod_int Tryz.underlying2 g0
    obtain ⟨z1, hz1, _⟩ := DataW.trod_int Tryz.underlying2 g1
    obtain ⟨z2, hz2, _⟩ := DataW.trod_int Tryz.underlying2 g2
    simp only [List.cons.injEq, and_true] at hz0 hz1 hz2
    obtain ⟨bs, hbs⟩ := open_Ints Tryz.underlying27 Tryz.underlying2 Tryz.cellsInt g3
    obtain ⟨es, hes⟩ := open_Ents Tryz.underlying70 Tryz.underlying117 Tryz.cellsEnt rfl rfl Tryz.cellsStr Tryz.cellsInt Tryz.underlying9 Tryz.underlying2 g4
    exact ⟨c0, c1, c2, c3, c4, (z0, z1, z2, bs, es), rfl, ⟨hz0, hz1, hz2, open_cap Tryz.underlying27 g3⟩, hbs, hes⟩
end Go.Proofs.YtjabimfinanjoaaGreat

namespace Go.Proofs.YtjabimfinanjoaaGreat
open Go.ChangeShapes Go.WideShapes Go.ChangeAt Go.RowKit Go.Joins Go.Deep
set_option maxRecDepth 100000

theorem open_Inos {H : Type} {enc : TypeId × Value → H} {w : World} {base : Nat} {held : Bool} {fuel : Nat} {v : Value} {x : DataW H × List MemPlace}
    (h : DataW.trod enc Tryz.prog w base (fun _ => true) held fuel 22 [v] = some x) : ∃ ds, Inos w v ds := by
  rcases open_slice Tryz.underlying22 h with ⟨hcs, _⟩ | ⟨a, len, cap, m, n, D, Pl, hcs, hb, hl, hm, hmm, _, hx⟩
  · simp only [List.cons.injEq, and_true] at hcs
    exact ⟨[], by rw [hcs]; exact Inos.nil w none 0⟩
  · simp only [List.cons.injEq, and_true] at hcs
    simp only [if_true] at hmm
    by_cases hl0 : len = 0
    · subst hl0; exact ⟨[], by rw [hcs]; exact Inos.nil w (some a) cap⟩
    · have each : ∀ i, i < m → ∃ q : ID, ∃ vB vE, w.cell? (a.add (i * 5)) = some (.int .i64 q.1) ∧ w.cell? (a.add (i * 5 + 1)) = some (.int .i64 q.2.1) ∧ w.cell? (a.add (i * 5 + 2)) = some (.int .i64 q.2.2.1) ∧ w.cell? (a.add (i * 5 + 3)) = some vB ∧ w.cell? (a.add (i * 5 + 4)) = some vE ∧ InoR w (.int .i64 q.1) (.int .i64 q.2.1) (.int .i64 q.2.2.1) vB vE q := by
        intro i hi
        obtain ⟨cs', k1, k2⟩ := hx i hi
        rw [Tryz.cellsIno] at k1
        obtain ⟨_, hlen, hcell⟩ := World.cells?_some k1
        obtain ⟨xs, k, hk, hxy, _, hxl, hg⟩ := DataW.trod_struct Tryz.underlying72 k2
        match xs, hxl, cs', hlen with
        | [y0, y1, y2, y3, y4], _, [c0, c1, c2, c3, c4], _ =>
          have g0 : DataW.trod enc Tryz.prog w base (fun _ => true) held k 2 [c0] = some y0 := by simpa [Tryz.cellsInt] using hg 0 _ rfl
          have g1 : DataW.trod enc Tryz.prog w base (fun _ => true) held k 2 [c1] = some y1 := by simpa [Tryz.cellsInt] using hg 1 _ rfl
          have g2 : DataW.trod enc Tryz.prog w base (fun _ => true) held k 2 [c2] = some y2 := by simpa [Tryz.cellsInt] using hg 2 _ rfl
          have g3 : DataW.trod enc Tryz.prog w base (fun _ => true) held k 27 [c3] = some y3 := by simpa [Tryz.cellsInts] using hg 3 _ rfl
          have g4 : DataW.trod enc Tryz.prog w base (fun _ => true) held k 70 [c4] = some y4 := by simpa [Tryz.cellsEnts] using hg 4 _ rfl
          have e0 := hcell 0 (by omega)
          have e1 := hcell 1 (by omega)
          have e2 := hcell 2 (by omega)
          have e3 := hcell 3 (by omega)
          have e4 := hcell 4 (by omega)
          rw [add_add] at e0 e1 e2 e3 e4
          obtain ⟨z0, hz0, _⟩ := DataW.trod_int Tryz.underlying2 g0
          obtain ⟨z1, hz1, _⟩ := DataW.trod_int Tryz.underlying2 g1
          obtain ⟨z2, hz2, _⟩ := DataW.trod_int Tryz.underlying2 g2
          simp only [List.cons.injEq, and_true] at hz0 hz1 hz2
          subst hz0 hz1 hz2
          obtain ⟨bs, hbs⟩ := open_Ints Tryz.underlying27 Tryz.underlying2 Tryz.cellsInt g3
          obtain ⟨es, hes⟩ := open_Ents Tryz.underlying70 Tryz.underlying117 Tryz.cellsEnt rfl rfl Tryz.cellsStr Tryz.cellsInt Tryz.underlying9 Tryz.underlying2 g4
          exact ⟨(z0, z1, z2, bs, es), c3, c4, by simpa using e0, by simpa using e1, by simpa using e2, by simpa using e3, by simpa using e4, ⟨rfl, rfl, rfl, open_cap Tryz.underlying27 g3⟩, hbs, hes⟩
      obtain ⟨q, hq⟩ := choose_lt each
      obtain ⟨_, _, hq0, _⟩ := hq 0 (by omega)
      have ha := addr_of (by simpa using hq0)
      refine ⟨(List.range len).map q, some a, cap, ?_, ?_, fun k hk => ?_⟩
      · simp only [List.length_map, List.length_range]; exact hcs
      · simp only [List.length_map, List.length_range]
        exact ⟨by omega, by omega⟩
      · simp only [List.length_map, List.length_range] at hk
        obtain ⟨vB, vE, e0, e1, e2, e3, e4, hR⟩ := hq k (by omega)
        rw [ha, add_plain] at e0 e1 e2 e3 e4
        have hg : ((List.range len).map q)[k]?.getD id0 = q k := by simp [hk]
        rw [hg]
        exact ⟨a.block, a.off, by rw [← ha], InoAt.mk' e0 e1 e2 e3 e4 hR⟩
end Go.Proofs.YtjabimfinanjoaaGreat

/- The specification's SetBytes: a file with other bytes, where they are few. The specification's DropFile: the walk; how great what is answered is. The specification's SetBytes: the contract; how great what is answered is. The program's CutFile and WriteFile. -/
import Derived.Test.YtjabimfinanjoabGreatM20
import Derived.Test.YtjabimfinanjoabGreatM19
namespace Go.Proofs.YtjabimfinanjoabGreat
open Go.RowKit
set_option maxRecDepth 100000

set_option maxHeartbeats 12800000 in
theorem l7Set_in (w : World) (a1 : Option Addr) (n1 c1 : Nat) (a2 : Option Addr) (n2 c2 : Nat) (d : FD) (j : Nat) (aT : Option Addr) (L cT : Nat) (data : List UInt8) (aB : Option Addr) (nB cB : Nat) (busy : List Int) (h : FsR w (.slice a1 n1 c1) (.slice a2 n2 c2) d) (ht : Byt w (.slice aT L cT) data) (hb : Ints w (.slice aB nB cB) busy) (hs : sizeFs d ≤ 1048576) (hbl : busy.length ≤ 1048576) (hsd : Sound d j) (hL : L ≤ 32) (k0 : Nat) (hk : (L + 7) / 8 = k0) (pc : Int) (bs : List Int) (hp : pickR d.1 busy (k0 : Int) = (pc, bs)) :
    Calls Tryz.prog 37 #[.agg #[.slice a1 n1 c1, .slice a2 n2 c2], .int .i64 (j : Int), .slice aT L cT, .slice aB nB cB] w (AnsFR w (if pc = 0 then (0, d.1.set j (setI d j bs L), putK (clrK d.2 (blkA d j) (blkA d j).length) bs data bs.length) else noFs pc)) := by
  have ht0 := ht
  obtain ⟨_, _, esh, hmT, _⟩ := ht0
  simp only [Value.slice.injEq] at esh
  obtain ⟨rfl, hdl, rfl⟩ := esh
  have hcT : L ≤ cT := by have := hmT.2; omega
  have HDL : Hid (data.length = L) := hdl.symm
  have HSD : Hid (Sound d j) := hsd
  have hsz : sizeInos d.1 ≤ 1048576 := by unfold sizeFs at hs; omega
  have HB0 : Hid (Below w.heap.size w ((w.alloc (.cells #[.slice a1 n1 c1, .slice a2 n2 c2] 31)).alloc (.cells #[.int .i64 0, .slice none 0 0, .slice none 0 0] 33))) := later2 _ _ _
  have HBX : Hid (Bx ((w.alloc (.cells #[.slice a1 n1 c1, .slice a2 n2 c2] 31)).alloc (.cells #[.int .i64 0, .slice none 0 0, .slice none 0 0] 33)) w.heap.size [.slice a1 n1 c1, .slice a2 n2 c2]) := (Bx.new w [.slice a1 n1 c1, .slice a2 n2 c2] _).later (later1 _ _)
  have HRS : Hid (OwnRow ((w.alloc (.cells #[.slice a1 n1 c1, .slice a2 n2 c2] 31)).alloc (.cells #[.int .i64 0, .slice none 0 0, .slice none 0 0] 33)) (w.heap.size + 1) 3 (cel zero3)) := by
    have p2 := row3 (w.alloc (.cells #[.slice a1 n1 c1, .slice a2 n2 c2] 31)) 33
    rw [World.size_alloc] at p2
    exact p2
  have hz0 : ((w.alloc (.cells #[.slice a1 n1 c1, .slice a2 n2 c2] 31)).alloc (.cells #[.int .i64 0, .slice none 0 0, .slice none 0 0] 33)).heap.size = w.heap.size + 2 := by simp
  have HSZ : Hid (sizeB (L : Int) = true) := by unfold Hid sizeB; simp; omega
  have HFO : Hid (∀ W, Calls Tryz.prog 77 #[.int .i64 (L : Int)] W fun e w' => e = .returned (.int .i64 (k0 : Int)) ∧ w' = W) := fun W => by
    have := l4For_any W (L : Int) (by omega) (by omega)
    rw [show ((L : Int) + 7) / 8 = (k0 : Int) by omega] at this
    exact this
  have HPK : Hid (∀ W, Below w.heap.size w W → Calls Tryz.prog 76 #[.slice a1 n1 c1, .slice aB nB cB, .int .i64 (k0 : Int)] W fun e w' => ∃ ap cp, e = .returned (.agg #[.int .i64 pc, .slice ap bs.length cp]) ∧ Below W.heap.size W w' ∧ IntsO w' (.slice ap bs.length cp) bs (fresh W w') ∧ bs.length ≤ cp) := fun W hW => by
    have := specPickC W a1 n1 c1 d.1 aB nB cB busy (k0 : Int) (h.1.later hW) (hb.later hW) hsz hbl
    rw [hp] at this
    refine this.mono ?_
    rintro e w' ⟨⟨ap, np, cp, rfl, hb1, ho⟩, hcap⟩
    have hcp : np ≤ cp := hcap _ _ _ _ rfl
    obtain ⟨_, _, en, _⟩ := ho.reads.open'
    simp only [Value.slice.injEq] at en
    obtain ⟨rfl, rfl, rfl⟩ := en
    exact ⟨ap, cp, rfl, hb1, ho, hcp⟩
  have HCP : Hid (∀ W, Below w.heap.size w W → Calls Tryz.prog 35 #[.agg #[.slice a1 n1 c1, .slice a2 n2 c2]] W (AnsFs W d)) := fun W hW => l6Copy_any W a1 n1 c1 a2 n2 c2 d (h.later hW) hs
  have HTX : Hid (∀ W, Below w.heap.size w W → Byt W (.slice aT L cT) data) := fun W hW => ht.later hW
  have HOK : Hid (pc = 0 → bs.length = k0 ∧ ∀ k : Nat, k < bs.length → 0 ≤ bs[k]?.getD 0 ∧ bs[k]?.getD 0 < 20) := fun e => by
    have := pick_ok (ds := d.1) (busy := busy) (n := k0) (by rw [hp]; exact e)
    rw [hp] at this
    exact this
  have HK4 : Hid ((L + 7) / 8 = k0) := hk
  generalize hRES : (if pc = 0 then ((0 : Int), d.1.set j (setI d j bs L), putK (clrK d.2 (blkA d j) (blkA d j).length) bs data bs.length) else noFs pc) = RES
  have HRES : Hid ((if pc = 0 then ((0 : Int), d.1.set j (setI d j bs L), putK (clrK d.2 (blkA d j) (blkA d j).length) bs data bs.length) else noFs pc) = RES) := hRES
  clear h ht hb hs hbl hsd hmT hdl hp hsz hk hRES
  go_enter Tryz.func37, Tryz.ntmps37
  go_wp2_with fail
  refine (l4Size_any _ _).mono ?_
  rw [HSZ.out]
  rintro e w1 ⟨rfl, rfl⟩
  generalize ((w.alloc (.cells #[.slice a1 n1 c1, .slice a2 n2 c2] 31)).alloc (.cells #[.int .i64 0, .slice none 0 0, .slice none 0 0] 33)) = W0 at *
  have x0 := HBX.out 0 _ rfl
  have x1 := HBX.out 1 _ rfl
  have hl0 : w.heap.size < W0.heap.size := by omega
  have HZ0 : Hid (W0.heap.size = w.heap.size + 2) := hz0
  clear hz0
  go_wp2_with fail
  go_cut [9] from 15 (fun s9 wx => ∃ g ap cp, s9 = .pointer (some ⟨g, 0, none⟩) ∧ Picked W0 wx pc bs g ap cp)
  case first =>
    go_wp2_with fail
    go_region_with (first
      | (go_at_call 77; refine (HFO.out _).mono ?_; rintro e w2 ⟨rfl, rfl⟩)
      | (go_at_call 76; refine (HPK.out W0.drew HB0.out.drew).mono ?_; rintro e w2 ⟨ap, cp, rfl, hb2, ho2, hc2⟩
         have HPA : Hid (∀ t, Picked W0 (w2.alloc (.cells #[.int .i64 pc, .slice ap bs.length cp] t)) pc bs w2.heap.size ap cp) := fun t => Picked.after (Below.refl _ _).drew hb2 ho2 hc2 t
         clear hb2 ho2 hc2)
      | (go_at_call 76; refine (HPK.out (W0.drew.alloc (.cells #[.int .i64 0, .slice none 0 0] 106)) (HB0.out.drew.trans ((later1 _ _).mono HB0.out.drew.size))).mono ?_; rintro e w2 ⟨ap, cp, rfl, hb2, ho2, hc2⟩
         have hrw := (box2 W0.drew 106).later hb2
         have t0 : w2.cell? ⟨W0.heap.size, 0, none⟩ = some (.int .i64 0) := hrw.cell (i := 0) (by omega)
         have t1 : w2.cell? ⟨W0.heap.size, 1, none⟩ = some (.slice none 0 0) := hrw.cell (i := 1) (by omega)
         have s0 : w2.frozen? ⟨W0.heap.size, 0, none⟩ = false := hrw.frozen 0
         have s1 : w2.frozen? ⟨W0.heap.size, 1, none⟩ = false := hrw.frozen 1
         have hlg : W0.heap.size < w2.heap.size := by have := hrw.lt; simpa using this
         have HPA : Hid (Picked W0 ((w2.setCell ⟨W0.heap.size, 0, none⟩ (.int .i64 pc)).setCell ⟨W0.heap.size, 1, none⟩ (.slice ap bs.length cp)) pc bs W0.heap.size ap cp) := Picked.ahead ((Below.refl _ _).drew.trans ((later1 W0.drew _).mono (Nat.le_refl _))) (Nat.le_refl _) (by simp) _ (box2 W0.drew 106) hb2 ho2 hc2
         clear hb2 ho2 hc2 hrw)
      | fail)
    all_goals
      go_wp2
      go_meet
      case rel => first | exact ⟨_, ap, cp, rfl, HPA.out _⟩ | exact ⟨_, ap, cp, rfl, HPA.out⟩
  case rest =>
    obtain ⟨g, ap, cp, rfl, hpk⟩ := hcut
    obtain ⟨hbW, hgW, hbx, hcp, hio⟩ := hpk
    have HBW : Hid (Below W0.heap.size W0 wc) := hbW
    have HBC : Hid (Below w.heap.size w wc) := HB0.out.trans (hbW.mono HB0.out.size)
    have HGB : Hid (Bx wc g [.int .i64 pc, .slice ap bs.length cp]) := hbx
    have HIO : Hid (IntsO wc (.slice ap bs.length cp) bs (fun c => W0.heap.size ≤ c ∧ c < wc.heap.size ∧ c ≠ g)) := hio
    have q0 := hbx 0 _ rfl
    have y0 := (HBX.out.later hbW) 0 _ rfl
    have y1 := (HBX.out.later hbW) 1 _ rfl
    have hl1 : w.heap.size < wc.heap.size := Nat.lt_of_lt_of_le hl0 hbW.size
    have hgl : g < wc.heap.size := hbx.lt
    have HGL : Hid (W0.heap.size ≤ g ∧ W0.heap.size ≤ wc.heap.size) := ⟨hgW, hbW.size⟩
    clear hbW hbx hio x0 x1 hgW HPK HFO
    by_cases hpc : pc = 0
    rotate_left
    · have hpb : (pc != 0) = true := by simpa using hpc
      have HR : Hid (RES = noFs pc) := by unfold Hid; rw [← HRES.out, if_neg hpc]
      have hrr := HRS.out.later HBW.out
      have t0 : wc.cell? ⟨w.heap.size + 1, 0, none⟩ = some (.int .i64 0) := hrr.cell (i := 0) (by omega)
      have t1 : wc.cell? ⟨w.heap.size + 1, 1, none⟩ = some (.slice none 0 0) := hrr.cell (i := 1) (by omega)
      have t2 : wc.cell? ⟨w.heap.size + 1, 2, none⟩ = some (.slice none 0 0) := hrr.cell (i := 2) (by omega)
      have s0 := hrr.frozen 0
      have s1 := hrr.frozen 1
      have s2 := hrr.frozen 2
      clear hrr hpc HRES
      go_wp2
      exact bodyPost_ret (v := .agg #[.int .i64 pc, .slice none 0 0, .slice none 0 0]) (by simp [results, Tryz.results37, go_sem, t0, t1, t2]) rfl (by rw [HR.out]; exact AnsFR.none' pc HBC.out (by omega) _ _ _)
    · subst hpc
      obtain ⟨hlk, hbs⟩ := HOK.out rfl
      have HBS : Hid (∀ k : Nat, k < bs.length → 0 ≤ bs[k]?.getD 0 ∧ bs[k]?.getD 0 < 20) := hbs
      have HLK : Hid (bs.length = k0) := hlk
      have HR : Hid (RES = (0, d.1.set j (setI d j bs L), putK (clrK d.2 (blkA d j) (blkA d j).length) bs data bs.length)) := by unfold Hid; rw [← HRES.out, if_pos rfl]
      clear hlk hbs HOK HRES
      go_wp2_with fail
      refine (HCP.out _ HBC.out).mono ?_
      rintro e w5 ⟨b1, m1, cI, b2, m2, cD, rfl, hb5, hf5⟩
      obtain ⟨bI, e1, bD, e2, eI, eD, hfs⟩ := FsS.of hf5 (by have := HSD.out.lt; omega) (by have := HSD.out.dat; omega)
      simp only [Value.slice.injEq] at eI eD
      obtain ⟨rfl, rfl, rfl⟩ := eI
      obtain ⟨rfl, rfl, rfl⟩ := eD
      rw [HSD.out.dat] at hfs
      rw [HSD.out.dat]
      have hB5 : Below w.heap.size w w5 := HBC.out.trans (hb5.mono HBC.out.size)
      have HB6 : Hid (Below wc.heap.size wc (w5.alloc (.cells #[.slice (some ⟨bI, 0, none⟩) d.1.length cI, .slice (some ⟨bD, 0, none⟩) 20 cD] 31))) := hb5.trans ((later1 _ _).mono hb5.size)
      have HF6 : Hid (FsS (w5.alloc (.cells #[.slice (some ⟨bI, 0, none⟩) d.1.length cI, .slice (some ⟨bD, 0, none⟩) 20 cD] 31)) bI d.1.length cI bD 20 cD d (fun c => wc.heap.size ≤ c ∧ c < w5.heap.size)) := hfs.later (later1 _ _)
      have HO6 : Hid (Bx (w5.alloc (.cells #[.slice (some ⟨bI, 0, none⟩) d.1.length cI, .slice (some ⟨bD, 0, none⟩) 20 cD] 31)) w5.heap.size [.slice (some ⟨bI, 0, none⟩) d.1.length cI, .slice (some ⟨bD, 0, none⟩) 20 cD]) := Bx.new w5 [.slice (some ⟨bI, 0, none⟩) d.1.length cI, .slice (some ⟨bD, 0, none⟩) 20 cD] _
      have HL6 : Hid (wc.heap.size ≤ w5.heap.size ∧ (w5.alloc (.cells #[.slice (some ⟨bI, 0, none⟩) d.1.length cI, .slice (some ⟨bD, 0, none⟩) 20 cD] 31)).heap.size = w5.heap.size + 1) := ⟨hb5.size, by simp⟩
      have hjn : j < d.1.length := HSD.out.lt
      have hn10 : d.1.length ≤ 10 := HSD.out.ten
      have hjI : (j : Int) < ((d.1.length : Nat) : Int) := by omega
      clear hb5 hf5 hfs hB5 HCP y0 y1 q0
      obtain ⟨n, hn⟩ : ∃ n, d.1.length = n := ⟨_, rfl⟩
      have HN : Hid (d.1.length = n) := hn
      rw [hn] at HB6 HF6 HO6 HL6 hjn hn10 hjI ⊢
      clear hn
      go_wp2_with fail
      generalize (w5.alloc (.cells #[.slice (some ⟨bI, 0, none⟩) n cI, .slice (some ⟨bD, 0, none⟩) 20 cD] 31)) = W6 at *
      obtain ⟨aX, cX, aE, cE, _, _, _, i3, _, _, _, i7⟩ := HF6.out.ino j hjn
      have hne := HF6.out.ne
      have hoI : w5.heap.size ≠ bI := fun e => by have := hne.2.1.1.2; omega
      have hoD : w5.heap.size ≠ bD := fun e => by have := hne.2.2.1.2; omega
      have hgD : g ≠ bD := fun e => by have := hne.2.2.1.1; omega
      have hID : bI ≠ bD := hne.1
      have HCW : Hid (wc.heap.size ≤ bI ∧ wc.heap.size ≤ bD) := ⟨hne.2.1.1.1, hne.2.2.1.1⟩
      have HBR : Hid (BlkR W6 bD aX (blkA d j)) := fun k hk => by
        obtain ⟨b, f1, _, _, f4, f5, f6⟩ := i7 k hk
        exact ⟨b, f1, f4, f5, f6⟩
      have HRG : Hid (∀ k : Nat, k < (blkA d j).length → 0 ≤ (blkA d j)[k]?.getD 0 ∧ (blkA d j)[k]?.getD 0 < 20) := HSD.out.blk
      have h4 := HSD.out.four
      replace i3 : W6.cell? ⟨bI, j * 5 + 3, none⟩ = some (.slice aX (blkA d j).length cX) := i3
      have o0 := HO6.out 0 _ rfl
      have o1 := HO6.out 1 _ rfl
      have g1 : W6.cell? ⟨g, 1, none⟩ = some (.slice ap bs.length cp) := (HGB.out.later HB6.out) 1 _ rfl
      have HENT : Hid ((d.1[j]?.getD id0).2.2.2.2 = []) := HSD.out.ent
      clear i7 hne HGB HO6
      generalize blkA d j = bo at *
      obtain ⟨nO, hnO⟩ : ∃ nO, bo.length = nO := ⟨_, rfl⟩
      have HNO : Hid (bo.length = nO) := hnO
      rw [hnO] at i3 HRG h4
      clear hnO
      go_loopw [12] (fun i wr => ∃ k : Nat, k ≤ nO ∧ i = .int .i64 k ∧ Chg (fun c => c = bD) W6 wr ∧ FsS wr bI n cI bD 20 cD (d.1, clrK d.2 bo k) (fun c => wc.heap.size ≤ c ∧ c < w5.heap.size)) (fun i _ => nO - (intOf i).toNat)
      case atStart => exact ⟨0, Nat.zero_le _, rfl, Chg.refl _ _, HF6.out⟩
      case round =>
        obtain ⟨k, hk, rfl, hc, hf⟩ := hrel
        have HC : Hid (Chg (fun c => c = bD) W6 wr) := hc
        have HF : Hid (FsS wr bI n cI bD 20 cD (d.1, clrK d.2 bo k) (fun c => wc.heap.size ≤ c ∧ c < w5.heap.size)) := hf
        have r1 := hc.cellOf o1 hoD
        have r3 := hc.cellOf i3 hID
        by_cases hlt : k < nO
        · obtain ⟨b1, rfl, hb1, _, c1⟩ := HBR.out k (by rw [HNO.out]; exact hlt)
          have c1r := HC.out.cellOf c1 hb1
          have hrg := HRG.out k hlt
          have HCL : Hid (∀ y : Nat, y < 20 → bo[k]?.getD 0 = (y : Int) → FsS (wr.setCell ⟨bD, y, none⟩ (.slice none 0 0)) bI n cI bD 20 cD (d.1, clrK d.2 bo (k + 1)) (fun c => wc.heap.size ≤ c ∧ c < w5.heap.size)) := fun y hy e => HF.out.clr hy e
          clear hc hf o0 o1 g1 i3
          generalize bo[k]?.getD 0 = x at *
          obtain ⟨y, rfl⟩ : ∃ y : Nat, x = (y : Int) := ⟨x.toNat, by omega⟩
          have hy : y < 20 := by omega
          have hyI : (y : Int) < 20 := by omega
          obtain ⟨ua, uc, d0, d1, _⟩ := HF.out.data y hy
          have HNX : Hid (FsS (wr.setCell ⟨bD, y, none⟩ (.slice none 0 0)) bI n cI bD 20 cD (d.1, clrK d.2 bo (k + 1)) (fun c => wc.heap.size ≤ c ∧ c < w5.heap.size)) := HCL.out y hy rfl
          have hDb : bD ≠ b1 := fun e => hb1 e.symm
          have hDo : bD ≠ w5.heap.size := fun e => hoD e.symm
          have hDI : bD ≠ bI := fun e => hID e.symm
          clear HCL hrg c1
          go_wp2_with fail
          go_region_held3 (fun W => W.cell? ⟨w5.heap.size, 1, none⟩ = some (.slice (some ⟨bD, 0, none⟩) 20 cD) ∧ W.cell? ⟨bI, j * 5 + 3, none⟩ = some (.slice (some ⟨b1, 0, none⟩) nO cX) ∧ W.cell? ⟨b1, k, none⟩ = some (.int .i64 (y : Int))) (go_keep) (fail)
          all_goals
            go_wp2
            go_roundw
            case rel => exact ⟨k + 1, by omega, by go_num, by first | exact HC.out.set rfl _ _ | exact (HC.out.set rfl _ _).trans (Chg.of_below (Below.refl _ _).drew) | exact (HC.out.trans (Chg.of_below (Below.refl _ _).drew)).set rfl _ _, by first | exact HNX.out | exact HNX.out.later (Below.refl _ _).drew⟩
            case measure => simp [intOf]; omega
        · have e : nO = k := by omega
          subst e
          obtain ⟨_, _, _, _, _, _, z2, z3, _, _, z6, _⟩ := HF.out.ino j hjn
          have z52 := z6 (j * 5 + 2)
          have z53 := z6 (j * 5 + 3)
          have gr1 := hc.cellOf g1 hgD
          have or0 := hc.cellOf o0 hoD
          have or1 := hc.cellOf o1 hoD
          have hszW : W6.heap.size ≤ wr.heap.size := hc.size
          have hL6 := HL6.out
          have hCW := HCW.out
          have hGL := HGL.out
          have HP : Hid (IntsO wr (.slice ap bs.length cp) bs (fun c => W0.heap.size ≤ c ∧ c < wc.heap.size ∧ c ≠ g)) := (HIO.out.later HB6.out).chg hc fun b hb e => by have := hb.2.1; omega
          have HT : Hid (FsS ((wr.setCell ⟨bI, j * 5 + 3, none⟩ (.slice ap bs.length cp)).setCell ⟨bI, j * 5 + 2, none⟩ (.int .i64 (L : Int))) bI n cI bD 20 cD (d.1.set j (setI d j bs L), clrK d.2 bo nO) (fun c => W0.heap.size ≤ c ∧ c ≠ g ∧ c ≠ w5.heap.size)) := (HF.out.two j hjn HENT.out bs L ap cp HP.out hcp (fun c hh => ⟨fun h2 => by have := h2.1; have := hh.2.1; omega, by have := hh.2.1; omega⟩)).mono fun c hh => by
            rcases hh with hh | hh
            · exact ⟨by omega, by omega, by omega⟩
            · exact ⟨hh.1, hh.2.2, by omega⟩
          have hC1 : Chg (fun c => c = bI) wr (wr.setCell ⟨bI, j * 5 + 3, none⟩ (.slice ap bs.length cp)) := Chg.set (F := fun c => c = bI) (Chg.refl _ wr) rfl (j * 5 + 3) (.slice ap bs.length cp)
          have hC2 : Chg (fun c => c = bI) wr ((wr.setCell ⟨bI, j * 5 + 3, none⟩ (.slice ap bs.length cp)).setCell ⟨bI, j * 5 + 2, none⟩ (.int .i64 (L : Int))) := Chg.set (F := fun c => c = bI) hC1 rfl (j * 5 + 2) (.int .i64 (L : Int))
          have HB7 : Hid (Below wc.heap.size wc ((wr.setCell ⟨bI, j * 5 + 3, none⟩ (.slice ap bs.length cp)).setCell ⟨bI, j * 5 + 2, none⟩ (.int .i64 (L : Int)))) := (HB6.out.trans (hc.below HB6.out.size fun b hb => by omega)).trans (hC2.below (by have := HB6.out.size; omega) fun b hb => by omega)
          have p0 := hC2.cellOf or0 hoI
          have p1 := hC2.cellOf or1 hoI
          have HP7 : Hid (IntsO ((wr.setCell ⟨bI, j * 5 + 3, none⟩ (.slice ap bs.length cp)).setCell ⟨bI, j * 5 + 2, none⟩ (.int .i64 (L : Int))) (.slice ap bs.length cp) bs (fun c => W0.heap.size ≤ c ∧ c < wc.heap.size ∧ c ≠ g)) := HP.out.chg hC2 fun b hb e => by have := hb.2.1; omega
          obtain ⟨uR, hRow⟩ : ∃ u, OwnRow wr bI (n * 5) (inCell d.1 u) := by
            obtain ⟨_, _, ⟨_, _, u, _, _, _, _, h4, _⟩, _⟩ := HF.out
            exact ⟨u, h4⟩
          have HROW : Hid (OwnRow wr bI (n * 5) (inCell d.1 uR)) := hRow
          clear hRow
          clear hc hf r1 z6 hC1 hC2 HP or0 or1 o0 o1 g1 i3 HF HC hL6 hCW hGL
          go_wp2_with fail
          have xb := ((HROW.out.set (j * 5 + 3) (.slice ap bs.length cp)).set (j * 5 + 2) (.int .i64 (L : Int))).cell (i := j * 5 + 3) (by omega)
          have xs := ((HROW.out.set (j * 5 + 3) (.slice ap bs.length cp)).set (j * 5 + 2) (.int .i64 (L : Int))).cell (i := j * 5 + 2) (by omega)
          simp at xb xs
          clear z2 z3 z52 z53 gr1 r3
          generalize ((wr.setCell ⟨bI, j * 5 + 3, none⟩ (.slice ap bs.length cp)).setCell ⟨bI, j * 5 + 2, none⟩ (.int .i64 (L : Int))) = W7 at *
          obtain ⟨nP, hnP⟩ : ∃ nP, bs.length = nP := ⟨_, rfl⟩
          have HNP : Hid (bs.length = nP) := hnP
          have hn4 : nP ≤ 4 := by have := HLK.out; have := HK4.out; omega
          have HNL : Hid (nP = (L + 7) / 8) := by unfold Hid; have := HLK.out; have := HK4.out; omega
          have HR2 : Hid (RES = (0, d.1.set j (setI d j bs L), putK (clrK d.2 bo nO) bs data nP)) := by
            have := HR.out
            rw [HNO.out, hnP] at this
            exact this
          rw [hnP] at HP7 xb HBS hcp
          clear hnP HR
          generalize setI d j bs L = xj at *
          generalize clrK d.2 bo nO = Z at *
          go_loopw [13] (fun i wr2 => ∃ k : Nat, k ≤ nP ∧ i = .int .i64 k ∧ Chg (fun c => c = bD) W7 wr2 ∧ FsS wr2 bI n cI bD 20 cD (d.1.set j xj, putK Z bs data k) (fun c => W0.heap.size ≤ c ∧ c ≠ g ∧ c ≠ w5.heap.size)) (fun i _ => nP - (intOf i).toNat)
          case atStart => exact ⟨0, Nat.zero_le _, rfl, Chg.refl _ _, HT.out⟩
          case round =>
            obtain ⟨k, hk, rfl, hc, hf⟩ := hrel
            have HC : Hid (Chg (fun c => c = bD) W7 wr) := hc
            have HF : Hid (FsS wr bI n cI bD 20 cD (d.1.set j xj, putK Z bs data k) (fun c => W0.heap.size ≤ c ∧ c ≠ g ∧ c ≠ w5.heap.size)) := hf
            have q1 := hc.cellOf p1 hoD
            have q3 := hc.cellOf xb hID
            have q2 := hc.cellOf xs hID
            have hCW := HCW.out
            have hB8 : Below wc.heap.size wc wr := HB7.out.trans (hc.below HB7.out.size fun b hb => by omega)
            have HB8 : Hid (Below w.heap.size w wr) := HBC.out.trans (hB8.mono HBC.out.size)
            have hl8 : W0.heap.size ≤ wr.heap.size ∧ g < wr.heap.size ∧ w5.heap.size < wr.heap.size := ⟨by have := HGL.out; have := hB8.size; omega, by have := hB8.size; omega, World.block_lt_of_cell? _ _ q1⟩
            have HL8 : Hid (W0.heap.size ≤ wr.heap.size ∧ g < wr.heap.size ∧ w5.heap.size < wr.heap.size) := hl8
            clear hl8 hB8 hCW
            by_cases hlt : k < nP
            · rcases HP7.out with ⟨e, _⟩ | ⟨b1, cap, hG1, e, _, hrow⟩
              · exfalso
                have := HNP.out
                rw [e] at this
                simp at this
                omega
              simp only [Value.slice.injEq] at e
              obtain ⟨rfl, _, rfl⟩ := e
              have hb1 : b1 ≠ bD := fun e => by have := hG1.2.1; have := HCW.out; omega
              have hDb : bD ≠ b1 := fun e => hb1 e.symm
              have hDo : bD ≠ w5.heap.size := fun e => hoD e.symm
              have hDI : bD ≠ bI := fun e => hID e.symm
              have c1 := hc.cellOf (hrow.cell (i := k) (by rw [HNP.out]; exact hlt)) hb1
              have hrg := HBS.out k hlt
              obtain ⟨hi, hhi⟩ : ∃ hi, min (k * 8 + 8) L = hi := ⟨_, rfl⟩
              obtain ⟨lo, hlo⟩ : ∃ lo, k * 8 = lo := ⟨_, rfl⟩
              have hnl := HNL.out
              have hcne : ¬ cT = lo := by omega
              have hlohi : lo ≤ hi := by omega
              have hhc : hi ≤ cT := by omega
              have hhL : hi ≤ L := by omega
              have HMI : Hid (min (L : Int) (((k : Int) + 1) * 8) = (hi : Int)) := by unfold Hid; omega
              have hloI : (k : Int) * 8 = (lo : Int) := by omega
              have hwr1 : IntKind.i64.wrap ((k : Int) * 8) = (lo : Int) := by rw [IntKind.wrap_i64]; omega
              have hwr2 : IntKind.i64.wrap (lo : Int) = (lo : Int) := by rw [IntKind.wrap_i64]; omega
              have hle1 : (lo : Int) ≤ (hi : Int) := by omega
              have hle2 : (hi : Int) ≤ (cT : Int) := by omega
              have hT8 : (data.drop lo).take (hi - lo) = (data.drop (k * 8)).take 8 := by rw [← hlo]; exact take8 data k hi (by rw [HDL.out]; exact hhi)
              have hBT : Byt wr (.slice (cutA aT cT lo) (hi - lo) (cT - lo)) ((data.drop lo).take (hi - lo)) := cut_Y hhL hcT HDL.out (HTX.out wr HB8.out)
              rw [hT8] at hBT
              have HYL : Hid (((data.drop (k * 8)).take 8).length = hi - lo) := by
                unfold Hid
                rw [← hT8, List.length_take, List.length_drop, HDL.out]
                omega
              have HWR : Hid (∀ (y : Nat) (W : World) (v : Value), y < 20 → bs[k]?.getD 0 = (y : Int) → Below wr.heap.size wr W → BytO W v ((data.drop (k * 8)).take 8) (fresh wr W) → FsS (W.setCell ⟨bD, y, none⟩ v) bI n cI bD 20 cD (d.1.set j xj, putK Z bs data (k + 1)) (fun c => W0.heap.size ≤ c ∧ c ≠ g ∧ c ≠ w5.heap.size)) := fun y W v hy e hW hv =>
                FsS.wrt (d := (d.1.set j xj, Z)) HF.out hy e hW v hv (fun c hc' => by have := HL8.out; exact ⟨by omega, by omega, by omega⟩)
              have hlD : bD < wr.heap.size := HF.out.ne.2.2.2
              clear hT8 hnl hhi hlo hc hf xb xs p0 p1 hrow
              generalize bs[k]?.getD 0 = z at *
              generalize ((data.drop (k * 8)).take 8) = ys at *
              obtain ⟨y, rfl⟩ : ∃ y : Nat, z = (y : Int) := ⟨z.toNat, by omega⟩
              have hy : y < 20 := by omega
              have hyI : (y : Int) < 20 := by omega
              obtain ⟨ua, uc, d0, d1, _⟩ := HF.out.data y hy
              obtain ⟨v', X, hr, hwx, hbx⟩ := append_y (wr.drew.alloc (.cells #[] 5)) wr.heap.size (.slice (some ⟨wr.heap.size, 0, none⟩) 0 0) [] ys (cutA aT cT lo) (hi - lo) (cT - lo) (by
                have := WdY.lit0 wr.drew wr.heap.size (by simp)
                simpa using this) (by simp) (by simp) (by have := HYL.out; omega) (hBT.later ((Below.refl _ _).drew.trans ((later1 wr.drew _).mono (Nat.le_refl _))))
              rw [List.nil_append] at hwx
              obtain ⟨av, cv, rfl⟩ := hwx.shape
              unfold cutA at hr
              rw [if_neg hcne] at hr
              have hbX : Below wr.heap.size wr X := (Below.refl _ _).drew.trans (((later1 wr.drew _).mono (Nat.le_refl _)).trans hbx)
              have HNX : Hid (FsS (X.setCell ⟨bD, y, none⟩ (.slice av ys.length cv)) bI n cI bD 20 cD (d.1.set j xj, putK Z bs data (k + 1)) (fun c => W0.heap.size ≤ c ∧ c ≠ g ∧ c ≠ w5.heap.size)) := HWR.out y X _ hy rfl hbX (hwx.own (w0 := wr) (Nat.le_refl _))
              have HCX : Hid (Chg (fun c => c = bD) W7 (X.setCell ⟨bD, y, none⟩ (.slice av ys.length cv))) := Chg.set (F := fun c => c = bD) (HC.out.trans (Chg.of_below hbX)) rfl y _
              rw [HYL.out] at hr HNX HCX
              have HRN : Hid (_ = _) := hr
              have m1 := cell_later hbX q1
              have m3 := cell_later hbX q3
              have mb := cell_later hbX c1
              have md := cell_later hbX d0
              have mf := (hbX.frozen (p := ⟨bD, y, none⟩) hlD).trans d1
              clear hr hwx hbx hbX HWR hBT hrg
              generalize (putK Z bs data k)[y]?.getD [] = oldz at *
              go_wp2_with fail
              refine (l1Min_nat _ _ _ hi HMI.out).mono ?_
              rintro e w9 ⟨rfl, rfl⟩
              go_wp2_with fail
              go_region_held3 (fun W => W.cell? ⟨w5.heap.size, 1, none⟩ = some (.slice (some ⟨bD, 0, none⟩) 20 cD) ∧ W.cell? ⟨bI, j * 5 + 3, none⟩ = some (.slice (some ⟨b1, 0, none⟩) nP cp) ∧ W.cell? ⟨b1, k, none⟩ = some (.int .i64 (y : Int))) (go_keep) (first
                | (refine step_append_run rfl _ _ 26 rfl _ _ rfl rfl _ _ HRN.out ?_)
                | fail)
              all_goals
                go_wp2
                go_roundw
                case rel => exact ⟨k + 1, by omega, by go_num, HCX.out, HNX.out⟩
                case measure => simp [intOf]; omega
            · have e : nP = k := by omega
              subst e
              have r0 := hc.cellOf p0 hoD
              have hne8 := HF.out.ne
              have HFS : Hid (FsU wr (.slice (some ⟨bI, 0, none⟩) n cI) (.slice (some ⟨bD, 0, none⟩) 20 cD) (d.1.set j xj, putK Z bs data nP) (fun b => w.heap.size ≤ b ∧ b < wr.heap.size ∧ b ≠ w.heap.size + 1)) := hf.fsB.mono fun b hb => by have := HZ0.out; have := hb.1.1; exact ⟨by omega, hb.2, by omega⟩
              have hWr : Below W0.heap.size W0 wr := by
                have h1 := HBW.out
                have h2 : Below wc.heap.size wc wr := HB7.out.trans (hc.below HB7.out.size fun b hb => by have := HCW.out; omega)
                exact h1.trans (h2.mono h1.size)
              have hrr := HRS.out.later hWr
              have t0 : wr.cell? ⟨w.heap.size + 1, 0, none⟩ = some (.int .i64 0) := hrr.cell (i := 0) (by omega)
              have t1 : wr.cell? ⟨w.heap.size + 1, 1, none⟩ = some (.slice none 0 0) := hrr.cell (i := 1) (by omega)
              have t2 : wr.cell? ⟨w.heap.size + 1, 2, none⟩ = some (.slice none 0 0) := hrr.cell (i := 2) (by omega)
              have s0 := hrr.frozen 0
              have s1 := hrr.frozen 1
              have s2 := hrr.frozen 2
              clear hrr hc hf hWr hne8 xb xs p0 p1
              go_wp2
              exact bodyPost_ret (v := .agg #[.int .i64 0, .slice (some ⟨bI, 0, none⟩) n cI, .slice (some ⟨bD, 0, none⟩) 20 cD]) (by simp [results, Tryz.results37, go_sem, t0, t1, t2]) rfl (by rw [HR2.out]; exact AnsFR.put HB8.out (by omega) HFS.out _ _ _)
end Go.Proofs.YtjabimfinanjoabGreat

namespace Go.Proofs.YtjabimfinanjoabGreat
open Go.RowKit
set_option maxRecDepth 100000

set_option maxHeartbeats 6400000 in
theorem specDropU (w : World) (a1 : Option Addr) (n1 c1 : Nat) (a2 : Option Addr) (n2 c2 : Nat) (d : FD) (xx : Int) (h : FsR w (.slice a1 n1 c1) (.slice a2 n2 c2) d) (hs : sizeFs d ≤ 1048576) :
    Calls Tryz.prog 25 #[.agg #[.slice a1 n1 c1, .slice a2 n2 c2], .int .i64 xx] w (AnsFR w (dropR d xx)) := by
  have HRR : Hid (dropR d xx = if (bytR d xx).1 = 0 then (0, dropD d xx.toNat) else noFs (bytR d xx).1) := rfl
  rw [HRR.out]
  clear HRR
  have HB0 : Hid (Below w.heap.size w ((w.alloc (.cells #[.slice a1 n1 c1, .slice a2 n2 c2] 31)).alloc (.cells #[.int .i64 0, .slice none 0 0, .slice none 0 0] 33))) := later2 _ _ _
  have HBX : Hid (Bx ((w.alloc (.cells #[.slice a1 n1 c1, .slice a2 n2 c2] 31)).alloc (.cells #[.int .i64 0, .slice none 0 0, .slice none 0 0] 33)) w.heap.size [.slice a1 n1 c1, .slice a2 n2 c2]) := (Bx.new w [.slice a1 n1 c1, .slice a2 n2 c2] _).later (later1 _ _)
  have HRS : Hid (OwnRow ((w.alloc (.cells #[.slice a1 n1 c1, .slice a2 n2 c2] 31)).alloc (.cells #[.int .i64 0, .slice none 0 0, .slice none 0 0] 33)) (w.heap.size + 1) 3 (cel zero3)) := by
    have p2 := row3 (w.alloc (.cells #[.slice a1 n1 c1, .slice a2 n2 c2] 31)) 33
    rw [World.size_alloc] at p2
    exact p2
  have HAS : Hid (Calls Tryz.prog 51 #[.pointer (some ⟨w.heap.size, 0, none⟩), .int .i64 xx] ((w.alloc (.cells #[.slice a1 n1 c1, .slice a2 n2 c2] 31)).alloc (.cells #[.int .i64 0, .slice none 0 0, .slice none 0 0] 33)) fun e w' => e = .returned (.int .i64 (bytR d xx).1) ∧ Below ((w.alloc (.cells #[.slice a1 n1 c1, .slice a2 n2 c2] 31)).alloc (.cells #[.int .i64 0, .slice none 0 0, .slice none 0 0] 33)).heap.size ((w.alloc (.cells #[.slice a1 n1 c1, .slice a2 n2 c2] 31)).alloc (.cells #[.int .i64 0, .slice none 0 0, .slice none 0 0] 33)) w') := l7Asked_any _ _ d a1 n1 c1 a2 n2 c2 xx (HBX.out 0 _ rfl) (HBX.out 1 _ rfl) (h.later (later2 _ _ _)) hs
  have HCP : Hid (∀ W, Below w.heap.size w W → Calls Tryz.prog 35 #[.agg #[.slice a1 n1 c1, .slice a2 n2 c2]] W (AnsFs W d)) := fun W hW => l6Copy_any W a1 n1 c1 a2 n2 c2 d (h.later hW) hs
  by_cases hc : (bytR d xx).1 = 0
  rotate_left
  · rw [if_neg hc]
    have hcb : ((bytR d xx).1 != 0) = true := by simpa using hc
    clear h hs hc HCP
    go_enter Tryz.func25, Tryz.ntmps25
    go_wp2_with fail
    generalize ((w.alloc (.cells #[.slice a1 n1 c1, .slice a2 n2 c2] 31)).alloc (.cells #[.int .i64 0, .slice none 0 0, .slice none 0 0] 33)) = W0 at *
    refine HAS.out.mono ?_
    rintro e w1 ⟨rfl, hb1⟩
    have HB1 : Hid (Below w.heap.size w w1) := HB0.out.trans (hb1.mono HB0.out.size)
    have hrr := HRS.out.later hb1
    have t0 : w1.cell? ⟨w.heap.size + 1, 0, none⟩ = some (.int .i64 0) := hrr.cell (i := 0) (by omega)
    have t1 : w1.cell? ⟨w.heap.size + 1, 1, none⟩ = some (.slice none 0 0) := hrr.cell (i := 1) (by omega)
    have t2 : w1.cell? ⟨w.heap.size + 1, 2, none⟩ = some (.slice none 0 0) := hrr.cell (i := 2) (by omega)
    have s0 := hrr.frozen 0
    have s1 := hrr.frozen 1
    have s2 := hrr.frozen 2
    clear hb1 hrr
    generalize (bytR d xx).1 = r at *
    go_wp2
    exact bodyPost_ret (v := .agg #[.int .i64 r, .slice none 0 0, .slice none 0 0]) (by simp [results, Tryz.results25, go_sem, t0, t1, t2]) rfl (AnsFR.none' r HB1.out (by omega) _ _ _)
  · rw [if_pos hc]
    have hsd := sound hc
    obtain ⟨_, _, hpl, _, _⟩ := bytR_code hc
    obtain ⟨j, rfl⟩ : ∃ j : Nat, xx = (j : Int) := ⟨xx.toNat, by omega⟩
    rw [Int.toNat_natCast] at hsd ⊢
    have HSD : Hid (Sound d j) := hsd
    have hcb : ((bytR d (j : Int)).1 != 0) = false := by simpa using hc
    clear h hs hc hpl hsd
    go_enter Tryz.func25, Tryz.ntmps25
    go_wp2_with fail
    generalize ((w.alloc (.cells #[.slice a1 n1 c1, .slice a2 n2 c2] 31)).alloc (.cells #[.int .i64 0, .slice none 0 0, .slice none 0 0] 33)) = W0 at *
    refine HAS.out.mono ?_
    rintro e w1 ⟨rfl, hb1⟩
    have HB1 : Hid (Below w.heap.size w w1) := HB0.out.trans (hb1.mono HB0.out.size)
    have HR1 : Hid (OwnRow w1 (w.heap.size + 1) 3 (cel zero3)) := HRS.out.later hb1
    have x0 := (HBX.out.later hb1) 0 _ rfl
    have x1 := (HBX.out.later hb1) 1 _ rfl
    have hlw : w.heap.size + 1 < w1.heap.size := HR1.out.lt
    clear hb1 HAS HBX HRS HB0
    generalize (bytR d (j : Int)).1 = r at *
    go_wp2_with fail
    refine (HCP.out _ HB1.out).mono ?_
    rintro e w2 ⟨b1, m1, cI, b2, m2, cD, rfl, hb2, hf2⟩
    obtain ⟨bI, e1, bD, e2, eI, eD, hfs⟩ := FsS.of hf2 (by have := HSD.out.lt; omega) (by rw [HSD.out.dat]; omega)
    simp only [Value.slice.injEq] at eI eD
    obtain ⟨rfl, rfl, rfl⟩ := eI
    obtain ⟨rfl, rfl, rfl⟩ := eD
    rw [HSD.out.dat] at hfs ⊢
    have hsz2 := hb2.size
    have HB2 : Hid (Below w.heap.size w (w2.alloc (.cells #[.slice (some ⟨bI, 0, none⟩) d.1.length cI, .slice (some ⟨bD, 0, none⟩) 20 cD] 31))) := (HB1.out.trans (hb2.mono HB1.out.size)).trans ((later1 _ _).mono (HB1.out.trans (hb2.mono HB1.out.size)).size)
    have HR2 : Hid (OwnRow (w2.alloc (.cells #[.slice (some ⟨bI, 0, none⟩) d.1.length cI, .slice (some ⟨bD, 0, none⟩) 20 cD] 31)) (w.heap.size + 1) 3 (cel zero3)) := (HR1.out.later hb2).later (later1 _ _)
    have HF2 : Hid (FsS (w2.alloc (.cells #[.slice (some ⟨bI, 0, none⟩) d.1.length cI, .slice (some ⟨bD, 0, none⟩) 20 cD] 31)) bI d.1.length cI bD 20 cD d (fun c => w1.heap.size ≤ c ∧ c < w2.heap.size)) := hfs.later (later1 _ _)
    have HX2 : Hid (Bx (w2.alloc (.cells #[.slice (some ⟨bI, 0, none⟩) d.1.length cI, .slice (some ⟨bD, 0, none⟩) 20 cD] 31)) w2.heap.size [.slice (some ⟨bI, 0, none⟩) d.1.length cI, .slice (some ⟨bD, 0, none⟩) 20 cD]) := Bx.new _ _ _
    clear hfs hf2 hb2 HCP HB1 HR1 x0 x1
    go_wp2_with fail
    refine (l7Drop_any _ w2.heap.size bI d.1.length cI bD cD d _ j (HX2.out 0 _ rfl) (HX2.out 1 _ rfl) HF2.out (by omega) rfl HSD.out).mono ?_
    rintro e w3 ⟨rfl, hc3, hf3⟩
    have hne := HF2.out.ne
    have HB3 : Hid (Below w.heap.size w w3) := HB2.out.trans (hc3.below HB2.out.size fun b hb => by rcases hb with rfl | rfl <;> omega)
    have hX3 := HX2.out.chg hc3 (fun h => by rcases h with h | h <;> omega)
    have y0 := hX3 0 _ rfl
    have y1 := hX3 1 _ rfl
    have hrr := HR2.out.block (hc3.block _ HR2.out.lt (fun h => by rcases h with h | h <;> omega))
    have t0 : w3.cell? ⟨w.heap.size + 1, 0, none⟩ = some (.int .i64 0) := hrr.cell (i := 0) (by omega)
    have t1 : w3.cell? ⟨w.heap.size + 1, 1, none⟩ = some (.slice none 0 0) := hrr.cell (i := 1) (by omega)
    have t2 : w3.cell? ⟨w.heap.size + 1, 2, none⟩ = some (.slice none 0 0) := hrr.cell (i := 2) (by omega)
    have s0 := hrr.frozen 0
    have s1 := hrr.frozen 1
    have s2 := hrr.frozen 2
    have HFS : Hid (FsU w3 (.slice (some ⟨bI, 0, none⟩) d.1.length cI) (.slice (some ⟨bD, 0, none⟩) 20 cD) (dropD d j) (fun b => w.heap.size ≤ b ∧ b < w3.heap.size ∧ b ≠ w.heap.size + 1)) := hf3.fsB.mono fun b hb => ⟨by omega, hb.2, by omega⟩
    clear hrr hc3 hf3 hX3 HX2 HF2 HR2 HB2
    go_wp2
    exact bodyPost_ret (v := .agg #[.int .i64 0, .slice (some ⟨bI, 0, none⟩) d.1.length cI, .slice (some ⟨bD, 0, none⟩) 20 cD]) (by simp [results, Tryz.results25, go_sem, t0, t1, t2]) rfl (AnsFR.put HB3.out (by omega) HFS.out _ _ _)

theorem spanInos_each {ds : List ID} {m : Nat} (h : ∀ i : Nat, spanIno (ds[i]?.getD id0) ≤ m) : spanInos ds ≤ (3 + m) * ds.length := by
  unfold spanInos isp
  induction ds with
  | nil => simp
  | cons x ds ih =>
    have h0 := h 0
    have := ih fun i => by have := h (i + 1); simpa using this
    simp at h0
    simp only [List.map_cons, List.sum_cons, List.length_cons, Nat.mul_add, Nat.mul_one]
    omega
theorem fsF_spans {d : FD} (h : fsF d = 0) (i : Nat) : spanIno (d.1[i]?.getD id0) ≤ 16 := by
  obtain ⟨h1, _, _, _, _⟩ := fsE_zero (fsF_zero h)
  by_cases hi : i < d.1.length
  · have hz := ino_size (ins_ino h1 i hi)
    have h6 := ino_six (ins_ino h1 i hi)
    unfold spanIno
    omega
  · rw [List.getElem?_eq_none (by omega)]
    simp [spanIno, id0]
theorem set_span {ds : List ID} {m : Nat} (h : ∀ i : Nat, spanIno (ds[i]?.getD id0) ≤ m) (j : Nat) (x : ID) (hx : spanIno x ≤ m) (i : Nat) : spanIno ((ds.set j x)[i]?.getD id0) ≤ m := by
  rw [List.getElem?_set]
  by_cases e : j = i
  · rw [if_pos e]
    by_cases hl : j < ds.length
    · rw [if_pos hl]; exact hx
    · rw [if_neg hl]; simp [spanIno, id0]
  · rw [if_neg e]; exact h i
theorem noFs_span (c : Int) : spanFs (noFs c).2 = 0 := by simp [noFs, spanFs, spanInos, isp, ylens]
theorem dropR_span (d : FD) (x : Int) : spanFs (dropR d x).2 ≤ 1000 := by
  unfold dropR
  by_cases hc : (bytR d x).1 = 0
  · rw [if_pos hc]
    have hs := sound hc
    show spanFs (dropD d x.toNat) ≤ 1000
    unfold spanFs dropD
    have e1 := spanInos_each (set_span (fsF_spans hs.fs) x.toNat id0 (by simp [spanIno, id0]))
    have e2 := ylens_eight (clrK_le hs.eight (blkA d x.toNat) (blkA d x.toNat).length)
    rw [clrK_length, hs.dat] at e2
    rw [List.length_set] at e1
    have := hs.ten
    dsimp only
    omega
  · rw [if_neg hc, noFs_span]; omega
end Go.Proofs.YtjabimfinanjoabGreat

namespace Go.Proofs.YtjabimfinanjoabGreat
open Go.RowKit
set_option maxRecDepth 100000

theorem l7SetU (w : World) (a1 : Option Addr) (n1 c1 : Nat) (a2 : Option Addr) (n2 c2 : Nat) (d : FD) (j : Nat) (aT : Option Addr) (L cT : Nat) (data : List UInt8) (aB : Option Addr) (nB cB : Nat) (busy : List Int) (h : FsR w (.slice a1 n1 c1) (.slice a2 n2 c2) d) (ht : Byt w (.slice aT L cT) data) (hb : Ints w (.slice aB nB cB) busy) (hs : sizeFs d ≤ 1048576) (hbl : busy.length ≤ 1048576) (hsd : Sound d j) :
    Calls Tryz.prog 37 #[.agg #[.slice a1 n1 c1, .slice a2 n2 c2], .int .i64 (j : Int), .slice aT L cT, .slice aB nB cB] w (AnsFR w (setQ d j data busy)) := by
  have ht0 := ht
  obtain ⟨_, _, esh, _, _⟩ := ht0
  simp only [Value.slice.injEq] at esh
  obtain ⟨rfl, rfl, rfl⟩ := esh
  unfold setQ
  by_cases hL : data.length ≤ 32
  · rw [if_pos hL]
    exact l7Set_in w a1 n1 c1 a2 n2 c2 d j aT data.length cT data aB nB cB busy h ht hb hs hbl hsd hL _ rfl _ _ rfl
  · rw [if_neg hL]
    exact l7Set_long w a1 n1 c1 a2 n2 c2 j aT data.length cT _ hL
/-- What a callee answers is stored and answered. -/
theorem AnsFR.pass {w W W2 : World} {rb : Nat} {c : Int} {d : FD} {a1 a2 : Option Addr} {n1 c1 n2 c2 : Nat} (hB : Below w.heap.size w W) (hrb : w.heap.size ≤ rb) (hr : rb < W.heap.size) (hb : Below W.heap.size W W2) (h : FsU W2 (.slice a1 n1 c1) (.slice a2 n2 c2) d (fresh W W2)) (x y z : Value) : AnsFR w (c, d) (.returned (.agg #[.int .i64 c, .slice a1 n1 c1, .slice a2 n2 c2])) (((W2.setCell ⟨rb, 0, none⟩ x).setCell ⟨rb, 1, none⟩ y).setCell ⟨rb, 2, none⟩ z) :=
  AnsFR.put (hB.trans (hb.mono hB.size)) hrb (h.mono fun b hh => ⟨by have := hh.1; have := hB.size; omega, hh.2, by have := hh.1; omega⟩) x y z

theorem setQ_span {d : FD} {j : Nat} (hs : Sound d j) (data : List UInt8) (busy : List Int) : spanFs (setQ d j data busy).2 ≤ 1000 := by
  unfold setQ
  by_cases hL : data.length ≤ 32
  · rw [if_pos hL]
    by_cases hp : (pickR d.1 busy (((data.length + 7) / 8 : Nat) : Int)).1 = 0
    · rw [if_pos hp]
      have hk := pick_ok hp
      show spanFs (setD d j _ data) ≤ 1000
      unfold spanFs setD
      have e1 := spanInos_each (set_span (fsF_spans hs.fs) j (setI d j (pickR d.1 busy (((data.length + 7) / 8 : Nat) : Int)).2 data.length) (by
        have he : (setI d j (pickR d.1 busy (((data.length + 7) / 8 : Nat) : Int)).2 data.length).2.2.2.2 = [] := hs.ent
        unfold spanIno
        rw [he]
        show (pickR d.1 busy (((data.length + 7) / 8 : Nat) : Int)).2.length + 2 * 0 ≤ 16
        omega))
      have e2 := ylens_eight (putK_le (clrK_le hs.eight (blkA d j) (blkA d j).length) (pickR d.1 busy (((data.length + 7) / 8 : Nat) : Int)).2 data (pickR d.1 busy (((data.length + 7) / 8 : Nat) : Int)).2.length)
      rw [putK_length, clrK_length, hs.dat] at e2
      rw [List.length_set] at e1
      have := hs.ten
      dsimp only
      omega
    · rw [if_neg hp, noFs_span]; omega
  · rw [if_neg hL, noFs_span]; omega
theorem setR_span (d : FD) (x : Int) (data : List UInt8) (busy : List Int) : spanFs (setR d x data busy).2 ≤ 1000 := by
  unfold setR
  by_cases hc : askR d x busy = 0
  · rw [if_pos hc]; exact setQ_span (sound (askR_code hc).1) data busy
  · rw [if_neg hc, noFs_span]; omega
end Go.Proofs.YtjabimfinanjoabGreat

namespace Go.Proofs.YtjabimfinanjoabGreat
open Go.RowKit
set_option maxRecDepth 100000

theorem askY_ok {d : FD} {x : Int} {busy : List Int} (h : askR d x busy = 0) : askY d x busy = (0, bytL d x.toNat) := by
  obtain ⟨h1, h2⟩ := askR_code h
  unfold askY
  rw [if_pos h1, if_pos h2]
theorem BytO.ofRow {w W : World} {g n : Nat} {zs : List UInt8} (h : OwnRow W g n (bytC zs)) (hz : zs.length = n) (hn : n ≤ 1048576) (hg : w.heap.size ≤ g) : BytO W (.slice (some ⟨g, 0, none⟩) n n) zs (fresh w W) := by
  subst hz
  exact Or.inr ⟨g, _, ⟨hg, h.lt⟩, rfl, ⟨by unfold maxLen; omega, Nat.le_refl _⟩, h⟩

set_option maxHeartbeats 6400000 in
theorem implCutFU (w : World) (a1 : Option Addr) (n1 c1 : Nat) (a2 : Option Addr) (n2 c2 : Nat) (d : FD) (xx q : Int) (aB : Option Addr) (nB cB : Nat) (busy : List Int) (h : FsR w (.slice a1 n1 c1) (.slice a2 n2 c2) d) (hb : Ints w (.slice aB nB cB) busy) (hs : sizeFs d ≤ 1048576) (hbl : busy.length ≤ 1048576) :
    Calls Tryz.prog 24 #[.agg #[.slice a1 n1 c1, .slice a2 n2 c2], .int .i64 xx, .int .i64 q, .slice aB nB cB] w (AnsFR w (cutR d xx q busy)) := by
  have HB0 : Hid (Below w.heap.size w ((w.alloc (.cells #[.slice a1 n1 c1, .slice a2 n2 c2] 31)).alloc (.cells #[.int .i64 0, .slice none 0 0, .slice none 0 0] 33))) := later2 _ _ _
  have HBX : Hid (Bx ((w.alloc (.cells #[.slice a1 n1 c1, .slice a2 n2 c2] 31)).alloc (.cells #[.int .i64 0, .slice none 0 0, .slice none 0 0] 33)) w.heap.size [.slice a1 n1 c1, .slice a2 n2 c2]) := (Bx.new w [.slice a1 n1 c1, .slice a2 n2 c2] _).later (later1 _ _)
  have HRS : Hid (OwnRow ((w.alloc (.cells #[.slice a1 n1 c1, .slice a2 n2 c2] 31)).alloc (.cells #[.int .i64 0, .slice none 0 0, .slice none 0 0] 33)) (w.heap.size + 1) 3 (cel zero3)) := by
    have p2 := row3 (w.alloc (.cells #[.slice a1 n1 c1, .slice a2 n2 c2] 31)) 33
    rw [World.size_alloc] at p2
    exact p2
  have HBY : Hid (∀ W, Below w.heap.size w W → Calls Tryz.prog 40 #[.agg #[.slice a1 n1 c1, .slice a2 n2 c2], .int .i64 xx, .slice aB nB cB] W (AnsYR W (askY d xx busy))) := fun W hW => bytesToWrite_any W a1 n1 c1 a2 n2 c2 d xx _ busy (h.later hW) hs (hb.later hW)
  have HSB : Hid (∀ (W : World) (aT : Option Addr) (L cT : Nat) (text : List UInt8), Below w.heap.size w W → Byt W (.slice aT L cT) text → text.length ≤ 1048576 → Calls Tryz.prog 44 #[.agg #[.slice a1 n1 c1, .slice a2 n2 c2], .int .i64 xx, .slice aT L cT, .slice aB nB cB] W (AnsFR W (setR d xx text busy))) := fun W aT L cT text hW ht hl => implSetU W a1 n1 c1 a2 n2 c2 d xx aT L cT text aB nB cB busy (h.later hW) ht (hb.later hW) hs hl hbl
  have HRR : Hid (cutR d xx q busy = if askR d xx busy = 0 then (if 0 ≤ q ∧ q ≤ 32 then setQ d xx.toNat (strY (bytL d xx.toNat) q.toNat) busy else noFs 3) else noFs (askR d xx busy)) := rfl
  rw [HRR.out]
  clear HRR
  by_cases hc : askR d xx busy = 0
  rotate_left
  · rw [if_neg hc]
    have hcb : ((askY d xx busy).1 != 0) = true := by rw [askY_code]; simpa using hc
    rw [← askY_code]
    clear h hs hc hb HSB
    go_enter Tryz.func24, Tryz.ntmps24
    go_wp2_with fail
    generalize ((w.alloc (.cells #[.slice a1 n1 c1, .slice a2 n2 c2] 31)).alloc (.cells #[.int .i64 0, .slice none 0 0, .slice none 0 0] 33)) = W0 at *
    refine (HBY.out _ HB0.out).mono ?_
    rintro e w1 ⟨ay, ny, cy, rfl, hb1, _⟩
    have HB1 : Hid (Below w.heap.size w w1) := HB0.out.trans (hb1.mono HB0.out.size)
    have hrr := HRS.out.later hb1
    have t0 : w1.cell? ⟨w.heap.size + 1, 0, none⟩ = some (.int .i64 0) := hrr.cell (i := 0) (by omega)
    have t1 : w1.cell? ⟨w.heap.size + 1, 1, none⟩ = some (.slice none 0 0) := hrr.cell (i := 1) (by omega)
    have t2 : w1.cell? ⟨w.heap.size + 1, 2, none⟩ = some (.slice none 0 0) := hrr.cell (i := 2) (by omega)
    have s0 := hrr.frozen 0
    have s1 := hrr.frozen 1
    have s2 := hrr.frozen 2
    have hlw : w.heap.size + 1 < w1.heap.size := hrr.lt
    clear hb1 hrr
    generalize (askY d xx busy).1 = r at *
    go_wp2
    exact bodyPost_ret (v := .agg #[.int .i64 r, .slice none 0 0, .slice none 0 0]) (by simp [results, Tryz.results24, go_sem, t0, t1, t2, hlw]) rfl ((AnsFR.none' r HB1.out (by omega) _ _ _).later (later1 _ _))
  · rw [if_pos hc]
    have HSR : Hid (∀ text, setR d xx text busy = setQ d xx.toNat text busy) := fun text => by unfold setR; rw [if_pos hc]
    rw [askY_ok hc] at HBY
    clear h hs hc hb
    generalize bytL d xx.toNat = zs at *
    by_cases hq : 0 ≤ q ∧ q ≤ 32
    rotate_left
    · rw [if_neg hq]
      have step : ∀ P : Prop, (decide (q < 0) = true → P) → (decide (q < 0) = false → decide (32 < q) = true → P) → P := fun P h1 h2 => by
        by_cases h0 : q < 0
        · exact h1 (by simpa using h0)
        · exact h2 (by simpa using h0) (by simp; omega)
      clear hq HSB HSR
      apply step
      all_goals
        intros
        clear step
        go_enter Tryz.func24, Tryz.ntmps24
        go_wp2_with fail
        generalize ((w.alloc (.cells #[.slice a1 n1 c1, .slice a2 n2 c2] 31)).alloc (.cells #[.int .i64 0, .slice none 0 0, .slice none 0 0] 33)) = W0 at *
        refine (HBY.out _ HB0.out).mono ?_
        rintro e w1 ⟨ay, ny, cy, rfl, hb1, ho1⟩
        have HB1 : Hid (Below w.heap.size w w1) := HB0.out.trans (hb1.mono HB0.out.size)
        have HR1 : Hid (OwnRow w1 (w.heap.size + 1) 3 (cel zero3)) := HRS.out.later hb1
        have hlw : w.heap.size + 1 < w1.heap.size := HR1.out.lt
        have hrr := HR1.out
        have t0 : w1.cell? ⟨w.heap.size + 1, 0, none⟩ = some (.int .i64 0) := hrr.cell (i := 0) (by omega)
        have t1 : w1.cell? ⟨w.heap.size + 1, 1, none⟩ = some (.slice none 0 0) := hrr.cell (i := 1) (by omega)
        have t2 : w1.cell? ⟨w.heap.size + 1, 2, none⟩ = some (.slice none 0 0) := hrr.cell (i := 2) (by omega)
        have s0 := hrr.frozen 0
        have s1 := hrr.frozen 1
        have s2 := hrr.frozen 2
        clear hb1 hrr ho1
        dsimp only
        go_wp2
        exact bodyPost_ret (v := .agg #[.int .i64 3, .slice none 0 0, .slice none 0 0]) (by simp [results, Tryz.results24, go_sem, t0, t1, t2, hlw]) rfl ((AnsFR.none' 3 HB1.out (by omega) _ _ _).later (later1 _ _))
    · rw [if_pos hq]
      obtain ⟨nq, rfl⟩ : ∃ nq : Nat, q = (nq : Int) := ⟨q.toNat, by omega⟩
      rw [Int.toNat_natCast]
      have hn32 : nq ≤ 32 := by omega
      have h0 : decide ((nq : Int) < 0) = false := by simp
      have h1 : decide ((32 : Int) < (nq : Int)) = false := by simp; omega
      clear hq
      rw [← HSR.out]
      generalize hsr : setR d xx (strY zs nq) busy = sr at *
      have HSRR : Hid (setR d xx (strY zs nq) busy = sr) := hsr
      clear hsr HSR
      obtain ⟨sc, sd⟩ := sr
      go_enter Tryz.func24, Tryz.ntmps24
      go_wp2_with fail
      generalize ((w.alloc (.cells #[.slice a1 n1 c1, .slice a2 n2 c2] 31)).alloc (.cells #[.int .i64 0, .slice none 0 0, .slice none 0 0] 33)) = W0 at *
      refine (HBY.out _ HB0.out).mono ?_
      rintro e w1 ⟨ay, ny, cy, rfl, hb1, ho1⟩
      have HB1 : Hid (Below w.heap.size w w1) := HB0.out.trans (hb1.mono HB0.out.size)
      have HR1 : Hid (OwnRow w1 (w.heap.size + 1) 3 (cel zero3)) := HRS.out.later hb1
      have hlw : w.heap.size + 1 < w1.heap.size := HR1.out.lt
      have HO1 : Hid (Byt w1 (.slice ay ny cy) zs) := ho1.reads
      have HX1 : Hid (Bx w1 w.heap.size [.slice a1 n1 c1, .slice a2 n2 c2]) := HBX.out.later hb1
      clear hb1 ho1
      dsimp only
      have HB1' : Hid (Below w.heap.size w (w1.alloc (.cells #[.int .i64 0, .slice ay ny cy] 66))) := HB1.out.trans ((later1 _ _).mono HB1.out.size)
      have HR1' : Hid (OwnRow (w1.alloc (.cells #[.int .i64 0, .slice ay ny cy] 66)) (w.heap.size + 1) 3 (cel zero3)) := HR1.out.later (later1 _ _)
      have HX1' : Hid (Bx (w1.alloc (.cells #[.int .i64 0, .slice ay ny cy] 66)) w.heap.size [.slice a1 n1 c1, .slice a2 n2 c2]) := HX1.out.later (later1 _ _)
      have HY1' : Hid (Bx (w1.alloc (.cells #[.int .i64 0, .slice ay ny cy] 66)) w1.heap.size [.int .i64 0, .slice ay ny cy]) := Bx.new w1 [.int .i64 0, .slice ay ny cy] _
      have HO1' : Hid (Byt (w1.alloc (.cells #[.int .i64 0, .slice ay ny cy] 66)) (.slice ay ny cy) zs) := HO1.out.later (later1 _ _)
      go_wp2_with fail
      generalize (w1.alloc (.cells #[.int .i64 0, .slice ay ny cy] 66)) = W1 at *
      have x0 := HX1'.out 0 _ rfl
      have x1 := HX1'.out 1 _ rfl
      have z0 := HY1'.out 0 _ rfl
      have z1 := HY1'.out 1 _ rfl
      go_region_with (first
        | (go_at_call 43; refine (stretched_any _ _ zs _ nq rfl (HO1'.out.later (Below.refl _ _).drew) (by omega)).mono ?_; rintro e w2 ⟨rfl, hb2, hr2⟩
           have HB2 : Hid (Below W1.heap.size W1 w2) := (Below.refl _ _).drew.trans hb2
           have HBT : Hid (Byt w2 (.slice (some ⟨W1.heap.size, 0, none⟩) nq nq) (strY zs nq)) := (BytO.ofRow (w := W1.drew) hr2 (strY_len zs nq) (by omega) (Nat.le_refl _)).reads
           have y0 := (HX1'.out.later HB2.out) 0 _ rfl
           have y1 := (HX1'.out.later HB2.out) 1 _ rfl
           clear hb2 hr2)
        | (go_at_call 44; refine (HSB.out w2 _ _ _ (strY zs nq) (HB1'.out.trans (HB2.out.mono HB1'.out.size)) HBT.out (by rw [strY_len]; omega)).mono ?_; rw [HSRR.out]; rintro e w3 ⟨b1, m1, k1, b2, m2, k2, rfl, hb3, hf3⟩
           have HB3 : Hid (Below w2.heap.size w2 w3) := hb3
           have HF3 : Hid (FsU w3 (.slice b1 m1 k1) (.slice b2 m2 k2) sd (fresh w2 w3)) := hf3
           have hrr := (HR1'.out.later HB2.out).later hb3
           have t0 : w3.cell? ⟨w.heap.size + 1, 0, none⟩ = some (.int .i64 0) := hrr.cell (i := 0) (by omega)
           have t1 : w3.cell? ⟨w.heap.size + 1, 1, none⟩ = some (.slice none 0 0) := hrr.cell (i := 1) (by omega)
           have t2 : w3.cell? ⟨w.heap.size + 1, 2, none⟩ = some (.slice none 0 0) := hrr.cell (i := 2) (by omega)
           have s0 := hrr.frozen 0
           have s1 := hrr.frozen 1
           have s2 := hrr.frozen 2
           have HLW : Hid (w.heap.size + 1 < w2.heap.size) := (HR1'.out.later HB2.out).lt
           clear hb3 hf3 hrr)
        | fail)
      all_goals
        go_wp2
        exact bodyPost_ret (v := .agg #[.int .i64 sc, .slice b1 m1 k1, .slice b2 m2 k2]) (by simp [results, Tryz.results24, go_sem, t0, t1, t2]) rfl (AnsFR.pass (HB1'.out.trans (HB2.out.mono HB1'.out.size)) (by omega) HLW.out HB3.out HF3.out _ _ _)

end Go.Proofs.YtjabimfinanjoabGreat

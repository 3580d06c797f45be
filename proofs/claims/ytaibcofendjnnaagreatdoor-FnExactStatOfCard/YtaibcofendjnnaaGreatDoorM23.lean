/- A directory's entry that is entered or struck where it lies. The program's AddName. The program's WalkParent. -/
import Derived.Test.YtaibcofendjnnaaGreatDoorM22
import Derived.Test.YtaibcofendjnnaaGreatDoorM20
import Derived.Deep.Cut
import Derived.Deep.CutRange
namespace Go.Proofs.YtaibcofendjnnaaGreatDoor
open Go.RowKit
set_option maxRecDepth 100000

set_option maxHeartbeats 800000 in
theorem hasMax_any (w : World) (x0 x1 x2 : Int) (v3 : Value) (a : Option Addr) (n c : Nat) (hn : n ≤ 1048576) : Calls Tryz.prog 77 #[.agg #[.int .i64 x0, .int .i64 x1, .int .i64 x2, v3, .slice a n c]] w fun e w' => e = .returned (.bool (decide (n = 6))) ∧ Below w.heap.size w w' := by
  have hd : decide (n = 6) = ((n : Int) == 6) := by
    by_cases h : n = 6
    · subst h; rfl
    · rw [decide_eq_false h]; exact (beq_eq_false_iff_ne.2 (by omega)).symm
  rw [hd]
  clear hd
  go_enter Tryz.func77, Tryz.ntmps77
  go_wp2
  go_ret
  exact ⟨rfl, later1 _ _⟩

set_option maxHeartbeats 3200000 in
theorem enter_any (w : World) (bI n cI bD cD : Nat) (d : FD) (F : Nat → Prop) (j : Nat) (s : ByteArray) (y : Int) (hfs : FsS w bI n cI bD 20 cD d F) (hj : j < n) (h6 : (entA d j).length ≤ 6) (hs : s.size ≤ maxLen) (hblk : (d.1[j]?.getD id0).2.2.2.1 = []) :
    Calls Tryz.prog 79 #[.pointer (some ⟨bI, j * 5, none⟩), .string s, .int .i64 y] w fun e w' => e = .returned (.tuple #[]) ∧ FsS w' bI n cI bD 20 cD (entD d j (insE (entA d j) (plcE (entA d j) s) (s, y))) (fun c => F c ∨ w.heap.size ≤ c) ∧ Chg (fun c => c = bI) w w' := by
  obtain ⟨hlen, -⟩ := hfs.len
  obtain ⟨aB', cB', aE, cE, -, -, -, -, c4, hEn⟩ := FsR.five hfs.fs.reads (j := j) (by omega)
  rw [Nat.zero_add] at c4
  have HEN : Hid (Ents w (.slice aE (entA d j).length cE) (entA d j)) := hEn
  obtain ⟨_, _, _, _, -, -, -, -, -, -, i6, -⟩ := hfs.ino j hj
  have HC4 : Hid (w.cell? ⟨bI, j * 5 + 4, none⟩ = some (Value.slice aE (entA d j).length cE)) := c4
  have HC4F : Hid (w.frozen? ⟨bI, j * 5 + 4, none⟩ = false) := i6 (j * 5 + 4)
  have hbI : bI < w.heap.size := hfs.ne.2.1.2
  have HPL : Hid (Calls Tryz.prog 75 #[.slice aE (entA d j).length cE, .string s] w fun e w' => e = .returned (.tuple #[.int .i64 ((plcE (entA d j) s : Nat) : Int), .bool (fndB (entA d j) s)]) ∧ Below w.heap.size w w') := placeOf_any w aE _ cE (entA d j) s rfl (by omega) HEN.out.cap.2.2.1
  have HWE : Hid (∀ W, Below w.heap.size w W → Calls Tryz.prog 125 #[.slice aE (entA d j).length cE, .int .i64 ((plcE (entA d j) s : Nat) : Int), .agg #[.string s, .int .i64 y]] W fun e w' => ∃ v, e = .returned v ∧ WdE w' W.heap.size v (insE (entA d j) (plcE (entA d j) s) (s, y)) ∧ Below W.heap.size W w') := fun W hW => by
    obtain ⟨_, h2, h3, h4, _⟩ := (HEN.out.later hW).cap
    exact withEntry_any W aE _ cE _ (entA d j) s y rfl h2 (findIdx_le _) h6 h3 h4
  have HEZ : Hid (∀ i : Nat, ((insE (entA d j) (plcE (entA d j) s) (s, y))[i]?.getD en0).1.size ≤ maxLen) := insE_size HEN.out.cap.2.2.2.2 hs
  have HBK : Hid ((d.1[j]?.getD id0).2.2.2.1 = []) := hblk
  have HFS : Hid (FsS w bI n cI bD 20 cD d F) := hfs
  clear hfs hEn i6 hblk hlen c4 hs
  generalize insE (entA d j) (plcE (entA d j) s) (s, y) = nes at *
  obtain ⟨dn, hdn⟩ : ∃ dn, entD d j nes = dn := ⟨_, rfl⟩
  have HDN : Hid (entD d j nes = dn) := hdn
  rw [hdn]
  clear hdn
  generalize plcE (entA d j) s = k at *
  generalize fndB (entA d j) s = fb at *
  obtain ⟨m, hm⟩ : ∃ m, (entA d j).length = m := ⟨_, rfl⟩
  rw [hm] at HPL HWE HC4 HEN
  have c4 := HC4.out
  clear hm h6
  go_enter Tryz.func79, Tryz.ntmps79
  go_wp2_with fail
  refine HPL.out.mono ?_
  rintro e w1 ⟨rfl, hb1⟩
  have HB1 : Hid (Below w.heap.size w w1) := hb1
  clear c4
  have c4 := cell_later hb1 HC4.out
  clear hb1
  go_wp2_with fail
  refine (HWE.out _ HB1.out).mono ?_
  rintro e w2 ⟨v, rfl, hw2, hb2⟩
  obtain ⟨av, cv, rfl⟩ := hw2.shape
  have HB2 : Hid (Below w.heap.size w w2) := HB1.out.trans (hb2.mono HB1.out.size)
  clear c4
  have c4 := cell_later HB2.out HC4.out
  have c4f := (HB2.out.frozen (p := ⟨bI, j * 5 + 4, none⟩) hbI).trans HC4F.out
  have hs1 := HB1.out.size
  have HF3 : Hid (FsS (w2.setCell ⟨bI, j * 5 + 4, none⟩ (.slice av nes.length cv)) bI n cI bD 20 cD dn (fun c => F c ∨ w.heap.size ≤ c)) := by
    unfold Hid
    have hbd : FsS w2 bI n cI bD 20 cD d (fun c => F c ∧ c < w.heap.size) := (HFS.out.boundF).later HB2.out
    have := (hbd.entS j hj HBK.out nes _ (hw2.own HEZ.out) (fun c hc => ⟨fun hh => by have := hh.2; have := hc.1; omega, hc.2⟩)).mono (F' := fun c => F c ∨ w.heap.size ≤ c) fun c hh => by
      rcases hh with hh | hh
      · exact Or.inl hh.1
      · exact Or.inr (by have := hh.1; omega)
    rw [← HDN.out]
    exact this
  have HC3 : Hid (Chg (fun c => c = bI) w (w2.setCell ⟨bI, j * 5 + 4, none⟩ (.slice av nes.length cv))) := (Chg.of_below HB2.out).trans (Chg.set (F := fun c => c = bI) (Chg.refl _ w2) rfl _ _)
  clear hb2 hw2 hs1
  go_wp2
  first
    | exact bodyPost_ret (results_none rfl _ _ _) rfl ⟨rfl, HF3.out, HC3.out⟩
    | (go_end0; exact ⟨rfl, HF3.out, HC3.out⟩)
end Go.Proofs.YtaibcofendjnnaaGreatDoor

namespace Go.Proofs.YtaibcofendjnnaaGreatDoor
open Go.RowKit
set_option maxRecDepth 100000

/-- What AddName asks of its place behind its first codes. -/
theorem addQ_taken {d : FD} {j : Nat} {s : ByteArray} {y : Int} (h : idxE (entA d j) s < (entA d j).length) : addQ d j s y = noFs 7 := if_pos h
theorem addQ_none {d : FD} {j : Nat} {s : ByteArray} {y : Int} (h : ¬ idxE (entA d j) s < (entA d j).length) (ht : thB d y = false) : addQ d j s y = noFs 4 := by
  unfold addQ
  rw [if_neg h]
  refine if_neg fun hh => ?_
  unfold thB at ht
  rw [decide_eq_true ⟨hh.1, hh.2.1⟩, decide_eq_false hh.2.2] at ht
  simp at ht
theorem th_in {d : FD} {y : Int} (h : thB d y = true) : ∃ z : Nat, y = (z : Int) ∧ z < d.1.length ∧ ¬ kindAt d.1 z = 0 := by
  unfold thB at h
  simp only [Bool.and_eq_true, decide_eq_true_eq, Bool.not_eq_true', decide_eq_false_iff_not] at h
  obtain ⟨⟨h0, h1⟩, h2⟩ := h
  exact ⟨y.toNat, by omega, by omega, h2⟩
theorem addQ_in {d : FD} {j z : Nat} {s : ByteArray} (h : ¬ idxE (entA d j) s < (entA d j).length) (hz : z < d.1.length) (hk : ¬ kindAt d.1 z = 0) : addQ d j s (z : Int) = if (entA d j).length = 6 ∨ (kindAt d.1 z = 1 ∧ 60 ≤ (d.1[z]?.getD id0).2.1) then noFs 2 else (0, addD d j s z) := by
  unfold addQ
  rw [if_neg h, if_pos ⟨by omega, by omega, by rw [Int.toNat_natCast]; exact hk⟩, Int.toNat_natCast]

set_option maxHeartbeats 12800000 in
theorem implAddU (w : World) (a1 : Option Addr) (n1 c1 : Nat) (a2 : Option Addr) (n2 c2 : Nat) (d : FD) (x : Int) (s : ByteArray) (y : Int) (h : FsR w (.slice a1 n1 c1) (.slice a2 n2 c2) d) (hs : sizeFs d ≤ 1048576) (hl : s.size ≤ 1048576) :
    Calls Tryz.prog 41 #[.agg #[.slice a1 n1 c1, .slice a2 n2 c2], .int .i64 x, .string s, .int .i64 y] w (AnsFR w (addR d x s y)) := by
  have hml : s.size ≤ maxLen := by unfold maxLen; omega
  have HML : Hid (s.size ≤ maxLen) := hml
  have HB0 : Hid (Below w.heap.size w ((w.alloc (.cells #[.slice a1 n1 c1, .slice a2 n2 c2] 32)).alloc (.cells #[.int .i64 0, .slice none 0 0, .slice none 0 0] 76))) := later2 _ _ _
  have HBX : Hid (Bx ((w.alloc (.cells #[.slice a1 n1 c1, .slice a2 n2 c2] 32)).alloc (.cells #[.int .i64 0, .slice none 0 0, .slice none 0 0] 76)) w.heap.size [.slice a1 n1 c1, .slice a2 n2 c2]) := (Bx.new w [.slice a1 n1 c1, .slice a2 n2 c2] _).later (later1 _ _)
  have HRS : Hid (OwnRow ((w.alloc (.cells #[.slice a1 n1 c1, .slice a2 n2 c2] 32)).alloc (.cells #[.int .i64 0, .slice none 0 0, .slice none 0 0] 76)) (w.heap.size + 1) 3 (cel zero3)) := by
    have p2 := row3 (w.alloc (.cells #[.slice a1 n1 c1, .slice a2 n2 c2] 32)) 76
    rw [World.size_alloc] at p2
    exact p2
  have HF : Hid (∀ W, Below w.heap.size w W → Calls Tryz.prog 74 #[.agg #[.slice a1 n1 c1, .slice a2 n2 c2], .int .i64 x, .string s] W fun e w' => e = .returned (.int .i64 (dirN d x s)) ∧ Below W.heap.size W w') := fun W hW => dirNameFault_any W _ _ _ _ _ _ d x s (h.later hW) (by unfold sizeFs at hs; omega) hml
  have HTH : Hid (∀ W, Below w.heap.size w W → Calls Tryz.prog 76 #[.agg #[.slice a1 n1 c1, .slice a2 n2 c2], .int .i64 y] W fun e w' => e = .returned (.bool (thB d y)) ∧ Below W.heap.size W w') := fun W hW => isThere_any W _ _ _ _ _ _ d y (h.later hW)
  have HCL : Hid (∀ W, Calls Tryz.prog 80 #[.string s] W fun e w' => e = .returned (.string s) ∧ Below W.heap.size W w') := fun W => cloneS_any W s hl
  have HH : Hid (FsR w (.slice a1 n1 c1) (.slice a2 n2 c2) d) := h
  have HSZ : Hid (sizeFs d ≤ 1048576) := hs
  have HRR : Hid (addR d x s y = if dirN d x s = 0 then addQ d x.toNat s y else noFs (dirN d x s)) := rfl
  obtain ⟨RES, hRES⟩ : ∃ r, addR d x s y = r := ⟨_, rfl⟩
  have HRES : Hid (addR d x s y = RES) := hRES
  rw [hRES]
  clear hRES h hs hl hml
  by_cases hq : dirN d x s = 0
  rotate_left
  · have hb : (dirN d x s != 0) = true := by simpa using hq
    have HE : Hid (RES = noFs (dirN d x s)) := by unfold Hid; rw [← HRES.out, HRR.out, if_neg hq]
    clear hq HRR HRES
    generalize dirN d x s = r at *
    go_enter Tryz.func41, Tryz.ntmps41
    go_wp2_with fail
    generalize ((w.alloc (.cells #[.slice a1 n1 c1, .slice a2 n2 c2] 32)).alloc (.cells #[.int .i64 0, .slice none 0 0, .slice none 0 0] 76)) = W0 at *
    refine (HF.out _ HB0.out).mono ?_
    rintro e w1 ⟨rfl, hb1⟩
    have HB1 : Hid (Below w.heap.size w w1) := HB0.out.trans (hb1.mono HB0.out.size)
    have hrr := HRS.out.later hb1
    have t0 : w1.cell? ⟨w.heap.size + 1, 0, none⟩ = some (.int .i64 0) := hrr.cell (i := 0) (by omega)
    have t1 : w1.cell? ⟨w.heap.size + 1, 1, none⟩ = some (.slice none 0 0) := hrr.cell (i := 1) (by omega)
    have t2 : w1.cell? ⟨w.heap.size + 1, 2, none⟩ = some (.slice none 0 0) := hrr.cell (i := 2) (by omega)
    have s0 := hrr.frozen 0
    have s1 := hrr.frozen 1
    have s2 := hrr.frozen 2
    clear hb1 hrr
    go_wp2
    exact bodyPost_ret (v := .agg #[.int .i64 r, .slice none 0 0, .slice none 0 0]) (by simp [results, Tryz.results41, go_sem, t0, t1, t2]) rfl (by rw [HE.out]; exact AnsFR.none' r HB1.out (by omega) _ _ _)
  · have hq0 : dirQ d x = 0 := dirN_in hq
    have hds := dirS hq0
    obtain ⟨-, hp, -⟩ := dirQ_in hq0
    obtain ⟨j, rfl⟩ : ∃ j : Nat, x = (j : Int) := ⟨x.toNat, by omega⟩
    rw [Int.toNat_natCast] at hds
    obtain ⟨b0, o0, _, _, rfl, rfl, -, -⟩ := HH.out.dir hds.lt
    obtain ⟨aB, cB, aE, cE, k0, k1, k2, k3, k4, hE⟩ := HH.out.five hds.lt
    have HK0 : Hid (_ = _) := k0
    have HK1 : Hid (_ = _) := k1
    have HK2 : Hid (_ = _) := k2
    have HK3 : Hid (_ = _) := k3
    have HK4 : Hid (_ = _) := k4
    have HDS : Hid (DirS d j) := hds
    have HEQ : Hid (RES = addQ d j s y) := by unfold Hid; rw [← HRES.out, HRR.out, if_pos hq, Int.toNat_natCast]
    have hlt := hds.lt
    have h6 := hds.six
    have hten := hds.ten
    rw [hq] at HF
    have HPL : Hid (∀ W, Below w.heap.size w W → Calls Tryz.prog 75 #[.slice aE (entA d j).length cE, .string s] W fun e w' => e = .returned (.tuple #[.int .i64 ((plcE (entA d j) s : Nat) : Int), .bool (decide (idxE (entA d j) s < (entA d j).length))]) ∧ Below W.heap.size W w') := fun W hW => by
      have := placeOf_any W aE _ cE (entA d j) s rfl (by omega) (hE.cap.2.2.1.later hW)
      rw [fnd_iff hds.rises] at this
      exact this
    have HMX : Hid (∀ W, Calls Tryz.prog 77 #[.agg #[.int .i64 (d.1[j]?.getD id0).1, .int .i64 (d.1[j]?.getD id0).2.1, .int .i64 (d.1[j]?.getD id0).2.2.1, .slice aB (d.1[j]?.getD id0).2.2.2.1.length cB, .slice aE (entA d j).length cE]] W fun e w' => e = .returned (.bool (decide ((entA d j).length = 6))) ∧ Below W.heap.size W w') := fun W => hasMax_any W _ _ _ _ _ _ _ (by omega)
    have HCF : Hid (∀ W, Below w.heap.size w W → Calls Tryz.prog 73 #[.agg #[.slice (some ⟨b0, o0, none⟩) d.1.length c1, .slice a2 n2 c2]] W (AnsFs W d)) := fun W hW => copyOfFs_any W _ _ _ _ _ _ d (HH.out.later hW) HSZ.out (by have := hds.dat; omega)
    have HBK : Hid ((d.1[j]?.getD id0).2.2.2.1 = []) := dir_blk (ins_ino hds.ins j hds.lt) hds.kind
    have HIK : Hid (plcE (entA d j) s = plcE (entA d j) s) := rfl
    obtain ⟨n, hn⟩ : ∃ n, d.1.length = n := ⟨_, rfl⟩
    have HN : Hid (d.1.length = n) := hn
    have hjn : (j : Int) < ((n : Nat) : Int) := by omega
    rw [hn] at hlt HF HBX HRS HB0 hten HTH HCF HH ⊢
    obtain ⟨pl, hpl⟩ : ∃ pl, plcE (entA d j) s = pl := ⟨_, rfl⟩
    rw [hpl] at HPL
    obtain ⟨m, hm⟩ : ∃ m, (entA d j).length = m := ⟨_, rfl⟩
    have HM : Hid ((entA d j).length = m) := hm
    rw [hm] at HPL HMX h6 HK4
    obtain ⟨fb, hfb⟩ : ∃ fb, decide (idxE (entA d j) s < m) = fb := ⟨_, rfl⟩
    have HFB : Hid (decide (idxE (entA d j) s < m) = fb) := hfb
    rw [hfb] at HPL
    clear hq hq0 hds hp hn hE k0 k1 k2 k3 k4 HRR HRES hpl hm hfb HIK
    generalize (d.1[j]?.getD id0).1 = jk at *
    generalize (d.1[j]?.getD id0).2.1 = jl at *
    generalize (d.1[j]?.getD id0).2.2.1 = js at *
    generalize (d.1[j]?.getD id0).2.2.2.1.length = jb at *
    go_enter Tryz.func41, Tryz.ntmps41
    go_wp2_with fail
    generalize ((w.alloc (.cells #[.slice (some ⟨b0, o0, none⟩) n c1, .slice a2 n2 c2] 32)).alloc (.cells #[.int .i64 0, .slice none 0 0, .slice none 0 0] 76)) = W0 at *
    refine (HF.out _ HB0.out).mono ?_
    rintro e w1 ⟨rfl, hb⟩
    have HB1 : Hid (Below w.heap.size w w1) := HB0.out.trans (hb.mono HB0.out.size)
    have HR1 : Hid (OwnRow w1 (w.heap.size + 1) 3 (cel zero3)) := HRS.out.later hb
    have HX1 : Hid (Bx w1 w.heap.size [.slice (some ⟨b0, o0, none⟩) n c1, .slice a2 n2 c2]) := HBX.out.later hb
    clear hb
    have k4 := cell_later HB1.out HK4.out
    have x0 := HX1.out 0 _ rfl
    have x1 := HX1.out 1 _ rfl
    have hlw : w.heap.size + 1 < w1.heap.size := HR1.out.lt
    go_wp2_with fail
    clear k4 x0 x1 hlw
    refine (HPL.out _ HB1.out).mono ?_
    rintro e w2 ⟨rfl, hb⟩
    have HB2 : Hid (Below w.heap.size w w2) := HB1.out.trans (hb.mono HB1.out.size)
    have HR2 : Hid (OwnRow w2 (w.heap.size + 1) 3 (cel zero3)) := HR1.out.later hb
    have HX2 : Hid (Bx w2 w.heap.size [.slice (some ⟨b0, o0, none⟩) n c1, .slice a2 n2 c2]) := HX1.out.later hb
    clear hb
    cases fb with
    | true =>
      have HE : Hid (RES = noFs 7) := by unfold Hid; rw [HEQ.out]; exact addQ_taken (by rw [HM.out]; exact of_decide_eq_true HFB.out)
      have hrr := HR2.out
      have t0 : w2.cell? ⟨w.heap.size + 1, 0, none⟩ = some (.int .i64 0) := hrr.cell (i := 0) (by omega)
      have t1 : w2.cell? ⟨w.heap.size + 1, 1, none⟩ = some (.slice none 0 0) := hrr.cell (i := 1) (by omega)
      have t2 : w2.cell? ⟨w.heap.size + 1, 2, none⟩ = some (.slice none 0 0) := hrr.cell (i := 2) (by omega)
      have s0 := hrr.frozen 0
      have s1 := hrr.frozen 1
      have s2 := hrr.frozen 2
      clear hrr
      go_wp2
      exact bodyPost_ret (v := .agg #[.int .i64 7, .slice none 0 0, .slice none 0 0]) (by simp [results, Tryz.results41, go_sem, t0, t1, t2]) rfl (by rw [HE.out]; exact AnsFR.none' 7 HB2.out (by omega) _ _ _)
    | false =>
      have HNI : Hid (¬ idxE (entA d j) s < (entA d j).length) := by unfold Hid; rw [HM.out]; exact of_decide_eq_false HFB.out
      have x0 := HX2.out 0 _ rfl
      have x1 := HX2.out 1 _ rfl
      go_wp2_with fail
      clear x0 x1
      refine (HTH.out _ HB2.out).mono ?_
      obtain ⟨tb, htb⟩ : ∃ tb, thB d y = tb := ⟨_, rfl⟩
      have HTB : Hid (thB d y = tb) := htb
      rw [htb]
      clear htb
      rintro e w3 ⟨rfl, hb⟩
      have HB3 : Hid (Below w.heap.size w w3) := HB2.out.trans (hb.mono HB2.out.size)
      have HR3 : Hid (OwnRow w3 (w.heap.size + 1) 3 (cel zero3)) := HR2.out.later hb
      have HX3 : Hid (Bx w3 w.heap.size [.slice (some ⟨b0, o0, none⟩) n c1, .slice a2 n2 c2]) := HX2.out.later hb
      clear hb
      cases tb with
      | false =>
        have HE : Hid (RES = noFs 4) := by unfold Hid; rw [HEQ.out]; exact addQ_none HNI.out HTB.out
        have hrr := HR3.out
        have t0 : w3.cell? ⟨w.heap.size + 1, 0, none⟩ = some (.int .i64 0) := hrr.cell (i := 0) (by omega)
        have t1 : w3.cell? ⟨w.heap.size + 1, 1, none⟩ = some (.slice none 0 0) := hrr.cell (i := 1) (by omega)
        have t2 : w3.cell? ⟨w.heap.size + 1, 2, none⟩ = some (.slice none 0 0) := hrr.cell (i := 2) (by omega)
        have s0 := hrr.frozen 0
        have s1 := hrr.frozen 1
        have s2 := hrr.frozen 2
        clear hrr
        go_wp2
        exact bodyPost_ret (v := .agg #[.int .i64 4, .slice none 0 0, .slice none 0 0]) (by simp [results, Tryz.results41, go_sem, t0, t1, t2]) rfl (by rw [HE.out]; exact AnsFR.none' 4 HB3.out (by omega) _ _ _)
      | true =>
        obtain ⟨z, rfl, hzn, hzk⟩ := th_in HTB.out
        have HEQ2 : Hid (RES = if (entA d j).length = 6 ∨ (kindAt d.1 z = 1 ∧ 60 ≤ (d.1[z]?.getD id0).2.1) then noFs 2 else (0, addD d j s z)) := by unfold Hid; rw [HEQ.out]; exact addQ_in HNI.out hzn hzk
        clear hzk
        rw [HN.out] at hzn
        have hzI : (z : Int) < (n : Int) := by omega
        have x0 := HX3.out 0 _ rfl
        have x1 := HX3.out 1 _ rfl
        have g0 := cell_later HB3.out HK0.out
        have g1 := cell_later HB3.out HK1.out
        have g2 := cell_later HB3.out HK2.out
        have g3 := cell_later HB3.out HK3.out
        have g4 := cell_later HB3.out HK4.out
        go_wp2_with fail
        clear x0 x1 g0 g1 g2 g3 g4
        refine (HMX.out _).mono ?_
        rintro e w4 ⟨rfl, hb⟩
        have HB4 : Hid (Below w.heap.size w w4) := HB3.out.trans (hb.mono HB3.out.size)
        have HR4 : Hid (OwnRow w4 (w.heap.size + 1) 3 (cel zero3)) := HR3.out.later hb
        have HX4 : Hid (Bx w4 w.heap.size [.slice (some ⟨b0, o0, none⟩) n c1, .slice a2 n2 c2]) := HX3.out.later hb
        clear hb
        by_cases hm6 : m = 6
        · have hmb : decide (m = 6) = true := decide_eq_true hm6
          have HE : Hid (RES = noFs 2) := by unfold Hid; rw [HEQ2.out, if_pos (Or.inl (HM.out.trans hm6))]
          clear hm6
          have hrr := HR4.out
          have t0 : w4.cell? ⟨w.heap.size + 1, 0, none⟩ = some (.int .i64 0) := hrr.cell (i := 0) (by omega)
          have t1 : w4.cell? ⟨w.heap.size + 1, 1, none⟩ = some (.slice none 0 0) := hrr.cell (i := 1) (by omega)
          have t2 : w4.cell? ⟨w.heap.size + 1, 2, none⟩ = some (.slice none 0 0) := hrr.cell (i := 2) (by omega)
          have s0 := hrr.frozen 0
          have s1 := hrr.frozen 1
          have s2 := hrr.frozen 2
          rw [hmb]
          clear hrr hmb
          go_wp2
          exact bodyPost_ret (v := .agg #[.int .i64 2, .slice none 0 0, .slice none 0 0]) (by simp [results, Tryz.results41, go_sem, t0, t1, t2]) rfl (by rw [HE.out]; exact AnsFR.none' 2 HB4.out (by omega) _ _ _)
        · have hmb : decide (m = 6) = false := decide_eq_false hm6
          rw [hmb]
          obtain ⟨zB, zcB, zE, zcE, p0, p1, p2, p3, p4, -⟩ := HH.out.five (j := z) (by rw [HN.out]; exact hzn)
          have HTL : Hid (∀ W, Calls Tryz.prog 78 #[.agg #[.int .i64 (d.1[z]?.getD id0).1, .int .i64 (d.1[z]?.getD id0).2.1, .int .i64 (d.1[z]?.getD id0).2.2.1, .slice zB (d.1[z]?.getD id0).2.2.2.1.length zcB, .slice zE (entA d z).length zcE]] W fun e w' => e = .returned (.bool (decide (¬ ((d.1[z]?.getD id0).1 = 1 ∧ 60 ≤ (d.1[z]?.getD id0).2.1)))) ∧ Below W.heap.size W w') := fun W => takesLink_any W _ _ _ _ _
          have HP0 : Hid (_ = _) := p0
          have HP1 : Hid (_ = _) := p1
          have HP2 : Hid (_ = _) := p2
          have HP3 : Hid (_ = _) := p3
          have HP4 : Hid (_ = _) := p4
          have HLN : Hid ((d.1[z]?.getD id0).1 = 1 → 1 ≤ (d.1[z]?.getD id0).2.1 ∧ (d.1[z]?.getD id0).2.1 ≤ 60) := fun e => ino_lnk (ins_ino HDS.out.ins z (by rw [HN.out]; exact hzn)) e
          have HAD : Hid (addD d j s z = if (d.1[z]?.getD id0).1 = 1 then lnkD (entD d j (insE (entA d j) (plcE (entA d j) s) (s, (z : Int)))) z ((d.1[z]?.getD id0).2.1 + 1) else entD d j (insE (entA d j) (plcE (entA d j) s) (s, (z : Int)))) := rfl
          have HKA : Hid (kindAt d.1 z = (d.1[z]?.getD id0).1) := rfl
          have HEK := entD_kind d j z (insE (entA d j) (plcE (entA d j) s) (s, (z : Int))) HDS.out.lt
          have HEK1 : Hid (((entD d j (insE (entA d j) (plcE (entA d j) s) (s, (z : Int)))).1[z]?.getD id0).1 = (d.1[z]?.getD id0).1) := HEK.1
          have HEK2 : Hid (((entD d j (insE (entA d j) (plcE (entA d j) s) (s, (z : Int)))).1[z]?.getD id0).2.1 = (d.1[z]?.getD id0).2.1) := HEK.2
          rw [HKA.out] at HEQ2
          clear p0 p1 p2 p3 p4 HEK HKA
          generalize (d.1[z]?.getD id0).1 = kd at *
          generalize (d.1[z]?.getD id0).2.1 = kl at *
          generalize (d.1[z]?.getD id0).2.2.1 = ks at *
          generalize (d.1[z]?.getD id0).2.2.2.1.length = kb at *
          generalize (entA d z).length = mz at *
          have x0 := HX4.out 0 _ rfl
          have x1 := HX4.out 1 _ rfl
          have g0 := cell_later HB4.out HP0.out
          have g1 := cell_later HB4.out HP1.out
          have g2 := cell_later HB4.out HP2.out
          have g3 := cell_later HB4.out HP3.out
          have g4 := cell_later HB4.out HP4.out
          clear hmb
          go_wp2_with fail
          clear x0 x1 g0 g1 g2 g3 g4
          refine (HTL.out _).mono ?_
          rintro e w5 ⟨rfl, hb⟩
          have HB5 : Hid (Below w.heap.size w w5) := HB4.out.trans (hb.mono HB4.out.size)
          have HR5 : Hid (OwnRow w5 (w.heap.size + 1) 3 (cel zero3)) := HR4.out.later hb
          have HX5 : Hid (Bx w5 w.heap.size [.slice (some ⟨b0, o0, none⟩) n c1, .slice a2 n2 c2]) := HX4.out.later hb
          clear hb
          by_cases htl : kd = 1 ∧ 60 ≤ kl
          · have htb : decide (¬ (kd = 1 ∧ 60 ≤ kl)) = false := decide_eq_false (fun hh => hh htl)
            have HE : Hid (RES = noFs 2) := by unfold Hid; rw [HEQ2.out, if_pos (Or.inr htl)]
            rw [htb]
            clear htl htb
            have hrr := HR5.out
            have t0 : w5.cell? ⟨w.heap.size + 1, 0, none⟩ = some (.int .i64 0) := hrr.cell (i := 0) (by omega)
            have t1 : w5.cell? ⟨w.heap.size + 1, 1, none⟩ = some (.slice none 0 0) := hrr.cell (i := 1) (by omega)
            have t2 : w5.cell? ⟨w.heap.size + 1, 2, none⟩ = some (.slice none 0 0) := hrr.cell (i := 2) (by omega)
            have s0 := hrr.frozen 0
            have s1 := hrr.frozen 1
            have s2 := hrr.frozen 2
            clear hrr
            go_wp2
            exact bodyPost_ret (v := .agg #[.int .i64 2, .slice none 0 0, .slice none 0 0]) (by simp [results, Tryz.results41, go_sem, t0, t1, t2]) rfl (by rw [HE.out]; exact AnsFR.none' 2 HB5.out (by omega) _ _ _)
          · have htb : decide (¬ (kd = 1 ∧ 60 ≤ kl)) = true := decide_eq_true htl
            have HE : Hid (RES = (0, addD d j s z)) := by unfold Hid; rw [HEQ2.out, if_neg (fun hh => hh.elim (fun e => hm6 (HM.out.symm.trans e)) htl)]
            rw [htb]
            clear htl htb hm6
            have x0 := HX5.out 0 _ rfl
            have x1 := HX5.out 1 _ rfl
            have hlw5 : w.heap.size + 1 < w5.heap.size := HR5.out.lt
            go_wp2_with fail
            clear x0 x1
            refine (HCF.out _ HB5.out).mono ?_
            rintro e w6 ⟨q1, m1, cI, q2, m2, cD, rfl, hb6, hf6⟩
            obtain ⟨bI, e1, bD, e2, eI, eD, hfs⟩ := FsS.of hf6 (by have := HN.out; omega) (by have := HDS.out.dat; omega)
            simp only [Value.slice.injEq] at eI eD
            obtain ⟨rfl, rfl, rfl⟩ := eI
            obtain ⟨rfl, rfl, rfl⟩ := eD
            rw [HDS.out.dat, HN.out] at hfs
            rw [HDS.out.dat, HN.out]
            have HL7 : Hid (Below w5.heap.size w5 (w6.alloc (.cells #[.slice (some ⟨bI, 0, none⟩) n cI, .slice (some ⟨bD, 0, none⟩) 20 cD] 32))) := hb6.trans ((later1 _ _).mono hb6.size)
            have HF7 : Hid (FsS (w6.alloc (.cells #[.slice (some ⟨bI, 0, none⟩) n cI, .slice (some ⟨bD, 0, none⟩) 20 cD] 32)) bI n cI bD 20 cD d (fun c => w5.heap.size ≤ c ∧ c < w6.heap.size)) := hfs.later (later1 _ _)
            have HO7 : Hid (Bx (w6.alloc (.cells #[.slice (some ⟨bI, 0, none⟩) n cI, .slice (some ⟨bD, 0, none⟩) 20 cD] 32)) w6.heap.size [.slice (some ⟨bI, 0, none⟩) n cI, .slice (some ⟨bD, 0, none⟩) 20 cD]) := Bx.new w6 [.slice (some ⟨bI, 0, none⟩) n cI, .slice (some ⟨bD, 0, none⟩) 20 cD] _
            have HS7 : Hid (w5.heap.size ≤ w6.heap.size ∧ (w6.alloc (.cells #[.slice (some ⟨bI, 0, none⟩) n cI, .slice (some ⟨bD, 0, none⟩) 20 cD] 32)).heap.size = w6.heap.size + 1) := ⟨hb6.size, by simp⟩
            clear hb6 hf6 hfs
            go_wp2_with fail
            generalize (w6.alloc (.cells #[.slice (some ⟨bI, 0, none⟩) n cI, .slice (some ⟨bD, 0, none⟩) 20 cD] 32)) = W7 at *
            have hne := HF7.out.ne
            have hoI : w6.heap.size ≠ bI := fun e => by have := hne.2.1.1.2; omega
            have hlI : bI < W7.heap.size := hne.2.1.2
            have HEN : Hid (∀ W8, Below W7.heap.size W7 W8 → Calls Tryz.prog 79 #[.pointer (some ⟨bI, j * 5, none⟩), .string s, .int .i64 (z : Int)] W8 fun e w' => e = .returned (.tuple #[]) ∧ FsS w' bI n cI bD 20 cD (entD d j (insE (entA d j) (plcE (entA d j) s) (s, (z : Int)))) (fun c => (w5.heap.size ≤ c ∧ c < w6.heap.size) ∨ W8.heap.size ≤ c) ∧ Chg (fun c => c = bI) W8 w') := fun W8 h8 => enter_any W8 bI n cI bD cD d _ j s (z : Int) (HF7.out.later h8) hlt (by rw [HM.out]; exact h6) HML.out HBK.out
            generalize hent : entD d j (insE (entA d j) (plcE (entA d j) s) (s, (z : Int))) = dn at *
            clear hent
            have o0' := HO7.out 0 _ rfl
            have o1' := HO7.out 1 _ rfl
            clear HCF HTL HMX HTH HPL HF
            go_region_law (first
              | (try go_simp; go_at_call 80; refine (HCL.out _).mono ?_; rintro e w8 ⟨rfl, hb8⟩
                 have HB8 : Hid (Below W7.heap.size W7 w8) := by first | exact hb8 | exact (Below.refl _ _).drew.trans hb8
                 have o08 := cell_later HB8.out o0'
                 clear hb8)
              | (try go_simp; go_at_call 79; refine (HEN.out _ HB8.out).mono ?_; rintro e w9 ⟨rfl, hf9, hc9⟩
                 have HF9 : Hid (FsS w9 bI n cI bD 20 cD dn (fun c => w5.heap.size ≤ c ∧ c ≠ w6.heap.size)) := hf9.mono fun c hh => by
                   have h7 := HB8.out.size
                   have hS7 := HS7.out
                   rcases hh with hh | hh
                   · exact ⟨hh.1, by omega⟩
                   · exact ⟨by omega, by omega⟩
                 have HC9 : Hid (Chg (fun c => c = bI) w8 w9) := hc9
                 clear hf9 hc9)
              | fail)
            all_goals
              have p0 := HC9.out.cellOf ((HO7.out.later HB8.out) 0 _ rfl) hoI
              have p1 := HC9.out.cellOf ((HO7.out.later HB8.out) 1 _ rfl) hoI
              have HL9 : Hid (Below w5.heap.size w5 w9) := (HL7.out.trans (HB8.out.mono HL7.out.size)).trans (HC9.out.below (by have := HL7.out.size; have := HB8.out.size; omega) (fun b e => by subst e; exact hne.2.1.1.1))
              obtain ⟨_, _, _, _, z0, z1, -, -, -, -, zf, -⟩ := HF9.out.ino z hzn
              rw [HEK1.out] at z0
              rw [HEK2.out] at z1
              have z1f := zf (z * 5 + 1)
              clear zf o0' o1' o08
              by_cases hk1 : kd = 1
              · have hkb1 : (kd == 1) = true := by simpa using hk1
                have hln := HLN.out hk1
                have HR : Hid (RES = (0, lnkD dn z (kl + 1))) := by unfold Hid; rw [HE.out, HAD.out, if_pos hk1]
                have HF10 : Hid (FsS (w9.setCell ⟨bI, z * 5 + 1, none⟩ (.int .i64 (kl + 1))) bI n cI bD 20 cD (lnkD dn z (kl + 1)) (fun c => w5.heap.size ≤ c ∧ c ≠ w6.heap.size)) := HF9.out.lnkS z hzn (kl + 1)
                have hC10 : Chg (fun c => c = bI) w9 (w9.setCell ⟨bI, z * 5 + 1, none⟩ (.int .i64 (kl + 1))) := Chg.set (F := fun c => c = bI) (Chg.refl _ w9) rfl _ _
                have r0 := hC10.cellOf p0 hoI
                have r1 := hC10.cellOf p1 hoI
                have HL10 : Hid (Below w5.heap.size w5 (w9.setCell ⟨bI, z * 5 + 1, none⟩ (.int .i64 (kl + 1)))) := HL9.out.setCell (by have := hne.2.1.1.1; exact this) _
                have hrr := HR5.out.later HL10.out
                have t0 : (w9.setCell ⟨bI, z * 5 + 1, none⟩ (.int .i64 (kl + 1))).cell? ⟨w.heap.size + 1, 0, none⟩ = some (.int .i64 0) := hrr.cell (i := 0) (by omega)
                have t1 : (w9.setCell ⟨bI, z * 5 + 1, none⟩ (.int .i64 (kl + 1))).cell? ⟨w.heap.size + 1, 1, none⟩ = some (.slice none 0 0) := hrr.cell (i := 1) (by omega)
                have t2 : (w9.setCell ⟨bI, z * 5 + 1, none⟩ (.int .i64 (kl + 1))).cell? ⟨w.heap.size + 1, 2, none⟩ = some (.slice none 0 0) := hrr.cell (i := 2) (by omega)
                have s0 := hrr.frozen 0
                have s1 := hrr.frozen 1
                have s2 := hrr.frozen 2
                clear hC10 hrr hk1
                go_wp2
                exact bodyPost_ret (v := .agg #[.int .i64 0, .slice (some ⟨bI, 0, none⟩) n cI, .slice (some ⟨bD, 0, none⟩) 20 cD]) (by simp [results, Tryz.results41, go_sem, t0, t1, t2]) rfl (by rw [HR.out]; exact AnsFR.box (HB5.out.trans (HL10.out.mono HB5.out.size)) (by omega) HF10.out (fun c hc => ⟨by omega, by omega⟩) _ _ _)
              · have hkb1 : (kd == 1) = false := by simpa using hk1
                have HR : Hid (RES = (0, dn)) := by unfold Hid; rw [HE.out, HAD.out, if_neg hk1]
                have hrr := HR5.out.later HL9.out
                have t0 : w9.cell? ⟨w.heap.size + 1, 0, none⟩ = some (.int .i64 0) := hrr.cell (i := 0) (by omega)
                have t1 : w9.cell? ⟨w.heap.size + 1, 1, none⟩ = some (.slice none 0 0) := hrr.cell (i := 1) (by omega)
                have t2 : w9.cell? ⟨w.heap.size + 1, 2, none⟩ = some (.slice none 0 0) := hrr.cell (i := 2) (by omega)
                have s0 := hrr.frozen 0
                have s1 := hrr.frozen 1
                have s2 := hrr.frozen 2
                clear hrr hk1
                go_wp2
                exact bodyPost_ret (v := .agg #[.int .i64 0, .slice (some ⟨bI, 0, none⟩) n cI, .slice (some ⟨bD, 0, none⟩) 20 cD]) (by simp [results, Tryz.results41, go_sem, t0, t1, t2]) rfl (by rw [HR.out]; exact AnsFR.box (HB5.out.trans (HL9.out.mono HB5.out.size)) (by omega) HF9.out (fun c hc => ⟨by omega, by omega⟩) _ _ _)
end Go.Proofs.YtaibcofendjnnaaGreatDoor

namespace Go.Proofs.YtaibcofendjnnaaGreatDoor
open Go.RowKit
set_option maxRecDepth 100000

/-- The directory of a path's last name: a code, or a place; WalkParent. -/
def dirK (d : FD) (r : Int × Int) : Int × Int := if r.1 = 0 then (if kindAt d.1 r.2.toNat = 2 then r else (9, 0)) else r
def parR (d : FD) (p : List UInt8) : Int × Int := if pathF p = 0 then (if (splitL p).length = 0 then (4, 0) else dirK d (wkR d.1 0 ((splitL p).take ((splitL p).length - 1)))) else (pathF p, 0)
def wparR (d : FD) (s : ByteArray) : Int × Int := if ntwC d s.data.toList = 0 then (if (splitL s.data.toList).length = 0 then (4, 0) else dirK d (wkR d.1 0 ((splitL s.data.toList).take ((splitL s.data.toList).length - 1)))) else (ntwC d s.data.toList, 0)
theorem wpar_par (d : FD) (s : ByteArray) : wparR d s = if fsF d = 0 then parR d s.data.toList else (fsF d, 0) := by
  unfold wparR ntwC parR
  by_cases h0 : fsF d = 0
  · rw [if_pos h0, if_pos h0]
  · rw [if_neg h0, if_neg h0, if_neg h0]
theorem AtT.take {w : World} {a : Option Addr} {n : Nat} {xs : List (List UInt8)} (h : AtT w a n xs) (m : Nat) (hm : m ≤ n) : AtT w a m (xs.take m) := fun k hk => by
  obtain ⟨b, off, e, c⟩ := h k (by omega)
  exact ⟨b, off, e, by rw [List.getElem?_take, if_pos hk]; exact c⟩
set_option maxHeartbeats 6400000 in
theorem implParentU (w : World) (a1 : Option Addr) (n1 c1 : Nat) (a2 : Option Addr) (n2 c2 : Nat) (d : FD) (s : ByteArray) (h : FsR w (.slice a1 n1 c1) (.slice a2 n2 c2) d) (hs : sizeFs d ≤ 1048576) (hl : s.size ≤ 1048576) (hgl : Gl w) :
    Calls Tryz.prog 14 #[.agg #[.slice a1 n1 c1, .slice a2 n2 c2], .string s] w fun e w' => e = .returned (.agg #[.int .i64 (wparR d s).1, .int .i64 (wparR d s).2]) ∧ Below w.heap.size w w' := by
  have HB0 : Hid (Below w.heap.size w ((w.alloc (.cells #[.slice a1 n1 c1, .slice a2 n2 c2] 32)).alloc (.cells #[.int .i64 0, .int .i64 0] 28))) := later2 _ _ _
  have HX : Hid (Bx ((w.alloc (.cells #[.slice a1 n1 c1, .slice a2 n2 c2] 32)).alloc (.cells #[.int .i64 0, .int .i64 0] 28)) w.heap.size [.slice a1 n1 c1, .slice a2 n2 c2]) := (Bx.new w [.slice a1 n1 c1, .slice a2 n2 c2] _).later (later1 _ _)
  have HRS : Hid (OwnRow ((w.alloc (.cells #[.slice a1 n1 c1, .slice a2 n2 c2] 32)).alloc (.cells #[.int .i64 0, .int .i64 0] 28)) (w.heap.size + 1) 2 (fun _ => .int .i64 0)) := by
    have p2 := zeros2 (w.alloc (.cells #[.slice a1 n1 c1, .slice a2 n2 c2] 32)) 28
    rw [World.size_alloc] at p2
    exact p2
  have hsp : s.data.toList.length = s.size := Array.length_toList
  have HN : Hid (∀ W, Below w.heap.size w W → Calls Tryz.prog 31 #[.agg #[.slice a1 n1 c1, .slice a2 n2 c2], .string s] W fun e w' => ∃ a n c, e = .returned (.agg #[.int .i64 (ntwC d s.data.toList), .slice a n c]) ∧ Below W.heap.size W w' ∧ TxF w' W.heap.size a n c (ntwL d s.data.toList)) := fun W hW => by
    have := namesToWalk_any W a1 n1 c1 a2 n2 c2 d s.data.toList (h.later hW) hs (by omega)
    rw [mkB_data] at this
    exact this
  have HR : Hid (wparR d s = if ntwC d s.data.toList = 0 then (if (splitL s.data.toList).length = 0 then (4, 0) else dirK d (wkR d.1 0 ((splitL s.data.toList).take ((splitL s.data.toList).length - 1)))) else (ntwC d s.data.toList, 0)) := rfl
  rw [HR.out]
  clear HR
  by_cases hf : ntwC d s.data.toList = 0
  rotate_left
  · rw [if_neg hf]
    have hb : (ntwC d s.data.toList != 0) = true := by simpa using hf
    clear hf h hs hl hsp hgl
    generalize ntwC d s.data.toList = r at *
    have x0 := HX.out 0 _ rfl
    have x1 := HX.out 1 _ rfl
    go_enter Tryz.func14, Tryz.ntmps14
    go_wp2_with fail
    generalize ((w.alloc (.cells #[.slice a1 n1 c1, .slice a2 n2 c2] 32)).alloc (.cells #[.int .i64 0, .int .i64 0] 28)) = W0 at *
    refine (HN.out _ HB0.out).mono ?_
    rintro e w1 ⟨a, n, c, rfl, hb1, -⟩
    have HB1 : Hid (Below w.heap.size w w1) := HB0.out.trans (hb1.mono HB0.out.size)
    have hrr := HRS.out.later hb1
    have hz1 : w.heap.size + 1 < w1.heap.size := hrr.lt
    have t0 : w1.cell? ⟨w.heap.size + 1, 0, none⟩ = some (.int .i64 0) := hrr.cell (i := 0) (by omega)
    have t1 : w1.cell? ⟨w.heap.size + 1, 1, none⟩ = some (.int .i64 0) := hrr.cell (i := 1) (by omega)
    have s0 := hrr.frozen 0
    have s1 := hrr.frozen 1
    clear hb1 hrr x0 x1
    go_wp2
    exact bodyPost_ret (v := intRV (r, 0)) (by simp [results, Tryz.results14, go_sem, t0, t1, hz1]) rfl ⟨rfl, ((HB1.out.setCell (p := ⟨w.heap.size + 1, 0, none⟩) (by show w.heap.size ≤ w.heap.size + 1; omega) _).setCell (p := ⟨w.heap.size + 1, 1, none⟩) (by show w.heap.size ≤ w.heap.size + 1; omega) _).alloc (by have := HB1.out.size; simpa [World.setCell] using this) _⟩
  · rw [if_pos hf]
    obtain ⟨hfs, _⟩ := ntw_ok hf
    have hL : ntwL d s.data.toList = splitL s.data.toList := if_pos hfs
    have hok := fsE_ok (fsF_E hfs)
    have hb : (ntwC d s.data.toList != 0) = false := by simpa using hf
    rw [hL] at HN
    have hln := splitL_len s.data.toList (by omega)
    by_cases hz : (splitL s.data.toList).length = 0
    · rw [if_pos hz]
      clear hf h hs hl hsp hgl hL hok hfs hln
      generalize ntwC d s.data.toList = r at *
      generalize splitL s.data.toList = xs at *
      have HZ : Hid (xs.length = 0) := hz
      clear hz
      have x0 := HX.out 0 _ rfl
      have x1 := HX.out 1 _ rfl
      go_enter Tryz.func14, Tryz.ntmps14
      go_wp2_with fail
      generalize ((w.alloc (.cells #[.slice a1 n1 c1, .slice a2 n2 c2] 32)).alloc (.cells #[.int .i64 0, .int .i64 0] 28)) = W0 at *
      refine (HN.out _ HB0.out).mono ?_
      rintro e w1 ⟨a, n, c, rfl, hb1, htx⟩
      have hn0 : n = 0 := by have := htx.2.1; have := HZ.out; omega
      subst hn0
      have HB1 : Hid (Below w.heap.size w w1) := HB0.out.trans (hb1.mono HB0.out.size)
      have hrr := HRS.out.later hb1
      have hz1 : w.heap.size + 1 < w1.heap.size := hrr.lt
      have t0 : w1.cell? ⟨w.heap.size + 1, 0, none⟩ = some (.int .i64 0) := hrr.cell (i := 0) (by omega)
      have t1 : w1.cell? ⟨w.heap.size + 1, 1, none⟩ = some (.int .i64 0) := hrr.cell (i := 1) (by omega)
      have s0 := hrr.frozen 0
      have s1 := hrr.frozen 1
      clear hb1 hrr x0 x1 htx
      go_wp2
      exact bodyPost_ret (v := intRV (4, 0)) (by simp [results, Tryz.results14, go_sem, t0, t1, hz1]) rfl ⟨rfl, ((HB1.out.setCell (p := ⟨w.heap.size + 1, 0, none⟩) (by show w.heap.size ≤ w.heap.size + 1; omega) _).setCell (p := ⟨w.heap.size + 1, 1, none⟩) (by show w.heap.size ≤ w.heap.size + 1; omega) _).alloc (by have := HB1.out.size; simpa [World.setCell] using this) _⟩
    · rw [if_neg hz]
      obtain ⟨m, hm⟩ : ∃ m, (splitL s.data.toList).length = m + 1 := ⟨(splitL s.data.toList).length - 1, by omega⟩
      have HW : Hid (∀ (W : World) (a : Option Addr) (c : Nat), Below w.heap.size w W → AtT W a (m + 1) (splitL s.data.toList) → Calls Tryz.prog 32 #[.agg #[.slice a1 n1 c1, .slice a2 n2 c2], .slice a m c] W fun e w' => e = .returned (.agg #[.int .i64 (wkR d.1 0 ((splitL s.data.toList).take m)).1, .int .i64 (wkR d.1 0 ((splitL s.data.toList).take m)).2]) ∧ Below W.heap.size W w') := fun W a c hW hat =>
        walkNamesU W a1 n1 c1 a2 n2 c2 d (h.later hW) hok (hgl.later hW) a m c ((splitL s.data.toList).take m) (by rw [List.length_take]; omega) (by omega) (hat.take m (by omega))
      have HK : Hid ((wkR d.1 0 ((splitL s.data.toList).take m)).1 = 0 → ∃ y : Nat, (wkR d.1 0 ((splitL s.data.toList).take m)).2 = (y : Int) ∧ y < d.1.length ∧ ∃ b0 o0, a1 = some ⟨b0, o0, none⟩ ∧ n1 = d.1.length ∧ w.cell? ⟨b0, o0 + y * 5, none⟩ = some (.int .i64 (d.1[y]?.getD id0).1)) := fun h0 => by
        obtain ⟨y, hy, hyl⟩ := wkR_lt hok.rng _ 0 hok.pos h0
        obtain ⟨_, _, e1, -, hAt⟩ := h.1.open'
        simp only [Value.slice.injEq] at e1
        obtain ⟨rfl, rfl, rfl⟩ := e1
        obtain ⟨b0, o0, rfl, hI⟩ := hAt y hyl
        obtain ⟨_, _, _, _, k0, _⟩ := hI
        exact ⟨y, hy, hyl, b0, o0, rfl, rfl, k0⟩
      have hme : (splitL s.data.toList).length - 1 = m := by omega
      rw [hme]
      have HTN : Hid (wkR d.1 0 ((splitL s.data.toList).take m) = wkR d.1 0 ((splitL s.data.toList).take m)) := rfl
      have H2 : Hid (¬ (wkR d.1 0 ((splitL s.data.toList).take m)).1 = 0 → (wkR d.1 0 ((splitL s.data.toList).take m)).2 = 0) := wkR_two _ 0
      have HM : Hid ((splitL s.data.toList).length = m + 1) := hm
      have hten := hok.ten
      have hm7 : m + 1 ≤ 1048577 := by omega
      clear hf h hs hl hsp hgl hL hok hfs hln hz hm hme HTN
      generalize ntwC d s.data.toList = r at *
      generalize wkR d.1 0 ((splitL s.data.toList).take m) = wr at *
      generalize splitL s.data.toList = xs at *
      obtain ⟨kc, kv⟩ := wr
      dsimp only at HW HK H2
      obtain ⟨RES, hRES⟩ : ∃ RES, dirK d (kc, kv) = RES := ⟨_, rfl⟩
      have HRES : Hid (dirK d (kc, kv) = RES) := hRES
      rw [hRES]
      clear hRES
      have x0 := HX.out 0 _ rfl
      have x1 := HX.out 1 _ rfl
      go_enter Tryz.func14, Tryz.ntmps14
      go_wp2_with fail
      generalize ((w.alloc (.cells #[.slice a1 n1 c1, .slice a2 n2 c2] 32)).alloc (.cells #[.int .i64 0, .int .i64 0] 28)) = W0 at *
      refine (HN.out _ HB0.out).mono ?_
      rintro e w1 ⟨a, n, c, rfl, hb1, htx⟩
      obtain ⟨nn, hnn⟩ : ∃ nn, n = nn := ⟨_, rfl⟩
      have hn1 : n = m + 1 := by have := htx.2.1; have := HM.out; omega
      have HB1 : Hid (Below w.heap.size w w1) := HB0.out.trans (hb1.mono HB0.out.size)
      have HR1 : Hid (OwnRow w1 (w.heap.size + 1) 2 (fun _ => .int .i64 0)) := HRS.out.later hb1
      have HX1 : Hid (Bx w1 w.heap.size [.slice a1 n1 c1, .slice a2 n2 c2]) := HX.out.later hb1
      have HAT : Hid (AtT w1 a (m + 1) xs) := by rw [← hn1]; exact htx.1
      have hmc : m ≤ c := by have := htx.2.2.1; omega
      have hwr : IntKind.i64.wrap ((n : Int) - 1) = (m : Int) := by
        rw [show (n : Int) - 1 = (m : Int) by omega]
        exact wrap_in _ (by omega) (by omega)
      have hnz : ((n : Int) == 0) = false := beq_eq_false_iff_ne.2 (by omega)
      have y0 := HX1.out 0 _ rfl
      have y1 := HX1.out 1 _ rfl
      have hz1 : w.heap.size + 1 < w1.heap.size := HR1.out.lt
      have hz2 : w.heap.size < w1.heap.size := by omega
      have hmI : (m : Int) ≤ (n : Int) := by omega
      have hmN : m ≤ n := by omega
      clear hb1 htx x0 x1 hn1 hnn
      go_wp2_with fail
      have z0 : (w1.alloc (.cells #[.int .i64 r, .slice a n c] 60)).cell? ⟨w.heap.size, 0, none⟩ = some (.slice a1 n1 c1) := (HX1.out.later (later1 _ _)) 0 _ rfl
      have z1 : (w1.alloc (.cells #[.int .i64 r, .slice a n c] 60)).cell? ⟨w.heap.size, 1, none⟩ = some (.slice a2 n2 c2) := (HX1.out.later (later1 _ _)) 1 _ rfl
      have v1 : (w1.alloc (.cells #[.int .i64 r, .slice a n c] 60)).cell? ⟨w1.heap.size, 1, none⟩ = some (.slice a n c) := by rw [new_cell]; rfl
      have HL2 : Hid (∀ W, Below (w1.alloc (.cells #[.int .i64 r, .slice a n c] 60)).heap.size (w1.alloc (.cells #[.int .i64 r, .slice a n c] 60)) W → Below w.heap.size w W ∧ AtT W a (m + 1) xs ∧ OwnRow W (w.heap.size + 1) 2 (fun _ => .int .i64 0) ∧ Bx W w.heap.size [.slice a1 n1 c1, .slice a2 n2 c2]) := fun W hW => by
        have h1 : Below w1.heap.size w1 W := (later1 _ _).trans (hW.mono (by simp))
        exact ⟨HB1.out.trans (h1.mono HB1.out.size), HAT.out.later h1, HR1.out.later h1, HX1.out.later h1⟩
      have hs2 : (w1.alloc (.cells #[.int .i64 r, .slice a n c] 60)).heap.size = w1.heap.size + 1 := by simp
      generalize (w1.alloc (.cells #[.int .i64 r, .slice a n c] 60)) = W2 at *
      have HS2 : Hid (W2.heap.size = w1.heap.size + 1) := hs2
      have q1 : w1.heap.size < W2.heap.size := by omega
      have q2 : w.heap.size < W2.heap.size := by omega
      have q3 : w.heap.size + 1 < W2.heap.size := by omega
      clear y0 y1 HB1 HR1 HX1 HAT hs2
      have HA1 : Hid (Below W2.heap.size W2 W2.drew) := (Below.refl _ _).drew
      have HA2 : Hid (Below W2.heap.size W2 (W2.drew.alloc (.cells #[.int .i64 0, .int .i64 0] 28))) := (Below.refl _ _).drew.trans (later1 W2.drew _)
      have HZ2 : Hid (OwnRow (W2.drew.alloc (.cells #[.int .i64 0, .int .i64 0] 28)) W2.heap.size 2 (fun _ => .int .i64 0)) := zeros2 W2.drew _
      go_cut [6] from 21 (fun s6 wx => ∃ g, s6 = .pointer (some ⟨g, 0, none⟩) ∧ Below W2.heap.size W2 wx ∧ wx.cell? ⟨g, 0, none⟩ = some (.int .i64 kc) ∧ wx.cell? ⟨g, 1, none⟩ = some (.int .i64 kv))
      case first =>
        go_wp2_with fail
        go_region_law (first
          | (try go_simp; go_at_call 32
             refine (HW.out W2.drew a c (HL2.out _ HA1.out).1 (HL2.out _ HA1.out).2.1).mono ?_
             rintro e w3 ⟨rfl, hb3⟩
             have HB3 : Hid (Below W2.heap.size W2 w3) := HA1.out.trans (hb3.mono HA1.out.size)
             clear hb3)
          | (try go_simp; go_at_call 32
             refine (HW.out (W2.drew.alloc (.cells #[.int .i64 0, .int .i64 0] 28)) a c (HL2.out _ HA2.out).1 (HL2.out _ HA2.out).2.1).mono ?_
             rintro e w3 ⟨rfl, hb3⟩
             have HB3 : Hid (Below W2.heap.size W2 w3) := HA2.out.trans (hb3.mono HA2.out.size)
             have HRZ : Hid (OwnRow w3 W2.heap.size 2 (fun _ => .int .i64 0)) := HZ2.out.later hb3
             have u0 : w3.cell? ⟨W2.heap.size, 0, none⟩ = some (.int .i64 0) := HRZ.out.cell (i := 0) (by omega)
             have u1 : w3.cell? ⟨W2.heap.size, 1, none⟩ = some (.int .i64 0) := HRZ.out.cell (i := 1) (by omega)
             have uf0 := HRZ.out.frozen 0
             have uf1 := HRZ.out.frozen 1
             clear hb3)
          | fail)
        all_goals
          go_wp2
          go_meet
          case rel => first
            | exact ⟨_, rfl, HB3.out.trans ((later1 _ _).mono HB3.out.size), by rw [new_cell]; rfl, by rw [new_cell]; rfl⟩
            | exact ⟨W2.heap.size, rfl, (HB3.out.setCell (p := ⟨W2.heap.size, 0, none⟩) (Nat.le_refl _) _).setCell (p := ⟨W2.heap.size, 1, none⟩) (Nat.le_refl _) _, ((HRZ.out.set 0 (.int .i64 kc)).set 1 (.int .i64 kv)).cell (i := 0) (by omega), ((HRZ.out.set 0 (.int .i64 kc)).set 1 (.int .i64 kv)).cell (i := 1) (by omega)⟩
      case rest =>
        obtain ⟨g, rfl, hbW, g0, g1⟩ := hcut
        obtain ⟨hbF, -, hrr, hxx⟩ := HL2.out _ hbW
        have HBF : Hid (Below w.heap.size w wc) := hbF
        have t0 : wc.cell? ⟨w.heap.size + 1, 0, none⟩ = some (.int .i64 0) := hrr.cell (i := 0) (by omega)
        have t1 : wc.cell? ⟨w.heap.size + 1, 1, none⟩ = some (.int .i64 0) := hrr.cell (i := 1) (by omega)
        have s0 := hrr.frozen 0
        have s1 := hrr.frozen 1
        have y0 := hxx 0 _ rfl
        have y1 := hxx 1 _ rfl
        have HEND : Hid (∀ u v : Value, Below w.heap.size w ((wc.setCell ⟨w.heap.size + 1, 0, none⟩ u).setCell ⟨w.heap.size + 1, 1, none⟩ v)) := fun u v => (hbF.setCell (p := ⟨w.heap.size + 1, 0, none⟩) (by show w.heap.size ≤ w.heap.size + 1; omega) _).setCell (p := ⟨w.heap.size + 1, 1, none⟩) (by show w.heap.size ≤ w.heap.size + 1; omega) _
        clear hbW hrr hxx hbF HW HL2 HA1 HA2 HZ2 z0 z1 v1 q1 q2 q3 HN
        by_cases hk : kc = 0
        rotate_left
        · have hkb : (kc != 0) = true := by simpa using hk
          have HR : Hid (RES = (kc, kv)) := by unfold Hid; rw [← HRES.out]; exact if_neg hk
          clear hk HK H2
          go_wp2
          exact bodyPost_ret (v := intRV (kc, kv)) (by simp [results, Tryz.results14, go_sem, t0, t1]) rfl ⟨by rw [HR.out], HEND.out _ _⟩
        · have hkb : (kc != 0) = false := by simpa using hk
          obtain ⟨y, hy, hyl, b0, o0, rfl, rfl, k0⟩ := HK.out hk
          subst hy
          have k1 := cell_later HBF.out k0
          have hyI : (y : Int) < ((d.1.length : Nat) : Int) := by omega
          have HRR : Hid (RES = if (d.1[y]?.getD id0).1 = 2 then (kc, (y : Int)) else (9, 0)) := by
            unfold Hid
            rw [← HRES.out]
            show (if kc = 0 then (if kindAt d.1 (y : Int).toNat = 2 then (kc, (y : Int)) else (9, 0)) else (kc, (y : Int))) = _
            rw [if_pos hk, Int.toNat_natCast]; rfl
          clear hk HK H2 HRES k0
          generalize (d.1[y]?.getD id0).1 = kd at *
          generalize d.1.length = nn at *
          by_cases h2 : kd = 2
          · have h2b : (kd != 2) = false := by simpa using h2
            have HR : Hid (RES = (kc, (y : Int))) := by unfold Hid; rw [HRR.out, if_pos h2]
            clear h2 HRR
            go_wp2
            exact bodyPost_ret (v := intRV (kc, (y : Int))) (by simp [results, Tryz.results14, go_sem, t0, t1]) rfl ⟨by rw [HR.out], HEND.out _ _⟩
          · have h2b : (kd != 2) = true := by simpa using h2
            have HR : Hid (RES = (9, 0)) := by unfold Hid; rw [HRR.out, if_neg h2]
            clear h2 HRR
            go_wp2
            exact bodyPost_ret (v := intRV (9, 0)) (by simp [results, Tryz.results14, go_sem, t0, t1]) rfl ⟨by rw [HR.out], HEND.out _ _⟩
end Go.Proofs.YtaibcofendjnnaaGreatDoor

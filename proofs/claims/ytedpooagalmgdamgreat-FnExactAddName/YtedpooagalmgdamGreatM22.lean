/- The specification's AddName: an entry more in a directory. The specification's AddName: the contract. From the reading of an argument to the lists that it holds. No program is named here. What the rows of this seat share: how a disk that came in is opened. How inodes that came in are opened. How lists of inodes that came in are opened. How file systems that came in are opened. -/
import Derived.Test.YtedpooagalmgdamGreatM21
import Derived.Test.YtedpooagalmgdamGreatM00
import Derived.ProofKit
import Derived.Deep.Slices
import Derived.Deep.SlicePairs
import Derived.Lib.SmallJoins
import Derived.Test.YtedpooagalmgdamGreatRows
import Derived.Test.YtedpooagalmgdamGreatM02
import Derived.Test.YtedpooagalmgdamGreatM03
import Derived.Test.YtedpooagalmgdamGreatM05
namespace Go.Proofs.YtedpooagalmgdamGreat
open Go.RowKit
set_option maxRecDepth 100000

/-- What l8Add comes to: the code, and the file system behind it. -/
def addZ (d : FD) (j : Nat) (s : ByteArray) (y : Int) : FD := if (addQ d j s y).1 = 0 then (addQ d j s y).2 else d
theorem FsS.boundF {w : World} {bI n cI bD m cD : Nat} {d : FD} {F : Nat → Prop} (h : FsS w bI n cI bD m cD d F) : FsS w bI n cI bD m cD d (fun c => F c ∧ c < w.heap.size) := by
  obtain ⟨F1, G1, h1, h2, h3, h4⟩ := h
  exact ⟨F1, G1, h1, h2, h3, fun b hb => ⟨h4 b hb, (h4 b hb).2⟩⟩
theorem FsS.fsx {w : World} {bo bI n cI bD cD : Nat} {d : FD} {F : Nat → Prop} (hfs : FsS w bI n cI bD 20 cD d F) (h0 : w.cell? ⟨bo, 0, none⟩ = some (.slice (some ⟨bI, 0, none⟩) n cI)) (h1 : w.cell? ⟨bo, 1, none⟩ = some (.slice (some ⟨bD, 0, none⟩) 20 cD)) : FsX w bo 0 d (some ⟨bI, 0, none⟩) cI (some ⟨bD, 0, none⟩) cD := by
  have hl := hfs.len
  have hr := hfs.fs.reads
  exact ⟨by rw [hl.1]; exact h0, by rw [hl.2]; exact h1, by rw [hl.1]; exact hr.1, by rw [hl.2]; exact hr.2⟩

set_option maxHeartbeats 6400000 in
theorem l8Add_any (w : World) (bo bI n cI bD cD : Nat) (d : FD) (F : Nat → Prop) (j : Nat) (s : ByteArray) (y : Int) (h0 : w.cell? ⟨bo, 0, none⟩ = some (.slice (some ⟨bI, 0, none⟩) n cI)) (h1 : w.cell? ⟨bo, 1, none⟩ = some (.slice (some ⟨bD, 0, none⟩) 20 cD)) (hfs : FsS w bI n cI bD 20 cD d F) (hFo : ¬ F bo) (hn : d.1.length = n) (hds : DirS d j) (hml : s.size ≤ maxLen) :
    Calls Tryz.prog 60 #[.pointer (some ⟨bo, 0, none⟩), .int .i64 (j : Int), .string s, .int .i64 y] w fun e w' => e = .returned (.int .i64 (addQ d j s y).1) ∧ Chg (fun c => c = bI) w w' ∧ FsS w' bI n cI bD 20 cD (addZ d j s y) (fun c => F c ∨ w.heap.size ≤ c) := by
  have hx := hfs.fsx h0 h1
  have hjn : j < n := by have := hds.lt; omega
  have hjI : (j : Int) < (n : Int) := by omega
  have h6 := hds.six
  have hten : n ≤ 10 := by have := hds.ten; omega
  obtain ⟨aB, cB, aE, cE, -, -, -, -, k4, hE⟩ := FsR.five hfs.fs.reads hds.lt
  rw [Nat.zero_add] at k4
  obtain ⟨-, hcE, hAt, -, hZ⟩ := hE.cap
  have HFS : Hid (FsS w bI n cI bD 20 cD d F) := hfs
  have HPL : Hid (Calls Tryz.prog 93 #[.slice aE (entA d j).length cE, .string s] w fun e w' => e = .returned (.int .i64 (at8 (entA d j) s)) ∧ w' = w) := l8At_any w aE _ cE (entA d j) s rfl (by omega) hAt
  have HPC : Hid (Calls Tryz.prog 94 #[.pointer (some ⟨bo, 0, none⟩), .int .i64 y] w fun e w' => e = .returned (.bool (decide (0 ≤ y ∧ y < (d.1.length : Int)))) ∧ w' = w) := l6Place_any w bo 0 d _ _ _ _ y hx
  have HAQ : Hid (addQ d j s y = if idxE (entA d j) s < (entA d j).length then noFs 7 else if 0 ≤ y ∧ y < (d.1.length : Int) ∧ ¬ kindAt d.1 y.toNat = 0 then (if (entA d j).length = 6 ∨ (kindAt d.1 y.toNat = 1 ∧ 60 ≤ (d.1[y.toNat]?.getD id0).2.1) then noFs 2 else (0, addD d j s y.toNat)) else noFs 4) := rfl
  have HSAME : Hid (FsS w bI n cI bD 20 cD d (fun c => F c ∨ w.heap.size ≤ c)) := hfs.mono fun c hc => Or.inl hc
  have bad : ∀ c : Int, ¬ c = 0 → addQ d j s y = noFs c → ∀ (e : Ending) (w' : World), e = .returned (.int .i64 c) → w' = w → (e = .returned (.int .i64 (addQ d j s y).1) ∧ Chg (fun c => c = bI) w w' ∧ FsS w' bI n cI bD 20 cD (addZ d j s y) (fun c => F c ∨ w.heap.size ≤ c)) := fun c hc e1 e w' e2 e3 => by
    subst e3
    have e4 : addZ d j s y = d := by unfold addZ; rw [e1, if_neg (show ¬ (noFs c).1 = 0 from hc)]
    rw [e4, e1]
    exact ⟨e2, Chg.refl _ _, HSAME.out⟩
  have HBAD : Hid (∀ c : Int, ¬ c = 0 → addQ d j s y = noFs c → ∀ (e : Ending) (w' : World), e = .returned (.int .i64 c) → w' = w → (e = .returned (.int .i64 (addQ d j s y).1) ∧ Chg (fun c => c = bI) w w' ∧ FsS w' bI n cI bD 20 cD (addZ d j s y) (fun c => F c ∨ w.heap.size ≤ c))) := bad
  have HATH : Hid (AtN w aE (entA d j).length (entA d j)) := hAt
  have HZZ : Hid (∀ k : Nat, ((entA d j)[k]?.getD en0).1.size ≤ maxLen) := hZ
  clear bad hx hAt hE hZ
  by_cases hi : idxE (entA d j) s < (entA d j).length
  · have HR : Hid (addQ d j s y = noFs 7) := by unfold Hid; rw [HAQ.out, if_pos hi]
    have ha8 : at8 (entA d j) s = ((idxE (entA d j) s : Nat) : Int) := by unfold at8; rw [if_pos hi]
    rw [ha8] at HPL
    clear hi ha8 HAQ hfs hds
    have HB := HBAD.out 7 (by omega) HR.out
    have HBB : Hid (∀ (e : Ending) (w' : World), e = .returned (.int .i64 7) → w' = w → _) := HB
    clear HB HBAD HR
    generalize idxE (entA d j) s = i at *
    generalize (entA d j).length = m at *
    go_enter Tryz.func60, Tryz.ntmps60
    go_wp2_with fail
    refine HPL.out.mono ?_
    rintro e w1 ⟨rfl, rfl⟩
    go_wp2
    go_ret
    exact HBB.out _ _ rfl rfl
  · have ha8 : at8 (entA d j) s = -1 := by unfold at8; rw [if_neg hi]
    rw [ha8] at HPL
    by_cases hy : 0 ≤ y ∧ y < (d.1.length : Int)
    rotate_left
    · have HR : Hid (addQ d j s y = noFs 4) := by unfold Hid; rw [HAQ.out, if_neg hi, if_neg (fun hh => hy ⟨hh.1, hh.2.1⟩)]
      rw [decide_eq_false hy] at HPC
      clear hi ha8 HAQ hfs hds hy
      have HB := HBAD.out 4 (by omega) HR.out
      have HBB : Hid (∀ (e : Ending) (w' : World), e = .returned (.int .i64 4) → w' = w → _) := HB
      clear HB HBAD HR
      generalize (entA d j).length = m at *
      go_enter Tryz.func60, Tryz.ntmps60
      go_wp2_with fail
      refine HPL.out.mono ?_
      rintro e w1 ⟨rfl, rfl⟩
      go_wp2_with fail
      refine HPC.out.mono ?_
      rintro e w1 ⟨rfl, rfl⟩
      go_wp2
      go_ret
      exact HBB.out _ _ rfl rfl
    · rw [decide_eq_true hy] at HPC
      obtain ⟨z, rfl⟩ : ∃ z : Nat, y = (z : Int) := ⟨y.toNat, by omega⟩
      rw [Int.toNat_natCast] at HAQ
      have hzn : z < n := by omega
      have hzI : (z : Int) < (n : Int) := by omega
      obtain ⟨_, _, _, _, g0, g1, -, -, -, -, gf, -⟩ := hfs.ino z hzn
      by_cases hk0 : kindAt d.1 z = 0
      · have HR : Hid (addQ d j s (z : Int) = noFs 4) := by unfold Hid; rw [HAQ.out, if_neg hi, if_neg (fun hh => hh.2.2 hk0)]
        have hkb : ((d.1[z]?.getD id0).1 == 0) = true := beq_iff_eq.2 hk0
        clear hi ha8 HAQ hfs hds hy hk0 gf g1
        have HB := HBAD.out 4 (by omega) HR.out
        have HBB : Hid (∀ (e : Ending) (w' : World), e = .returned (.int .i64 4) → w' = w → _) := HB
        clear HB HBAD HR
        generalize (entA d j).length = m at *
        generalize (d.1[z]?.getD id0).1 = kd at *
        go_enter Tryz.func60, Tryz.ntmps60
        go_wp2_with fail
        refine HPL.out.mono ?_
        rintro e w1 ⟨rfl, rfl⟩
        go_wp2_with fail
        refine HPC.out.mono ?_
        rintro e w1 ⟨rfl, rfl⟩
        go_wp2
        go_ret
        exact HBB.out _ _ rfl rfl
      · have hkb : ((d.1[z]?.getD id0).1 == 0) = false := beq_eq_false_iff_ne.2 hk0
        by_cases hmany : (entA d j).length = 6 ∨ (kindAt d.1 z = 1 ∧ 60 ≤ (d.1[z]?.getD id0).2.1)
        · have HR : Hid (addQ d j s (z : Int) = noFs 2) := by unfold Hid; rw [HAQ.out, if_neg hi, if_pos ⟨by omega, by omega, hk0⟩, if_pos hmany]
          have HB := HBAD.out 2 (by omega) HR.out
          have HBB : Hid (∀ (e : Ending) (w' : World), e = .returned (.int .i64 2) → w' = w → _) := HB
          clear HB HBAD HR
          by_cases hm6 : (entA d j).length = 6
          · rw [hm6] at HPL k4
            clear hi ha8 HAQ hfs hds hy hk0 gf g1 hmany hm6
            generalize (d.1[z]?.getD id0).1 = kd at *
            go_enter Tryz.func60, Tryz.ntmps60
            go_wp2_with fail
            refine HPL.out.mono ?_
            rintro e w1 ⟨rfl, rfl⟩
            go_wp2_with fail
            refine HPC.out.mono ?_
            rintro e w1 ⟨rfl, rfl⟩
            go_wp2
            go_ret
            exact HBB.out _ _ rfl rfl
          · have hkl := hmany.resolve_left hm6
            have hk1 : ((d.1[z]?.getD id0).1 == 1) = true := beq_iff_eq.2 hkl.1
            have hl6 : decide ((60 : Int) ≤ (d.1[z]?.getD id0).2.1) = true := by simpa using hkl.2
            have hmb : decide ((6 : Int) ≤ (((entA d j).length : Nat) : Int)) = false := by simp; omega
            have hmb2 : decide (6 ≤ (entA d j).length) = false := by simp; omega
            clear hi ha8 HAQ hfs hds hy hk0 gf hmany hm6 hkl
            generalize (entA d j).length = m at *
            generalize (d.1[z]?.getD id0).1 = kd at *
            generalize (d.1[z]?.getD id0).2.1 = kl at *
            go_enter Tryz.func60, Tryz.ntmps60
            go_wp2_with fail
            refine HPL.out.mono ?_
            rintro e w1 ⟨rfl, rfl⟩
            go_wp2_with fail
            refine HPC.out.mono ?_
            rintro e w1 ⟨rfl, rfl⟩
            go_wp2
            go_ret
            exact HBB.out _ _ rfl rfl
        · have hm6 : ¬ (entA d j).length = 6 := fun e => hmany (Or.inl e)
          have HR : Hid (addQ d j s (z : Int) = (0, addD d j s z)) := by unfold Hid; rw [HAQ.out, if_neg hi, if_pos ⟨by omega, by omega, hk0⟩, if_neg hmany]
          have HGD : Hid (∀ (e : Ending) (w' : World), e = .returned (.int .i64 0) → Chg (fun c => c = bI) w w' → FsS w' bI n cI bD 20 cD (addD d j s z) (fun c => F c ∨ w.heap.size ≤ c) → (e = .returned (.int .i64 (addQ d j s (z : Int)).1) ∧ Chg (fun c => c = bI) w w' ∧ FsS w' bI n cI bD 20 cD (addZ d j s (z : Int)) (fun c => F c ∨ w.heap.size ≤ c))) := fun e w' e1 e2 e3 => by
            have e4 : addZ d j s (z : Int) = addD d j s z := by unfold addZ; rw [HR.out]; rfl
            rw [e4, HR.out]
            exact ⟨e1, e2, e3⟩
          have hmb : decide ((6 : Int) ≤ (((entA d j).length : Nat) : Int)) = false := by simp; omega
          have hmb2 : decide (6 ≤ (entA d j).length) = false := by simp; omega
          have HPUT : Hid (∀ W, Below w.heap.size w W → Calls Tryz.prog 95 #[.slice aE (entA d j).length cE, .agg #[.string s, .int .i64 (z : Int)]] W fun e w' => ∃ v, e = .returned v ∧ WdE w' W.heap.size v (insE (entA d j) (plcE (entA d j) s) (s, (z : Int))) ∧ Below W.heap.size W w') := fun W hW => l8Put_any W aE _ cE (entA d j) s (z : Int) rfl hcE h6 (HATH.out.later hW)
          have HEZ : Hid (∀ i : Nat, ((insE (entA d j) (plcE (entA d j) s) (s, (z : Int)))[i]?.getD en0).1.size ≤ maxLen) := insE_size HZZ.out hml
          have HBK : Hid ((d.1[j]?.getD id0).2.2.2.1 = []) := dir_blk (ins_ino hds.ins j hds.lt) hds.kind
          have HLN : Hid ((d.1[z]?.getD id0).1 = 1 → 1 ≤ (d.1[z]?.getD id0).2.1 ∧ (d.1[z]?.getD id0).2.1 < 60) := fun e => ⟨(ino_lnk (ins_ino hds.ins z (by omega)) e).1, by
            by_cases hh : 60 ≤ (d.1[z]?.getD id0).2.1
            · exact absurd (Or.inr ⟨e, hh⟩) hmany
            · omega⟩
          have HAD : Hid (addD d j s z = if (d.1[z]?.getD id0).1 = 1 then lnkD (entD d j (insE (entA d j) (plcE (entA d j) s) (s, (z : Int)))) z ((d.1[z]?.getD id0).2.1 + 1) else entD d j (insE (entA d j) (plcE (entA d j) s) (s, (z : Int)))) := rfl
          rw [HAD.out] at HGD
          have HEK := entD_kind d j z (insE (entA d j) (plcE (entA d j) s) (s, (z : Int))) hds.lt
          have HEK1 : Hid (((entD d j (insE (entA d j) (plcE (entA d j) s) (s, (z : Int)))).1[z]?.getD id0).1 = (d.1[z]?.getD id0).1) := HEK.1
          have HEK2 : Hid (((entD d j (insE (entA d j) (plcE (entA d j) s) (s, (z : Int)))).1[z]?.getD id0).2.1 = (d.1[z]?.getD id0).2.1) := HEK.2
          obtain ⟨_, _, _, _, -, -, -, -, -, -, jf, -⟩ := hfs.ino j hjn
          have c4f := jf (j * 5 + 4)
          have hne := hfs.ne
          have hoI : bo ≠ bI := fun e => hFo (e ▸ hne.2.1.1)
          have hlI : bI < w.heap.size := hne.2.1.2
          have hlo : bo < w.heap.size := World.block_lt_of_cell? _ _ h0
          generalize insE (entA d j) (plcE (entA d j) s) (s, (z : Int)) = nes at *
          generalize hent : entD d j nes = dn at *
          have HDN : Hid (entD d j nes = dn) := hent
          clear hi ha8 HAQ hfs hds hy hk0 hmany hm6 HAD HEK hent gf jf HBAD HR HATH HZZ HSAME
          generalize (entA d j).length = m at *
          generalize (d.1[z]?.getD id0).1 = kd at *
          generalize (d.1[z]?.getD id0).2.1 = kl at *
          have step : ∀ P : Prop, (kd = 1 → P) → (¬ kd = 1 → P) → P := fun P f1 f2 => by
            by_cases h : kd = 1
            · exact f1 h
            · exact f2 h
          apply step
          · intro hk1
            rw [if_pos hk1] at HGD
            have hkb1 : (kd == 1) = true := by simpa using hk1
            have hln := HLN.out hk1
            have hl6 : decide ((60 : Int) ≤ kl) = false := by simp; omega
            clear step hk1
            go_enter Tryz.func60, Tryz.ntmps60
            go_wp2_with fail
            refine HPL.out.mono ?_
            rintro e w1 ⟨rfl, rfl⟩
            go_wp2_with fail
            refine HPC.out.mono ?_
            rintro e w1 ⟨rfl, rfl⟩
            go_wp2_with fail
            go_region_law (first
              | (try go_simp; go_at_call 95; refine (HPUT.out w1.drew (Below.refl _ _).drew).mono ?_; rintro e w2 ⟨v, rfl, hw2, hb2⟩
                 obtain ⟨av, cv, rfl⟩ := hw2.shape
                 have HB2 : Hid (Below w1.heap.size w1 w2) := (Below.refl _ _).drew.trans hb2
                 have HW2 : Hid (WdE w2 w1.heap.size (.slice av nes.length cv) nes) := hw2
                 have b02 := cell_later HB2.out h0
                 have c42 := cell_later HB2.out k4
                 have c42f := (HB2.out.frozen (p := ⟨bI, j * 5 + 4, none⟩) hlI).trans c4f
                 clear hw2 hb2)
              | fail)
            all_goals
              have HF9 : Hid (FsS (w2.setCell ⟨bI, j * 5 + 4, none⟩ (.slice av nes.length cv)) bI n cI bD 20 cD dn (fun c => F c ∨ w1.heap.size ≤ c)) := by
                have := ((HFS.out.boundF.later HB2.out).entS j hjn HBK.out nes _ (HW2.out.own HEZ.out) (fun c hc => ⟨fun hh => by have := hh.2; have := hc.1; omega, hc.2⟩)).mono (F' := fun c => F c ∨ w1.heap.size ≤ c) fun c hh => by
                  rcases hh with hh | hh
                  · exact Or.inl hh.1
                  · exact Or.inr hh.1
                rw [← HDN.out]
                exact this
              have HC9 : Hid (Chg (fun c => c = bI) w1 (w2.setCell ⟨bI, j * 5 + 4, none⟩ (.slice av nes.length cv))) := Chg.set (F := fun c => c = bI) (Chg.of_below HB2.out) rfl _ _
              have p0 := HC9.out.cellOf h0 hoI
              obtain ⟨_, _, _, _, z0, z1, -, -, -, -, zf, -⟩ := HF9.out.ino z hzn
              rw [HEK1.out] at z0
              rw [HEK2.out] at z1
              have z1f := zf (z * 5 + 1)
              clear zf
              generalize (w2.setCell ⟨bI, j * 5 + 4, none⟩ (.slice av nes.length cv)) = W9 at *
              have HF10 : Hid (FsS (W9.setCell ⟨bI, z * 5 + 1, none⟩ (.int .i64 (kl + 1))) bI n cI bD 20 cD (lnkD dn z (kl + 1)) (fun c => F c ∨ w1.heap.size ≤ c)) := HF9.out.lnkS z hzn (kl + 1)
              have HC10 : Hid (Chg (fun c => c = bI) w1 (W9.setCell ⟨bI, z * 5 + 1, none⟩ (.int .i64 (kl + 1)))) := Chg.set (F := fun c => c = bI) HC9.out rfl _ _
              go_wp2
              go_ret
              exact HGD.out _ _ rfl HC10.out HF10.out
          · intro hk1
            rw [if_neg hk1] at HGD
            have hkb1 : (kd == 1) = false := by simpa using hk1
            clear step hk1 g1
            go_enter Tryz.func60, Tryz.ntmps60
            go_wp2_with fail
            refine HPL.out.mono ?_
            rintro e w1 ⟨rfl, rfl⟩
            go_wp2_with fail
            refine HPC.out.mono ?_
            rintro e w1 ⟨rfl, rfl⟩
            go_wp2_with fail
            go_region_law (first
              | (try go_simp; go_at_call 95; refine (HPUT.out w1.drew (Below.refl _ _).drew).mono ?_; rintro e w2 ⟨v, rfl, hw2, hb2⟩
                 obtain ⟨av, cv, rfl⟩ := hw2.shape
                 have HB2 : Hid (Below w1.heap.size w1 w2) := (Below.refl _ _).drew.trans hb2
                 have HW2 : Hid (WdE w2 w1.heap.size (.slice av nes.length cv) nes) := hw2
                 have b02 := cell_later HB2.out h0
                 have c42 := cell_later HB2.out k4
                 have c42f := (HB2.out.frozen (p := ⟨bI, j * 5 + 4, none⟩) hlI).trans c4f
                 clear hw2 hb2)
              | fail)
            all_goals
              have HF9 : Hid (FsS (w2.setCell ⟨bI, j * 5 + 4, none⟩ (.slice av nes.length cv)) bI n cI bD 20 cD dn (fun c => F c ∨ w1.heap.size ≤ c)) := by
                have := ((HFS.out.boundF.later HB2.out).entS j hjn HBK.out nes _ (HW2.out.own HEZ.out) (fun c hc => ⟨fun hh => by have := hh.2; have := hc.1; omega, hc.2⟩)).mono (F' := fun c => F c ∨ w1.heap.size ≤ c) fun c hh => by
                  rcases hh with hh | hh
                  · exact Or.inl hh.1
                  · exact Or.inr hh.1
                rw [← HDN.out]
                exact this
              have HC9 : Hid (Chg (fun c => c = bI) w1 (w2.setCell ⟨bI, j * 5 + 4, none⟩ (.slice av nes.length cv))) := Chg.set (F := fun c => c = bI) (Chg.of_below HB2.out) rfl _ _
              go_wp2
              go_ret
              exact HGD.out _ _ rfl HC9.out HF9.out

end Go.Proofs.YtedpooagalmgdamGreat

namespace Go.Proofs.YtedpooagalmgdamGreat
open Go.RowKit
set_option maxRecDepth 100000

set_option maxHeartbeats 6400000 in
theorem specAddU (w : World) (a1 : Option Addr) (n1 c1 : Nat) (a2 : Option Addr) (n2 c2 : Nat) (d : FD) (x : Int) (s : ByteArray) (y : Int) (h : FsR w (.slice a1 n1 c1) (.slice a2 n2 c2) d) (hs : sizeFs d ≤ 1048576) (hl : s.size ≤ 1048576) :
    Calls Tryz.prog 29 #[.agg #[.slice a1 n1 c1, .slice a2 n2 c2], .int .i64 x, .string s, .int .i64 y] w (AnsFR w (addR d x s y)) := by
  have hml : s.size ≤ maxLen := by unfold maxLen; omega
  obtain ⟨hx0, -, -⟩ := FsX.box h 31
  have HB0 : Hid (Below w.heap.size w ((w.alloc (.cells #[.slice a1 n1 c1, .slice a2 n2 c2] 31)).alloc (.cells #[.int .i64 0, .slice none 0 0, .slice none 0 0] 33))) := later2 _ _ _
  have HBX : Hid (Bx ((w.alloc (.cells #[.slice a1 n1 c1, .slice a2 n2 c2] 31)).alloc (.cells #[.int .i64 0, .slice none 0 0, .slice none 0 0] 33)) w.heap.size [.slice a1 n1 c1, .slice a2 n2 c2]) := (Bx.new w [.slice a1 n1 c1, .slice a2 n2 c2] _).later (later1 _ _)
  have HRS : Hid (OwnRow ((w.alloc (.cells #[.slice a1 n1 c1, .slice a2 n2 c2] 31)).alloc (.cells #[.int .i64 0, .slice none 0 0, .slice none 0 0] 33)) (w.heap.size + 1) 3 (cel zero3)) := by
    have p2 := row3 (w.alloc (.cells #[.slice a1 n1 c1, .slice a2 n2 c2] 31)) 33
    rw [World.size_alloc] at p2
    exact p2
  have HF : Hid (∀ W, Below ((w.alloc (.cells #[.slice a1 n1 c1, .slice a2 n2 c2] 31)).alloc (.cells #[.int .i64 0, .slice none 0 0, .slice none 0 0] 33)).heap.size ((w.alloc (.cells #[.slice a1 n1 c1, .slice a2 n2 c2] 31)).alloc (.cells #[.int .i64 0, .slice none 0 0, .slice none 0 0] 33)) W → Calls Tryz.prog 59 #[.pointer (some ⟨w.heap.size, 0, none⟩), .int .i64 x, .string s] W fun e w' => e = .returned (.int .i64 (dirN d x s)) ∧ Below W.heap.size W w') := fun W hW => l8Name_any W _ _ d _ _ _ _ x s ((hx0.later (later1 _ _)).later hW) (by unfold sizeFs at hs; omega) hml
  have HCF : Hid (∀ W, Below w.heap.size w W → Calls Tryz.prog 49 #[.agg #[.slice a1 n1 c1, .slice a2 n2 c2]] W (AnsFs W d)) := fun W hW => l6Copy_any W a1 n1 c1 a2 n2 c2 d (h.later hW) hs
  have HRR : Hid (addR d x s y = if dirN d x s = 0 then addQ d x.toNat s y else noFs (dirN d x s)) := rfl
  rw [HRR.out]
  clear HRR hx0 h
  by_cases hq : dirN d x s = 0
  rotate_left
  · rw [if_neg hq]
    have hb : (dirN d x s != 0) = true := by simpa using hq
    clear hq hs
    generalize dirN d x s = r at *
    go_enter Tryz.func29, Tryz.ntmps29
    go_wp2_with fail
    generalize ((w.alloc (.cells #[.slice a1 n1 c1, .slice a2 n2 c2] 31)).alloc (.cells #[.int .i64 0, .slice none 0 0, .slice none 0 0] 33)) = W0 at *
    refine (HF.out _ (Below.refl _ _)).mono ?_
    rintro e w1 ⟨rfl, hb1⟩
    have HB1 : Hid (Below w.heap.size w w1) := HB0.out.trans (hb1.mono HB0.out.size)
    have hrr := HRS.out.later hb1
    have t0 : w1.cell? ⟨w.heap.size + 1, 0, none⟩ = some (.int .i64 0) := hrr.cell (i := 0) (by omega)
    have t1 : w1.cell? ⟨w.heap.size + 1, 1, none⟩ = some (.slice none 0 0) := hrr.cell (i := 1) (by omega)
    have t2 : w1.cell? ⟨w.heap.size + 1, 2, none⟩ = some (.slice none 0 0) := hrr.cell (i := 2) (by omega)
    have s0 := hrr.frozen 0
    have s1 := hrr.frozen 1
    have s2 := hrr.frozen 2
    clear hb1 hrr
    go_wp2
    exact bodyPost_ret (v := .agg #[.int .i64 r, .slice none 0 0, .slice none 0 0]) (by simp [results, Tryz.results29, go_sem, t0, t1, t2]) rfl (AnsFR.none' r HB1.out (by omega) _ _ _)
  · rw [if_pos hq]
    have hq0 : dirQ d x = 0 := dirN_in hq
    have hds := dirS hq0
    obtain ⟨-, hp, -⟩ := dirQ_in hq0
    obtain ⟨j, rfl⟩ : ∃ j : Nat, x = (j : Int) := ⟨x.toNat, by omega⟩
    rw [Int.toNat_natCast] at hds ⊢
    have HDS : Hid (DirS d j) := hds
    rw [hq] at HF
    have HML : Hid (s.size ≤ maxLen) := hml
    have HBADF : Hid (¬ (addQ d j s y).1 = 0 → addQ d j s y = noFs (addQ d j s y).1) := fun hh => by
      unfold addQ at hh ⊢
      split
      · rfl
      · split
        · split
          · rfl
          · rename_i h1 h2 h3
            rw [if_neg h1, if_pos h2, if_neg h3] at hh
            exact absurd rfl hh
        · rfl
    have HAZ : Hid ((addQ d j s y).1 = 0 → addQ d j s y = (0, addZ d j s y)) := fun hh => by
      unfold addZ
      rw [if_pos hh]
      exact Prod.ext hh rfl
    clear hq hq0 hp hds hs hml
    go_enter Tryz.func29, Tryz.ntmps29
    go_wp2_with fail
    generalize ((w.alloc (.cells #[.slice a1 n1 c1, .slice a2 n2 c2] 31)).alloc (.cells #[.int .i64 0, .slice none 0 0, .slice none 0 0] 33)) = W0 at *
    refine (HF.out _ (Below.refl _ _)).mono ?_
    rintro e w1 ⟨rfl, hb1⟩
    have HB1 : Hid (Below w.heap.size w w1) := HB0.out.trans (hb1.mono HB0.out.size)
    have HR1 : Hid (OwnRow w1 (w.heap.size + 1) 3 (cel zero3)) := HRS.out.later hb1
    have x0 := (HBX.out.later hb1) 0 _ rfl
    have x1 := (HBX.out.later hb1) 1 _ rfl
    have hlw : w.heap.size + 1 < w1.heap.size := HR1.out.lt
    clear hb1
    go_wp2_with fail
    clear x0 x1
    refine (HCF.out _ HB1.out).mono ?_
    rintro e w5 ⟨q1, m1, cI, q2, m2, cD, rfl, hb5, hf5⟩
    obtain ⟨bI, e1, bD, e2, eI, eD, hfs⟩ := FsS.of hf5 (by have := HDS.out.lt; omega) (by have := HDS.out.dat; omega)
    simp only [Value.slice.injEq] at eI eD
    obtain ⟨rfl, rfl, rfl⟩ := eI
    obtain ⟨rfl, rfl, rfl⟩ := eD
    rw [HDS.out.dat] at hfs
    rw [HDS.out.dat]
    have HL6 : Hid (Below w1.heap.size w1 (w5.alloc (.cells #[.slice (some ⟨bI, 0, none⟩) d.1.length cI, .slice (some ⟨bD, 0, none⟩) 20 cD] 31))) := hb5.trans ((later1 _ _).mono hb5.size)
    have HF6 : Hid (FsS (w5.alloc (.cells #[.slice (some ⟨bI, 0, none⟩) d.1.length cI, .slice (some ⟨bD, 0, none⟩) 20 cD] 31)) bI d.1.length cI bD 20 cD d (fun c => w1.heap.size ≤ c ∧ c < w5.heap.size)) := hfs.later (later1 _ _)
    have HO6 : Hid (Bx (w5.alloc (.cells #[.slice (some ⟨bI, 0, none⟩) d.1.length cI, .slice (some ⟨bD, 0, none⟩) 20 cD] 31)) w5.heap.size [.slice (some ⟨bI, 0, none⟩) d.1.length cI, .slice (some ⟨bD, 0, none⟩) 20 cD]) := Bx.new w5 [.slice (some ⟨bI, 0, none⟩) d.1.length cI, .slice (some ⟨bD, 0, none⟩) 20 cD] _
    have HS6 : Hid (w1.heap.size ≤ w5.heap.size ∧ (w5.alloc (.cells #[.slice (some ⟨bI, 0, none⟩) d.1.length cI, .slice (some ⟨bD, 0, none⟩) 20 cD] 31)).heap.size = w5.heap.size + 1) := ⟨hb5.size, by simp⟩
    clear hb5 hf5 hfs
    go_wp2_with fail
    generalize (w5.alloc (.cells #[.slice (some ⟨bI, 0, none⟩) d.1.length cI, .slice (some ⟨bD, 0, none⟩) 20 cD] 31)) = W6 at *
    have hne := HF6.out.ne
    have hoI : w5.heap.size ≠ bI := fun e => by have := hne.2.1.1.2; omega
    refine (l8Add_any W6 w5.heap.size bI d.1.length cI bD cD d _ j s y (HO6.out 0 _ rfl) (HO6.out 1 _ rfl) HF6.out (fun hh => by have := hh.2; omega) rfl HDS.out HML.out).mono ?_
    rintro e w7 ⟨rfl, hc7, hf7⟩
    have HF7 : Hid (FsS w7 bI d.1.length cI bD 20 cD (addZ d j s y) (fun c => w1.heap.size ≤ c)) := hf7.mono fun c hh => by
      have := HS6.out
      rcases hh with hh | hh
      · exact hh.1
      · omega
    have HL7 : Hid (Below w1.heap.size w1 w7) := HL6.out.trans (hc7.below HL6.out.size fun b hb => by have := hne.2.1.1.1; omega)
    have p0 := hc7.cellOf (HO6.out 0 _ rfl) hoI
    have p1 := hc7.cellOf (HO6.out 1 _ rfl) hoI
    have hrr := HR1.out.later HL7.out
    have t0 : w7.cell? ⟨w.heap.size + 1, 0, none⟩ = some (.int .i64 0) := hrr.cell (i := 0) (by omega)
    have t1 : w7.cell? ⟨w.heap.size + 1, 1, none⟩ = some (.slice none 0 0) := hrr.cell (i := 1) (by omega)
    have t2 : w7.cell? ⟨w.heap.size + 1, 2, none⟩ = some (.slice none 0 0) := hrr.cell (i := 2) (by omega)
    have s0 := hrr.frozen 0
    have s1 := hrr.frozen 1
    have s2 := hrr.frozen 2
    have HB7 : Hid (Below w.heap.size w w7) := HB1.out.trans (HL7.out.mono HB1.out.size)
    clear hrr hc7 hf7
    generalize addQ d j s y = aq at *
    obtain ⟨qc, qd⟩ := aq
    dsimp only at HBADF HAZ ⊢
    by_cases hz : qc = 0
    · have HE : Hid ((qc, qd) = (0, addZ d j s y)) := HAZ.out hz
      have hzb : (qc != 0) = false := by simpa using hz
      generalize d.1.length = n at *
      go_wp2
      exact bodyPost_ret (v := .agg #[.int .i64 0, .slice (some ⟨bI, 0, none⟩) n cI, .slice (some ⟨bD, 0, none⟩) 20 cD]) (by simp [results, Tryz.results29, go_sem, t0, t1, t2]) rfl (by rw [HE.out]; exact AnsFR.box HB7.out (by omega) HF7.out (fun c hc => ⟨by omega, by omega⟩) _ _ _)
    · have HE : Hid ((qc, qd) = noFs qc) := HBADF.out hz
      have hzb : (qc != 0) = true := by simpa using hz
      go_wp2
      exact bodyPost_ret (v := .agg #[.int .i64 qc, .slice none 0 0, .slice none 0 0]) (by simp [results, Tryz.results29, go_sem, t0, t1, t2]) rfl (by rw [HE.out]; exact AnsFR.none' qc HB7.out (by omega) _ _ _)
end Go.Proofs.YtedpooagalmgdamGreat

namespace Go.Proofs.YtedpooagalmgdamGreat
open Go.ChangeShapes Go.WideShapes Go.ChangeAt Go.RowKit Go.Deep
set_option maxRecDepth 100000

section
variable {H : Type} {enc : TypeId × Value → H} {P : Program} {w : World} {base : Nat} {held : Bool}

theorem addr_of {a : Addr} {v : Value} (h : w.cell? (a.add 0) = some v) : a = ⟨a.block, a.off, none⟩ := by
  obtain ⟨b, o, s⟩ := a
  have : s = none := by simpa [Addr.add] using World.cell?_spot h
  subst this; rfl
theorem add_plain (b off k : Nat) : (⟨b, off, none⟩ : Addr).add k = ⟨b, off + k, none⟩ := by
  by_cases h : k = 0
  · subst h; simp [Addr.add]
  · simp [Addr.add, h]

theorem open_Ints {t e : TypeId} {fuel : Nat} {v : Value} {x : DataW H × List MemPlace} (ht : P.underlying t = some (.slice e)) (he : P.underlying e = some (.int .i64)) (ce : P.cellsOf e = 1) (h : DataW.trod enc P w base (fun _ => true) held fuel t [v] = some x) :
    ∃ zs, Ints w v zs := by
  rcases open_ints ht he ce h with ⟨hcs, _⟩ | ⟨a, len, cap, zs, hcs, _, hl, hm, hz, _, hcell, _⟩
  · simp only [List.cons.injEq, and_true] at hcs
    exact ⟨[], Or.inl ⟨rfl, none, 0, hcs⟩⟩
  · simp only [List.cons.injEq, and_true] at hcs
    simp only [if_true] at hz
    by_cases h0 : len = 0
    · subst h0; exact ⟨[], Or.inl ⟨rfl, some a, cap, hcs⟩⟩
    · have ha := addr_of (hcell 0 (by omega))
      refine ⟨zs.take len, Or.inr ⟨a.block, a.off, cap, ?_, ?_, fun k hk => ?_⟩⟩
      · rw [hcs, List.length_take, Nat.min_eq_left (by omega), ← ha]
      · rw [List.length_take]; omega
      · rw [List.length_take] at hk
        have h1 := hcell k (by omega)
        rw [ha, add_plain] at h1
        rw [h1, List.getElem?_take, if_pos (by omega)]
        rfl

theorem open_IntsS {t e q : TypeId} {fuel : Nat} {v : Value} {x : DataW H × List MemPlace} (ht : P.underlying t = some (.slice e)) (he : P.underlying e = some (.slice q)) (hq : P.underlying q = some (.int .i64)) (ce : P.cellsOf e = 1) (cq : P.cellsOf q = 1)
    (h : DataW.trod enc P w base (fun _ => true) held fuel t [v] = some x) : ∃ zss, IntsS w v zss := by
  rcases open_slice1 ht ce h with ⟨hcs, _⟩ | ⟨a, len, cap, m, n, V, D, Pl, hcs, _, hl, hm, hmm, _, hx⟩
  · simp only [List.cons.injEq, and_true] at hcs
    exact ⟨[], Or.inl ⟨rfl, none, 0, hcs⟩⟩
  · simp only [List.cons.injEq, and_true] at hcs
    simp only [if_true] at hmm
    by_cases h0 : len = 0
    · subst h0; exact ⟨[], Or.inl ⟨rfl, some a, cap, hcs⟩⟩
    · have ha := addr_of (hx 0 (by omega)).1
      obtain ⟨Z, hZ⟩ := choose_lt (α := List Int) (n := m) (p := fun i zs => Ints w (V i) zs) fun i hi => open_Ints he hq cq (hx i hi).2
      refine ⟨(List.range len).map Z, Or.inr ⟨a.block, a.off, cap, V, ?_, ?_, fun k hk => ?_⟩⟩
      · simp only [List.length_map, List.length_range]; rw [hcs, ← ha]
      · simp only [List.length_map, List.length_range]; omega
      · simp only [List.length_map, List.length_range] at hk
        have h1 := (hx k (by omega)).1
        rw [ha, add_plain] at h1
        refine ⟨h1, ?_⟩
        have := hZ k (by omega)
        simpa [hk] using this

theorem open_Puts {t e q : TypeId} {f0 f1 : Field} {fuel : Nat} {v : Value} {x : DataW H × List MemPlace} (ht : P.underlying t = some (.slice e)) (he : P.underlying e = some (.struct #[f0, f1]))
    (ce : P.cellsOf e = 2) (o0 : f0.offset = 0) (o1 : f1.offset = 1) (c0 : P.cellsOf f0.type = 1) (c1 : P.cellsOf f1.type = 1) (h0 : P.underlying f0.type = some (.int .i64)) (h1 : P.underlying f1.type = some (.slice q)) (hq : P.underlying q = some (.int .i64)) (cq : P.cellsOf q = 1)
    (h : DataW.trod enc P w base (fun _ => true) held fuel t [v] = some x) : ∃ ps, Puts w v ps := by
  rcases open_slice_pairs ht he ce o0 o1 c0 c1 h with ⟨hcs, _⟩ | ⟨a, len, cap, m, n, V0, V1, D0, D1, P0, P1, hcs, _, hl, hm, hmm, _, hx⟩
  · simp only [List.cons.injEq, and_true] at hcs
    exact ⟨[], Or.inl ⟨rfl, none, 0, hcs⟩⟩
  · simp only [List.cons.injEq, and_true] at hcs
    simp only [if_true] at hmm
    by_cases hl0 : len = 0
    · subst hl0; exact ⟨[], Or.inl ⟨rfl, some a, cap, hcs⟩⟩
    · have ha := addr_of (by simpa using (hx 0 (by omega)).1)
      obtain ⟨Z, hZ⟩ := choose_lt (α := Int × List Int) (n := m) (p := fun i z => V0 i = .int .i64 z.1 ∧ Ints w (V1 i) z.2) fun i hi => by
        obtain ⟨_, _, g0, g1⟩ := hx i hi
        obtain ⟨zs, hzs⟩ := open_Ints h1 hq cq g1
        obtain ⟨y, hy, _⟩ := DataW.trod_int h0 g0
        simp only [List.cons.injEq, and_true] at hy
        exact ⟨(y, zs), hy, hzs⟩
      refine ⟨(List.range len).map Z, Or.inr ⟨a.block, a.off, cap, V1, ?_, ?_, fun k hk => ?_⟩⟩
      · simp only [List.length_map, List.length_range]; rw [hcs, ← ha]
      · simp only [List.length_map, List.length_range]; omega
      · simp only [List.length_map, List.length_range] at hk
        obtain ⟨e0, e1, _, _⟩ := hx k (by omega)
        rw [ha, add_plain] at e0 e1
        obtain ⟨g0, g1⟩ := hZ k (by omega)
        rw [g0] at e0
        have hg : ((List.range len).map Z)[k]?.getD (0, []) = Z k := by simp [hk]
        rw [hg]
        exact ⟨e0, e1, g1⟩
end

end Go.Proofs.YtedpooagalmgdamGreat

namespace Go.Proofs.YtedpooagalmgdamGreat
open Go.ChangeShapes Go.WideShapes Go.ChangeAt Go.RowKit Go.Joins
set_option maxRecDepth 100000

theorem Tryz.own : ownKnob Tryz.prog.godebug = none := by kernel_rfl
theorem Tryz.laidOut : laidOutB Tryz.prog = true := by kernel_rfl
theorem Tryz.cellsInt : Tryz.prog.cellsOf 2 = 1 := by kernel_rfl
theorem Tryz.cellsInts : Tryz.prog.cellsOf 27 = 1 := by kernel_rfl

end Go.Proofs.YtedpooagalmgdamGreat

namespace Go.Proofs.YtedpooagalmgdamGreat
open Go.ChangeShapes Go.WideShapes Go.ChangeAt Go.RowKit Go.Joins Go.Deep
set_option maxRecDepth 100000

theorem open_Ents {H : Type} {enc : TypeId × Value → H} {P : Program} {w : World} {base : Nat} {held : Bool} {t e : TypeId} {f0 f1 : Field} {fuel : Nat} {v : Value} {x : DataW H × List MemPlace} (ht : P.underlying t = some (.slice e)) (he : P.underlying e = some (.struct #[f0, f1]))
    (ce : P.cellsOf e = 2) (o0 : f0.offset = 0) (o1 : f1.offset = 1) (c0 : P.cellsOf f0.type = 1) (c1 : P.cellsOf f1.type = 1) (h0 : P.underlying f0.type = some .string) (h1 : P.underlying f1.type = some (.int .i64))
    (h : DataW.trod enc P w base (fun _ => true) held fuel t [v] = some x) : ∃ es, Ents w v es := by
  rcases open_slice ht h with ⟨hcs, _⟩ | ⟨a, len, cap, m, n, D, Pl, hcs, hb, hl, hm, hmm, _, hx⟩
  · simp only [List.cons.injEq, and_true] at hcs
    exact ⟨[], by rw [hcs]; exact Ents.nil w none 0⟩
  · simp only [List.cons.injEq, and_true] at hcs
    simp only [if_true] at hmm
    by_cases hl0 : len = 0
    · subst hl0; exact ⟨[], by rw [hcs]; exact Ents.nil w (some a) cap⟩
    · have each : ∀ i, i < m → ∃ q : EN, w.cell? (a.add (i * 2)) = some (.string q.1) ∧ w.cell? (a.add (i * 2 + 1)) = some (.int .i64 q.2) ∧ q.1.size ≤ maxLen := by
        intro i hi
        obtain ⟨cs', k1, k2⟩ := hx i hi
        rw [ce] at k1
        obtain ⟨_, hlen, hcell⟩ := World.cells?_some k1
        obtain ⟨xs, k, hk, hxy, _, hxl, hf⟩ := DataW.trod_struct he k2
        match xs, hxl, cs', hlen with
        | [y0, y1], _, [v0, v1], _ =>
          have g0 := hf 0 f0 rfl
          have g1 := hf 1 f1 rfl
          simp [o0, o1, c0, c1] at g0 g1
          have e0 := hcell 0 (by omega)
          have e1 := hcell 1 (by omega)
          rw [add_add] at e0 e1
          obtain ⟨z0, hz0, _, hs⟩ := DataW.trod_string h0 g0
          obtain ⟨z1, hz1, _⟩ := DataW.trod_int h1 g1
          simp only [List.cons.injEq, and_true] at hz0 hz1
          subst hz0 hz1
          exact ⟨(z0, z1), by simpa using e0, by simpa using e1, hs⟩
      obtain ⟨q, hq⟩ := choose_lt each
      have ha := addr_of (by simpa using (hq 0 (by omega)).1)
      refine ⟨(List.range len).map q, some a, cap, ?_, ?_, fun k hk => ?_⟩
      · simp only [List.length_map, List.length_range]; exact hcs
      · simp only [List.length_map, List.length_range]
        refine ⟨by omega, by omega, fun k => ?_⟩
        by_cases hk : k < len
        · have hg : ((List.range len).map q)[k]?.getD en0 = q k := by simp [hk]
          rw [hg]
          exact (hq k (by omega)).2.2
        · rw [List.getElem?_eq_none (by simpa using Nat.le_of_not_lt hk)]
          simp [en0, ByteArray.size]
      · simp only [List.length_map, List.length_range] at hk
        obtain ⟨e0, e1, _⟩ := hq k (by omega)
        rw [ha, add_plain] at e0 e1
        have hg : ((List.range len).map q)[k]?.getD en0 = q k := by simp [hk]
        rw [hg]
        exact ⟨a.block, a.off, by rw [← ha], e0, e1⟩

theorem open_cap {H : Type} {enc : TypeId × Value → H} {P : Program} {w : World} {base : Nat} {held : Bool} {t e : TypeId} {fuel : Nat} {v : Value} {x : DataW H × List MemPlace} (ht : P.underlying t = some (.slice e)) (h : DataW.trod enc P w base (fun _ => true) held fuel t [v] = some x) : capOK v := by
  rcases DataW.trod_slice ht h with ⟨hcs, _⟩ | ⟨a, len, cap, _, _, _, _, hcs, _, _, hl, _⟩
  · simp only [List.cons.injEq, and_true] at hcs
    exact ⟨none, 0, 0, hcs, Nat.le_refl _⟩
  · simp only [List.cons.injEq, and_true] at hcs
    exact ⟨some a, len, cap, hcs, hl⟩
theorem Tryz.cellsStr : Tryz.prog.cellsOf 9 = 1 := by kernel_rfl
theorem Tryz.cellsEnt : Tryz.prog.cellsOf 147 = 2 := by kernel_rfl
theorem Tryz.cellsEnts : Tryz.prog.cellsOf 101 = 1 := by kernel_rfl
theorem Tryz.cellsIno : Tryz.prog.cellsOf 103 = 5 := by kernel_rfl
theorem array5 {α : Type} {a : Array α} (h : a.size = 5) : ∃ x0 x1 x2 x3 x4, a = #[x0, x1, x2, x3, x4] := by
  obtain ⟨l⟩ := a
  match l, h with
  | [x0, x1, x2, x3, x4], _ => exact ⟨x0, x1, x2, x3, x4, rfl⟩
theorem open_InoU {H : Type} {enc : TypeId × Value → H} {W : World} {r : Reach} {b0 : Nat} {v : Value} {d : DataW H} {p : List MemPlace} (hv : Value.okWide Tryz.prog W r b0 103 v) (h : DataW.Trod enc Tryz.prog W 0 (fun _ => true) true 103 v d p) :
    ∃ v0 v1 v2 vB vE id, v = .agg #[v0, v1, v2, vB, vE] ∧ InoR W v0 v1 v2 vB vE id := by
  obtain ⟨cs, rfl, hsz⟩ := okWide_struct Tryz.underlying103 hv
  obtain ⟨c0, c1, c2, c3, c4, rfl⟩ := array5 (hsz.trans Tryz.cellsIno)
  obtain ⟨fuel, hf⟩ := h
  obtain ⟨xs, k, hk, hxy, _, hxl, hg⟩ := DataW.trod_struct Tryz.underlying103 hf
  match xs, hxl with
  | [y0, y1, y2, y3, y4], _ =>
    have g0 : DataW.trod enc Tryz.prog W 0 (fun _ => true) true k 2 [c0] = some y0 := by simpa [Value.cells, Tryz.cellsInt] using hg 0 _ rfl
    have g1 : DataW.trod enc Tryz.prog W 0 (fun _ => true) true k 2 [c1] = some y1 := by simpa [Value.cells, Tryz.cellsInt] using hg 1 _ rfl
    have g2 : DataW.trod enc Tryz.prog W 0 (fun _ => true) true k 2 [c2] = some y2 := by simpa [Value.cells, Tryz.cellsInt] using hg 2 _ rfl
    have g3 : DataW.trod enc Tryz.prog W 0 (fun _ => true) true k 27 [c3] = some y3 := by simpa [Value.cells, Tryz.cellsInts] using hg 3 _ rfl
    have g4 : DataW.trod enc Tryz.prog W 0 (fun _ => true) true k 101 [c4] = some y4 := by simpa [Value.cells, Tryz.cellsEnts] using hg 4 _ rfl
    obtain ⟨z0, hz0, _⟩ := DataW.trod_int Tryz.underlying2 g0
    obtain ⟨z1, hz1, _⟩ := DataW.trod_int Tryz.underlying2 g1
    obtain ⟨z2, hz2, _⟩ := DataW.trod_int Tryz.underlying2 g2
    simp only [List.cons.injEq, and_true] at hz0 hz1 hz2
    obtain ⟨bs, hbs⟩ := open_Ints Tryz.underlying27 Tryz.underlying2 Tryz.cellsInt g3
    obtain ⟨es, hes⟩ := open_Ents Tryz.underlying101 Tryz.underlying147 Tryz.cellsEnt rfl rfl Tryz.cellsStr Tryz.cellsInt Tryz.underlying9 Tryz.underlying2 g4
    exact ⟨c0, c1, c2, c3, c4, (z0, z1, z2, bs, es), rfl, ⟨hz0, hz1, hz2, open_cap Tryz.underlying27 g3⟩, hbs, hes⟩
end Go.Proofs.YtedpooagalmgdamGreat

namespace Go.Proofs.YtedpooagalmgdamGreat
open Go.ChangeShapes Go.WideShapes Go.ChangeAt Go.RowKit Go.Joins Go.Deep
set_option maxRecDepth 100000

theorem open_Inos {H : Type} {enc : TypeId × Value → H} {w : World} {base : Nat} {held : Bool} {fuel : Nat} {v : Value} {x : DataW H × List MemPlace}
    (h : DataW.trod enc Tryz.prog w base (fun _ => true) held fuel 22 [v] = some x) : ∃ ds, Inos w v ds := by
  rcases open_slice Tryz.underlying22 h with ⟨hcs, _⟩ | ⟨a, len, cap, m, n, D, Pl, hcs, hb, hl, hm, hmm, _, hx⟩
  · simp only [List.cons.injEq, and_true] at hcs
    exact ⟨[], by rw [hcs]; exact Inos.nil w none 0⟩
  · simp only [List.cons.injEq, and_true] at hcs
    simp only [if_true] at hmm
    by_cases hl0 : len = 0
    · subst hl0; exact ⟨[], by rw [hcs]; exact Inos.nil w (some a) cap⟩
    · have each : ∀ i, i < m → ∃ q : ID, ∃ vB vE, w.cell? (a.add (i * 5)) = some (.int .i64 q.1) ∧ w.cell? (a.add (i * 5 + 1)) = some (.int .i64 q.2.1) ∧ w.cell? (a.add (i * 5 + 2)) = some (.int .i64 q.2.2.1) ∧ w.cell? (a.add (i * 5 + 3)) = some vB ∧ w.cell? (a.add (i * 5 + 4)) = some vE ∧ InoR w (.int .i64 q.1) (.int .i64 q.2.1) (.int .i64 q.2.2.1) vB vE q := by
        intro i hi
        obtain ⟨cs', k1, k2⟩ := hx i hi
        rw [Tryz.cellsIno] at k1
        obtain ⟨_, hlen, hcell⟩ := World.cells?_some k1
        obtain ⟨xs, k, hk, hxy, _, hxl, hg⟩ := DataW.trod_struct Tryz.underlying103 k2
        match xs, hxl, cs', hlen with
        | [y0, y1, y2, y3, y4], _, [c0, c1, c2, c3, c4], _ =>
          have g0 : DataW.trod enc Tryz.prog w base (fun _ => true) held k 2 [c0] = some y0 := by simpa [Tryz.cellsInt] using hg 0 _ rfl
          have g1 : DataW.trod enc Tryz.prog w base (fun _ => true) held k 2 [c1] = some y1 := by simpa [Tryz.cellsInt] using hg 1 _ rfl
          have g2 : DataW.trod enc Tryz.prog w base (fun _ => true) held k 2 [c2] = some y2 := by simpa [Tryz.cellsInt] using hg 2 _ rfl
          have g3 : DataW.trod enc Tryz.prog w base (fun _ => true) held k 27 [c3] = some y3 := by simpa [Tryz.cellsInts] using hg 3 _ rfl
          have g4 : DataW.trod enc Tryz.prog w base (fun _ => true) held k 101 [c4] = some y4 := by simpa [Tryz.cellsEnts] using hg 4 _ rfl
          have e0 := hcell 0 (by omega)
          have e1 := hcell 1 (by omega)
          have e2 := hcell 2 (by omega)
          have e3 := hcell 3 (by omega)
          have e4 := hcell 4 (by omega)
          rw [add_add] at e0 e1 e2 e3 e4
          obtain ⟨z0, hz0, _⟩ := DataW.trod_int Tryz.underlying2 g0
          obtain ⟨z1, hz1, _⟩ := DataW.trod_int Tryz.underlying2 g1
          obtain ⟨z2, hz2, _⟩ := DataW.trod_int Tryz.underlying2 g2
          simp only [List.cons.injEq, and_true] at hz0 hz1 hz2
          subst hz0 hz1 hz2
          obtain ⟨bs, hbs⟩ := open_Ints Tryz.underlying27 Tryz.underlying2 Tryz.cellsInt g3
          obtain ⟨es, hes⟩ := open_Ents Tryz.underlying101 Tryz.underlying147 Tryz.cellsEnt rfl rfl Tryz.cellsStr Tryz.cellsInt Tryz.underlying9 Tryz.underlying2 g4
          exact ⟨(z0, z1, z2, bs, es), c3, c4, by simpa using e0, by simpa using e1, by simpa using e2, by simpa using e3, by simpa using e4, ⟨rfl, rfl, rfl, open_cap Tryz.underlying27 g3⟩, hbs, hes⟩
      obtain ⟨q, hq⟩ := choose_lt each
      obtain ⟨_, _, hq0, _⟩ := hq 0 (by omega)
      have ha := addr_of (by simpa using hq0)
      refine ⟨(List.range len).map q, some a, cap, ?_, ?_, fun k hk => ?_⟩
      · simp only [List.length_map, List.length_range]; exact hcs
      · simp only [List.length_map, List.length_range]
        exact ⟨by omega, by omega⟩
      · simp only [List.length_map, List.length_range] at hk
        obtain ⟨vB, vE, e0, e1, e2, e3, e4, hR⟩ := hq k (by omega)
        rw [ha, add_plain] at e0 e1 e2 e3 e4
        have hg : ((List.range len).map q)[k]?.getD id0 = q k := by simp [hk]
        rw [hg]
        exact ⟨a.block, a.off, by rw [← ha], InoAt.mk' e0 e1 e2 e3 e4 hR⟩
end Go.Proofs.YtedpooagalmgdamGreat

namespace Go.Proofs.YtedpooagalmgdamGreat
open Go.ChangeShapes Go.WideShapes Go.ChangeAt Go.RowKit Go.Joins Go.Deep
set_option maxRecDepth 100000

theorem Tryz.cellsByteF : Tryz.prog.cellsOf 5 = 1 := by kernel_rfl
theorem Tryz.cellsBytF : Tryz.prog.cellsOf 26 = 1 := by kernel_rfl
theorem Tryz.cellsBytsF : Tryz.prog.cellsOf 23 = 1 := by kernel_rfl
theorem Tryz.cellsInosF : Tryz.prog.cellsOf 22 = 1 := by kernel_rfl
theorem Tryz.cellsFsF : Tryz.prog.cellsOf 25 = 2 := by kernel_rfl
theorem open_Byt {H : Type} {enc : TypeId × Value → H} {P : Program} {w : World} {base : Nat} {held : Bool} {t e : TypeId} {fuel : Nat} {v : Value} {x : DataW H × List MemPlace} (ht : P.underlying t = some (.slice e)) (he : P.underlying e = some (.int .u8)) (ce : P.cellsOf e = 1) (h : DataW.trod enc P w base (fun _ => true) held fuel t [v] = some x) :
    ∃ zs, Byt w v zs := by
  rcases open_slice1 ht ce h with ⟨hcs, _⟩ | ⟨a, len, cap, m, n, V, D, Pl, hcs, _, hl, hm, hmm, _, hx⟩
  · simp only [List.cons.injEq, and_true] at hcs
    exact ⟨[], by rw [hcs]; exact Byt.nil w none 0⟩
  · simp only [List.cons.injEq, and_true] at hcs
    simp only [if_true] at hmm
    by_cases h0 : len = 0
    · subst h0; exact ⟨[], by rw [hcs]; exact Byt.nil w (some a) cap⟩
    · have ha := addr_of (hx 0 (by omega)).1
      obtain ⟨Z, hZ⟩ := choose_lt (α := UInt8) (n := m) (p := fun i b => V i = .int .u8 ((b.toNat : Nat) : Int)) fun i hi => by
        obtain ⟨z, h1, _, hw⟩ := DataW.trod_int he (hx i hi).2
        have hz0 : IntKind.u8.min ≤ z ∧ z ≤ IntKind.u8.max := by simpa [Lit.wf] using hw
        have hz : 0 ≤ z ∧ z ≤ 255 := hz0
        refine ⟨UInt8.ofNat z.toNat, ?_⟩
        simp only [List.cons.injEq, and_true] at h1
        rw [h1]
        congr 1
        have : (UInt8.ofNat z.toNat).toNat = z.toNat := by simp; omega
        rw [this]; omega
      refine ⟨(List.range len).map Z, some a, cap, ?_, ?_, fun k hk => ?_⟩
      · simp only [List.length_map, List.length_range]; exact hcs
      · simp only [List.length_map, List.length_range]; exact ⟨by omega, by omega⟩
      · simp only [List.length_map, List.length_range] at hk
        have h1 := (hx k (by omega)).1
        rw [ha, add_plain] at h1
        refine ⟨a.block, a.off, by rw [← ha], ?_⟩
        rw [h1, hZ k (by omega)]
        simp [hk]
theorem open_Byts {H : Type} {enc : TypeId × Value → H} {P : Program} {w : World} {base : Nat} {held : Bool} {t e q : TypeId} {fuel : Nat} {v : Value} {x : DataW H × List MemPlace} (ht : P.underlying t = some (.slice e)) (he : P.underlying e = some (.slice q)) (hq : P.underlying q = some (.int .u8)) (ce : P.cellsOf e = 1) (cq : P.cellsOf q = 1)
    (h : DataW.trod enc P w base (fun _ => true) held fuel t [v] = some x) : ∃ zss, Byts w v zss := by
  rcases open_slice1 ht ce h with ⟨hcs, _⟩ | ⟨a, len, cap, m, n, V, D, Pl, hcs, _, hl, hm, hmm, _, hx⟩
  · simp only [List.cons.injEq, and_true] at hcs
    exact ⟨[], by rw [hcs]; exact Byts.nil w none 0⟩
  · simp only [List.cons.injEq, and_true] at hcs
    simp only [if_true] at hmm
    by_cases h0 : len = 0
    · subst h0; exact ⟨[], by rw [hcs]; exact Byts.nil w (some a) cap⟩
    · have ha := addr_of (hx 0 (by omega)).1
      obtain ⟨Z, hZ⟩ := choose_lt (α := List UInt8) (n := m) (p := fun i zs => Byt w (V i) zs) fun i hi => open_Byt he hq cq (hx i hi).2
      refine ⟨(List.range len).map Z, some a, cap, ?_, ?_, fun k hk => ?_⟩
      · simp only [List.length_map, List.length_range]; exact hcs
      · simp only [List.length_map, List.length_range]; exact ⟨by omega, by omega⟩
      · simp only [List.length_map, List.length_range] at hk
        have h1 := (hx k (by omega)).1
        rw [ha, add_plain] at h1
        have hg : ((List.range len).map Z)[k]?.getD [] = Z k := by simp [hk]
        rw [hg]
        obtain ⟨ua, uc, e1, e2, e3⟩ := hZ k (by omega)
        rw [e1] at h1
        exact ⟨a.block, a.off, ua, uc, by rw [← ha], h1, ua, uc, rfl, e2, e3⟩
theorem open_FsU {H : Type} {enc : TypeId × Value → H} {W : World} {r : Reach} {b0 : Nat} {v : Value} {d : DataW H} {p : List MemPlace} (hv : Value.okWide Tryz.prog W r b0 25 v) (h : DataW.Trod enc Tryz.prog W 0 (fun _ => true) true 25 v d p) :
    ∃ v0 v1 fd, v = .agg #[v0, v1] ∧ FsR W v0 v1 fd := by
  obtain ⟨cs, rfl, hsz⟩ := okWide_struct Tryz.underlying25 hv
  obtain ⟨c0, c1, rfl⟩ := array2 (hsz.trans Tryz.cellsFsF)
  obtain ⟨fuel, hf⟩ := h
  obtain ⟨xs, k, hk, hxy, _, hxl, hg⟩ := DataW.trod_struct Tryz.underlying25 hf
  match xs, hxl with
  | [y0, y1], _ =>
    have g0 : DataW.trod enc Tryz.prog W 0 (fun _ => true) true k 22 [c0] = some y0 := by simpa [Value.cells, Tryz.cellsInosF] using hg 0 _ rfl
    have g1 : DataW.trod enc Tryz.prog W 0 (fun _ => true) true k 23 [c1] = some y1 := by simpa [Value.cells, Tryz.cellsBytsF] using hg 1 _ rfl
    obtain ⟨ds, hds⟩ := open_Inos g0
    obtain ⟨zss, hz⟩ := open_Byts Tryz.underlying23 Tryz.underlying26 Tryz.underlying5 Tryz.cellsBytF Tryz.cellsByteF g1
    exact ⟨c0, c1, (ds, zss), rfl, hds, hz⟩
end Go.Proofs.YtedpooagalmgdamGreat

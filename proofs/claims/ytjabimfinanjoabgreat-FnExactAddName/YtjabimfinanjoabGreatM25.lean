/- The specification's AddName: an entry more in a directory. The specification's AddName: the contract. Directories: what stays right where an entry goes; how great right inodes are. No program is named here. The program's DropName: an entry taken out of its place. A directory's entry that is entered or struck where it lies. -/
import Derived.Test.YtjabimfinanjoabGreatM24
import Derived.Test.YtjabimfinanjoabGreatM20
import Derived.Test.YtjabimfinanjoabGreatM23
namespace Go.Proofs.YtjabimfinanjoabGreat
open Go.RowKit
set_option maxRecDepth 100000

/-- What l8Add comes to: the code, and the file system behind it. -/
def addZ (d : FD) (j : Nat) (s : ByteArray) (y : Int) : FD := if (addQ d j s y).1 = 0 then (addQ d j s y).2 else d
theorem FsS.fsx {w : World} {bo bI n cI bD cD : Nat} {d : FD} {F : Nat → Prop} (hfs : FsS w bI n cI bD 20 cD d F) (h0 : w.cell? ⟨bo, 0, none⟩ = some (.slice (some ⟨bI, 0, none⟩) n cI)) (h1 : w.cell? ⟨bo, 1, none⟩ = some (.slice (some ⟨bD, 0, none⟩) 20 cD)) : FsX w bo 0 d (some ⟨bI, 0, none⟩) cI (some ⟨bD, 0, none⟩) cD := by
  have hl := hfs.len
  have hr := hfs.fs.reads
  exact ⟨by rw [hl.1]; exact h0, by rw [hl.2]; exact h1, by rw [hl.1]; exact hr.1, by rw [hl.2]; exact hr.2⟩

set_option maxHeartbeats 6400000 in
theorem l8Add_any (w : World) (bo bI n cI bD cD : Nat) (d : FD) (F : Nat → Prop) (j : Nat) (s : ByteArray) (y : Int) (h0 : w.cell? ⟨bo, 0, none⟩ = some (.slice (some ⟨bI, 0, none⟩) n cI)) (h1 : w.cell? ⟨bo, 1, none⟩ = some (.slice (some ⟨bD, 0, none⟩) 20 cD)) (hfs : FsS w bI n cI bD 20 cD d F) (hFo : ¬ F bo) (hn : d.1.length = n) (hds : DirS d j) (hml : s.size ≤ maxLen) :
    Calls Tryz.prog 58 #[.pointer (some ⟨bo, 0, none⟩), .int .i64 (j : Int), .string s, .int .i64 y] w fun e w' => e = .returned (.int .i64 (addQ d j s y).1) ∧ Chg (fun c => c = bI) w w' ∧ FsS w' bI n cI bD 20 cD (addZ d j s y) (fun c => F c ∨ w.heap.size ≤ c) := by
  have hx := hfs.fsx h0 h1
  have hjn : j < n := by have := hds.lt; omega
  have hjI : (j : Int) < (n : Int) := by omega
  have h6 := hds.six
  have hten : n ≤ 10 := by have := hds.ten; omega
  obtain ⟨aB, cB, aE, cE, -, -, -, -, k4, hE⟩ := FsR.five hfs.fs.reads hds.lt
  rw [Nat.zero_add] at k4
  obtain ⟨-, hcE, hAt, -, hZ⟩ := hE.cap
  have HFS : Hid (FsS w bI n cI bD 20 cD d F) := hfs
  have HPL : Hid (Calls Tryz.prog 66 #[.slice aE (entA d j).length cE, .string s] w fun e w' => e = .returned (.int .i64 (at8 (entA d j) s)) ∧ w' = w) := l8At_any w aE _ cE (entA d j) s rfl (by omega) hAt
  have HPC : Hid (Calls Tryz.prog 99 #[.pointer (some ⟨bo, 0, none⟩), .int .i64 y] w fun e w' => e = .returned (.bool (decide (0 ≤ y ∧ y < (d.1.length : Int)))) ∧ w' = w) := l6Place_any w bo 0 d _ _ _ _ y hx
  have HAQ : Hid (addQ d j s y = if idxE (entA d j) s < (entA d j).length then noFs 7 else if 0 ≤ y ∧ y < (d.1.length : Int) ∧ ¬ kindAt d.1 y.toNat = 0 then (if (entA d j).length = 6 ∨ (kindAt d.1 y.toNat = 1 ∧ 60 ≤ (d.1[y.toNat]?.getD id0).2.1) then noFs 2 else (0, addD d j s y.toNat)) else noFs 4) := rfl
  have HSAME : Hid (FsS w bI n cI bD 20 cD d (fun c => F c ∨ w.heap.size ≤ c)) := hfs.mono fun c hc => Or.inl hc
  have bad : ∀ c : Int, ¬ c = 0 → addQ d j s y = noFs c → ∀ (e : Ending) (w' : World), e = .returned (.int .i64 c) → w' = w → (e = .returned (.int .i64 (addQ d j s y).1) ∧ Chg (fun c => c = bI) w w' ∧ FsS w' bI n cI bD 20 cD (addZ d j s y) (fun c => F c ∨ w.heap.size ≤ c)) := fun c hc e1 e w' e2 e3 => by
    subst e3
    have e4 : addZ d j s y = d := by unfold addZ; rw [e1, if_neg (show ¬ (noFs c).1 = 0 from hc)]
    rw [e4, e1]
    exact ⟨e2, Chg.refl _ _, HSAME.out⟩
  have HBAD : Hid (∀ c : Int, ¬ c = 0 → addQ d j s y = noFs c → ∀ (e : Ending) (w' : World), e = .returned (.int .i64 c) → w' = w → (e = .returned (.int .i64 (addQ d j s y).1) ∧ Chg (fun c => c = bI) w w' ∧ FsS w' bI n cI bD 20 cD (addZ d j s y) (fun c => F c ∨ w.heap.size ≤ c))) := bad
  have HATH : Hid (AtN w aE (entA d j).length (entA d j)) := hAt
  have HZZ : Hid (∀ k : Nat, ((entA d j)[k]?.getD en0).1.size ≤ maxLen) := hZ
  clear bad hx hAt hE hZ
  by_cases hi : idxE (entA d j) s < (entA d j).length
  · have HR : Hid (addQ d j s y = noFs 7) := by unfold Hid; rw [HAQ.out, if_pos hi]
    have ha8 : at8 (entA d j) s = ((idxE (entA d j) s : Nat) : Int) := by unfold at8; rw [if_pos hi]
    rw [ha8] at HPL
    clear hi ha8 HAQ hfs hds
    have HB := HBAD.out 7 (by omega) HR.out
    have HBB : Hid (∀ (e : Ending) (w' : World), e = .returned (.int .i64 7) → w' = w → _) := HB
    clear HB HBAD HR
    generalize idxE (entA d j) s = i at *
    generalize (entA d j).length = m at *
    go_enter Tryz.func58, Tryz.ntmps58
    go_wp2_with fail
    refine HPL.out.mono ?_
    rintro e w1 ⟨rfl, rfl⟩
    go_wp2
    go_ret
    exact HBB.out _ _ rfl rfl
  · have ha8 : at8 (entA d j) s = -1 := by unfold at8; rw [if_neg hi]
    rw [ha8] at HPL
    by_cases hy : 0 ≤ y ∧ y < (d.1.length : Int)
    rotate_left
    · have HR : Hid (addQ d j s y = noFs 4) := by unfold Hid; rw [HAQ.out, if_neg hi, if_neg (fun hh => hy ⟨hh.1, hh.2.1⟩)]
      rw [decide_eq_false hy] at HPC
      clear hi ha8 HAQ hfs hds hy
      have HB := HBAD.out 4 (by omega) HR.out
      have HBB : Hid (∀ (e : Ending) (w' : World), e = .returned (.int .i64 4) → w' = w → _) := HB
      clear HB HBAD HR
      generalize (entA d j).length = m at *
      go_enter Tryz.func58, Tryz.ntmps58
      go_wp2_with fail
      refine HPL.out.mono ?_
      rintro e w1 ⟨rfl, rfl⟩
      go_wp2_with fail
      refine HPC.out.mono ?_
      rintro e w1 ⟨rfl, rfl⟩
      go_wp2
      go_ret
      exact HBB.out _ _ rfl rfl
    · rw [decide_eq_true hy] at HPC
      obtain ⟨z, rfl⟩ : ∃ z : Nat, y = (z : Int) := ⟨y.toNat, by omega⟩
      rw [Int.toNat_natCast] at HAQ
      have hzn : z < n := by omega
      have hzI : (z : Int) < (n : Int) := by omega
      obtain ⟨_, _, _, _, g0, g1, -, -, -, -, gf, -⟩ := hfs.ino z hzn
      by_cases hk0 : kindAt d.1 z = 0
      · have HR : Hid (addQ d j s (z : Int) = noFs 4) := by unfold Hid; rw [HAQ.out, if_neg hi, if_neg (fun hh => hh.2.2 hk0)]
        have hkb : ((d.1[z]?.getD id0).1 == 0) = true := beq_iff_eq.2 hk0
        clear hi ha8 HAQ hfs hds hy hk0 gf g1
        have HB := HBAD.out 4 (by omega) HR.out
        have HBB : Hid (∀ (e : Ending) (w' : World), e = .returned (.int .i64 4) → w' = w → _) := HB
        clear HB HBAD HR
        generalize (entA d j).length = m at *
        generalize (d.1[z]?.getD id0).1 = kd at *
        go_enter Tryz.func58, Tryz.ntmps58
        go_wp2_with fail
        refine HPL.out.mono ?_
        rintro e w1 ⟨rfl, rfl⟩
        go_wp2_with fail
        refine HPC.out.mono ?_
        rintro e w1 ⟨rfl, rfl⟩
        go_wp2
        go_ret
        exact HBB.out _ _ rfl rfl
      · have hkb : ((d.1[z]?.getD id0).1 == 0) = false := beq_eq_false_iff_ne.2 hk0
        by_cases hmany : (entA d j).length = 6 ∨ (kindAt d.1 z = 1 ∧ 60 ≤ (d.1[z]?.getD id0).2.1)
        · have HR : Hid (addQ d j s (z : Int) = noFs 2) := by unfold Hid; rw [HAQ.out, if_neg hi, if_pos ⟨by omega, by omega, hk0⟩, if_pos hmany]
          have HB := HBAD.out 2 (by omega) HR.out
          have HBB : Hid (∀ (e : Ending) (w' : World), e = .returned (.int .i64 2) → w' = w → _) := HB
          clear HB HBAD HR
          by_cases hm6 : (entA d j).length = 6
          · rw [hm6] at HPL k4
            clear hi ha8 HAQ hfs hds hy hk0 gf g1 hmany hm6
            generalize (d.1[z]?.getD id0).1 = kd at *
            go_enter Tryz.func58, Tryz.ntmps58
            go_wp2_with fail
            refine HPL.out.mono ?_
            rintro e w1 ⟨rfl, rfl⟩
            go_wp2_with fail
            refine HPC.out.mono ?_
            rintro e w1 ⟨rfl, rfl⟩
            go_wp2
            go_ret
            exact HBB.out _ _ rfl rfl
          · have hkl := hmany.resolve_left hm6
            have hk1 : ((d.1[z]?.getD id0).1 == 1) = true := beq_iff_eq.2 hkl.1
            have hl6 : decide ((60 : Int) ≤ (d.1[z]?.getD id0).2.1) = true := by simpa using hkl.2
            have hmb : decide ((6 : Int) ≤ (((entA d j).length : Nat) : Int)) = false := by simp; omega
            have hmb2 : decide (6 ≤ (entA d j).length) = false := by simp; omega
            clear hi ha8 HAQ hfs hds hy hk0 gf hmany hm6 hkl
            generalize (entA d j).length = m at *
            generalize (d.1[z]?.getD id0).1 = kd at *
            generalize (d.1[z]?.getD id0).2.1 = kl at *
            go_enter Tryz.func58, Tryz.ntmps58
            go_wp2_with fail
            refine HPL.out.mono ?_
            rintro e w1 ⟨rfl, rfl⟩
            go_wp2_with fail
            refine HPC.out.mono ?_
            rintro e w1 ⟨rfl, rfl⟩
            go_wp2
            go_ret
            exact HBB.out _ _ rfl rfl
        · have hm6 : ¬ (entA d j).length = 6 := fun e => hmany (Or.inl e)
          have HR : Hid (addQ d j s (z : Int) = (0, addD d j s z)) := by unfold Hid; rw [HAQ.out, if_neg hi, if_pos ⟨by omega, by omega, hk0⟩, if_neg hmany]
          have HGD : Hid (∀ (e : Ending) (w' : World), e = .returned (.int .i64 0) → Chg (fun c => c = bI) w w' → FsS w' bI n cI bD 20 cD (addD d j s z) (fun c => F c ∨ w.heap.size ≤ c) → (e = .returned (.int .i64 (addQ d j s (z : Int)).1) ∧ Chg (fun c => c = bI) w w' ∧ FsS w' bI n cI bD 20 cD (addZ d j s (z : Int)) (fun c => F c ∨ w.heap.size ≤ c))) := fun e w' e1 e2 e3 => by
            have e4 : addZ d j s (z : Int) = addD d j s z := by unfold addZ; rw [HR.out]; rfl
            rw [e4, HR.out]
            exact ⟨e1, e2, e3⟩
          have hmb : decide ((6 : Int) ≤ (((entA d j).length : Nat) : Int)) = false := by simp; omega
          have hmb2 : decide (6 ≤ (entA d j).length) = false := by simp; omega
          have HPUT : Hid (∀ W, Below w.heap.size w W → Calls Tryz.prog 100 #[.slice aE (entA d j).length cE, .agg #[.string s, .int .i64 (z : Int)]] W fun e w' => ∃ v, e = .returned v ∧ WdE w' W.heap.size v (insE (entA d j) (plcE (entA d j) s) (s, (z : Int))) ∧ Below W.heap.size W w') := fun W hW => l8Put_any W aE _ cE (entA d j) s (z : Int) rfl hcE h6 (HATH.out.later hW)
          have HEZ : Hid (∀ i : Nat, ((insE (entA d j) (plcE (entA d j) s) (s, (z : Int)))[i]?.getD en0).1.size ≤ maxLen) := insE_size HZZ.out hml
          have HBK : Hid ((d.1[j]?.getD id0).2.2.2.1 = []) := dir_blk (ins_ino hds.ins j hds.lt) hds.kind
          have HLN : Hid ((d.1[z]?.getD id0).1 = 1 → 1 ≤ (d.1[z]?.getD id0).2.1 ∧ (d.1[z]?.getD id0).2.1 < 60) := fun e => ⟨(ino_lnk (ins_ino hds.ins z (by omega)) e).1, by
            by_cases hh : 60 ≤ (d.1[z]?.getD id0).2.1
            · exact absurd (Or.inr ⟨e, hh⟩) hmany
            · omega⟩
          have HAD : Hid (addD d j s z = if (d.1[z]?.getD id0).1 = 1 then lnkD (entD d j (insE (entA d j) (plcE (entA d j) s) (s, (z : Int)))) z ((d.1[z]?.getD id0).2.1 + 1) else entD d j (insE (entA d j) (plcE (entA d j) s) (s, (z : Int)))) := rfl
          rw [HAD.out] at HGD
          have HEK := entD_kind d j z (insE (entA d j) (plcE (entA d j) s) (s, (z : Int))) hds.lt
          have HEK1 : Hid (((entD d j (insE (entA d j) (plcE (entA d j) s) (s, (z : Int)))).1[z]?.getD id0).1 = (d.1[z]?.getD id0).1) := HEK.1
          have HEK2 : Hid (((entD d j (insE (entA d j) (plcE (entA d j) s) (s, (z : Int)))).1[z]?.getD id0).2.1 = (d.1[z]?.getD id0).2.1) := HEK.2
          obtain ⟨_, _, _, _, -, -, -, -, -, -, jf, -⟩ := hfs.ino j hjn
          have c4f := jf (j * 5 + 4)
          have hne := hfs.ne
          have hoI : bo ≠ bI := fun e => hFo (e ▸ hne.2.1.1)
          have hlI : bI < w.heap.size := hne.2.1.2
          have hlo : bo < w.heap.size := World.block_lt_of_cell? _ _ h0
          generalize insE (entA d j) (plcE (entA d j) s) (s, (z : Int)) = nes at *
          generalize hent : entD d j nes = dn at *
          have HDN : Hid (entD d j nes = dn) := hent
          clear hi ha8 HAQ hfs hds hy hk0 hmany hm6 HAD HEK hent gf jf HBAD HR HATH HZZ HSAME
          generalize (entA d j).length = m at *
          generalize (d.1[z]?.getD id0).1 = kd at *
          generalize (d.1[z]?.getD id0).2.1 = kl at *
          have step : ∀ P : Prop, (kd = 1 → P) → (¬ kd = 1 → P) → P := fun P f1 f2 => by
            by_cases h : kd = 1
            · exact f1 h
            · exact f2 h
          apply step
          · intro hk1
            rw [if_pos hk1] at HGD
            have hkb1 : (kd == 1) = true := by simpa using hk1
            have hln := HLN.out hk1
            have hl6 : decide ((60 : Int) ≤ kl) = false := by simp; omega
            clear step hk1
            go_enter Tryz.func58, Tryz.ntmps58
            go_wp2_with fail
            refine HPL.out.mono ?_
            rintro e w1 ⟨rfl, rfl⟩
            go_wp2_with fail
            refine HPC.out.mono ?_
            rintro e w1 ⟨rfl, rfl⟩
            go_wp2_with fail
            go_region_law (first
              | (try go_simp; go_at_call 100; refine (HPUT.out w1.drew (Below.refl _ _).drew).mono ?_; rintro e w2 ⟨v, rfl, hw2, hb2⟩
                 obtain ⟨av, cv, rfl⟩ := hw2.shape
                 have HB2 : Hid (Below w1.heap.size w1 w2) := (Below.refl _ _).drew.trans hb2
                 have HW2 : Hid (WdE w2 w1.heap.size (.slice av nes.length cv) nes) := hw2
                 have b02 := cell_later HB2.out h0
                 have c42 := cell_later HB2.out k4
                 have c42f := (HB2.out.frozen (p := ⟨bI, j * 5 + 4, none⟩) hlI).trans c4f
                 clear hw2 hb2)
              | fail)
            all_goals
              have HF9 : Hid (FsS (w2.setCell ⟨bI, j * 5 + 4, none⟩ (.slice av nes.length cv)) bI n cI bD 20 cD dn (fun c => F c ∨ w1.heap.size ≤ c)) := by
                have := ((HFS.out.boundF.later HB2.out).entS j hjn HBK.out nes _ (HW2.out.own HEZ.out) (fun c hc => ⟨fun hh => by have := hh.2; have := hc.1; omega, hc.2⟩)).mono (F' := fun c => F c ∨ w1.heap.size ≤ c) fun c hh => by
                  rcases hh with hh | hh
                  · exact Or.inl hh.1
                  · exact Or.inr hh.1
                rw [← HDN.out]
                exact this
              have HC9 : Hid (Chg (fun c => c = bI) w1 (w2.setCell ⟨bI, j * 5 + 4, none⟩ (.slice av nes.length cv))) := Chg.set (F := fun c => c = bI) (Chg.of_below HB2.out) rfl _ _
              have p0 := HC9.out.cellOf h0 hoI
              obtain ⟨_, _, _, _, z0, z1, -, -, -, -, zf, -⟩ := HF9.out.ino z hzn
              rw [HEK1.out] at z0
              rw [HEK2.out] at z1
              have z1f := zf (z * 5 + 1)
              clear zf
              generalize (w2.setCell ⟨bI, j * 5 + 4, none⟩ (.slice av nes.length cv)) = W9 at *
              have HF10 : Hid (FsS (W9.setCell ⟨bI, z * 5 + 1, none⟩ (.int .i64 (kl + 1))) bI n cI bD 20 cD (lnkD dn z (kl + 1)) (fun c => F c ∨ w1.heap.size ≤ c)) := HF9.out.lnkS z hzn (kl + 1)
              have HC10 : Hid (Chg (fun c => c = bI) w1 (W9.setCell ⟨bI, z * 5 + 1, none⟩ (.int .i64 (kl + 1)))) := Chg.set (F := fun c => c = bI) HC9.out rfl _ _
              go_wp2
              go_ret
              exact HGD.out _ _ rfl HC10.out HF10.out
          · intro hk1
            rw [if_neg hk1] at HGD
            have hkb1 : (kd == 1) = false := by simpa using hk1
            clear step hk1 g1
            go_enter Tryz.func58, Tryz.ntmps58
            go_wp2_with fail
            refine HPL.out.mono ?_
            rintro e w1 ⟨rfl, rfl⟩
            go_wp2_with fail
            refine HPC.out.mono ?_
            rintro e w1 ⟨rfl, rfl⟩
            go_wp2_with fail
            go_region_law (first
              | (try go_simp; go_at_call 100; refine (HPUT.out w1.drew (Below.refl _ _).drew).mono ?_; rintro e w2 ⟨v, rfl, hw2, hb2⟩
                 obtain ⟨av, cv, rfl⟩ := hw2.shape
                 have HB2 : Hid (Below w1.heap.size w1 w2) := (Below.refl _ _).drew.trans hb2
                 have HW2 : Hid (WdE w2 w1.heap.size (.slice av nes.length cv) nes) := hw2
                 have b02 := cell_later HB2.out h0
                 have c42 := cell_later HB2.out k4
                 have c42f := (HB2.out.frozen (p := ⟨bI, j * 5 + 4, none⟩) hlI).trans c4f
                 clear hw2 hb2)
              | fail)
            all_goals
              have HF9 : Hid (FsS (w2.setCell ⟨bI, j * 5 + 4, none⟩ (.slice av nes.length cv)) bI n cI bD 20 cD dn (fun c => F c ∨ w1.heap.size ≤ c)) := by
                have := ((HFS.out.boundF.later HB2.out).entS j hjn HBK.out nes _ (HW2.out.own HEZ.out) (fun c hc => ⟨fun hh => by have := hh.2; have := hc.1; omega, hc.2⟩)).mono (F' := fun c => F c ∨ w1.heap.size ≤ c) fun c hh => by
                  rcases hh with hh | hh
                  · exact Or.inl hh.1
                  · exact Or.inr hh.1
                rw [← HDN.out]
                exact this
              have HC9 : Hid (Chg (fun c => c = bI) w1 (w2.setCell ⟨bI, j * 5 + 4, none⟩ (.slice av nes.length cv))) := Chg.set (F := fun c => c = bI) (Chg.of_below HB2.out) rfl _ _
              go_wp2
              go_ret
              exact HGD.out _ _ rfl HC9.out HF9.out

end Go.Proofs.YtjabimfinanjoabGreat

namespace Go.Proofs.YtjabimfinanjoabGreat
open Go.RowKit
set_option maxRecDepth 100000

set_option maxHeartbeats 6400000 in
theorem specAddU (w : World) (a1 : Option Addr) (n1 c1 : Nat) (a2 : Option Addr) (n2 c2 : Nat) (d : FD) (x : Int) (s : ByteArray) (y : Int) (h : FsR w (.slice a1 n1 c1) (.slice a2 n2 c2) d) (hs : sizeFs d ≤ 1048576) (hl : s.size ≤ 1048576) :
    Calls Tryz.prog 27 #[.agg #[.slice a1 n1 c1, .slice a2 n2 c2], .int .i64 x, .string s, .int .i64 y] w (AnsFR w (addR d x s y)) := by
  have hml : s.size ≤ maxLen := by unfold maxLen; omega
  obtain ⟨hx0, -, -⟩ := FsX.box h 31
  have HB0 : Hid (Below w.heap.size w ((w.alloc (.cells #[.slice a1 n1 c1, .slice a2 n2 c2] 31)).alloc (.cells #[.int .i64 0, .slice none 0 0, .slice none 0 0] 33))) := later2 _ _ _
  have HBX : Hid (Bx ((w.alloc (.cells #[.slice a1 n1 c1, .slice a2 n2 c2] 31)).alloc (.cells #[.int .i64 0, .slice none 0 0, .slice none 0 0] 33)) w.heap.size [.slice a1 n1 c1, .slice a2 n2 c2]) := (Bx.new w [.slice a1 n1 c1, .slice a2 n2 c2] _).later (later1 _ _)
  have HRS : Hid (OwnRow ((w.alloc (.cells #[.slice a1 n1 c1, .slice a2 n2 c2] 31)).alloc (.cells #[.int .i64 0, .slice none 0 0, .slice none 0 0] 33)) (w.heap.size + 1) 3 (cel zero3)) := by
    have p2 := row3 (w.alloc (.cells #[.slice a1 n1 c1, .slice a2 n2 c2] 31)) 33
    rw [World.size_alloc] at p2
    exact p2
  have HF : Hid (∀ W, Below ((w.alloc (.cells #[.slice a1 n1 c1, .slice a2 n2 c2] 31)).alloc (.cells #[.int .i64 0, .slice none 0 0, .slice none 0 0] 33)).heap.size ((w.alloc (.cells #[.slice a1 n1 c1, .slice a2 n2 c2] 31)).alloc (.cells #[.int .i64 0, .slice none 0 0, .slice none 0 0] 33)) W → Calls Tryz.prog 57 #[.pointer (some ⟨w.heap.size, 0, none⟩), .int .i64 x, .string s] W fun e w' => e = .returned (.int .i64 (dirN d x s)) ∧ Below W.heap.size W w') := fun W hW => l8Name_any W _ _ d _ _ _ _ x s ((hx0.later (later1 _ _)).later hW) (by unfold sizeFs at hs; omega) hml
  have HCF : Hid (∀ W, Below w.heap.size w W → Calls Tryz.prog 35 #[.agg #[.slice a1 n1 c1, .slice a2 n2 c2]] W (AnsFs W d)) := fun W hW => l6Copy_any W a1 n1 c1 a2 n2 c2 d (h.later hW) hs
  have HRR : Hid (addR d x s y = if dirN d x s = 0 then addQ d x.toNat s y else noFs (dirN d x s)) := rfl
  rw [HRR.out]
  clear HRR hx0 h
  by_cases hq : dirN d x s = 0
  rotate_left
  · rw [if_neg hq]
    have hb : (dirN d x s != 0) = true := by simpa using hq
    clear hq hs
    generalize dirN d x s = r at *
    go_enter Tryz.func27, Tryz.ntmps27
    go_wp2_with fail
    generalize ((w.alloc (.cells #[.slice a1 n1 c1, .slice a2 n2 c2] 31)).alloc (.cells #[.int .i64 0, .slice none 0 0, .slice none 0 0] 33)) = W0 at *
    refine (HF.out _ (Below.refl _ _)).mono ?_
    rintro e w1 ⟨rfl, hb1⟩
    have HB1 : Hid (Below w.heap.size w w1) := HB0.out.trans (hb1.mono HB0.out.size)
    have hrr := HRS.out.later hb1
    have t0 : w1.cell? ⟨w.heap.size + 1, 0, none⟩ = some (.int .i64 0) := hrr.cell (i := 0) (by omega)
    have t1 : w1.cell? ⟨w.heap.size + 1, 1, none⟩ = some (.slice none 0 0) := hrr.cell (i := 1) (by omega)
    have t2 : w1.cell? ⟨w.heap.size + 1, 2, none⟩ = some (.slice none 0 0) := hrr.cell (i := 2) (by omega)
    have s0 := hrr.frozen 0
    have s1 := hrr.frozen 1
    have s2 := hrr.frozen 2
    clear hb1 hrr
    go_wp2
    exact bodyPost_ret (v := .agg #[.int .i64 r, .slice none 0 0, .slice none 0 0]) (by simp [results, Tryz.results27, go_sem, t0, t1, t2]) rfl (AnsFR.none' r HB1.out (by omega) _ _ _)
  · rw [if_pos hq]
    have hq0 : dirQ d x = 0 := dirN_in hq
    have hds := dirS hq0
    obtain ⟨-, hp, -⟩ := dirQ_in hq0
    obtain ⟨j, rfl⟩ : ∃ j : Nat, x = (j : Int) := ⟨x.toNat, by omega⟩
    rw [Int.toNat_natCast] at hds ⊢
    have HDS : Hid (DirS d j) := hds
    rw [hq] at HF
    have HML : Hid (s.size ≤ maxLen) := hml
    have HBADF : Hid (¬ (addQ d j s y).1 = 0 → addQ d j s y = noFs (addQ d j s y).1) := fun hh => by
      unfold addQ at hh ⊢
      split
      · rfl
      · split
        · split
          · rfl
          · rename_i h1 h2 h3
            rw [if_neg h1, if_pos h2, if_neg h3] at hh
            exact absurd rfl hh
        · rfl
    have HAZ : Hid ((addQ d j s y).1 = 0 → addQ d j s y = (0, addZ d j s y)) := fun hh => by
      unfold addZ
      rw [if_pos hh]
      exact Prod.ext hh rfl
    clear hq hq0 hp hds hs hml
    go_enter Tryz.func27, Tryz.ntmps27
    go_wp2_with fail
    generalize ((w.alloc (.cells #[.slice a1 n1 c1, .slice a2 n2 c2] 31)).alloc (.cells #[.int .i64 0, .slice none 0 0, .slice none 0 0] 33)) = W0 at *
    refine (HF.out _ (Below.refl _ _)).mono ?_
    rintro e w1 ⟨rfl, hb1⟩
    have HB1 : Hid (Below w.heap.size w w1) := HB0.out.trans (hb1.mono HB0.out.size)
    have HR1 : Hid (OwnRow w1 (w.heap.size + 1) 3 (cel zero3)) := HRS.out.later hb1
    have x0 := (HBX.out.later hb1) 0 _ rfl
    have x1 := (HBX.out.later hb1) 1 _ rfl
    have hlw : w.heap.size + 1 < w1.heap.size := HR1.out.lt
    clear hb1
    go_wp2_with fail
    clear x0 x1
    refine (HCF.out _ HB1.out).mono ?_
    rintro e w5 ⟨q1, m1, cI, q2, m2, cD, rfl, hb5, hf5⟩
    obtain ⟨bI, e1, bD, e2, eI, eD, hfs⟩ := FsS.of hf5 (by have := HDS.out.lt; omega) (by have := HDS.out.dat; omega)
    simp only [Value.slice.injEq] at eI eD
    obtain ⟨rfl, rfl, rfl⟩ := eI
    obtain ⟨rfl, rfl, rfl⟩ := eD
    rw [HDS.out.dat] at hfs
    rw [HDS.out.dat]
    have HL6 : Hid (Below w1.heap.size w1 (w5.alloc (.cells #[.slice (some ⟨bI, 0, none⟩) d.1.length cI, .slice (some ⟨bD, 0, none⟩) 20 cD] 31))) := hb5.trans ((later1 _ _).mono hb5.size)
    have HF6 : Hid (FsS (w5.alloc (.cells #[.slice (some ⟨bI, 0, none⟩) d.1.length cI, .slice (some ⟨bD, 0, none⟩) 20 cD] 31)) bI d.1.length cI bD 20 cD d (fun c => w1.heap.size ≤ c ∧ c < w5.heap.size)) := hfs.later (later1 _ _)
    have HO6 : Hid (Bx (w5.alloc (.cells #[.slice (some ⟨bI, 0, none⟩) d.1.length cI, .slice (some ⟨bD, 0, none⟩) 20 cD] 31)) w5.heap.size [.slice (some ⟨bI, 0, none⟩) d.1.length cI, .slice (some ⟨bD, 0, none⟩) 20 cD]) := Bx.new w5 [.slice (some ⟨bI, 0, none⟩) d.1.length cI, .slice (some ⟨bD, 0, none⟩) 20 cD] _
    have HS6 : Hid (w1.heap.size ≤ w5.heap.size ∧ (w5.alloc (.cells #[.slice (some ⟨bI, 0, none⟩) d.1.length cI, .slice (some ⟨bD, 0, none⟩) 20 cD] 31)).heap.size = w5.heap.size + 1) := ⟨hb5.size, by simp⟩
    clear hb5 hf5 hfs
    go_wp2_with fail
    generalize (w5.alloc (.cells #[.slice (some ⟨bI, 0, none⟩) d.1.length cI, .slice (some ⟨bD, 0, none⟩) 20 cD] 31)) = W6 at *
    have hne := HF6.out.ne
    have hoI : w5.heap.size ≠ bI := fun e => by have := hne.2.1.1.2; omega
    refine (l8Add_any W6 w5.heap.size bI d.1.length cI bD cD d _ j s y (HO6.out 0 _ rfl) (HO6.out 1 _ rfl) HF6.out (fun hh => by have := hh.2; omega) rfl HDS.out HML.out).mono ?_
    rintro e w7 ⟨rfl, hc7, hf7⟩
    have HF7 : Hid (FsS w7 bI d.1.length cI bD 20 cD (addZ d j s y) (fun c => w1.heap.size ≤ c)) := hf7.mono fun c hh => by
      have := HS6.out
      rcases hh with hh | hh
      · exact hh.1
      · omega
    have HL7 : Hid (Below w1.heap.size w1 w7) := HL6.out.trans (hc7.below HL6.out.size fun b hb => by have := hne.2.1.1.1; omega)
    have p0 := hc7.cellOf (HO6.out 0 _ rfl) hoI
    have p1 := hc7.cellOf (HO6.out 1 _ rfl) hoI
    have hrr := HR1.out.later HL7.out
    have t0 : w7.cell? ⟨w.heap.size + 1, 0, none⟩ = some (.int .i64 0) := hrr.cell (i := 0) (by omega)
    have t1 : w7.cell? ⟨w.heap.size + 1, 1, none⟩ = some (.slice none 0 0) := hrr.cell (i := 1) (by omega)
    have t2 : w7.cell? ⟨w.heap.size + 1, 2, none⟩ = some (.slice none 0 0) := hrr.cell (i := 2) (by omega)
    have s0 := hrr.frozen 0
    have s1 := hrr.frozen 1
    have s2 := hrr.frozen 2
    have HB7 : Hid (Below w.heap.size w w7) := HB1.out.trans (HL7.out.mono HB1.out.size)
    clear hrr hc7 hf7
    generalize addQ d j s y = aq at *
    obtain ⟨qc, qd⟩ := aq
    dsimp only at HBADF HAZ ⊢
    by_cases hz : qc = 0
    · have HE : Hid ((qc, qd) = (0, addZ d j s y)) := HAZ.out hz
      have hzb : (qc != 0) = false := by simpa using hz
      generalize d.1.length = n at *
      go_wp2
      exact bodyPost_ret (v := .agg #[.int .i64 0, .slice (some ⟨bI, 0, none⟩) n cI, .slice (some ⟨bD, 0, none⟩) 20 cD]) (by simp [results, Tryz.results27, go_sem, t0, t1, t2]) rfl (by rw [HE.out]; exact AnsFR.box HB7.out (by omega) HF7.out (fun c hc => ⟨by omega, by omega⟩) _ _ _)
    · have HE : Hid ((qc, qd) = noFs qc) := HBADF.out hz
      have hzb : (qc != 0) = true := by simpa using hz
      go_wp2
      exact bodyPost_ret (v := .agg #[.int .i64 qc, .slice none 0 0, .slice none 0 0]) (by simp [results, Tryz.results27, go_sem, t0, t1, t2]) rfl (by rw [HE.out]; exact AnsFR.none' qc HB7.out (by omega) _ _ _)
end Go.Proofs.YtjabimfinanjoabGreat

namespace Go.Proofs.YtjabimfinanjoabGreat
open Go.RowKit
set_option maxRecDepth 100000

/-- The entries without the one at a place. -/
def delE (es : List EN) (k : Nat) : List EN := es.take k ++ es.drop (k + 1)
theorem delE_len {es : List EN} {k : Nat} (h : k < es.length) : (delE es k).length = es.length - 1 := by
  unfold delE
  rw [List.length_append, List.length_take, List.length_drop]; omega
theorem delE_last {es : List EN} {k : Nat} (h : k + 1 = es.length) : delE es k = es.take k := by
  unfold delE
  rw [List.drop_of_length_le (by omega), List.append_nil]
theorem delE_get {es : List EN} {k : Nat} (h : k < es.length) (i : Nat) : (delE es k)[i]?.getD en0 = es[if i < k then i else i + 1]?.getD en0 := by
  unfold delE
  by_cases hi : i < k
  · rw [if_pos hi, List.getElem?_append_left (by rw [List.length_take]; omega), List.getElem?_take, if_pos hi]
  · rw [if_neg hi, List.getElem?_append_right (by rw [List.length_take]; omega), List.length_take, List.getElem?_drop, show k + 1 + (i - min k es.length) = i + 1 by omega]
theorem delE_size {es : List EN} {k : Nat} (h : k < es.length) (hz : ∀ k : Nat, (es[k]?.getD en0).1.size ≤ maxLen) (i : Nat) : ((delE es k)[i]?.getD en0).1.size ≤ maxLen := by
  rw [delE_get h]; exact hz _
/-- Entries of a directory that are right. -/
structure DirE (es : List EN) : Prop where
  six : es.length ≤ 6
  names : ∀ i, i < es.length → nameF (es[i]?.getD en0).1 = 0
  nums : ∀ i, i < es.length → 0 ≤ (es[i]?.getD en0).2 ∧ (es[i]?.getD en0).2 ≤ 9
  rises : Rises es
theorem dirF_E {es : List EN} (h : dirF es = 0) : DirE es := by
  obtain ⟨h1, h2, h3⟩ := dir_rises h
  refine ⟨h3, h2, fun i hi => ?_, h1⟩
  unfold dirF at h
  rw [if_neg (by omega)] at h
  have := fstNZ_inv h i hi
  unfold entF at this
  rw [if_pos (h2 i hi)] at this
  by_cases e : 0 ≤ (es[i]?.getD en0).2 ∧ (es[i]?.getD en0).2 ≤ 9
  · exact e
  · rw [if_neg e] at this; omega
theorem DirE.fault {es : List EN} (h : DirE es) : dirF es = 0 := by
  unfold dirF
  rw [if_neg (by have := h.six; omega)]
  refine fstNZ_zero fun i hi => ?_
  unfold entF
  rw [if_pos (h.names i hi), if_pos (h.nums i hi), if_neg]
  rintro ⟨h0, hs⟩
  have hr := h.rises (i - 1) (by omega)
  rw [show i - 1 + 1 = i by omega] at hr
  unfold strLe at hs
  rw [Bool.or_eq_true] at hs
  rcases hs with hs | hs
  · have := bl_trans hr hs
    rw [bl_irr] at this; exact absurd this (by decide)
  · have e : (es[i]?.getD en0).1.toList = (es[i - 1]?.getD en0).1.toList := by simpa using hs
    rw [e, bl_irr] at hr; exact absurd hr (by decide)
theorem DirE.del {es : List EN} (h : DirE es) {k : Nat} (hk : k < es.length) : DirE (delE es k) := by
  have hl := delE_len hk
  refine ⟨by have := h.six; omega, fun i hi => ?_, fun i hi => ?_, fun i hi => ?_⟩
  · rw [delE_get hk]; exact h.names _ (by split <;> omega)
  · rw [delE_get hk]; exact h.nums _ (by split <;> omega)
  · rw [delE_get hk, delE_get hk]
    by_cases h1 : i + 1 < k
    · rw [if_pos h1, if_pos (by omega)]; exact h.rises i (by omega)
    · rw [if_neg h1]
      by_cases h2 : i < k
      · rw [if_pos h2]; exact h.rises.lt (by omega) (by omega)
      · rw [if_neg h2]; exact h.rises (i + 1) (by omega)
/-- The list stays right where one inode turns to a right one. -/
theorem insF_set {ds : List ID} (h : insF ds = 0) (j : Nat) (x : ID) (hx : inoF x = 0) : insF (ds.set j x) = 0 := by
  have ht := insF_ten h
  unfold insF
  rw [List.length_set, if_neg (by omega)]
  refine fstNZ_zero fun i hi => ?_
  rw [List.getElem?_set]
  by_cases e : j = i
  · rw [if_pos e]
    by_cases hl : j < ds.length
    · rw [if_pos (by omega)]; exact hx
    · omega
  · rw [if_neg e]; exact ins_ino h i hi
theorem inoF_dir {x : ID} (hk : x.1 = 2) (h : inoF x = 0) {es : List EN} (he : DirE es) : inoF (x.1, x.2.1, x.2.2.1, [], es) = 0 := by
  unfold inoF at h ⊢
  rw [if_neg (by omega), if_neg (by omega), if_pos hk] at h
  dsimp only
  rw [if_neg (by omega), if_neg (by omega), if_pos hk]
  by_cases hf : fpB x = true
  · rw [if_pos hf] at h; omega
  · have hf2 : fpB (x.1, x.2.1, x.2.2.1, [], es) = false := by
      unfold fpB at hf ⊢
      simp at hf ⊢
      exact hf.1
    rw [hf2]
    exact he.fault
theorem nameF_size {s : ByteArray} (h : nameF s = 0) : s.size ≤ 4 ∧ 1 ≤ s.size := by
  unfold nameF at h
  by_cases h0 : s.size = 0
  · rw [if_pos h0] at h; omega
  · rw [if_neg h0] at h
    by_cases h1 : s.data.toList.all byB = true
    · rw [if_pos h1] at h
      by_cases h2 : 4 < s.size
      · rw [if_pos h2] at h; omega
      · omega
    · rw [if_neg h1] at h; omega
theorem nlens_four {es : List EN} (h : ∀ i, i < es.length → (es[i]?.getD en0).1.size ≤ 4) : (nlens es).sum ≤ 4 * es.length := by
  unfold nlens
  induction es with
  | nil => simp
  | cons x es ih =>
    have h0 := h 0 (by simp)
    have := ih fun i hi => by have := h (i + 1) (by simpa using hi); simpa using this
    simp at h0
    simp only [List.map_cons, List.sum_cons, List.length_cons, Nat.mul_add, Nat.mul_one]
    omega
theorem ino_small {x : ID} (h : inoF x = 0) : sizeIno x ≤ 40 := by
  have h1 := ino_size h
  have h6 := ino_six h
  have h4 : (nlens x.2.2.2.2).sum ≤ 4 * x.2.2.2.2.length := by
    by_cases hk : x.1 = 2
    · exact nlens_four fun i hi => (nameF_size ((dirF_E (ino_dir h hk)).names i hi)).1
    · have he : x.2.2.2.2.length = 0 := by
        unfold inoF at h
        have dp : dpB x = false → x.2.2.2.2.length = 0 := fun hd => by unfold dpB at hd; simp at hd; rw [hd]; rfl
        by_cases h0 : x.1 = 0
        · rw [if_pos h0] at h
          by_cases hd : dpB x = true
          · rw [hd, Bool.or_true, if_pos rfl] at h; omega
          · exact dp (by simpa using hd)
        · rw [if_neg h0] at h
          by_cases h1 : x.1 = 1
          · rw [if_pos h1] at h
            by_cases hd : dpB x = true
            · rw [if_pos hd] at h; omega
            · exact dp (by simpa using hd)
          · rw [if_neg h1, if_neg hk] at h; omega
      rw [List.eq_nil_of_length_eq_zero he]; simp [nlens]
  unfold sizeIno sizeN
  omega
theorem isz_each {ds : List ID} {m : Nat} (h : ∀ i : Nat, i < ds.length → sizeIno (ds[i]?.getD id0) ≤ m) : (isz ds).sum ≤ m * ds.length := by
  unfold isz
  induction ds with
  | nil => simp
  | cons x ds ih =>
    have h0 := h 0 (by simp)
    have := ih fun i hi => by have := h (i + 1) (by simpa using hi); simpa using this
    simp at h0
    simp only [List.map_cons, List.sum_cons, List.length_cons, Nat.mul_add, Nat.mul_one]
    omega
/-- Right inodes are small. -/
theorem ins_small {ds : List ID} (h : insF ds = 0) : sizeInos ds ≤ 410 := by
  have h1 := isz_each fun i hi => ino_small (ins_ino h i hi)
  have h2 := insF_ten h
  unfold sizeInos
  omega
theorem fs_small {d : FD} (h : insF d.1 = 0) (h20 : d.2.length = 20) (h8 : ∀ i : Nat, (d.2[i]?.getD []).length ≤ 8) : sizeFs d ≤ 1000 := by
  have h1 := ins_small h
  have h2 := ylens_eight h8
  unfold sizeFs sizeByts
  omega
end Go.Proofs.YtjabimfinanjoabGreat

namespace Go.Proofs.YtjabimfinanjoabGreat
open Go.RowKit
set_option maxRecDepth 100000

theorem OwnRow.less {w : World} {b n m : Nat} {f : Nat → Value} (h : OwnRow w b n f) (hm : m ≤ n) : OwnRow w b m f := by
  obtain ⟨cur, t, h1, h2, h3⟩ := h
  exact ⟨cur, t, h1, by omega, fun i hi => h3 i (by omega)⟩
/-- A beginning of entries in own memory. -/
theorem EntsO.take {w : World} {a : Option Addr} {n c : Nat} {es : List EN} {F : Nat → Prop} (h : EntsO w (.slice a n c) es F) (k : Nat) (hk : k ≤ n) : EntsO w (.slice a k k) (es.take k) F := by
  rcases h with ⟨rfl, _, _, e⟩ | ⟨b, cap, hF, e, ⟨h1, h2, h3⟩, h4⟩
  · simp only [Value.slice.injEq] at e
    obtain ⟨rfl, rfl, rfl⟩ := e
    have : k = 0 := by omega
    subst this
    exact Or.inl ⟨rfl, _, _, rfl⟩
  · simp only [Value.slice.injEq] at e
    obtain ⟨rfl, rfl, rfl⟩ := e
    have hl : (es.take k).length = k := by rw [List.length_take]; omega
    have hg : ∀ i : Nat, i < k → (es.take k)[i]?.getD en0 = es[i]?.getD en0 := fun i hi => by rw [List.getElem?_take, if_pos hi]
    refine Or.inr ⟨b, k, hF, by rw [hl], ⟨by omega, by omega, fun i => ?_⟩, ?_⟩
    · by_cases hi : i < k
      · rw [hg i hi]; exact h3 i
      · rw [List.getElem?_take, if_neg hi]; simp [en0, ByteArray.size]
    · rw [hl]
      refine (h4.less (by omega)).congr fun i hi => ?_
      unfold enCell
      rw [hg _ (by omega)]
theorem append_none (w : World) (ty : TypeId) (av : Option Addr) (k : Nat) (a : Option Addr) (c : Nat) : (Builtin.append_ #[84, 84] ty #[.slice av k k, .slice a 0 c]).run Tryz.prog w = .ok (.slice av k k) w := by
  obtain ⟨i, hi, _, _, _⟩ := Tryz.infoEnt'
  cases a <;> cases av <;> simp [Builtin.append_, run_underlying Tryz.underlying84, sizeOf, typeInfo, hi, Builtin.lenOf, Builtin.firstCells, storeCells, loadCells, loadCellsFrom]
set_option maxHeartbeats 3200000 in
theorem withoutEntry_any (w : World) (aE : Option Addr) (n cE k : Nat) (es : List EN) (hn : es.length = n) (hc : n ≤ cE) (hk : k < n) (h6 : n ≤ 6) (hat : AtN w aE n es) (ha : aE = none → n = 0) :
    Calls Tryz.prog 106 #[.slice aE n cE, .int .i64 (k : Int)] w fun e w' => ∃ v, e = .returned v ∧ Below w.heap.size w w' ∧ ((k + 1 < n ∧ WdE w' w.heap.size v (delE es k)) ∨ (k + 1 = n ∧ v = .slice aE k k)) := by
  have HEA : Hid (∀ W, Calls Tryz.prog 133 #[.slice aE n cE, .int .i64 (k : Int)] W fun e w' => e = .returned (.slice aE k k) ∧ w' = W) := fun W => entriesAhead_any W aE n cE k (by omega) hc (by omega)
  obtain ⟨v1, X1, hr1, hfin⟩ : ∃ v1 X1, (Builtin.append_ #[84, 84] 84 #[.slice aE k k, .slice (tailE aE cE (k + 1)) (n - (k + 1)) (cE - (k + 1))]).run Tryz.prog w.drew = .ok v1 X1 ∧ (Below w.heap.size w X1 ∧ ((k + 1 < n ∧ WdE X1 w.heap.size v1 (delE es k)) ∨ (k + 1 = n ∧ v1 = .slice aE k k))) := by
    by_cases hl : k + 1 = n
    · have e0 : n - (k + 1) = 0 := by omega
      rw [e0]
      exact ⟨_, w.drew, append_none w.drew _ aE k _ _, (Below.refl _ _).drew, Or.inr ⟨hl, rfl⟩⟩
    · obtain ⟨v1, X1, hr1, hw1, hbx1⟩ := push_ahead w.drew 84 (es.take k) (es.drop (k + 1)) aE k (by rw [List.length_take]; omega) ((hat.take k (by omega)).later (Below.refl _ _).drew) (fun e => by have := ha e; omega) (tailE aE cE (k + 1)) (n - (k + 1)) (cE - (k + 1)) (by rw [List.length_drop]; omega) (by omega) ((hat.tail hc).later (Below.refl _ _).drew) (by omega)
      exact ⟨v1, X1, hr1, (Below.refl _ _).drew.trans hbx1, Or.inl ⟨by omega, hw1⟩⟩
  unfold tailE at hr1
  have HR1 : Hid (_ = _) := hr1
  have HFIN : Hid (Below w.heap.size w X1 ∧ ((k + 1 < n ∧ WdE X1 w.heap.size v1 (delE es k)) ∨ (k + 1 = n ∧ v1 = .slice aE k k))) := hfin
  obtain ⟨k1, hk1⟩ : ∃ k1, k + 1 = k1 := ⟨_, rfl⟩
  have hwr : IntKind.i64.wrap ((k : Int) + 1) = (k1 : Int) := by
    rw [show (k : Int) + 1 = (k1 : Int) by omega]
    exact wrap_in _ (by omega) (by omega)
  have hkI : (k1 : Int) ≤ (n : Int) := by omega
  have hkN : k1 ≤ n := by omega
  rw [hk1] at HR1
  clear hr1 hfin hat ha hn hk1
  go_enter Tryz.func106, Tryz.ntmps106
  go_wp2_with fail
  go_region_law (first
    | (refine step_append_run rfl _ _ 84 rfl _ _ rfl rfl _ _ HR1.out ?_; clear HR1)
    | (try go_simp; go_at_call 133; refine (HEA.out _).mono ?_; rintro e w2 ⟨rfl, rfl⟩)
    | fail)
  all_goals
    go_wp2
    all_goals
      go_ret
      exact ⟨_, rfl, HFIN.out⟩
/-- The entries of an inode cut to a beginning of them, where they lie. -/
theorem FsS.entCut {w : World} {bI n cI bD cD : Nat} {d : FD} {F : Nat → Prop} (hfs : FsS w bI n cI bD 20 cD d F) (j : Nat) (hj : j < n) (hblk : (d.1[j]?.getD id0).2.2.2.1 = []) {aE : Option Addr} {m cE : Nat} (hc4 : w.cell? ⟨bI, j * 5 + 4, none⟩ = some (.slice aE m cE)) (k : Nat) (hk : k ≤ m) :
    FsS (w.setCell ⟨bI, j * 5 + 4, none⟩ (.slice aE k k)) bI n cI bD 20 cD (entD d j ((entA d j).take k)) F := by
  have h1 : Chg (fun c => c = bI) w (w.setCell ⟨bI, j * 5 + 4, none⟩ (.slice aE k k)) := Chg.set (F := fun c => c = bI) (Chg.refl _ w) rfl (j * 5 + 4) _
  obtain ⟨F1, G1, ⟨g0, gm, u, G, g1, g2, g3, g4, g5⟩, h2, h3, h4⟩ := hfs
  have e4 : (u j).2 = .slice aE m cE := by
    have := g4.cell (i := j * 5 + 4) (by omega)
    rw [hc4, inCell_4] at this
    exact (Option.some.inj this).symm
  unfold entD
  refine ⟨F1, G1, ⟨by simpa using g0, gm, fun i => if i = j then ((u j).1, .slice aE k k) else u i, G, g1, g2, g3, ?_, fun i hi => ?_⟩, h2.keep fun c hc hlt => h1.block c hlt fun e => h3 bI g1 (e ▸ hc), h3, fun b hb => ⟨(h4 b hb).1, by simpa [World.setCell] using (h4 b hb).2⟩⟩
  · refine (g4.set (j * 5 + 4) _).congr fun c _ => ?_
    rw [inCell_set d.1 u j (by omega)]
    by_cases q4 : c = j * 5 + 4
    · rw [if_pos q4, if_neg (by omega), if_neg (by omega), if_neg (by omega), if_neg (by omega)]
    · rw [if_neg q4]
      by_cases q0 : c = j * 5
      · rw [if_pos q0, q0, inCell_0]
      · rw [if_neg q0]
        by_cases q1 : c = j * 5 + 1
        · rw [if_pos q1, q1, inCell_1]
        · rw [if_neg q1]
          by_cases q2 : c = j * 5 + 2
          · rw [if_pos q2, q2, inCell_2]
          · rw [if_neg q2]
            by_cases q3 : c = j * 5 + 3
            · rw [if_pos q3, q3, inCell_3]
            · rw [if_neg q3]
  · dsimp only
    rw [set_getD _ _ _ _ _ (by omega)]
    have hk2 : ∀ c, G i c → c < w.heap.size → (w.setCell ⟨bI, j * 5 + 4, none⟩ (.slice aE k k)).heap[c]? = w.heap[c]? := fun c hc hlt => h1.block c hlt fun e => (g2 i c hc).2 e
    by_cases e : i = j
    · rw [if_pos e]
      simp only [e, if_true]
      have hv := (g5 i hi).keep hk2
      rw [e] at hv
      obtain ⟨⟨_, _, _, hcap⟩, P, Q, p1, p2, p3, p4⟩ := hv
      rw [e4] at p2
      rw [hblk] at p1
      exact ⟨⟨rfl, rfl, rfl, hcap⟩, P, Q, p1, p2.take k hk, p3, by rw [e] at *; exact p4⟩
    · rw [if_neg e]
      simp only [e, if_false]
      exact (g5 i hi).keep hk2
end Go.Proofs.YtjabimfinanjoabGreat

namespace Go.Proofs.YtjabimfinanjoabGreat
open Go.RowKit
set_option maxRecDepth 100000

set_option maxHeartbeats 800000 in
theorem hasMax_any (w : World) (x0 x1 x2 : Int) (v3 : Value) (a : Option Addr) (n c : Nat) (hn : n ≤ 1048576) : Calls Tryz.prog 62 #[.agg #[.int .i64 x0, .int .i64 x1, .int .i64 x2, v3, .slice a n c]] w fun e w' => e = .returned (.bool (decide (n = 6))) ∧ Below w.heap.size w w' := by
  have hd : decide (n = 6) = ((n : Int) == 6) := by
    by_cases h : n = 6
    · subst h; rfl
    · rw [decide_eq_false h]; exact (beq_eq_false_iff_ne.2 (by omega)).symm
  rw [hd]
  clear hd
  go_enter Tryz.func62, Tryz.ntmps62
  go_wp2
  go_ret
  exact ⟨rfl, later1 _ _⟩

set_option maxHeartbeats 3200000 in
theorem strike_any (w : World) (bI n cI bD cD : Nat) (d : FD) (F : Nat → Prop) (j : Nat) (s : ByteArray) (hfs : FsS w bI n cI bD 20 cD d F) (hj : j < n) (hri : Rises (entA d j)) (h6 : (entA d j).length ≤ 6) (hk : idxE (entA d j) s < (entA d j).length) (hblk : (d.1[j]?.getD id0).2.2.2.1 = []) :
    Calls Tryz.prog 70 #[.pointer (some ⟨bI, j * 5, none⟩), .string s] w fun e w' => e = .returned (.tuple #[]) ∧ FsS w' bI n cI bD 20 cD (entD d j (delE (entA d j) (idxE (entA d j) s))) (fun c => F c ∨ w.heap.size ≤ c) ∧ Chg (fun c => c = bI) w w' := by
  obtain ⟨hlen, -⟩ := hfs.len
  obtain ⟨aB', cB', aE, cE, -, -, -, -, c4, hEn⟩ := FsR.five hfs.fs.reads (j := j) (by omega)
  rw [Nat.zero_add] at c4
  have HEN : Hid (Ents w (.slice aE (entA d j).length cE) (entA d j)) := hEn
  obtain ⟨_, _, _, _, -, -, -, -, -, -, i6, -⟩ := hfs.ino j hj
  have HC4 : Hid (w.cell? ⟨bI, j * 5 + 4, none⟩ = some (Value.slice aE (entA d j).length cE)) := c4
  have HC4F : Hid (w.frozen? ⟨bI, j * 5 + 4, none⟩ = false) := i6 (j * 5 + 4)
  have hbI : bI < w.heap.size := hfs.ne.2.1.2
  have hplc := idx_plc hri hk
  have HPL : Hid (Calls Tryz.prog 60 #[.slice aE (entA d j).length cE, .string s] w fun e w' => e = .returned (.tuple #[.int .i64 ((idxE (entA d j) s : Nat) : Int), .bool true]) ∧ Below w.heap.size w w') := by
    have := placeOf_any w aE _ cE (entA d j) s rfl (by omega) HEN.out.cap.2.2.1
    rw [fnd_iff hri, hplc, decide_eq_true hk] at this
    exact this
  have HWE : Hid (∀ W, Below w.heap.size w W → Calls Tryz.prog 106 #[.slice aE (entA d j).length cE, .int .i64 ((idxE (entA d j) s : Nat) : Int)] W fun e w' => ∃ a m c, e = .returned (.slice a m c) ∧ Below W.heap.size W w' ∧ ((idxE (entA d j) s + 1 < (entA d j).length ∧ WdE w' W.heap.size (.slice a m c) (delE (entA d j) (idxE (entA d j) s))) ∨ (idxE (entA d j) s + 1 = (entA d j).length ∧ (.slice a m c : Value) = .slice aE (idxE (entA d j) s) (idxE (entA d j) s)))) := fun W hW => by
    obtain ⟨_, h2, h3, h4, _⟩ := (HEN.out.later hW).cap
    refine (withoutEntry_any W aE _ cE (idxE (entA d j) s) (entA d j) rfl h2 hk h6 h3 h4).mono ?_
    rintro e w' ⟨v, rfl, hb, hv⟩
    rcases hv with ⟨hv1, hv2⟩ | ⟨hv1, rfl⟩
    · obtain ⟨a, c, rfl⟩ := hv2.shape
      exact ⟨_, _, _, rfl, hb, Or.inl ⟨hv1, hv2⟩⟩
    · exact ⟨_, _, _, rfl, hb, Or.inr ⟨hv1, rfl⟩⟩
  have HEZ : Hid (∀ i : Nat, ((delE (entA d j) (idxE (entA d j) s))[i]?.getD en0).1.size ≤ maxLen) := delE_size hk HEN.out.cap.2.2.2.2
  have HBK : Hid ((d.1[j]?.getD id0).2.2.2.1 = []) := hblk
  have HDL : Hid (idxE (entA d j) s + 1 = (entA d j).length → delE (entA d j) (idxE (entA d j) s) = (entA d j).take (idxE (entA d j) s)) := fun e => delE_last e
  have HFS : Hid (FsS w bI n cI bD 20 cD d F) := hfs
  clear hfs hEn i6 hplc hblk hri hlen c4
  obtain ⟨nes, hnes⟩ : ∃ nes, delE (entA d j) (idxE (entA d j) s) = nes := ⟨_, rfl⟩
  rw [hnes] at HWE HEZ HDL ⊢
  obtain ⟨dn, hdn⟩ : ∃ dn, entD d j nes = dn := ⟨_, rfl⟩
  have HDN : Hid (entD d j nes = dn) := hdn
  have HDT : Hid (idxE (entA d j) s + 1 = (entA d j).length → entD d j ((entA d j).take (idxE (entA d j) s)) = dn) := fun e => by rw [← HDL.out e]; exact hdn
  rw [hdn]
  clear hnes hdn HDL
  generalize idxE (entA d j) s = k at *
  obtain ⟨m, hm⟩ : ∃ m, (entA d j).length = m := ⟨_, rfl⟩
  rw [hm] at HPL HWE HC4 HEN HDT
  have c4 := HC4.out
  clear hm h6 hk
  go_enter Tryz.func70, Tryz.ntmps70
  go_wp2_with fail
  refine HPL.out.mono ?_
  rintro e w1 ⟨rfl, hb1⟩
  have HB1 : Hid (Below w.heap.size w w1) := hb1
  clear c4
  have c4 := cell_later hb1 HC4.out
  clear hb1
  go_wp2_with fail
  refine (HWE.out _ HB1.out).mono ?_
  rintro e w2 ⟨av, mv, cv, rfl, hb2, hv2⟩
  have HB2 : Hid (Below w.heap.size w w2) := HB1.out.trans (hb2.mono HB1.out.size)
  clear c4
  have c4 := cell_later HB2.out HC4.out
  have c4f := (HB2.out.frozen (p := ⟨bI, j * 5 + 4, none⟩) hbI).trans HC4F.out
  have hs1 := HB1.out.size
  have hs2 := HB2.out.size
  have HF3 : Hid (FsS (w2.setCell ⟨bI, j * 5 + 4, none⟩ (.slice av mv cv)) bI n cI bD 20 cD dn (fun c => F c ∨ w.heap.size ≤ c)) := by
    unfold Hid
    have hbd : FsS w2 bI n cI bD 20 cD d (fun c => F c ∧ c < w.heap.size) := (HFS.out.boundF).later HB2.out
    rcases hv2 with ⟨_, hw⟩ | ⟨hk1, e⟩
    · have := (hbd.entS j hj HBK.out nes _ (hw.own HEZ.out) (fun c hc => ⟨fun hh => by have := hh.2; have := hc.1; omega, hc.2⟩)).mono (F' := fun c => F c ∨ w.heap.size ≤ c) fun c hh => by
        rcases hh with hh | hh
        · exact Or.inl hh.1
        · exact Or.inr (by have := hh.1; omega)
      rw [← HDN.out]
      exact this
    · simp only [Value.slice.injEq] at e
      obtain ⟨rfl, rfl, rfl⟩ := e
      have := (hbd.entCut j hj HBK.out c4 cv (by omega)).mono (F' := fun c => F c ∨ w.heap.size ≤ c) fun c hh => Or.inl hh.1
      rw [HDT.out hk1] at this
      exact this
  have HC3 : Hid (Chg (fun c => c = bI) w (w2.setCell ⟨bI, j * 5 + 4, none⟩ (.slice av mv cv))) := (Chg.of_below HB2.out).trans (Chg.set (F := fun c => c = bI) (Chg.refl _ w2) rfl _ _)
  clear hb2 hv2 hs1 hs2
  go_wp2
  first
    | exact bodyPost_ret (results_none rfl _ _ _) rfl ⟨rfl, HF3.out, HC3.out⟩
    | (go_end0; exact ⟨rfl, HF3.out, HC3.out⟩)

set_option maxHeartbeats 3200000 in
theorem enter_any (w : World) (bI n cI bD cD : Nat) (d : FD) (F : Nat → Prop) (j : Nat) (s : ByteArray) (y : Int) (hfs : FsS w bI n cI bD 20 cD d F) (hj : j < n) (h6 : (entA d j).length ≤ 6) (hs : s.size ≤ maxLen) (hblk : (d.1[j]?.getD id0).2.2.2.1 = []) :
    Calls Tryz.prog 64 #[.pointer (some ⟨bI, j * 5, none⟩), .string s, .int .i64 y] w fun e w' => e = .returned (.tuple #[]) ∧ FsS w' bI n cI bD 20 cD (entD d j (insE (entA d j) (plcE (entA d j) s) (s, y))) (fun c => F c ∨ w.heap.size ≤ c) ∧ Chg (fun c => c = bI) w w' := by
  obtain ⟨hlen, -⟩ := hfs.len
  obtain ⟨aB', cB', aE, cE, -, -, -, -, c4, hEn⟩ := FsR.five hfs.fs.reads (j := j) (by omega)
  rw [Nat.zero_add] at c4
  have HEN : Hid (Ents w (.slice aE (entA d j).length cE) (entA d j)) := hEn
  obtain ⟨_, _, _, _, -, -, -, -, -, -, i6, -⟩ := hfs.ino j hj
  have HC4 : Hid (w.cell? ⟨bI, j * 5 + 4, none⟩ = some (Value.slice aE (entA d j).length cE)) := c4
  have HC4F : Hid (w.frozen? ⟨bI, j * 5 + 4, none⟩ = false) := i6 (j * 5 + 4)
  have hbI : bI < w.heap.size := hfs.ne.2.1.2
  have HPL : Hid (Calls Tryz.prog 60 #[.slice aE (entA d j).length cE, .string s] w fun e w' => e = .returned (.tuple #[.int .i64 ((plcE (entA d j) s : Nat) : Int), .bool (fndB (entA d j) s)]) ∧ Below w.heap.size w w') := placeOf_any w aE _ cE (entA d j) s rfl (by omega) HEN.out.cap.2.2.1
  have HWE : Hid (∀ W, Below w.heap.size w W → Calls Tryz.prog 103 #[.slice aE (entA d j).length cE, .int .i64 ((plcE (entA d j) s : Nat) : Int), .agg #[.string s, .int .i64 y]] W fun e w' => ∃ v, e = .returned v ∧ WdE w' W.heap.size v (insE (entA d j) (plcE (entA d j) s) (s, y)) ∧ Below W.heap.size W w') := fun W hW => by
    obtain ⟨_, h2, h3, h4, _⟩ := (HEN.out.later hW).cap
    exact withEntry_any W aE _ cE _ (entA d j) s y rfl h2 (findIdx_le _) h6 h3 h4
  have HEZ : Hid (∀ i : Nat, ((insE (entA d j) (plcE (entA d j) s) (s, y))[i]?.getD en0).1.size ≤ maxLen) := insE_size HEN.out.cap.2.2.2.2 hs
  have HBK : Hid ((d.1[j]?.getD id0).2.2.2.1 = []) := hblk
  have HFS : Hid (FsS w bI n cI bD 20 cD d F) := hfs
  clear hfs hEn i6 hblk hlen c4 hs
  generalize insE (entA d j) (plcE (entA d j) s) (s, y) = nes at *
  obtain ⟨dn, hdn⟩ : ∃ dn, entD d j nes = dn := ⟨_, rfl⟩
  have HDN : Hid (entD d j nes = dn) := hdn
  rw [hdn]
  clear hdn
  generalize plcE (entA d j) s = k at *
  generalize fndB (entA d j) s = fb at *
  obtain ⟨m, hm⟩ : ∃ m, (entA d j).length = m := ⟨_, rfl⟩
  rw [hm] at HPL HWE HC4 HEN
  have c4 := HC4.out
  clear hm h6
  go_enter Tryz.func64, Tryz.ntmps64
  go_wp2_with fail
  refine HPL.out.mono ?_
  rintro e w1 ⟨rfl, hb1⟩
  have HB1 : Hid (Below w.heap.size w w1) := hb1
  clear c4
  have c4 := cell_later hb1 HC4.out
  clear hb1
  go_wp2_with fail
  refine (HWE.out _ HB1.out).mono ?_
  rintro e w2 ⟨v, rfl, hw2, hb2⟩
  obtain ⟨av, cv, rfl⟩ := hw2.shape
  have HB2 : Hid (Below w.heap.size w w2) := HB1.out.trans (hb2.mono HB1.out.size)
  clear c4
  have c4 := cell_later HB2.out HC4.out
  have c4f := (HB2.out.frozen (p := ⟨bI, j * 5 + 4, none⟩) hbI).trans HC4F.out
  have hs1 := HB1.out.size
  have HF3 : Hid (FsS (w2.setCell ⟨bI, j * 5 + 4, none⟩ (.slice av nes.length cv)) bI n cI bD 20 cD dn (fun c => F c ∨ w.heap.size ≤ c)) := by
    unfold Hid
    have hbd : FsS w2 bI n cI bD 20 cD d (fun c => F c ∧ c < w.heap.size) := (HFS.out.boundF).later HB2.out
    have := (hbd.entS j hj HBK.out nes _ (hw2.own HEZ.out) (fun c hc => ⟨fun hh => by have := hh.2; have := hc.1; omega, hc.2⟩)).mono (F' := fun c => F c ∨ w.heap.size ≤ c) fun c hh => by
      rcases hh with hh | hh
      · exact Or.inl hh.1
      · exact Or.inr (by have := hh.1; omega)
    rw [← HDN.out]
    exact this
  have HC3 : Hid (Chg (fun c => c = bI) w (w2.setCell ⟨bI, j * 5 + 4, none⟩ (.slice av nes.length cv))) := (Chg.of_below HB2.out).trans (Chg.set (F := fun c => c = bI) (Chg.refl _ w2) rfl _ _)
  clear hb2 hw2 hs1
  go_wp2
  first
    | exact bodyPost_ret (results_none rfl _ _ _) rfl ⟨rfl, HF3.out, HC3.out⟩
    | (go_end0; exact ⟨rfl, HF3.out, HC3.out⟩)
end Go.Proofs.YtjabimfinanjoabGreat

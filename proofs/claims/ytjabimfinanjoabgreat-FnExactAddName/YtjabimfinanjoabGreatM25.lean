/- The specification's AddName: an entry more in a directory. The specification's AddName: the contract. -/
import Derived.Test.YtjabimfinanjoabGreatM24
import Derived.Test.YtjabimfinanjoabGreatM20
namespace Go.Proofs.YtjabimfinanjoabGreat
open Go.RowKit
set_option maxRecDepth 100000

/-- What l8Add comes to: the code, and the file system behind it. -/
def addZ (d : FD) (j : Nat) (s : ByteArray) (y : Int) : FD := if (addQ d j s y).1 = 0 then (addQ d j s y).2 else d
theorem FsS.fsx {w : World} {bo bI n cI bD cD : Nat} {d : FD} {F : Nat → Prop} (hfs : FsS w bI n cI bD 20 cD d F) (h0 : w.cell? ⟨bo, 0, none⟩ = some (.slice (some ⟨bI, 0, none⟩) n cI)) (h1 : w.cell? ⟨bo, 1, none⟩ = some (.slice (some ⟨bD, 0, none⟩) 20 cD)) : FsX w bo 0 d (some ⟨bI, 0, none⟩) cI (some ⟨bD, 0, none⟩) cD := by
  have hl := hfs.len
  have hr := hfs.fs.reads
  exact ⟨by rw [hl.1]; exact h0, by rw [hl.2]; exact h1, by rw [hl.1]; exact hr.1, by rw [hl.2]; exact hr.2⟩

set_option maxHeartbeats 6400000 in
theorem l8Add_any (w : World) (bo bI n cI bD cD : Nat) (d : FD) (F : Nat → Prop) (j : Nat) (s : ByteArray) (y : Int) (h0 : w.cell? ⟨bo, 0, none⟩ = some (.slice (some ⟨bI, 0, none⟩) n cI)) (h1 : w.cell? ⟨bo, 1, none⟩ = some (.slice (some ⟨bD, 0, none⟩) 20 cD)) (hfs : FsS w bI n cI bD 20 cD d F) (hFo : ¬ F bo) (hn : d.1.length = n) (hds : DirS d j) (hml : s.size ≤ maxLen) :
    Calls Tryz.prog 58 #[.pointer (some ⟨bo, 0, none⟩), .int .i64 (j : Int), .string s, .int .i64 y] w fun e w' => e = .returned (.int .i64 (addQ d j s y).1) ∧ Chg (fun c => c = bI) w w' ∧ FsS w' bI n cI bD 20 cD (addZ d j s y) (fun c => F c ∨ w.heap.size ≤ c) := by
  have hx := hfs.fsx h0 h1
  have hjn : j < n := by have := hds.lt; omega
  have hjI : (j : Int) < (n : Int) := by omega
  have h6 := hds.six
  have hten : n ≤ 10 := by have := hds.ten; omega
  obtain ⟨aB, cB, aE, cE, -, -, -, -, k4, hE⟩ := FsR.five hfs.fs.reads hds.lt
  rw [Nat.zero_add] at k4
  obtain ⟨-, hcE, hAt, -, hZ⟩ := hE.cap
  have HFS : Hid (FsS w bI n cI bD 20 cD d F) := hfs
  have HPL : Hid (Calls Tryz.prog 66 #[.slice aE (entA d j).length cE, .string s] w fun e w' => e = .returned (.int .i64 (at8 (entA d j) s)) ∧ w' = w) := l8At_any w aE _ cE (entA d j) s rfl (by omega) hAt
  have HPC : Hid (Calls Tryz.prog 99 #[.pointer (some ⟨bo, 0, none⟩), .int .i64 y] w fun e w' => e = .returned (.bool (decide (0 ≤ y ∧ y < (d.1.length : Int)))) ∧ w' = w) := l6Place_any w bo 0 d _ _ _ _ y hx
  have HAQ : Hid (addQ d j s y = if idxE (entA d j) s < (entA d j).length then noFs 7 else if 0 ≤ y ∧ y < (d.1.length : Int) ∧ ¬ kindAt d.1 y.toNat = 0 then (if (entA d j).length = 6 ∨ (kindAt d.1 y.toNat = 1 ∧ 60 ≤ (d.1[y.toNat]?.getD id0).2.1) then noFs 2 else (0, addD d j s y.toNat)) else noFs 4) := rfl
  have HSAME : Hid (FsS w bI n cI bD 20 cD d (fun c => F c ∨ w.heap.size ≤ c)) := hfs.mono fun c hc => Or.inl hc
  have bad : ∀ c : Int, ¬ c = 0 → addQ d j s y = noFs c → ∀ (e : Ending) (w' : World), e = .returned (.int .i64 c) → w' = w → (e = .returned (.int .i64 (addQ d j s y).1) ∧ Chg (fun c => c = bI) w w' ∧ FsS w' bI n cI bD 20 cD (addZ d j s y) (fun c => F c ∨ w.heap.size ≤ c)) := fun c hc e1 e w' e2 e3 => by
    subst e3
    have e4 : addZ d j s y = d := by unfold addZ; rw [e1, if_neg (show ¬ (noFs c).1 = 0 from hc)]
    rw [e4, e1]
    exact ⟨e2, Chg.refl _ _, HSAME.out⟩
  have HBAD : Hid (∀ c : Int, ¬ c = 0 → addQ d j s y = noFs c → ∀ (e : Ending) (w' : World), e = .returned (.int .i64 c) → w' = w → (e = .returned (.int .i64 (addQ d j s y).1) ∧ Chg (fun c => c = bI) w w' ∧ FsS w' bI n cI bD 20 cD (addZ d j s y) (fun c => F c ∨ w.heap.size ≤ c))) := bad
  have HATH : Hid (AtN w aE (entA d j).length (entA d j)) := hAt
  have HZZ : Hid (∀ k : Nat, ((entA d j)[k]?.getD en0).1.size ≤ maxLen) := hZ
  clear bad hx hAt hE hZ
  by_cases hi : idxE (entA d j) s < (entA d j).length
  · have HR : Hid (addQ d j s y = noFs 7) := by unfold Hid; rw [HAQ.out, if_pos hi]
    have ha8 : at8 (entA d j) s = ((idxE (entA d j) s : Nat) : Int) := by unfold at8; rw [if_pos hi]
    rw [ha8] at HPL
    clear hi ha8 HAQ hfs hds
    have HB := HBAD.out 7 (by omega) HR.out
    have HBB : Hid (∀ (e : Ending) (w' : World), e = .returned (.int .i64 7) → w' = w → _) := HB
    clear HB HBAD HR
    generalize idxE (entA d j) s = i at *
    generalize (entA d j).length = m at *
    go_enter Tryz.func58, Tryz.ntmps58
    go_wp2_with fail
    refine HPL.out.mono ?_
    rintro e w1 ⟨rfl, rfl⟩
    go_wp2
    go_ret
    exact HBB.out _ _ rfl rfl
  · have ha8 : at8 (entA d j) s = -1 := by unfold at8; rw [if_neg hi]
    rw [ha8] at HPL
    by_cases hy : 0 ≤ y ∧ y < (d.1.length : Int)
    rotate_left
    · have HR : Hid (addQ d j s y = noFs 4) := by unfold Hid; rw [HAQ.out, if_neg hi, if_neg (fun hh => hy ⟨hh.1, hh.2.1⟩)]
      rw [decide_eq_false hy] at HPC
      clear hi ha8 HAQ hfs hds hy
      have HB := HBAD.out 4 (by omega) HR.out
      have HBB : Hid (∀ (e : Ending) (w' : World), e = .returned (.int .i64 4) → w' = w → _) := HB
      clear HB HBAD HR
      generalize (entA d j).length = m at *
      go_enter Tryz.func58, Tryz.ntmps58
      go_wp2_with fail
      refine HPL.out.mono ?_
      rintro e w1 ⟨rfl, rfl⟩
      go_wp2_with fail
      refine HPC.out.mono ?_
      rintro e w1 ⟨rfl, rfl⟩
      go_wp2
      go_ret
      exact HBB.out _ _ rfl rfl
    · rw [decide_eq_true hy] at HPC
      obtain ⟨z, rfl⟩ : ∃ z : Nat, y = (z : Int) := ⟨y.toNat, by omega⟩
      rw [Int.toNat_natCast] at HAQ
      have hzn : z < n := by omega
      have hzI : (z : Int) < (n : Int) := by omega
      obtain ⟨_, _, _, _, g0, g1, -, -, -, -, gf, -⟩ := hfs.ino z hzn
      by_cases hk0 : kindAt d.1 z = 0
      · have HR : Hid (addQ d j s (z : Int) = noFs 4) := by unfold Hid; rw [HAQ.out, if_neg hi, if_neg (fun hh => hh.2.2 hk0)]
        have hkb : ((d.1[z]?.getD id0).1 == 0) = true := beq_iff_eq.2 hk0
        clear hi ha8 HAQ hfs hds hy hk0 gf g1
        have HB := HBAD.out 4 (by omega) HR.out
        have HBB : Hid (∀ (e : Ending) (w' : World), e = .returned (.int .i64 4) → w' = w → _) := HB
        clear HB HBAD HR
        generalize (entA d j).length = m at *
        generalize (d.1[z]?.getD id0).1 = kd at *
        go_enter Tryz.func58, Tryz.ntmps58
        go_wp2_with fail
        refine HPL.out.mono ?_
        rintro e w1 ⟨rfl, rfl⟩
        go_wp2_with fail
        refine HPC.out.mono ?_
        rintro e w1 ⟨rfl, rfl⟩
        go_wp2
        go_ret
        exact HBB.out _ _ rfl rfl
      · have hkb : ((d.1[z]?.getD id0).1 == 0) = false := beq_eq_false_iff_ne.2 hk0
        by_cases hmany : (entA d j).length = 6 ∨ (kindAt d.1 z = 1 ∧ 60 ≤ (d.1[z]?.getD id0).2.1)
        · have HR : Hid (addQ d j s (z : Int) = noFs 2) := by unfold Hid; rw [HAQ.out, if_neg hi, if_pos ⟨by omega, by omega, hk0⟩, if_pos hmany]
          have HB := HBAD.out 2 (by omega) HR.out
          have HBB : Hid (∀ (e : Ending) (w' : World), e = .returned (.int .i64 2) → w' = w → _) := HB
          clear HB HBAD HR
          by_cases hm6 : (entA d j).length = 6
          · rw [hm6] at HPL k4
            clear hi ha8 HAQ hfs hds hy hk0 gf g1 hmany hm6
            generalize (d.1[z]?.getD id0).1 = kd at *
            go_enter Tryz.func58, Tryz.ntmps58
            go_wp2_with fail
            refine HPL.out.mono ?_
            rintro e w1 ⟨rfl, rfl⟩
            go_wp2_with fail
            refine HPC.out.mono ?_
            rintro e w1 ⟨rfl, rfl⟩
            go_wp2
            go_ret
            exact HBB.out _ _ rfl rfl
          · have hkl := hmany.resolve_left hm6
            have hk1 : ((d.1[z]?.getD id0).1 == 1) = true := beq_iff_eq.2 hkl.1
            have hl6 : decide ((60 : Int) ≤ (d.1[z]?.getD id0).2.1) = true := by simpa using hkl.2
            have hmb : decide ((6 : Int) ≤ (((entA d j).length : Nat) : Int)) = false := by simp; omega
            have hmb2 : decide (6 ≤ (entA d j).length) = false := by simp; omega
            clear hi ha8 HAQ hfs hds hy hk0 gf hmany hm6 hkl
            generalize (entA d j).length = m at *
            generalize (d.1[z]?.getD id0).1 = kd at *
            generalize (d.1[z]?.getD id0).2.1 = kl at *
            go_enter Tryz.func58, Tryz.ntmps58
            go_wp2_with fail
            refine HPL.out.mono ?_
            rintro e w1 ⟨rfl, rfl⟩
            go_wp2_with fail
            refine HPC.out.mono ?_
            rintro e w1 ⟨rfl, rfl⟩
            go_wp2
            go_ret
            exact HBB.out _ _ rfl rfl
        · have hm6 : ¬ (entA d j).length = 6 := fun e => hmany (Or.inl e)
          have HR : Hid (addQ d j s (z : Int) = (0, addD d j s z)) := by unfold Hid; rw [HAQ.out, if_neg hi, if_pos ⟨by omega, by omega, hk0⟩, if_neg hmany]
          have HGD : Hid (∀ (e : Ending) (w' : World), e = .returned (.int .i64 0) → Chg (fun c => c = bI) w w' → FsS w' bI n cI bD 20 cD (addD d j s z) (fun c => F c ∨ w.heap.size ≤ c) → (e = .returned (.int .i64 (addQ d j s (z : Int)).1) ∧ Chg (fun c => c = bI) w w' ∧ FsS w' bI n cI bD 20 cD (addZ d j s (z : Int)) (fun c => F c ∨ w.heap.size ≤ c))) := fun e w' e1 e2 e3 => by
            have e4 : addZ d j s (z : Int) = addD d j s z := by unfold addZ; rw [HR.out]; rfl
            rw [e4, HR.out]
            exact ⟨e1, e2, e3⟩
          have hmb : decide ((6 : Int) ≤ (((entA d j).length : Nat) : Int)) = false := by simp; omega
          have hmb2 : decide (6 ≤ (entA d j).length) = false := by simp; omega
          have HPUT : Hid (∀ W, Below w.heap.size w W → Calls Tryz.prog 100 #[.slice aE (entA d j).length cE, .agg #[.string s, .int .i64 (z : Int)]] W fun e w' => ∃ v, e = .returned v ∧ WdE w' W.heap.size v (insE (entA d j) (plcE (entA d j) s) (s, (z : Int))) ∧ Below W.heap.size W w') := fun W hW => l8Put_any W aE _ cE (entA d j) s (z : Int) rfl hcE h6 (HATH.out.later hW)
          have HEZ : Hid (∀ i : Nat, ((insE (entA d j) (plcE (entA d j) s) (s, (z : Int)))[i]?.getD en0).1.size ≤ maxLen) := insE_size HZZ.out hml
          have HBK : Hid ((d.1[j]?.getD id0).2.2.2.1 = []) := dir_blk (ins_ino hds.ins j hds.lt) hds.kind
          have HLN : Hid ((d.1[z]?.getD id0).1 = 1 → 1 ≤ (d.1[z]?.getD id0).2.1 ∧ (d.1[z]?.getD id0).2.1 < 60) := fun e => ⟨(ino_lnk (ins_ino hds.ins z (by omega)) e).1, by
            by_cases hh : 60 ≤ (d.1[z]?.getD id0).2.1
            · exact absurd (Or.inr ⟨e, hh⟩) hmany
            · omega⟩
          have HAD : Hid (addD d j s z = if (d.1[z]?.getD id0).1 = 1 then lnkD (entD d j (insE (entA d j) (plcE (entA d j) s) (s, (z : Int)))) z ((d.1[z]?.getD id0).2.1 + 1) else entD d j (insE (entA d j) (plcE (entA d j) s) (s, (z : Int)))) := rfl
          rw [HAD.out] at HGD
          have HEK := entD_kind d j z (insE (entA d j) (plcE (entA d j) s) (s, (z : Int))) hds.lt
          have HEK1 : Hid (((entD d j (insE (entA d j) (plcE (entA d j) s) (s, (z : Int)))).1[z]?.getD id0).1 = (d.1[z]?.getD id0).1) := HEK.1
          have HEK2 : Hid (((entD d j (insE (entA d j) (plcE (entA d j) s) (s, (z : Int)))).1[z]?.getD id0).2.1 = (d.1[z]?.getD id0).2.1) := HEK.2
          obtain ⟨_, _, _, _, -, -, -, -, -, -, jf, -⟩ := hfs.ino j hjn
          have c4f := jf (j * 5 + 4)
          have hne := hfs.ne
          have hoI : bo ≠ bI := fun e => hFo (e ▸ hne.2.1.1)
          have hlI : bI < w.heap.size := hne.2.1.2
          have hlo : bo < w.heap.size := World.block_lt_of_cell? _ _ h0
          generalize insE (entA d j) (plcE (entA d j) s) (s, (z : Int)) = nes at *
          generalize hent : entD d j nes = dn at *
          have HDN : Hid (entD d j nes = dn) := hent
          clear hi ha8 HAQ hfs hds hy hk0 hmany hm6 HAD HEK hent gf jf HBAD HR HATH HZZ HSAME
          generalize (entA d j).length = m at *
          generalize (d.1[z]?.getD id0).1 = kd at *
          generalize (d.1[z]?.getD id0).2.1 = kl at *
          have step : ∀ P : Prop, (kd = 1 → P) → (¬ kd = 1 → P) → P := fun P f1 f2 => by
            by_cases h : kd = 1
            · exact f1 h
            · exact f2 h
          apply step
          · intro hk1
            rw [if_pos hk1] at HGD
            have hkb1 : (kd == 1) = true := by simpa using hk1
            have hln := HLN.out hk1
            have hl6 : decide ((60 : Int) ≤ kl) = false := by simp; omega
            clear step hk1
            go_enter Tryz.func58, Tryz.ntmps58
            go_wp2_with fail
            refine HPL.out.mono ?_
            rintro e w1 ⟨rfl, rfl⟩
            go_wp2_with fail
            refine HPC.out.mono ?_
            rintro e w1 ⟨rfl, rfl⟩
            go_wp2_with fail
            go_region_law (first
              | (try go_simp; go_at_call 100; refine (HPUT.out w1.drew (Below.refl _ _).drew).mono ?_; rintro e w2 ⟨v, rfl, hw2, hb2⟩
                 obtain ⟨av, cv, rfl⟩ := hw2.shape
                 have HB2 : Hid (Below w1.heap.size w1 w2) := (Below.refl _ _).drew.trans hb2
                 have HW2 : Hid (WdE w2 w1.heap.size (.slice av nes.length cv) nes) := hw2
                 have b02 := cell_later HB2.out h0
                 have c42 := cell_later HB2.out k4
                 have c42f := (HB2.out.frozen (p := ⟨bI, j * 5 + 4, none⟩) hlI).trans c4f
                 clear hw2 hb2)
              | fail)
            all_goals
              have HF9 : Hid (FsS (w2.setCell ⟨bI, j * 5 + 4, none⟩ (.slice av nes.length cv)) bI n cI bD 20 cD dn (fun c => F c ∨ w1.heap.size ≤ c)) := by
                have := ((HFS.out.boundF.later HB2.out).entS j hjn HBK.out nes _ (HW2.out.own HEZ.out) (fun c hc => ⟨fun hh => by have := hh.2; have := hc.1; omega, hc.2⟩)).mono (F' := fun c => F c ∨ w1.heap.size ≤ c) fun c hh => by
                  rcases hh with hh | hh
                  · exact Or.inl hh.1
                  · exact Or.inr hh.1
                rw [← HDN.out]
                exact this
              have HC9 : Hid (Chg (fun c => c = bI) w1 (w2.setCell ⟨bI, j * 5 + 4, none⟩ (.slice av nes.length cv))) := Chg.set (F := fun c => c = bI) (Chg.of_below HB2.out) rfl _ _
              have p0 := HC9.out.cellOf h0 hoI
              obtain ⟨_, _, _, _, z0, z1, -, -, -, -, zf, -⟩ := HF9.out.ino z hzn
              rw [HEK1.out] at z0
              rw [HEK2.out] at z1
              have z1f := zf (z * 5 + 1)
              clear zf
              generalize (w2.setCell ⟨bI, j * 5 + 4, none⟩ (.slice av nes.length cv)) = W9 at *
              have HF10 : Hid (FsS (W9.setCell ⟨bI, z * 5 + 1, none⟩ (.int .i64 (kl + 1))) bI n cI bD 20 cD (lnkD dn z (kl + 1)) (fun c => F c ∨ w1.heap.size ≤ c)) := HF9.out.lnkS z hzn (kl + 1)
              have HC10 : Hid (Chg (fun c => c = bI) w1 (W9.setCell ⟨bI, z * 5 + 1, none⟩ (.int .i64 (kl + 1)))) := Chg.set (F := fun c => c = bI) HC9.out rfl _ _
              go_wp2
              go_ret
              exact HGD.out _ _ rfl HC10.out HF10.out
          · intro hk1
            rw [if_neg hk1] at HGD
            have hkb1 : (kd == 1) = false := by simpa using hk1
            clear step hk1 g1
            go_enter Tryz.func58, Tryz.ntmps58
            go_wp2_with fail
            refine HPL.out.mono ?_
            rintro e w1 ⟨rfl, rfl⟩
            go_wp2_with fail
            refine HPC.out.mono ?_
            rintro e w1 ⟨rfl, rfl⟩
            go_wp2_with fail
            go_region_law (first
              | (try go_simp; go_at_call 100; refine (HPUT.out w1.drew (Below.refl _ _).drew).mono ?_; rintro e w2 ⟨v, rfl, hw2, hb2⟩
                 obtain ⟨av, cv, rfl⟩ := hw2.shape
                 have HB2 : Hid (Below w1.heap.size w1 w2) := (Below.refl _ _).drew.trans hb2
                 have HW2 : Hid (WdE w2 w1.heap.size (.slice av nes.length cv) nes) := hw2
                 have b02 := cell_later HB2.out h0
                 have c42 := cell_later HB2.out k4
                 have c42f := (HB2.out.frozen (p := ⟨bI, j * 5 + 4, none⟩) hlI).trans c4f
                 clear hw2 hb2)
              | fail)
            all_goals
              have HF9 : Hid (FsS (w2.setCell ⟨bI, j * 5 + 4, none⟩ (.slice av nes.length cv)) bI n cI bD 20 cD dn (fun c => F c ∨ w1.heap.size ≤ c)) := by
                have := ((HFS.out.boundF.later HB2.out).entS j hjn HBK.out nes _ (HW2.out.own HEZ.out) (fun c hc => ⟨fun hh => by have := hh.2; have := hc.1; omega, hc.2⟩)).mono (F' := fun c => F c ∨ w1.heap.size ≤ c) fun c hh => by
                  rcases hh with hh | hh
                  · exact Or.inl hh.1
                  · exact Or.inr hh.1
                rw [← HDN.out]
                exact this
              have HC9 : Hid (Chg (fun c => c = bI) w1 (w2.setCell ⟨bI, j * 5 + 4, none⟩ (.slice av nes.length cv))) := Chg.set (F := fun c => c = bI) (Chg.of_below HB2.out) rfl _ _
              go_wp2
              go_ret
              exact HGD.out _ _ rfl HC9.out HF9.out

end Go.Proofs.YtjabimfinanjoabGreat

namespace Go.Proofs.YtjabimfinanjoabGreat
open Go.RowKit
set_option maxRecDepth 100000

set_option maxHeartbeats 6400000 in
theorem specAddU (w : World) (a1 : Option Addr) (n1 c1 : Nat) (a2 : Option Addr) (n2 c2 : Nat) (d : FD) (x : Int) (s : ByteArray) (y : Int) (h : FsR w (.slice a1 n1 c1) (.slice a2 n2 c2) d) (hs : sizeFs d ≤ 1048576) (hl : s.size ≤ 1048576) :
    Calls Tryz.prog 27 #[.agg #[.slice a1 n1 c1, .slice a2 n2 c2], .int .i64 x, .string s, .int .i64 y] w (AnsFR w (addR d x s y)) := by
  have hml : s.size ≤ maxLen := by unfold maxLen; omega
  obtain ⟨hx0, -, -⟩ := FsX.box h 31
  have HB0 : Hid (Below w.heap.size w ((w.alloc (.cells #[.slice a1 n1 c1, .slice a2 n2 c2] 31)).alloc (.cells #[.int .i64 0, .slice none 0 0, .slice none 0 0] 33))) := later2 _ _ _
  have HBX : Hid (Bx ((w.alloc (.cells #[.slice a1 n1 c1, .slice a2 n2 c2] 31)).alloc (.cells #[.int .i64 0, .slice none 0 0, .slice none 0 0] 33)) w.heap.size [.slice a1 n1 c1, .slice a2 n2 c2]) := (Bx.new w [.slice a1 n1 c1, .slice a2 n2 c2] _).later (later1 _ _)
  have HRS : Hid (OwnRow ((w.alloc (.cells #[.slice a1 n1 c1, .slice a2 n2 c2] 31)).alloc (.cells #[.int .i64 0, .slice none 0 0, .slice none 0 0] 33)) (w.heap.size + 1) 3 (cel zero3)) := by
    have p2 := row3 (w.alloc (.cells #[.slice a1 n1 c1, .slice a2 n2 c2] 31)) 33
    rw [World.size_alloc] at p2
    exact p2
  have HF : Hid (∀ W, Below ((w.alloc (.cells #[.slice a1 n1 c1, .slice a2 n2 c2] 31)).alloc (.cells #[.int .i64 0, .slice none 0 0, .slice none 0 0] 33)).heap.size ((w.alloc (.cells #[.slice a1 n1 c1, .slice a2 n2 c2] 31)).alloc (.cells #[.int .i64 0, .slice none 0 0, .slice none 0 0] 33)) W → Calls Tryz.prog 57 #[.pointer (some ⟨w.heap.size, 0, none⟩), .int .i64 x, .string s] W fun e w' => e = .returned (.int .i64 (dirN d x s)) ∧ Below W.heap.size W w') := fun W hW => l8Name_any W _ _ d _ _ _ _ x s ((hx0.later (later1 _ _)).later hW) (by unfold sizeFs at hs; omega) hml
  have HCF : Hid (∀ W, Below w.heap.size w W → Calls Tryz.prog 35 #[.agg #[.slice a1 n1 c1, .slice a2 n2 c2]] W (AnsFs W d)) := fun W hW => l6Copy_any W a1 n1 c1 a2 n2 c2 d (h.later hW) hs
  have HRR : Hid (addR d x s y = if dirN d x s = 0 then addQ d x.toNat s y else noFs (dirN d x s)) := rfl
  rw [HRR.out]
  clear HRR hx0 h
  by_cases hq : dirN d x s = 0
  rotate_left
  · rw [if_neg hq]
    have hb : (dirN d x s != 0) = true := by simpa using hq
    clear hq hs
    generalize dirN d x s = r at *
    go_enter Tryz.func27, Tryz.ntmps27
    go_wp2_with fail
    generalize ((w.alloc (.cells #[.slice a1 n1 c1, .slice a2 n2 c2] 31)).alloc (.cells #[.int .i64 0, .slice none 0 0, .slice none 0 0] 33)) = W0 at *
    refine (HF.out _ (Below.refl _ _)).mono ?_
    rintro e w1 ⟨rfl, hb1⟩
    have HB1 : Hid (Below w.heap.size w w1) := HB0.out.trans (hb1.mono HB0.out.size)
    have hrr := HRS.out.later hb1
    have t0 : w1.cell? ⟨w.heap.size + 1, 0, none⟩ = some (.int .i64 0) := hrr.cell (i := 0) (by omega)
    have t1 : w1.cell? ⟨w.heap.size + 1, 1, none⟩ = some (.slice none 0 0) := hrr.cell (i := 1) (by omega)
    have t2 : w1.cell? ⟨w.heap.size + 1, 2, none⟩ = some (.slice none 0 0) := hrr.cell (i := 2) (by omega)
    have s0 := hrr.frozen 0
    have s1 := hrr.frozen 1
    have s2 := hrr.frozen 2
    clear hb1 hrr
    go_wp2
    exact bodyPost_ret (v := .agg #[.int .i64 r, .slice none 0 0, .slice none 0 0]) (by simp [results, Tryz.results27, go_sem, t0, t1, t2]) rfl (AnsFR.none' r HB1.out (by omega) _ _ _)
  · rw [if_pos hq]
    have hq0 : dirQ d x = 0 := dirN_in hq
    have hds := dirS hq0
    obtain ⟨-, hp, -⟩ := dirQ_in hq0
    obtain ⟨j, rfl⟩ : ∃ j : Nat, x = (j : Int) := ⟨x.toNat, by omega⟩
    rw [Int.toNat_natCast] at hds ⊢
    have HDS : Hid (DirS d j) := hds
    rw [hq] at HF
    have HML : Hid (s.size ≤ maxLen) := hml
    have HBADF : Hid (¬ (addQ d j s y).1 = 0 → addQ d j s y = noFs (addQ d j s y).1) := fun hh => by
      unfold addQ at hh ⊢
      split
      · rfl
      · split
        · split
          · rfl
          · rename_i h1 h2 h3
            rw [if_neg h1, if_pos h2, if_neg h3] at hh
            exact absurd rfl hh
        · rfl
    have HAZ : Hid ((addQ d j s y).1 = 0 → addQ d j s y = (0, addZ d j s y)) := fun hh => by
      unfold addZ
      rw [if_pos hh]
      exact Prod.ext hh rfl
    clear hq hq0 hp hds hs hml
    go_enter Tryz.func27, Tryz.ntmps27
    go_wp2_with fail
    generalize ((w.alloc (.cells #[.slice a1 n1 c1, .slice a2 n2 c2] 31)).alloc (.cells #[.int .i64 0, .slice none 0 0, .slice none 0 0] 33)) = W0 at *
    refine (HF.out _ (Below.refl _ _)).mono ?_
    rintro e w1 ⟨rfl, hb1⟩
    have HB1 : Hid (Below w.heap.size w w1) := HB0.out.trans (hb1.mono HB0.out.size)
    have HR1 : Hid (OwnRow w1 (w.heap.size + 1) 3 (cel zero3)) := HRS.out.later hb1
    have x0 := (HBX.out.later hb1) 0 _ rfl
    have x1 := (HBX.out.later hb1) 1 _ rfl
    have hlw : w.heap.size + 1 < w1.heap.size := HR1.out.lt
    clear hb1
    go_wp2_with fail
    clear x0 x1
    refine (HCF.out _ HB1.out).mono ?_
    rintro e w5 ⟨q1, m1, cI, q2, m2, cD, rfl, hb5, hf5⟩
    obtain ⟨bI, e1, bD, e2, eI, eD, hfs⟩ := FsS.of hf5 (by have := HDS.out.lt; omega) (by have := HDS.out.dat; omega)
    simp only [Value.slice.injEq] at eI eD
    obtain ⟨rfl, rfl, rfl⟩ := eI
    obtain ⟨rfl, rfl, rfl⟩ := eD
    rw [HDS.out.dat] at hfs
    rw [HDS.out.dat]
    have HL6 : Hid (Below w1.heap.size w1 (w5.alloc (.cells #[.slice (some ⟨bI, 0, none⟩) d.1.length cI, .slice (some ⟨bD, 0, none⟩) 20 cD] 31))) := hb5.trans ((later1 _ _).mono hb5.size)
    have HF6 : Hid (FsS (w5.alloc (.cells #[.slice (some ⟨bI, 0, none⟩) d.1.length cI, .slice (some ⟨bD, 0, none⟩) 20 cD] 31)) bI d.1.length cI bD 20 cD d (fun c => w1.heap.size ≤ c ∧ c < w5.heap.size)) := hfs.later (later1 _ _)
    have HO6 : Hid (Bx (w5.alloc (.cells #[.slice (some ⟨bI, 0, none⟩) d.1.length cI, .slice (some ⟨bD, 0, none⟩) 20 cD] 31)) w5.heap.size [.slice (some ⟨bI, 0, none⟩) d.1.length cI, .slice (some ⟨bD, 0, none⟩) 20 cD]) := Bx.new w5 [.slice (some ⟨bI, 0, none⟩) d.1.length cI, .slice (some ⟨bD, 0, none⟩) 20 cD] _
    have HS6 : Hid (w1.heap.size ≤ w5.heap.size ∧ (w5.alloc (.cells #[.slice (some ⟨bI, 0, none⟩) d.1.length cI, .slice (some ⟨bD, 0, none⟩) 20 cD] 31)).heap.size = w5.heap.size + 1) := ⟨hb5.size, by simp⟩
    clear hb5 hf5 hfs
    go_wp2_with fail
    generalize (w5.alloc (.cells #[.slice (some ⟨bI, 0, none⟩) d.1.length cI, .slice (some ⟨bD, 0, none⟩) 20 cD] 31)) = W6 at *
    have hne := HF6.out.ne
    have hoI : w5.heap.size ≠ bI := fun e => by have := hne.2.1.1.2; omega
    refine (l8Add_any W6 w5.heap.size bI d.1.length cI bD cD d _ j s y (HO6.out 0 _ rfl) (HO6.out 1 _ rfl) HF6.out (fun hh => by have := hh.2; omega) rfl HDS.out HML.out).mono ?_
    rintro e w7 ⟨rfl, hc7, hf7⟩
    have HF7 : Hid (FsS w7 bI d.1.length cI bD 20 cD (addZ d j s y) (fun c => w1.heap.size ≤ c)) := hf7.mono fun c hh => by
      have := HS6.out
      rcases hh with hh | hh
      · exact hh.1
      · omega
    have HL7 : Hid (Below w1.heap.size w1 w7) := HL6.out.trans (hc7.below HL6.out.size fun b hb => by have := hne.2.1.1.1; omega)
    have p0 := hc7.cellOf (HO6.out 0 _ rfl) hoI
    have p1 := hc7.cellOf (HO6.out 1 _ rfl) hoI
    have hrr := HR1.out.later HL7.out
    have t0 : w7.cell? ⟨w.heap.size + 1, 0, none⟩ = some (.int .i64 0) := hrr.cell (i := 0) (by omega)
    have t1 : w7.cell? ⟨w.heap.size + 1, 1, none⟩ = some (.slice none 0 0) := hrr.cell (i := 1) (by omega)
    have t2 : w7.cell? ⟨w.heap.size + 1, 2, none⟩ = some (.slice none 0 0) := hrr.cell (i := 2) (by omega)
    have s0 := hrr.frozen 0
    have s1 := hrr.frozen 1
    have s2 := hrr.frozen 2
    have HB7 : Hid (Below w.heap.size w w7) := HB1.out.trans (HL7.out.mono HB1.out.size)
    clear hrr hc7 hf7
    generalize addQ d j s y = aq at *
    obtain ⟨qc, qd⟩ := aq
    dsimp only at HBADF HAZ ⊢
    by_cases hz : qc = 0
    · have HE : Hid ((qc, qd) = (0, addZ d j s y)) := HAZ.out hz
      have hzb : (qc != 0) = false := by simpa using hz
      generalize d.1.length = n at *
      go_wp2
      exact bodyPost_ret (v := .agg #[.int .i64 0, .slice (some ⟨bI, 0, none⟩) n cI, .slice (some ⟨bD, 0, none⟩) 20 cD]) (by simp [results, Tryz.results27, go_sem, t0, t1, t2]) rfl (by rw [HE.out]; exact AnsFR.box HB7.out (by omega) HF7.out (fun c hc => ⟨by omega, by omega⟩) _ _ _)
    · have HE : Hid ((qc, qd) = noFs qc) := HBADF.out hz
      have hzb : (qc != 0) = true := by simpa using hz
      go_wp2
      exact bodyPost_ret (v := .agg #[.int .i64 qc, .slice none 0 0, .slice none 0 0]) (by simp [results, Tryz.results27, go_sem, t0, t1, t2]) rfl (by rw [HE.out]; exact AnsFR.none' qc HB7.out (by omega) _ _ _)
end Go.Proofs.YtjabimfinanjoabGreat

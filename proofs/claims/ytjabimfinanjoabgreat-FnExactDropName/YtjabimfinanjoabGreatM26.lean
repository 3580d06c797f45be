/- The specification's AddName: an entry more in a directory. The specification's DropName: an entry taken out of a directory. The specification's DropName: one entry less leads to a file. The specification's DropName: the contract. -/
import Derived.Test.YtjabimfinanjoabGreatM25
import Derived.Test.YtjabimfinanjoabGreatM24
import Derived.Test.YtjabimfinanjoabGreatM11
import Derived.Test.YtjabimfinanjoabGreatM20
namespace Go.Proofs.YtjabimfinanjoabGreat
open Go.RowKit
set_option maxRecDepth 100000

/-- What l8Add comes to: the code, and the file system behind it. -/
def addZ (d : FD) (j : Nat) (s : ByteArray) (y : Int) : FD := if (addQ d j s y).1 = 0 then (addQ d j s y).2 else d
theorem FsS.fsx {w : World} {bo bI n cI bD cD : Nat} {d : FD} {F : Nat → Prop} (hfs : FsS w bI n cI bD 20 cD d F) (h0 : w.cell? ⟨bo, 0, none⟩ = some (.slice (some ⟨bI, 0, none⟩) n cI)) (h1 : w.cell? ⟨bo, 1, none⟩ = some (.slice (some ⟨bD, 0, none⟩) 20 cD)) : FsX w bo 0 d (some ⟨bI, 0, none⟩) cI (some ⟨bD, 0, none⟩) cD := by
  have hl := hfs.len
  have hr := hfs.fs.reads
  exact ⟨by rw [hl.1]; exact h0, by rw [hl.2]; exact h1, by rw [hl.1]; exact hr.1, by rw [hl.2]; exact hr.2⟩

set_option maxHeartbeats 6400000 in
theorem l8Add_any (w : World) (bo bI n cI bD cD : Nat) (d : FD) (F : Nat → Prop) (j : Nat) (s : ByteArray) (y : Int) (h0 : w.cell? ⟨bo, 0, none⟩ = some (.slice (some ⟨bI, 0, none⟩) n cI)) (h1 : w.cell? ⟨bo, 1, none⟩ = some (.slice (some ⟨bD, 0, none⟩) 20 cD)) (hfs : FsS w bI n cI bD 20 cD d F) (hFo : ¬ F bo) (hn : d.1.length = n) (hds : DirS d j) (hml : s.size ≤ maxLen) :
    Calls Tryz.prog 58 #[.pointer (some ⟨bo, 0, none⟩), .int .i64 (j : Int), .string s, .int .i64 y] w fun e w' => e = .returned (.int .i64 (addQ d j s y).1) ∧ Chg (fun c => c = bI) w w' ∧ FsS w' bI n cI bD 20 cD (addZ d j s y) (fun c => F c ∨ w.heap.size ≤ c) := by
  have hx := hfs.fsx h0 h1
  have hjn : j < n := by have := hds.lt; omega
  have hjI : (j : Int) < (n : Int) := by omega
  have h6 := hds.six
  have hten : n ≤ 10 := by have := hds.ten; omega
  obtain ⟨aB, cB, aE, cE, -, -, -, -, k4, hE⟩ := FsR.five hfs.fs.reads hds.lt
  rw [Nat.zero_add] at k4
  obtain ⟨-, hcE, hAt, -, hZ⟩ := hE.cap
  have HFS : Hid (FsS w bI n cI bD 20 cD d F) := hfs
  have HPL : Hid (Calls Tryz.prog 66 #[.slice aE (entA d j).length cE, .string s] w fun e w' => e = .returned (.int .i64 (at8 (entA d j) s)) ∧ w' = w) := l8At_any w aE _ cE (entA d j) s rfl (by omega) hAt
  have HPC : Hid (Calls Tryz.prog 99 #[.pointer (some ⟨bo, 0, none⟩), .int .i64 y] w fun e w' => e = .returned (.bool (decide (0 ≤ y ∧ y < (d.1.length : Int)))) ∧ w' = w) := l6Place_any w bo 0 d _ _ _ _ y hx
  have HAQ : Hid (addQ d j s y = if idxE (entA d j) s < (entA d j).length then noFs 7 else if 0 ≤ y ∧ y < (d.1.length : Int) ∧ ¬ kindAt d.1 y.toNat = 0 then (if (entA d j).length = 6 ∨ (kindAt d.1 y.toNat = 1 ∧ 60 ≤ (d.1[y.toNat]?.getD id0).2.1) then noFs 2 else (0, addD d j s y.toNat)) else noFs 4) := rfl
  have HSAME : Hid (FsS w bI n cI bD 20 cD d (fun c => F c ∨ w.heap.size ≤ c)) := hfs.mono fun c hc => Or.inl hc
  have bad : ∀ c : Int, ¬ c = 0 → addQ d j s y = noFs c → ∀ (e : Ending) (w' : World), e = .returned (.int .i64 c) → w' = w → (e = .returned (.int .i64 (addQ d j s y).1) ∧ Chg (fun c => c = bI) w w' ∧ FsS w' bI n cI bD 20 cD (addZ d j s y) (fun c => F c ∨ w.heap.size ≤ c)) := fun c hc e1 e w' e2 e3 => by
    subst e3
    have e4 : addZ d j s y = d := by unfold addZ; rw [e1, if_neg (show ¬ (noFs c).1 = 0 from hc)]
    rw [e4, e1]
    exact ⟨e2, Chg.refl _ _, HSAME.out⟩
  have HBAD : Hid (∀ c : Int, ¬ c = 0 → addQ d j s y = noFs c → ∀ (e : Ending) (w' : World), e = .returned (.int .i64 c) → w' = w → (e = .returned (.int .i64 (addQ d j s y).1) ∧ Chg (fun c => c = bI) w w' ∧ FsS w' bI n cI bD 20 cD (addZ d j s y) (fun c => F c ∨ w.heap.size ≤ c))) := bad
  have HATH : Hid (AtN w aE (entA d j).length (entA d j)) := hAt
  have HZZ : Hid (∀ k : Nat, ((entA d j)[k]?.getD en0).1.size ≤ maxLen) := hZ
  clear bad hx hAt hE hZ
  by_cases hi : idxE (entA d j) s < (entA d j).length
  · have HR : Hid (addQ d j s y = noFs 7) := by unfold Hid; rw [HAQ.out, if_pos hi]
    have ha8 : at8 (entA d j) s = ((idxE (entA d j) s : Nat) : Int) := by unfold at8; rw [if_pos hi]
    rw [ha8] at HPL
    clear hi ha8 HAQ hfs hds
    have HB := HBAD.out 7 (by omega) HR.out
    have HBB : Hid (∀ (e : Ending) (w' : World), e = .returned (.int .i64 7) → w' = w → _) := HB
    clear HB HBAD HR
    generalize idxE (entA d j) s = i at *
    generalize (entA d j).length = m at *
    go_enter Tryz.func58, Tryz.ntmps58
    go_wp2_with fail
    refine HPL.out.mono ?_
    rintro e w1 ⟨rfl, rfl⟩
    go_wp2
    go_ret
    exact HBB.out _ _ rfl rfl
  · have ha8 : at8 (entA d j) s = -1 := by unfold at8; rw [if_neg hi]
    rw [ha8] at HPL
    by_cases hy : 0 ≤ y ∧ y < (d.1.length : Int)
    rotate_left
    · have HR : Hid (addQ d j s y = noFs 4) := by unfold Hid; rw [HAQ.out, if_neg hi, if_neg (fun hh => hy ⟨hh.1, hh.2.1⟩)]
      rw [decide_eq_false hy] at HPC
      clear hi ha8 HAQ hfs hds hy
      have HB := HBAD.out 4 (by omega) HR.out
      have HBB : Hid (∀ (e : Ending) (w' : World), e = .returned (.int .i64 4) → w' = w → _) := HB
      clear HB HBAD HR
      generalize (entA d j).length = m at *
      go_enter Tryz.func58, Tryz.ntmps58
      go_wp2_with fail
      refine HPL.out.mono ?_
      rintro e w1 ⟨rfl, rfl⟩
      go_wp2_with fail
      refine HPC.out.mono ?_
      rintro e w1 ⟨rfl, rfl⟩
      go_wp2
      go_ret
      exact HBB.out _ _ rfl rfl
    · rw [decide_eq_true hy] at HPC
      obtain ⟨z, rfl⟩ : ∃ z : Nat, y = (z : Int) := ⟨y.toNat, by omega⟩
      rw [Int.toNat_natCast] at HAQ
      have hzn : z < n := by omega
      have hzI : (z : Int) < (n : Int) := by omega
      obtain ⟨_, _, _, _, g0, g1, -, -, -, -, gf, -⟩ := hfs.ino z hzn
      by_cases hk0 : kindAt d.1 z = 0
      · have HR : Hid (addQ d j s (z : Int) = noFs 4) := by unfold Hid; rw [HAQ.out, if_neg hi, if_neg (fun hh => hh.2.2 hk0)]
        have hkb : ((d.1[z]?.getD id0).1 == 0) = true := beq_iff_eq.2 hk0
        clear hi ha8 HAQ hfs hds hy hk0 gf g1
        have HB := HBAD.out 4 (by omega) HR.out
        have HBB : Hid (∀ (e : Ending) (w' : World), e = .returned (.int .i64 4) → w' = w → _) := HB
        clear HB HBAD HR
        generalize (entA d j).length = m at *
        generalize (d.1[z]?.getD id0).1 = kd at *
        go_enter Tryz.func58, Tryz.ntmps58
        go_wp2_with fail
        refine HPL.out.mono ?_
        rintro e w1 ⟨rfl, rfl⟩
        go_wp2_with fail
        refine HPC.out.mono ?_
        rintro e w1 ⟨rfl, rfl⟩
        go_wp2
        go_ret
        exact HBB.out _ _ rfl rfl
      · have hkb : ((d.1[z]?.getD id0).1 == 0) = false := beq_eq_false_iff_ne.2 hk0
        by_cases hmany : (entA d j).length = 6 ∨ (kindAt d.1 z = 1 ∧ 60 ≤ (d.1[z]?.getD id0).2.1)
        · have HR : Hid (addQ d j s (z : Int) = noFs 2) := by unfold Hid; rw [HAQ.out, if_neg hi, if_pos ⟨by omega, by omega, hk0⟩, if_pos hmany]
          have HB := HBAD.out 2 (by omega) HR.out
          have HBB : Hid (∀ (e : Ending) (w' : World), e = .returned (.int .i64 2) → w' = w → _) := HB
          clear HB HBAD HR
          by_cases hm6 : (entA d j).length = 6
          · rw [hm6] at HPL k4
            clear hi ha8 HAQ hfs hds hy hk0 gf g1 hmany hm6
            generalize (d.1[z]?.getD id0).1 = kd at *
            go_enter Tryz.func58, Tryz.ntmps58
            go_wp2_with fail
            refine HPL.out.mono ?_
            rintro e w1 ⟨rfl, rfl⟩
            go_wp2_with fail
            refine HPC.out.mono ?_
            rintro e w1 ⟨rfl, rfl⟩
            go_wp2
            go_ret
            exact HBB.out _ _ rfl rfl
          · have hkl := hmany.resolve_left hm6
            have hk1 : ((d.1[z]?.getD id0).1 == 1) = true := beq_iff_eq.2 hkl.1
            have hl6 : decide ((60 : Int) ≤ (d.1[z]?.getD id0).2.1) = true := by simpa using hkl.2
            have hmb : decide ((6 : Int) ≤ (((entA d j).length : Nat) : Int)) = false := by simp; omega
            have hmb2 : decide (6 ≤ (entA d j).length) = false := by simp; omega
            clear hi ha8 HAQ hfs hds hy hk0 gf hmany hm6 hkl
            generalize (entA d j).length = m at *
            generalize (d.1[z]?.getD id0).1 = kd at *
            generalize (d.1[z]?.getD id0).2.1 = kl at *
            go_enter Tryz.func58, Tryz.ntmps58
            go_wp2_with fail
            refine HPL.out.mono ?_
            rintro e w1 ⟨rfl, rfl⟩
            go_wp2_with fail
            refine HPC.out.mono ?_
            rintro e w1 ⟨rfl, rfl⟩
            go_wp2
            go_ret
            exact HBB.out _ _ rfl rfl
        · have hm6 : ¬ (entA d j).length = 6 := fun e => hmany (Or.inl e)
          have HR : Hid (addQ d j s (z : Int) = (0, addD d j s z)) := by unfold Hid; rw [HAQ.out, if_neg hi, if_pos ⟨by omega, by omega, hk0⟩, if_neg hmany]
          have HGD : Hid (∀ (e : Ending) (w' : World), e = .returned (.int .i64 0) → Chg (fun c => c = bI) w w' → FsS w' bI n cI bD 20 cD (addD d j s z) (fun c => F c ∨ w.heap.size ≤ c) → (e = .returned (.int .i64 (addQ d j s (z : Int)).1) ∧ Chg (fun c => c = bI) w w' ∧ FsS w' bI n cI bD 20 cD (addZ d j s (z : Int)) (fun c => F c ∨ w.heap.size ≤ c))) := fun e w' e1 e2 e3 => by
            have e4 : addZ d j s (z : Int) = addD d j s z := by unfold addZ; rw [HR.out]; rfl
            rw [e4, HR.out]
            exact ⟨e1, e2, e3⟩
          have hmb : decide ((6 : Int) ≤ (((entA d j).length : Nat) : Int)) = false := by simp; omega
          have hmb2 : decide (6 ≤ (entA d j).length) = false := by simp; omega
          have HPUT : Hid (∀ W, Below w.heap.size w W → Calls Tryz.prog 100 #[.slice aE (entA d j).length cE, .agg #[.string s, .int .i64 (z : Int)]] W fun e w' => ∃ v, e = .returned v ∧ WdE w' W.heap.size v (insE (entA d j) (plcE (entA d j) s) (s, (z : Int))) ∧ Below W.heap.size W w') := fun W hW => l8Put_any W aE _ cE (entA d j) s (z : Int) rfl hcE h6 (HATH.out.later hW)
          have HEZ : Hid (∀ i : Nat, ((insE (entA d j) (plcE (entA d j) s) (s, (z : Int)))[i]?.getD en0).1.size ≤ maxLen) := insE_size HZZ.out hml
          have HBK : Hid ((d.1[j]?.getD id0).2.2.2.1 = []) := dir_blk (ins_ino hds.ins j hds.lt) hds.kind
          have HLN : Hid ((d.1[z]?.getD id0).1 = 1 → 1 ≤ (d.1[z]?.getD id0).2.1 ∧ (d.1[z]?.getD id0).2.1 < 60) := fun e => ⟨(ino_lnk (ins_ino hds.ins z (by omega)) e).1, by
            by_cases hh : 60 ≤ (d.1[z]?.getD id0).2.1
            · exact absurd (Or.inr ⟨e, hh⟩) hmany
            · omega⟩
          have HAD : Hid (addD d j s z = if (d.1[z]?.getD id0).1 = 1 then lnkD (entD d j (insE (entA d j) (plcE (entA d j) s) (s, (z : Int)))) z ((d.1[z]?.getD id0).2.1 + 1) else entD d j (insE (entA d j) (plcE (entA d j) s) (s, (z : Int)))) := rfl
          rw [HAD.out] at HGD
          have HEK := entD_kind d j z (insE (entA d j) (plcE (entA d j) s) (s, (z : Int))) hds.lt
          have HEK1 : Hid (((entD d j (insE (entA d j) (plcE (entA d j) s) (s, (z : Int)))).1[z]?.getD id0).1 = (d.1[z]?.getD id0).1) := HEK.1
          have HEK2 : Hid (((entD d j (insE (entA d j) (plcE (entA d j) s) (s, (z : Int)))).1[z]?.getD id0).2.1 = (d.1[z]?.getD id0).2.1) := HEK.2
          obtain ⟨_, _, _, _, -, -, -, -, -, -, jf, -⟩ := hfs.ino j hjn
          have c4f := jf (j * 5 + 4)
          have hne := hfs.ne
          have hoI : bo ≠ bI := fun e => hFo (e ▸ hne.2.1.1)
          have hlI : bI < w.heap.size := hne.2.1.2
          have hlo : bo < w.heap.size := World.block_lt_of_cell? _ _ h0
          generalize insE (entA d j) (plcE (entA d j) s) (s, (z : Int)) = nes at *
          generalize hent : entD d j nes = dn at *
          have HDN : Hid (entD d j nes = dn) := hent
          clear hi ha8 HAQ hfs hds hy hk0 hmany hm6 HAD HEK hent gf jf HBAD HR HATH HZZ HSAME
          generalize (entA d j).length = m at *
          generalize (d.1[z]?.getD id0).1 = kd at *
          generalize (d.1[z]?.getD id0).2.1 = kl at *
          have step : ∀ P : Prop, (kd = 1 → P) → (¬ kd = 1 → P) → P := fun P f1 f2 => by
            by_cases h : kd = 1
            · exact f1 h
            · exact f2 h
          apply step
          · intro hk1
            rw [if_pos hk1] at HGD
            have hkb1 : (kd == 1) = true := by simpa using hk1
            have hln := HLN.out hk1
            have hl6 : decide ((60 : Int) ≤ kl) = false := by simp; omega
            clear step hk1
            go_enter Tryz.func58, Tryz.ntmps58
            go_wp2_with fail
            refine HPL.out.mono ?_
            rintro e w1 ⟨rfl, rfl⟩
            go_wp2_with fail
            refine HPC.out.mono ?_
            rintro e w1 ⟨rfl, rfl⟩
            go_wp2_with fail
            go_region_law (first
              | (try go_simp; go_at_call 100; refine (HPUT.out w1.drew (Below.refl _ _).drew).mono ?_; rintro e w2 ⟨v, rfl, hw2, hb2⟩
                 obtain ⟨av, cv, rfl⟩ := hw2.shape
                 have HB2 : Hid (Below w1.heap.size w1 w2) := (Below.refl _ _).drew.trans hb2
                 have HW2 : Hid (WdE w2 w1.heap.size (.slice av nes.length cv) nes) := hw2
                 have b02 := cell_later HB2.out h0
                 have c42 := cell_later HB2.out k4
                 have c42f := (HB2.out.frozen (p := ⟨bI, j * 5 + 4, none⟩) hlI).trans c4f
                 clear hw2 hb2)
              | fail)
            all_goals
              have HF9 : Hid (FsS (w2.setCell ⟨bI, j * 5 + 4, none⟩ (.slice av nes.length cv)) bI n cI bD 20 cD dn (fun c => F c ∨ w1.heap.size ≤ c)) := by
                have := ((HFS.out.boundF.later HB2.out).entS j hjn HBK.out nes _ (HW2.out.own HEZ.out) (fun c hc => ⟨fun hh => by have := hh.2; have := hc.1; omega, hc.2⟩)).mono (F' := fun c => F c ∨ w1.heap.size ≤ c) fun c hh => by
                  rcases hh with hh | hh
                  · exact Or.inl hh.1
                  · exact Or.inr hh.1
                rw [← HDN.out]
                exact this
              have HC9 : Hid (Chg (fun c => c = bI) w1 (w2.setCell ⟨bI, j * 5 + 4, none⟩ (.slice av nes.length cv))) := Chg.set (F := fun c => c = bI) (Chg.of_below HB2.out) rfl _ _
              have p0 := HC9.out.cellOf h0 hoI
              obtain ⟨_, _, _, _, z0, z1, -, -, -, -, zf, -⟩ := HF9.out.ino z hzn
              rw [HEK1.out] at z0
              rw [HEK2.out] at z1
              have z1f := zf (z * 5 + 1)
              clear zf
              generalize (w2.setCell ⟨bI, j * 5 + 4, none⟩ (.slice av nes.length cv)) = W9 at *
              have HF10 : Hid (FsS (W9.setCell ⟨bI, z * 5 + 1, none⟩ (.int .i64 (kl + 1))) bI n cI bD 20 cD (lnkD dn z (kl + 1)) (fun c => F c ∨ w1.heap.size ≤ c)) := HF9.out.lnkS z hzn (kl + 1)
              have HC10 : Hid (Chg (fun c => c = bI) w1 (W9.setCell ⟨bI, z * 5 + 1, none⟩ (.int .i64 (kl + 1)))) := Chg.set (F := fun c => c = bI) HC9.out rfl _ _
              go_wp2
              go_ret
              exact HGD.out _ _ rfl HC10.out HF10.out
          · intro hk1
            rw [if_neg hk1] at HGD
            have hkb1 : (kd == 1) = false := by simpa using hk1
            clear step hk1 g1
            go_enter Tryz.func58, Tryz.ntmps58
            go_wp2_with fail
            refine HPL.out.mono ?_
            rintro e w1 ⟨rfl, rfl⟩
            go_wp2_with fail
            refine HPC.out.mono ?_
            rintro e w1 ⟨rfl, rfl⟩
            go_wp2_with fail
            go_region_law (first
              | (try go_simp; go_at_call 100; refine (HPUT.out w1.drew (Below.refl _ _).drew).mono ?_; rintro e w2 ⟨v, rfl, hw2, hb2⟩
                 obtain ⟨av, cv, rfl⟩ := hw2.shape
                 have HB2 : Hid (Below w1.heap.size w1 w2) := (Below.refl _ _).drew.trans hb2
                 have HW2 : Hid (WdE w2 w1.heap.size (.slice av nes.length cv) nes) := hw2
                 have b02 := cell_later HB2.out h0
                 have c42 := cell_later HB2.out k4
                 have c42f := (HB2.out.frozen (p := ⟨bI, j * 5 + 4, none⟩) hlI).trans c4f
                 clear hw2 hb2)
              | fail)
            all_goals
              have HF9 : Hid (FsS (w2.setCell ⟨bI, j * 5 + 4, none⟩ (.slice av nes.length cv)) bI n cI bD 20 cD dn (fun c => F c ∨ w1.heap.size ≤ c)) := by
                have := ((HFS.out.boundF.later HB2.out).entS j hjn HBK.out nes _ (HW2.out.own HEZ.out) (fun c hc => ⟨fun hh => by have := hh.2; have := hc.1; omega, hc.2⟩)).mono (F' := fun c => F c ∨ w1.heap.size ≤ c) fun c hh => by
                  rcases hh with hh | hh
                  · exact Or.inl hh.1
                  · exact Or.inr hh.1
                rw [← HDN.out]
                exact this
              have HC9 : Hid (Chg (fun c => c = bI) w1 (w2.setCell ⟨bI, j * 5 + 4, none⟩ (.slice av nes.length cv))) := Chg.set (F := fun c => c = bI) (Chg.of_below HB2.out) rfl _ _
              go_wp2
              go_ret
              exact HGD.out _ _ rfl HC9.out HF9.out

end Go.Proofs.YtjabimfinanjoabGreat

namespace Go.Proofs.YtjabimfinanjoabGreat
open Go.RowKit
set_option maxRecDepth 100000

set_option maxHeartbeats 6400000 in
theorem l8Take_any (w : World) (bo bI n cI bD cD : Nat) (d : FD) (F : Nat → Prop) (j k : Nat) (h0 : w.cell? ⟨bo, 0, none⟩ = some (.slice (some ⟨bI, 0, none⟩) n cI)) (_h1 : w.cell? ⟨bo, 1, none⟩ = some (.slice (some ⟨bD, 0, none⟩) 20 cD)) (hfs : FsS w bI n cI bD 20 cD d F) (hn : d.1.length = n) (hjn : j < n) (_hten : n ≤ 10) (hsix : (entA d j).length ≤ 6) (hblk : (d.1[j]?.getD id0).2.2.2.1 = []) (hk : k < (entA d j).length) :
    Calls Tryz.prog 67 #[.pointer (some ⟨bo, 0, none⟩), .int .i64 (j : Int), .int .i64 (k : Int)] w fun e w' => e = .returned (.int .i64 ((entA d j)[k]?.getD en0).2) ∧ Chg (fun c => c = bI) w w' ∧ FsS w' bI n cI bD 20 cD (entD d j (delE (entA d j) k)) (fun c => F c ∨ w.heap.size ≤ c) := by
  have hjI : (j : Int) < (n : Int) := by omega
  obtain ⟨aB, cB, aE, cE, -, -, -, -, k4, hE⟩ := FsR.five hfs.fs.reads (j := j) (by omega)
  rw [Nat.zero_add] at k4
  obtain ⟨-, hcE, hAt, -, hZ⟩ := hE.cap
  obtain ⟨_, _, _, _, -, -, -, -, -, -, i6, -⟩ := hfs.ino j hjn
  have k4f := i6 (j * 5 + 4)
  have hne := hfs.ne
  have hlo : bo < w.heap.size := World.block_lt_of_cell? _ _ h0
  have hlI : bI < w.heap.size := hne.2.1.2
  have HFS : Hid (FsS w bI n cI bD 20 cD d F) := hfs
  have HZZ : Hid (∀ i : Nat, ((delE (entA d j) k)[i]?.getD en0).1.size ≤ maxLen) := delE_size hk hZ
  have HED : Hid (∀ es, entD d j es = (d.1.set j ((d.1[j]?.getD id0).1, (d.1[j]?.getD id0).2.1, (d.1[j]?.getD id0).2.2.1, [], es), d.2)) := fun _ => rfl
  have HBK : Hid ((d.1[j]?.getD id0).2.2.2.1 = []) := hblk
  have HAT : Hid (AtN w aE (entA d j).length (entA d j)) := hAt
  obtain ⟨b, off, rfl, _, c1⟩ := hAt k hk
  clear hfs hE hAt hZ i6 hne hblk
  have HDE : Hid (delE (entA d j) k = (entA d j).take k ++ (entA d j).drop (k + 1)) := rfl
  generalize entA d j = es at *
  obtain ⟨m, hm⟩ : ∃ m, es.length = m := ⟨_, rfl⟩
  have HM : Hid (es.length = m) := hm
  rw [hm] at k4 hcE HAT hk hsix
  clear hm
  generalize hnes : delE es k = nes at *
  clear hnes
  obtain ⟨k1, hk1⟩ : ∃ k1, k + 1 = k1 := ⟨_, rfl⟩
  rw [hk1] at HDE
  have hwr : IntKind.i64.wrap ((k : Int) + 1) = (k1 : Int) := by
    rw [show (k : Int) + 1 = (k1 : Int) by omega]
    exact wrap_in _ (by omega) (by omega)
  have hk1I : (k1 : Int) ≤ (m : Int) := by omega
  have hk1N : k1 ≤ m := by omega
  have hkI : (k : Int) < (m : Int) := by omega
  have hkc : k ≤ cE := by omega
  have hkk1 : k ≤ k1 := by omega
  have hlt1 : (es.take k).length = k := by rw [List.length_take, HM.out]; omega
  have HL1 : Hid ((es.take k).length = k) := hlt1
  have HTK : Hid (∀ W, Below w.heap.size w W → AtN W (some ⟨b, off, none⟩) k (es.take k)) := fun W hW => ((HAT.out.take k (by omega)).later hW)
  have HDL : Hid ((es.drop k1).length = m - k1) := by unfold Hid; rw [List.length_drop, HM.out]
  have HTL : Hid (∀ W, Below w.heap.size w W → AtN W (some ⟨b, off + k1 * 2, none⟩) (m - k1) (es.drop k1)) := fun W hW => (HAT.out.drop k1).later hW
  have HT0 : Hid (cE = k1 → ∀ W A, AtN W A (m - k1) (es.drop k1)) := fun e W A i hi => by omega
  have HA1 : Hid (WdE (w.drew.alloc (.cells #[] 127)) w.heap.size (.slice (some ⟨w.heap.size, 0, none⟩) 0 0) []) := WdE.lit0 w.drew w.heap.size (Nat.le_refl _)
  have HCELL : Hid (∀ W, Below w.heap.size w W → W.cell? ⟨bo, 0, none⟩ = some (.slice (some ⟨bI, 0, none⟩) n cI) ∧ W.cell? ⟨bI, j * 5 + 4, none⟩ = some (.slice (some ⟨b, off, none⟩) m cE) ∧ W.frozen? ⟨bI, j * 5 + 4, none⟩ = false) := fun W hW => ⟨cell_later hW h0, cell_later hW k4, (hW.frozen (p := ⟨bI, j * 5 + 4, none⟩) hlI).trans k4f⟩
  have HEND : Hid (∀ X a q c, Below w.heap.size w X → WdE X w.heap.size (.slice a q c) nes → Chg (fun c => c = bI) w (X.setCell ⟨bI, j * 5 + 4, none⟩ (.slice a q c)) ∧ FsS (X.setCell ⟨bI, j * 5 + 4, none⟩ (.slice a q c)) bI n cI bD 20 cD (entD d j nes) (fun c => F c ∨ w.heap.size ≤ c)) := fun X a q c hX hw => ⟨Chg.set (F := fun c => c = bI) (Chg.of_below hX) rfl _ _, (((HFS.out.boundF.later hX).entS j hjn HBK.out nes _ (hw.own HZZ.out) (fun c hc => ⟨fun hh => by have := hh.2; have := hc.1; omega, hc.2⟩)).mono fun c hh => by
    rcases hh with hh | hh
    · exact Or.inl hh.1
    · exact Or.inr hh.1)⟩
  have HF1 : Hid True := trivial
  generalize hy : (es[k]?.getD en0).2 = y at *
  clear hlt1 hk1 hy HAT HFS HBK HZZ HED
  by_cases hce : cE = k1
  all_goals
    go_enter Tryz.func67, Tryz.ntmps67
    go_wp2_with fail
    go_region_law (first
      | (have f1 := HF1.out; clear HF1 f1
         refine step_append_ex rfl _ _ 84 rfl _ _ rfl rfl _ (WdE.pushO _ 84 w.heap.size _ [] (es.take k) HA1.out (by simp) _ _ _ HL1.out (HTK.out _ ((Below.refl _ _).drew.trans (later1 w.drew _))) (by simp; omega)) ?_
         rintro v1 X1 ⟨hw1, hb1, _⟩
         rw [List.nil_append] at hw1
         obtain ⟨p1, q1, e1⟩ := hw1.shape
         rw [HL1.out] at e1
         subst e1
         have HW1 : Hid (WdE X1 w.heap.size (.slice p1 k q1) (es.take k)) := hw1
         have HX1 : Hid (Below w.heap.size w X1) := (Below.refl _ _).drew.trans ((later1 w.drew _).trans hb1)
         obtain ⟨g0, g1, g2⟩ := HCELL.out X1 HX1.out
         clear hw1 hb1)
      | (have f2 := HW1.out; clear HW1
         refine step_append_ex rfl _ _ 84 rfl _ _ rfl rfl _ (WdE.pushO _ 84 w.heap.size _ (es.take k) (es.drop k1) f2 HX1.out.size _ _ _ HDL.out (by first | exact HTL.out _ HX1.out | exact HT0.out hce _ _) (by rw [HL1.out]; omega)) ?_
         rintro v2 X2 ⟨hw2, hb2, _⟩
         rw [← HDE.out] at hw2
         obtain ⟨p2, q2, e2⟩ := hw2.shape
         subst e2
         have HX2 : Hid (Below w.heap.size w X2) := HX1.out.trans hb2
         have HFIN := HEND.out X2 _ _ _ HX2.out hw2
         have HC3 : Hid (Chg (fun c => c = bI) w _) := HFIN.1
         have HF3 : Hid (FsS _ bI n cI bD 20 cD (entD d j nes) (fun c => F c ∨ w.heap.size ≤ c)) := HFIN.2
         obtain ⟨g3, g4, g5⟩ := HCELL.out X2 HX2.out
         clear hw2 hb2 f2 HFIN)
      | fail)
    all_goals
      go_wp2
      all_goals
        go_ret
        first
          | exact ⟨rfl, HC3.out, HF3.out⟩
          | exact ⟨rfl, HC3.out.trans (Chg.of_below (Below.refl _ _).drew), HF3.out.later (Below.refl _ _).drew⟩
end Go.Proofs.YtjabimfinanjoabGreat

namespace Go.Proofs.YtjabimfinanjoabGreat
open Go.RowKit
set_option maxRecDepth 100000

theorem allE_lnk (d : FD) (z : Nat) (l : Int) : allE (lnkD d z l).1 = allE d.1 := by
  unfold lnkD allE
  dsimp only
  by_cases hz : z < d.1.length
  · have e : d.1 = d.1.set z (d.1[z]?.getD id0) := by rw [List.getElem?_eq_getElem hz, Option.getD_some, List.set_getElem_self]
    conv => rhs; rw [e]
    rw [List.flatMap_def, List.flatMap_def, List.map_set, List.map_set]
  · rw [List.set_eq_of_length_le (by omega)]
theorem lnk_drop (d : FD) (z : Nat) (l : Int) (hz : z < d.1.length) : dropD (lnkD d z l) z = dropD d z := by
  have hb : blkA (lnkD d z l) z = blkA d z := by
    unfold blkA lnkD
    dsimp only
    rw [set_getD _ _ _ _ _ hz, if_pos rfl]
  unfold dropD
  rw [hb]
  unfold lnkD
  dsimp only
  rw [List.set_set]
theorem lnk_lnk (d : FD) (z : Nat) (l k : Int) (hz : z < d.1.length) : lnkD (lnkD d z l) z k = lnkD d z k := by
  unfold lnkD
  dsimp only
  rw [set_getD _ _ _ _ _ hz, if_pos rfl, List.set_set]
/-- What one entry less comes to. -/
def lessD (d : FD) (z : Nat) : FD := if (d.1[z]?.getD id0).1 = 1 then unlD d z else d
set_option maxHeartbeats 6400000 in
theorem l8Less_any (w : World) (bo bI n cI bD cD : Nat) (d : FD) (F : Nat → Prop) (z : Nat) (h0 : w.cell? ⟨bo, 0, none⟩ = some (.slice (some ⟨bI, 0, none⟩) n cI)) (h1 : w.cell? ⟨bo, 1, none⟩ = some (.slice (some ⟨bD, 0, none⟩) 20 cD)) (hfs : FsS w bI n cI bD 20 cD d F) (hFo : ¬ F bo) (hn : d.1.length = n) (hzn : z < n) (hins : insF d.1 = 0) :
    Calls Tryz.prog 68 #[.pointer (some ⟨bo, 0, none⟩), .int .i64 (z : Int)] w fun e w' => e = .returned (.tuple #[]) ∧ Chg (fun c => c = bI ∨ c = bD) w w' ∧ FsS w' bI n cI bD 20 cD (lessD d z) F := by
  have hzI : (z : Int) < (n : Int) := by omega
  have hten : n ≤ 10 := by have := insF_ten hins; omega
  have hne := hfs.ne
  have hoI : bo ≠ bI := fun e => hFo (e ▸ hne.2.1.1)
  have hIo : bI ≠ bo := fun e => hoI e.symm
  obtain ⟨_, _, _, _, z0, z1, -, -, -, -, i6, -⟩ := hfs.ino z hzn
  have z1f := i6 (z * 5 + 1)
  have HFS : Hid (FsS w bI n cI bD 20 cD d F) := hfs
  have HLS : Hid (lessD d z = if (d.1[z]?.getD id0).1 = 1 then unlD d z else d) := rfl
  rw [HLS.out]
  have hzi := ins_ino hins z (by omega)
  clear HLS i6
  by_cases hk : (d.1[z]?.getD id0).1 = 1
  rotate_left
  · rw [if_neg hk]
    have hkb : ((d.1[z]?.getD id0).1 != 1) = true := by simpa using hk
    clear hfs hins hne hzi hk
    generalize (d.1[z]?.getD id0).1 = kd at *
    go_enter Tryz.func68, Tryz.ntmps68
    go_wp2
    (try simp only [Exit.inBlock, Exit.then])
    refine bodyPost_ret (results_none rfl _ _ _) rfl ?_
    exact ⟨rfl, Chg.refl _ _, HFS.out⟩
  · rw [if_pos hk]
    have hkb : ((d.1[z]?.getD id0).1 != 1) = false := by simpa using hk
    have hl := ino_lnk hzi hk
    have hb4 : (blkA d z).length ≤ 4 := by have := ino_size hzi; unfold blkA; omega
    have HUN : Hid (unlD d z = if 1 < (d.1[z]?.getD id0).2.1 then lnkD d z ((d.1[z]?.getD id0).2.1 - 1) else if (allE d.1).count (z : Int) = 0 then dropD d z else d) := rfl
    rw [HUN.out]
    have hself := lnkD_self d z (by omega)
    generalize hkl : (d.1[z]?.getD id0).2.1 = kl at *
    have HKL : Hid ((d.1[z]?.getD id0).2.1 = kl) := hkl
    have HSELF : Hid (lnkD d z kl = d) := hself
    have HF1 : Hid (FsS (w.setCell ⟨bI, z * 5 + 1, none⟩ (.int .i64 (kl - 1))) bI n cI bD 20 cD (lnkD d z (kl - 1)) F) := hfs.lnkS z hzn (kl - 1)
    have hC1 : Chg (fun c => c = bI) w (w.setCell ⟨bI, z * 5 + 1, none⟩ (.int .i64 (kl - 1))) := Chg.set (F := fun c => c = bI) (Chg.refl _ w) rfl _ _
    have HC1 : Hid (Chg (fun c => c = bI ∨ c = bD) w (w.setCell ⟨bI, z * 5 + 1, none⟩ (.int .i64 (kl - 1)))) := hC1.mono fun c hc => Or.inl hc
    have r0 := hC1.cellOf h0 hoI
    have r1 := hC1.cellOf h1 hoI
    have hlen1 : (lnkD d z (kl - 1)).1.length = n := by unfold lnkD; dsimp only; rw [List.length_set]; exact hn
    obtain ⟨_, _, _, _, -, y1, -, -, -, -, j6, -⟩ := HF1.out.ino z hzn
    have y1f := j6 (z * 5 + 1)
    have e1 : ((lnkD d z (kl - 1)).1[z]?.getD id0).2.1 = kl - 1 := by unfold lnkD; dsimp only; rw [set_getD _ _ _ _ _ (by omega), if_pos rfl]
    rw [e1] at y1
    have HLK : Hid (∀ q, Calls Tryz.prog 105 #[.slice (some ⟨bI, 0, none⟩) n cI, .int .i64 (z : Int)] ((w.setCell ⟨bI, z * 5 + 1, none⟩ (.int .i64 (kl - 1))).drewN q) fun e w' => e = .returned (.int .i64 (((allE d.1).count (z : Int) : Nat) : Int)) ∧ ∃ m, w' = ((w.setCell ⟨bI, z * 5 + 1, none⟩ (.int .i64 (kl - 1))).drewN q).drewN m) := fun q => by
      have hsm : sizeInos (lnkD d z (kl - 1)).1 ≤ 1048576 := by
        have h410 := ins_small hins
        have : sizeInos (lnkD d z (kl - 1)).1 = sizeInos d.1 := by
          unfold sizeInos isz lnkD
          dsimp only
          rw [List.length_set, List.map_set]
          have e2 : sizeIno ((d.1[z]?.getD id0).1, kl - 1, (d.1[z]?.getD id0).2.2) = (d.1.map sizeIno)[z]'(by rw [List.length_map]; omega) := by
            rw [List.getElem_map, List.getElem?_eq_getElem (by omega)]; rfl
          rw [e2, List.set_getElem_self]
        omega
      have := l5Links_any (w := (w.setCell ⟨bI, z * 5 + 1, none⟩ (.int .i64 (kl - 1))).drewN q) (((HF1.out.later (below_drewN (Below.refl _ _) q)).fs.reads).1) hsm (z : Int)
      rw [allE_lnk] at this
      exact this
    have HDR : Hid (∀ q, ((w.setCell ⟨bI, z * 5 + 1, none⟩ (.int .i64 (kl - 1))).drewN q).cell? ⟨bo, 0, none⟩ = some (.slice (some ⟨bI, 0, none⟩) n cI) → ((w.setCell ⟨bI, z * 5 + 1, none⟩ (.int .i64 (kl - 1))).drewN q).cell? ⟨bo, 1, none⟩ = some (.slice (some ⟨bD, 0, none⟩) 20 cD) → Calls Tryz.prog 52 #[.pointer (some ⟨bo, 0, none⟩), .int .i64 (z : Int)] ((w.setCell ⟨bI, z * 5 + 1, none⟩ (.int .i64 (kl - 1))).drewN q) fun e w' => e = .returned (.tuple #[]) ∧ Chg (fun c => c = bI ∨ c = bD) ((w.setCell ⟨bI, z * 5 + 1, none⟩ (.int .i64 (kl - 1))).drewN q) w' ∧ FsS w' bI n cI bD 20 cD (dropD d z) F) := fun q g0 g1 => by
      have hbk : blkA (lnkD d z (kl - 1)) z = blkA d z := by
        unfold blkA lnkD
        dsimp only
        rw [set_getD _ _ _ _ _ (by omega), if_pos rfl]
      have := l7Drop_raw ((w.setCell ⟨bI, z * 5 + 1, none⟩ (.int .i64 (kl - 1))).drewN q) bo bI n cI bD cD (lnkD d z (kl - 1)) F z g0 g1 (HF1.out.later (below_drewN (Below.refl _ _) q)) hFo hzn hten (by rw [hbk]; exact fun k hk => ins_blk hins z k (by omega) hk) (by rw [hbk]; exact hb4)
      rw [lnk_drop d z _ (by omega)] at this
      exact this
    have HF2 : Hid (∀ q, FsS (((w.setCell ⟨bI, z * 5 + 1, none⟩ (.int .i64 (kl - 1))).drewN q).setCell ⟨bI, z * 5 + 1, none⟩ (.int .i64 1)) bI n cI bD 20 cD (lnkD d z 1) F) := fun q => by
      have this : FsS (((w.setCell ⟨bI, z * 5 + 1, none⟩ (.int .i64 (kl - 1))).drewN q).setCell ⟨bI, z * 5 + 1, none⟩ (.int .i64 1)) bI n cI bD 20 cD (lnkD (lnkD d z (kl - 1)) z 1) F := (HF1.out.later (below_drewN (Below.refl _ _) q)).lnkS z hzn 1
      rw [lnk_lnk d z _ _ (by omega)] at this
      exact this
    clear hfs hins hne hzi hk hkl hself hC1 hb4 hlen1 j6 e1
    generalize (d.1[z]?.getD id0).1 = kd at *
    by_cases h1l : 1 < kl
    · rw [if_pos h1l]
      have hgt : decide (0 < kl - 1) = true := decide_eq_true (by omega)
      clear HLK HDR HF2
      go_enter Tryz.func68, Tryz.ntmps68
      go_wp2
      (try simp only [Exit.inBlock, Exit.then])
      refine bodyPost_ret (results_none rfl _ _ _) rfl ?_
      exact ⟨rfl, HC1.out, HF1.out⟩
    · rw [if_neg h1l]
      have hk1 : kl = 1 := by omega
      subst hk1
      generalize hcn : (allE d.1).count (z : Int) = cnt at *
      clear hcn
      have HL0 : Hid (_ = _) := h0
      by_cases hc : cnt = 0
      · rw [if_pos hc]
        have hcb : decide (0 < ((cnt : Nat) : Int)) = false := decide_eq_false (by omega)
        clear hc h1l
        generalize ((cnt : Nat) : Int) = cn at *
        go_enter Tryz.func68, Tryz.ntmps68
        go_wp2_with fail
        refine (HLK.out 0).mono ?_
        rintro e w2 ⟨rfl, q, rfl⟩
        have g0 : ((w.setCell ⟨bI, z * 5 + 1, none⟩ (.int .i64 (1 - 1))).drewN q).cell? ⟨bo, 0, none⟩ = some (.slice (some ⟨bI, 0, none⟩) n cI) := r0
        have g1 : ((w.setCell ⟨bI, z * 5 + 1, none⟩ (.int .i64 (1 - 1))).drewN q).cell? ⟨bo, 1, none⟩ = some (.slice (some ⟨bD, 0, none⟩) 20 cD) := r1
        go_wp2_with fail
        refine (HDR.out q g0 g1).mono ?_
        rintro e w3 ⟨rfl, hc3, hf3⟩
        have HC3 : Hid (Chg (fun c => c = bI ∨ c = bD) w w3) := (HC1.out.trans (Chg.of_below (below_drewN (Below.refl _ _) q))).trans hc3
        have HF3 : Hid (FsS w3 bI n cI bD 20 cD (dropD d z) F) := hf3
        clear hc3 hf3
        go_wp2
        go_end0
        exact ⟨rfl, HC3.out, HF3.out⟩
      · rw [if_neg hc]
        have hcb : decide (0 < ((cnt : Nat) : Int)) = true := decide_eq_true (by omega)
        clear hc h1l
        generalize ((cnt : Nat) : Int) = cn at *
        go_enter Tryz.func68, Tryz.ntmps68
        go_wp2_with fail
        refine (HLK.out 0).mono ?_
        rintro e w2 ⟨rfl, q, rfl⟩
        have g0 : ((w.setCell ⟨bI, z * 5 + 1, none⟩ (.int .i64 (1 - 1))).drewN q).cell? ⟨bo, 0, none⟩ = some (.slice (some ⟨bI, 0, none⟩) n cI) := r0
        have g3 : ((w.setCell ⟨bI, z * 5 + 1, none⟩ (.int .i64 (1 - 1))).drewN q).cell? ⟨bI, z * 5 + 1, none⟩ = some (.int .i64 (1 - 1)) := y1
        have g4 : ((w.setCell ⟨bI, z * 5 + 1, none⟩ (.int .i64 (1 - 1))).drewN q).frozen? ⟨bI, z * 5 + 1, none⟩ = false := y1f
        have HF3 : Hid (FsS (((w.setCell ⟨bI, z * 5 + 1, none⟩ (.int .i64 (1 - 1))).drewN q).setCell ⟨bI, z * 5 + 1, none⟩ (.int .i64 1)) bI n cI bD 20 cD d F) := by
          have := HF2.out q
          rw [HSELF.out] at this
          exact this
        have HC3 : Hid (Chg (fun c => c = bI ∨ c = bD) w (((w.setCell ⟨bI, z * 5 + 1, none⟩ (.int .i64 (1 - 1))).drewN q).setCell ⟨bI, z * 5 + 1, none⟩ (.int .i64 1))) := Chg.set (F := fun c => c = bI ∨ c = bD) (HC1.out.trans (Chg.of_below (below_drewN (Below.refl _ _) q))) (Or.inl rfl) _ _
        go_wp2
        (try simp only [Exit.inBlock, Exit.then])
        refine bodyPost_ret (results_none rfl _ _ _) rfl ?_
        exact ⟨rfl, HC3.out, HF3.out⟩
end Go.Proofs.YtjabimfinanjoabGreat

namespace Go.Proofs.YtjabimfinanjoabGreat
open Go.RowKit
set_option maxRecDepth 100000

set_option maxHeartbeats 6400000 in
theorem specDelU (w : World) (a1 : Option Addr) (n1 c1 : Nat) (a2 : Option Addr) (n2 c2 : Nat) (d : FD) (x : Int) (s : ByteArray) (h : FsR w (.slice a1 n1 c1) (.slice a2 n2 c2) d) (hs : sizeFs d ≤ 1048576) (hl : s.size ≤ 1048576) :
    Calls Tryz.prog 29 #[.agg #[.slice a1 n1 c1, .slice a2 n2 c2], .int .i64 x, .string s] w (AnsFR w (delR d x s)) := by
  have hml : s.size ≤ maxLen := by unfold maxLen; omega
  obtain ⟨hx0, -, -⟩ := FsX.box h 31
  have HB0 : Hid (Below w.heap.size w ((w.alloc (.cells #[.slice a1 n1 c1, .slice a2 n2 c2] 31)).alloc (.cells #[.int .i64 0, .slice none 0 0, .slice none 0 0] 33))) := later2 _ _ _
  have HBX : Hid (Bx ((w.alloc (.cells #[.slice a1 n1 c1, .slice a2 n2 c2] 31)).alloc (.cells #[.int .i64 0, .slice none 0 0, .slice none 0 0] 33)) w.heap.size [.slice a1 n1 c1, .slice a2 n2 c2]) := (Bx.new w [.slice a1 n1 c1, .slice a2 n2 c2] _).later (later1 _ _)
  have HRS : Hid (OwnRow ((w.alloc (.cells #[.slice a1 n1 c1, .slice a2 n2 c2] 31)).alloc (.cells #[.int .i64 0, .slice none 0 0, .slice none 0 0] 33)) (w.heap.size + 1) 3 (cel zero3)) := by
    have p2 := row3 (w.alloc (.cells #[.slice a1 n1 c1, .slice a2 n2 c2] 31)) 33
    rw [World.size_alloc] at p2
    exact p2
  have HF : Hid (∀ W, Below ((w.alloc (.cells #[.slice a1 n1 c1, .slice a2 n2 c2] 31)).alloc (.cells #[.int .i64 0, .slice none 0 0, .slice none 0 0] 33)).heap.size ((w.alloc (.cells #[.slice a1 n1 c1, .slice a2 n2 c2] 31)).alloc (.cells #[.int .i64 0, .slice none 0 0, .slice none 0 0] 33)) W → Calls Tryz.prog 57 #[.pointer (some ⟨w.heap.size, 0, none⟩), .int .i64 x, .string s] W fun e w' => e = .returned (.int .i64 (dirN d x s)) ∧ Below W.heap.size W w') := fun W hW => l8Name_any W _ _ d _ _ _ _ x s ((hx0.later (later1 _ _)).later hW) (by unfold sizeFs at hs; omega) hml
  have HCF : Hid (∀ W, Below w.heap.size w W → Calls Tryz.prog 35 #[.agg #[.slice a1 n1 c1, .slice a2 n2 c2]] W (AnsFs W d)) := fun W hW => l6Copy_any W a1 n1 c1 a2 n2 c2 d (h.later hW) hs
  have HRR : Hid (delR d x s = if (lookR d x s).1 = 0 then (0, delD d x.toNat (idxE (entA d x.toNat) s)) else noFs (lookR d x s).1) := rfl
  rw [HRR.out]
  have HLR : Hid (lookR d x s = if dirN d x s = 0 then (if idxE (entA d x.toNat) s < (entA d x.toNat).length then (0, ((entA d x.toNat)[idxE (entA d x.toNat) s]?.getD en0).2) else (4, 0)) else (dirN d x s, 0)) := rfl
  rw [HLR.out]
  clear HRR hx0 HLR
  by_cases hq : dirN d x s = 0
  rotate_left
  · rw [if_neg hq, if_neg hq]
    have hb : (dirN d x s != 0) = true := by simpa using hq
    clear hq hs h
    generalize dirN d x s = r at *
    dsimp only
    go_enter Tryz.func29, Tryz.ntmps29
    go_wp2_with fail
    generalize ((w.alloc (.cells #[.slice a1 n1 c1, .slice a2 n2 c2] 31)).alloc (.cells #[.int .i64 0, .slice none 0 0, .slice none 0 0] 33)) = W0 at *
    refine (HF.out _ (Below.refl _ _)).mono ?_
    rintro e w1 ⟨rfl, hb1⟩
    have HB1 : Hid (Below w.heap.size w w1) := HB0.out.trans (hb1.mono HB0.out.size)
    have hrr := HRS.out.later hb1
    have t0 : w1.cell? ⟨w.heap.size + 1, 0, none⟩ = some (.int .i64 0) := hrr.cell (i := 0) (by omega)
    have t1 : w1.cell? ⟨w.heap.size + 1, 1, none⟩ = some (.slice none 0 0) := hrr.cell (i := 1) (by omega)
    have t2 : w1.cell? ⟨w.heap.size + 1, 2, none⟩ = some (.slice none 0 0) := hrr.cell (i := 2) (by omega)
    have s0 := hrr.frozen 0
    have s1 := hrr.frozen 1
    have s2 := hrr.frozen 2
    clear hb1 hrr
    go_wp2
    exact bodyPost_ret (v := .agg #[.int .i64 r, .slice none 0 0, .slice none 0 0]) (by simp [results, Tryz.results29, go_sem, t0, t1, t2]) rfl (AnsFR.none' r HB1.out (by omega) _ _ _)
  · rw [if_pos hq]
    have hq0 : dirQ d x = 0 := dirN_in hq
    have hds := dirS hq0
    obtain ⟨-, hp, -⟩ := dirQ_in hq0
    obtain ⟨j, rfl⟩ : ∃ j : Nat, x = (j : Int) := ⟨x.toNat, by omega⟩
    rw [Int.toNat_natCast] at hds ⊢
    have HDS : Hid (DirS d j) := hds
    rw [hq] at HF
    obtain ⟨b0, o0, aE, cE, rfl, rfl, k4, hE⟩ := h.dir hds.lt
    have HK4 : Hid (_ = _) := k4
    obtain ⟨-, -, hAt, -, -⟩ := hE.cap
    have HPL : Hid (∀ W, Below w.heap.size w W → Calls Tryz.prog 66 #[.slice aE (entA d j).length cE, .string s] W fun e w' => e = .returned (.int .i64 (at8 (entA d j) s)) ∧ w' = W) := fun W hW => l8At_any W aE _ cE (entA d j) s rfl (by have := hds.six; omega) (hAt.later hW)
    have hjl := hds.lt
    have hjI : (j : Int) < ((d.1.length : Nat) : Int) := by omega
    clear hq hq0 hp hs hml k4 hE hAt h
    by_cases hidx : idxE (entA d j) s < (entA d j).length
    rotate_left
    · rw [if_neg hidx]
      have ha8 : at8 (entA d j) s = -1 := by unfold at8; rw [if_neg hidx]
      rw [ha8] at HPL
      clear hds hidx ha8 HCF
      show Calls _ _ _ _ (AnsFR w (noFs 4))
      generalize (entA d j).length = m at *
      generalize d.1.length = n at *
      go_enter Tryz.func29, Tryz.ntmps29
      go_wp2_with fail
      generalize ((w.alloc (.cells #[.slice (some ⟨b0, o0, none⟩) n c1, .slice a2 n2 c2] 31)).alloc (.cells #[.int .i64 0, .slice none 0 0, .slice none 0 0] 33)) = W0 at *
      refine (HF.out _ (Below.refl _ _)).mono ?_
      rintro e w1 ⟨rfl, hb1⟩
      have HB1 : Hid (Below w.heap.size w w1) := HB0.out.trans (hb1.mono HB0.out.size)
      have hrr := HRS.out.later hb1
      have t0 : w1.cell? ⟨w.heap.size + 1, 0, none⟩ = some (.int .i64 0) := hrr.cell (i := 0) (by omega)
      have t1 : w1.cell? ⟨w.heap.size + 1, 1, none⟩ = some (.slice none 0 0) := hrr.cell (i := 1) (by omega)
      have t2 : w1.cell? ⟨w.heap.size + 1, 2, none⟩ = some (.slice none 0 0) := hrr.cell (i := 2) (by omega)
      have s0 := hrr.frozen 0
      have s1 := hrr.frozen 1
      have s2 := hrr.frozen 2
      have x0 := (HBX.out.later hb1) 0 _ rfl
      have x1 := (HBX.out.later hb1) 1 _ rfl
      have k1 := cell_later HB1.out HK4.out
      clear hb1 hrr
      go_wp2_with fail
      refine (HPL.out _ HB1.out).mono ?_
      rintro e w2 ⟨rfl, rfl⟩
      go_wp2
      exact bodyPost_ret (v := .agg #[.int .i64 4, .slice none 0 0, .slice none 0 0]) (by simp [results, Tryz.results29, go_sem, t0, t1, t2]) rfl (AnsFR.none' 4 HB1.out (by omega) _ _ _)
    · rw [if_pos hidx]
      have ha8 : at8 (entA d j) s = ((idxE (entA d j) s : Nat) : Int) := by unfold at8; rw [if_pos hidx]
      rw [ha8] at HPL
      have hld : 0 ≤ ((entA d j)[idxE (entA d j) s]?.getD en0).2 ∧ ((entA d j)[idxE (entA d j) s]?.getD en0).2 < (d.1.length : Int) := hds.leads j hds.lt _ hidx
      obtain ⟨z, hzz⟩ : ∃ z : Nat, ((entA d j)[idxE (entA d j) s]?.getD en0).2 = (z : Int) := ⟨((entA d j)[idxE (entA d j) s]?.getD en0).2.toNat, by omega⟩
      have hzn : z < d.1.length := by omega
      have HDEL : Hid (DelS d j (idxE (entA d j) s) z (entD d j (delE (entA d j) (idxE (entA d j) s)))) := delS hds hidx hzn
      have HDD : Hid (delD d j (idxE (entA d j) s) = lessD (entD d j (delE (entA d j) (idxE (entA d j) s))) z) := by
        unfold Hid delD lessD
        rw [hzz, Int.toNat_natCast, (delS hds hidx hzn).kind]; rfl
      show Calls _ _ _ _ (AnsFR w (0, delD d j (idxE (entA d j) s)))
      rw [HDD.out]
      have HTK : Hid (∀ (W : World) (bo bI cI bD cD : Nat) (F : Nat → Prop), W.cell? ⟨bo, 0, none⟩ = some (.slice (some ⟨bI, 0, none⟩) d.1.length cI) → W.cell? ⟨bo, 1, none⟩ = some (.slice (some ⟨bD, 0, none⟩) 20 cD) → FsS W bI d.1.length cI bD 20 cD d F → Calls Tryz.prog 67 #[.pointer (some ⟨bo, 0, none⟩), .int .i64 (j : Int), .int .i64 ((idxE (entA d j) s : Nat) : Int)] W fun e w' => e = .returned (.int .i64 (z : Int)) ∧ Chg (fun c => c = bI) W w' ∧ FsS w' bI d.1.length cI bD 20 cD (entD d j (delE (entA d j) (idxE (entA d j) s))) (fun c => F c ∨ W.heap.size ≤ c)) := fun W bo bI cI bD cD F g0 g1 gf => by
        have := l8Take_any W bo bI d.1.length cI bD cD d F j (idxE (entA d j) s) g0 g1 gf rfl hds.lt hds.ten hds.six (dir_blk (ins_ino hds.ins j hds.lt) hds.kind) hidx
        rw [hzz] at this
        exact this
      clear hds hidx ha8 hld hzz HDD
      generalize idxE (entA d j) s = k at *
      generalize delE (entA d j) k = nes at *
      generalize entD d j nes = dn at *
      generalize (entA d j).length = m at *
      obtain ⟨n, hn⟩ : ∃ n, d.1.length = n := ⟨_, rfl⟩
      have HN : Hid (d.1.length = n) := hn
      rw [hn] at HB0 HBX HRS HF HCF HTK hjl hjI hzn
      rw [hn]
      clear hn
      go_enter Tryz.func29, Tryz.ntmps29
      go_wp2_with fail
      generalize ((w.alloc (.cells #[.slice (some ⟨b0, o0, none⟩) n c1, .slice a2 n2 c2] 31)).alloc (.cells #[.int .i64 0, .slice none 0 0, .slice none 0 0] 33)) = W0 at *
      refine (HF.out _ (Below.refl _ _)).mono ?_
      rintro e w1 ⟨rfl, hb1⟩
      have HB1 : Hid (Below w.heap.size w w1) := HB0.out.trans (hb1.mono HB0.out.size)
      have HR1 : Hid (OwnRow w1 (w.heap.size + 1) 3 (cel zero3)) := HRS.out.later hb1
      have x0 := (HBX.out.later hb1) 0 _ rfl
      have x1 := (HBX.out.later hb1) 1 _ rfl
      have k1 := cell_later HB1.out HK4.out
      have hlw : w.heap.size + 1 < w1.heap.size := HR1.out.lt
      clear hb1
      go_wp2_with fail
      refine (HPL.out _ HB1.out).mono ?_
      rintro e w2 ⟨rfl, hw2⟩
      subst hw2
      go_wp2_with fail
      clear x0 x1 k1
      refine (HCF.out _ HB1.out).mono ?_
      rintro e w5 ⟨q1, m1, cI, q2, m2, cD, rfl, hb5, hf5⟩
      obtain ⟨bI, e1, bD, e2, eI, eD, hfs⟩ := FsS.of hf5 (by have := HDS.out.lt; omega) (by have := HDS.out.dat; omega)
      simp only [Value.slice.injEq] at eI eD
      obtain ⟨rfl, rfl, rfl⟩ := eI
      obtain ⟨rfl, rfl, rfl⟩ := eD
      rw [HDS.out.dat, HN.out] at hfs
      rw [HDS.out.dat, HN.out]
      have HL6 : Hid (Below w2.heap.size w2 (w5.alloc (.cells #[.slice (some ⟨bI, 0, none⟩) n cI, .slice (some ⟨bD, 0, none⟩) 20 cD] 31))) := hb5.trans ((later1 _ _).mono hb5.size)
      have HF6 : Hid (FsS (w5.alloc (.cells #[.slice (some ⟨bI, 0, none⟩) n cI, .slice (some ⟨bD, 0, none⟩) 20 cD] 31)) bI n cI bD 20 cD d (fun c => w2.heap.size ≤ c ∧ c < w5.heap.size)) := hfs.later (later1 _ _)
      have HO6 : Hid (Bx (w5.alloc (.cells #[.slice (some ⟨bI, 0, none⟩) n cI, .slice (some ⟨bD, 0, none⟩) 20 cD] 31)) w5.heap.size [.slice (some ⟨bI, 0, none⟩) n cI, .slice (some ⟨bD, 0, none⟩) 20 cD]) := Bx.new w5 [.slice (some ⟨bI, 0, none⟩) n cI, .slice (some ⟨bD, 0, none⟩) 20 cD] _
      have HS6 : Hid (w2.heap.size ≤ w5.heap.size ∧ (w5.alloc (.cells #[.slice (some ⟨bI, 0, none⟩) n cI, .slice (some ⟨bD, 0, none⟩) 20 cD] 31)).heap.size = w5.heap.size + 1) := ⟨hb5.size, by simp⟩
      clear hb5 hf5 hfs
      go_wp2_with fail
      generalize (w5.alloc (.cells #[.slice (some ⟨bI, 0, none⟩) n cI, .slice (some ⟨bD, 0, none⟩) 20 cD] 31)) = W6 at *
      have hne := HF6.out.ne
      have hoI : w5.heap.size ≠ bI := fun e => by have := hne.2.1.1.2; omega
      have hoD : w5.heap.size ≠ bD := fun e => by have := hne.2.2.1.2; omega
      refine (HTK.out W6 w5.heap.size bI cI bD cD _ (HO6.out 0 _ rfl) (HO6.out 1 _ rfl) HF6.out).mono ?_
      rintro e w7 ⟨rfl, hc7, hf7⟩
      have p0 := hc7.cellOf (HO6.out 0 _ rfl) hoI
      have p1 := hc7.cellOf (HO6.out 1 _ rfl) hoI
      have HF7 : Hid (FsS w7 bI n cI bD 20 cD dn (fun c => w2.heap.size ≤ c ∧ c ≠ w5.heap.size)) := hf7.mono fun c hh => by
        have := HS6.out
        rcases hh with hh | hh
        · exact ⟨hh.1, by have := hh.2; omega⟩
        · exact ⟨by omega, by omega⟩
      have HL7 : Hid (Below w2.heap.size w2 w7) := HL6.out.trans (hc7.below HL6.out.size fun b hb => by have := hne.2.1.1.1; omega)
      have HLE : Hid (Calls Tryz.prog 68 #[.pointer (some ⟨w5.heap.size, 0, none⟩), .int .i64 (z : Int)] w7 _) := l8Less_any w7 w5.heap.size bI n cI bD cD dn _ z p0 p1 HF7.out (fun hh => hh.2 rfl) (by rw [HDEL.out.len, HN.out]) hzn HDEL.out.ins
      clear hc7 hf7 HTK
      go_wp2_with fail
      refine HLE.out.mono ?_
      rintro e w8 ⟨rfl, hc8, hf8⟩
      have HF8 : Hid (FsS w8 bI n cI bD 20 cD (lessD dn z) (fun c => w2.heap.size ≤ c ∧ c ≠ w5.heap.size)) := hf8
      have HL8 : Hid (Below w2.heap.size w2 w8) := HL7.out.trans (hc8.below HL7.out.size fun b hb => by
        have := hne.2.1.1.1
        have := hne.2.2.1.1
        rcases hb with hb | hb <;> omega)
      have r0 := hc8.cellOf p0 (fun hh => hh.elim hoI hoD)
      have r1 := hc8.cellOf p1 (fun hh => hh.elim hoI hoD)
      have hrr := HR1.out.later HL8.out
      have t0 : w8.cell? ⟨w.heap.size + 1, 0, none⟩ = some (.int .i64 0) := hrr.cell (i := 0) (by omega)
      have t1 : w8.cell? ⟨w.heap.size + 1, 1, none⟩ = some (.slice none 0 0) := hrr.cell (i := 1) (by omega)
      have t2 : w8.cell? ⟨w.heap.size + 1, 2, none⟩ = some (.slice none 0 0) := hrr.cell (i := 2) (by omega)
      have s0 := hrr.frozen 0
      have s1 := hrr.frozen 1
      have s2 := hrr.frozen 2
      have HB8 : Hid (Below w.heap.size w w8) := HB1.out.trans (HL8.out.mono HB1.out.size)
      clear hrr hc8 hf8 p0 p1
      go_wp2
      exact bodyPost_ret (v := .agg #[.int .i64 0, .slice (some ⟨bI, 0, none⟩) n cI, .slice (some ⟨bD, 0, none⟩) 20 cD]) (by simp [results, Tryz.results29, go_sem, t0, t1, t2]) rfl (AnsFR.box HB8.out (by omega) HF8.out (fun c hc => ⟨by omega, by omega⟩) _ _ _)
theorem delR_span (d : FD) (x : Int) (s : ByteArray) : spanFs (delR d x s).2 ≤ 1000 := by
  unfold delR
  by_cases hc : (lookR d x s).1 = 0
  · rw [if_pos hc]
    obtain ⟨hdn, hidx, _⟩ := lookR_in hc
    have hs := dirS (dirN_in hdn)
    generalize x.toNat = j at *
    show spanFs (delD d j (idxE (entA d j) s)) ≤ 1000
    have hld : 0 ≤ ((entA d j)[idxE (entA d j) s]?.getD en0).2 ∧ ((entA d j)[idxE (entA d j) s]?.getD en0).2 < (d.1.length : Int) := hs.leads j hs.lt _ hidx
    have hdl := delS (z := ((entA d j)[idxE (entA d j) s]?.getD en0).2.toNat) hs hidx (by omega)
    unfold delD
    generalize ((entA d j)[idxE (entA d j) s]?.getD en0).2.toNat = z at *
    generalize entD d j (delE (entA d j) (idxE (entA d j) s)) = dn at *
    have e1 := ins_spans hdl.ins
    have e8 : ∀ i : Nat, (dn.2[i]?.getD []).length ≤ 8 := by rw [hdl.dat]; exact hs.eight
    have e20 : dn.2.length = 20 := by rw [hdl.dat]; exact hs.dat
    have e2 := ylens_eight e8
    have hlen := hdl.len
    have ht := hs.ten
    have e3 := spanInos_each e1
    have hsame : spanFs dn ≤ 1000 := by unfold spanFs; omega
    have hlnk : ∀ l, spanFs (lnkD dn z l) ≤ 1000 := fun l => by
      have e4 := spanInos_each (set_span e1 z ((dn.1[z]?.getD id0).1, l, (dn.1[z]?.getD id0).2.2) (e1 z))
      rw [List.length_set] at e4
      unfold lnkD spanFs
      dsimp only
      omega
    have hdrop : spanFs (dropD dn z) ≤ 1000 := by
      have e4 := spanInos_each (set_span e1 z id0 (by simp [spanIno, id0]))
      have e5 := ylens_eight (clrK_le e8 (blkA dn z) (blkA dn z).length)
      rw [List.length_set] at e4
      rw [clrK_length, e20] at e5
      unfold dropD spanFs
      dsimp only
      omega
    split
    · unfold unlD
      split
      · exact hlnk _
      · split
        · exact hdrop
        · exact hsame
    · exact hsame
  · rw [if_neg hc, noFs_span]; omega
end Go.Proofs.YtjabimfinanjoabGreat

/- The specification's AddName: an entry more in a directory. The specification's AddName: the contract. The specification's LinkPath. From the reading of an argument to the lists that it holds. No program is named here. What the rows of this seat share: how a disk that came in is opened. -/
import Derived.Test.YtaibcofendjnnaaGreatDoorM25
import Derived.Test.YtaibcofendjnnaaGreatDoorM00
import Derived.ProofKit
import Derived.Deep.Slices
import Derived.Deep.SlicePairs
import Derived.Lib.SmallJoins
import Derived.Test.YtaibcofendjnnaaGreatDoorRows
namespace Go.Proofs.YtaibcofendjnnaaGreatDoor
open Go.RowKit
set_option maxRecDepth 100000

/-- What l8Add comes to: the code, and the file system behind it. -/
def addZ (d : FD) (j : Nat) (s : ByteArray) (y : Int) : FD := if (addQ d j s y).1 = 0 then (addQ d j s y).2 else d
theorem FsS.fsx {w : World} {bo bI n cI bD cD : Nat} {d : FD} {F : Nat → Prop} (hfs : FsS w bI n cI bD 20 cD d F) (h0 : w.cell? ⟨bo, 0, none⟩ = some (.slice (some ⟨bI, 0, none⟩) n cI)) (h1 : w.cell? ⟨bo, 1, none⟩ = some (.slice (some ⟨bD, 0, none⟩) 20 cD)) : FsX w bo 0 d (some ⟨bI, 0, none⟩) cI (some ⟨bD, 0, none⟩) cD := by
  have hl := hfs.len
  have hr := hfs.fs.reads
  exact ⟨by rw [hl.1]; exact h0, by rw [hl.2]; exact h1, by rw [hl.1]; exact hr.1, by rw [hl.2]; exact hr.2⟩

set_option maxHeartbeats 6400000 in
theorem l8Add_any (w : World) (bo bI n cI bD cD : Nat) (d : FD) (F : Nat → Prop) (j : Nat) (s : ByteArray) (y : Int) (h0 : w.cell? ⟨bo, 0, none⟩ = some (.slice (some ⟨bI, 0, none⟩) n cI)) (h1 : w.cell? ⟨bo, 1, none⟩ = some (.slice (some ⟨bD, 0, none⟩) 20 cD)) (hfs : FsS w bI n cI bD 20 cD d F) (hFo : ¬ F bo) (hn : d.1.length = n) (hds : DirS d j) (hml : s.size ≤ maxLen) :
    Calls Tryz.prog 69 #[.pointer (some ⟨bo, 0, none⟩), .int .i64 (j : Int), .string s, .int .i64 y] w fun e w' => e = .returned (.int .i64 (addQ d j s y).1) ∧ Chg (fun c => c = bI) w w' ∧ FsS w' bI n cI bD 20 cD (addZ d j s y) (fun c => F c ∨ w.heap.size ≤ c) := by
  have hx := hfs.fsx h0 h1
  have hjn : j < n := by have := hds.lt; omega
  have hjI : (j : Int) < (n : Int) := by omega
  have h6 := hds.six
  have hten : n ≤ 10 := by have := hds.ten; omega
  obtain ⟨aB, cB, aE, cE, -, -, -, -, k4, hE⟩ := FsR.five hfs.fs.reads hds.lt
  rw [Nat.zero_add] at k4
  obtain ⟨-, hcE, hAt, -, hZ⟩ := hE.cap
  have HFS : Hid (FsS w bI n cI bD 20 cD d F) := hfs
  have HPL : Hid (Calls Tryz.prog 97 #[.slice aE (entA d j).length cE, .string s] w fun e w' => e = .returned (.int .i64 (at8 (entA d j) s)) ∧ w' = w) := l8At_any w aE _ cE (entA d j) s rfl (by omega) hAt
  have HPC : Hid (Calls Tryz.prog 110 #[.pointer (some ⟨bo, 0, none⟩), .int .i64 y] w fun e w' => e = .returned (.bool (decide (0 ≤ y ∧ y < (d.1.length : Int)))) ∧ w' = w) := l6Place_any w bo 0 d _ _ _ _ y hx
  have HAQ : Hid (addQ d j s y = if idxE (entA d j) s < (entA d j).length then noFs 7 else if 0 ≤ y ∧ y < (d.1.length : Int) ∧ ¬ kindAt d.1 y.toNat = 0 then (if (entA d j).length = 6 ∨ (kindAt d.1 y.toNat = 1 ∧ 60 ≤ (d.1[y.toNat]?.getD id0).2.1) then noFs 2 else (0, addD d j s y.toNat)) else noFs 4) := rfl
  have HSAME : Hid (FsS w bI n cI bD 20 cD d (fun c => F c ∨ w.heap.size ≤ c)) := hfs.mono fun c hc => Or.inl hc
  have bad : ∀ c : Int, ¬ c = 0 → addQ d j s y = noFs c → ∀ (e : Ending) (w' : World), e = .returned (.int .i64 c) → w' = w → (e = .returned (.int .i64 (addQ d j s y).1) ∧ Chg (fun c => c = bI) w w' ∧ FsS w' bI n cI bD 20 cD (addZ d j s y) (fun c => F c ∨ w.heap.size ≤ c)) := fun c hc e1 e w' e2 e3 => by
    subst e3
    have e4 : addZ d j s y = d := by unfold addZ; rw [e1, if_neg (show ¬ (noFs c).1 = 0 from hc)]
    rw [e4, e1]
    exact ⟨e2, Chg.refl _ _, HSAME.out⟩
  have HBAD : Hid (∀ c : Int, ¬ c = 0 → addQ d j s y = noFs c → ∀ (e : Ending) (w' : World), e = .returned (.int .i64 c) → w' = w → (e = .returned (.int .i64 (addQ d j s y).1) ∧ Chg (fun c => c = bI) w w' ∧ FsS w' bI n cI bD 20 cD (addZ d j s y) (fun c => F c ∨ w.heap.size ≤ c))) := bad
  have HATH : Hid (AtN w aE (entA d j).length (entA d j)) := hAt
  have HZZ : Hid (∀ k : Nat, ((entA d j)[k]?.getD en0).1.size ≤ maxLen) := hZ
  clear bad hx hAt hE hZ
  by_cases hi : idxE (entA d j) s < (entA d j).length
  · have HR : Hid (addQ d j s y = noFs 7) := by unfold Hid; rw [HAQ.out, if_pos hi]
    have ha8 : at8 (entA d j) s = ((idxE (entA d j) s : Nat) : Int) := by unfold at8; rw [if_pos hi]
    rw [ha8] at HPL
    clear hi ha8 HAQ hfs hds
    have HB := HBAD.out 7 (by omega) HR.out
    have HBB : Hid (∀ (e : Ending) (w' : World), e = .returned (.int .i64 7) → w' = w → _) := HB
    clear HB HBAD HR
    generalize idxE (entA d j) s = i at *
    generalize (entA d j).length = m at *
    go_enter Tryz.func69, Tryz.ntmps69
    go_wp2_with fail
    refine HPL.out.mono ?_
    rintro e w1 ⟨rfl, rfl⟩
    go_wp2
    go_ret
    exact HBB.out _ _ rfl rfl
  · have ha8 : at8 (entA d j) s = -1 := by unfold at8; rw [if_neg hi]
    rw [ha8] at HPL
    by_cases hy : 0 ≤ y ∧ y < (d.1.length : Int)
    rotate_left
    · have HR : Hid (addQ d j s y = noFs 4) := by unfold Hid; rw [HAQ.out, if_neg hi, if_neg (fun hh => hy ⟨hh.1, hh.2.1⟩)]
      rw [decide_eq_false hy] at HPC
      clear hi ha8 HAQ hfs hds hy
      have HB := HBAD.out 4 (by omega) HR.out
      have HBB : Hid (∀ (e : Ending) (w' : World), e = .returned (.int .i64 4) → w' = w → _) := HB
      clear HB HBAD HR
      generalize (entA d j).length = m at *
      go_enter Tryz.func69, Tryz.ntmps69
      go_wp2_with fail
      refine HPL.out.mono ?_
      rintro e w1 ⟨rfl, rfl⟩
      go_wp2_with fail
      refine HPC.out.mono ?_
      rintro e w1 ⟨rfl, rfl⟩
      go_wp2
      go_ret
      exact HBB.out _ _ rfl rfl
    · rw [decide_eq_true hy] at HPC
      obtain ⟨z, rfl⟩ : ∃ z : Nat, y = (z : Int) := ⟨y.toNat, by omega⟩
      rw [Int.toNat_natCast] at HAQ
      have hzn : z < n := by omega
      have hzI : (z : Int) < (n : Int) := by omega
      obtain ⟨_, _, _, _, g0, g1, -, -, -, -, gf, -⟩ := hfs.ino z hzn
      by_cases hk0 : kindAt d.1 z = 0
      · have HR : Hid (addQ d j s (z : Int) = noFs 4) := by unfold Hid; rw [HAQ.out, if_neg hi, if_neg (fun hh => hh.2.2 hk0)]
        have hkb : ((d.1[z]?.getD id0).1 == 0) = true := beq_iff_eq.2 hk0
        clear hi ha8 HAQ hfs hds hy hk0 gf g1
        have HB := HBAD.out 4 (by omega) HR.out
        have HBB : Hid (∀ (e : Ending) (w' : World), e = .returned (.int .i64 4) → w' = w → _) := HB
        clear HB HBAD HR
        generalize (entA d j).length = m at *
        generalize (d.1[z]?.getD id0).1 = kd at *
        go_enter Tryz.func69, Tryz.ntmps69
        go_wp2_with fail
        refine HPL.out.mono ?_
        rintro e w1 ⟨rfl, rfl⟩
        go_wp2_with fail
        refine HPC.out.mono ?_
        rintro e w1 ⟨rfl, rfl⟩
        go_wp2
        go_ret
        exact HBB.out _ _ rfl rfl
      · have hkb : ((d.1[z]?.getD id0).1 == 0) = false := beq_eq_false_iff_ne.2 hk0
        by_cases hmany : (entA d j).length = 6 ∨ (kindAt d.1 z = 1 ∧ 60 ≤ (d.1[z]?.getD id0).2.1)
        · have HR : Hid (addQ d j s (z : Int) = noFs 2) := by unfold Hid; rw [HAQ.out, if_neg hi, if_pos ⟨by omega, by omega, hk0⟩, if_pos hmany]
          have HB := HBAD.out 2 (by omega) HR.out
          have HBB : Hid (∀ (e : Ending) (w' : World), e = .returned (.int .i64 2) → w' = w → _) := HB
          clear HB HBAD HR
          by_cases hm6 : (entA d j).length = 6
          · rw [hm6] at HPL k4
            clear hi ha8 HAQ hfs hds hy hk0 gf g1 hmany hm6
            generalize (d.1[z]?.getD id0).1 = kd at *
            go_enter Tryz.func69, Tryz.ntmps69
            go_wp2_with fail
            refine HPL.out.mono ?_
            rintro e w1 ⟨rfl, rfl⟩
            go_wp2_with fail
            refine HPC.out.mono ?_
            rintro e w1 ⟨rfl, rfl⟩
            go_wp2
            go_ret
            exact HBB.out _ _ rfl rfl
          · have hkl := hmany.resolve_left hm6
            have hk1 : ((d.1[z]?.getD id0).1 == 1) = true := beq_iff_eq.2 hkl.1
            have hl6 : decide ((60 : Int) ≤ (d.1[z]?.getD id0).2.1) = true := by simpa using hkl.2
            have hmb : decide ((6 : Int) ≤ (((entA d j).length : Nat) : Int)) = false := by simp; omega
            have hmb2 : decide (6 ≤ (entA d j).length) = false := by simp; omega
            clear hi ha8 HAQ hfs hds hy hk0 gf hmany hm6 hkl
            generalize (entA d j).length = m at *
            generalize (d.1[z]?.getD id0).1 = kd at *
            generalize (d.1[z]?.getD id0).2.1 = kl at *
            go_enter Tryz.func69, Tryz.ntmps69
            go_wp2_with fail
            refine HPL.out.mono ?_
            rintro e w1 ⟨rfl, rfl⟩
            go_wp2_with fail
            refine HPC.out.mono ?_
            rintro e w1 ⟨rfl, rfl⟩
            go_wp2
            go_ret
            exact HBB.out _ _ rfl rfl
        · have hm6 : ¬ (entA d j).length = 6 := fun e => hmany (Or.inl e)
          have HR : Hid (addQ d j s (z : Int) = (0, addD d j s z)) := by unfold Hid; rw [HAQ.out, if_neg hi, if_pos ⟨by omega, by omega, hk0⟩, if_neg hmany]
          have HGD : Hid (∀ (e : Ending) (w' : World), e = .returned (.int .i64 0) → Chg (fun c => c = bI) w w' → FsS w' bI n cI bD 20 cD (addD d j s z) (fun c => F c ∨ w.heap.size ≤ c) → (e = .returned (.int .i64 (addQ d j s (z : Int)).1) ∧ Chg (fun c => c = bI) w w' ∧ FsS w' bI n cI bD 20 cD (addZ d j s (z : Int)) (fun c => F c ∨ w.heap.size ≤ c))) := fun e w' e1 e2 e3 => by
            have e4 : addZ d j s (z : Int) = addD d j s z := by unfold addZ; rw [HR.out]; rfl
            rw [e4, HR.out]
            exact ⟨e1, e2, e3⟩
          have hmb : decide ((6 : Int) ≤ (((entA d j).length : Nat) : Int)) = false := by simp; omega
          have hmb2 : decide (6 ≤ (entA d j).length) = false := by simp; omega
          have HPUT : Hid (∀ W, Below w.heap.size w W → Calls Tryz.prog 111 #[.slice aE (entA d j).length cE, .agg #[.string s, .int .i64 (z : Int)]] W fun e w' => ∃ v, e = .returned v ∧ WdE w' W.heap.size v (insE (entA d j) (plcE (entA d j) s) (s, (z : Int))) ∧ Below W.heap.size W w') := fun W hW => l8Put_any W aE _ cE (entA d j) s (z : Int) rfl hcE h6 (HATH.out.later hW)
          have HEZ : Hid (∀ i : Nat, ((insE (entA d j) (plcE (entA d j) s) (s, (z : Int)))[i]?.getD en0).1.size ≤ maxLen) := insE_size HZZ.out hml
          have HBK : Hid ((d.1[j]?.getD id0).2.2.2.1 = []) := dir_blk (ins_ino hds.ins j hds.lt) hds.kind
          have HLN : Hid ((d.1[z]?.getD id0).1 = 1 → 1 ≤ (d.1[z]?.getD id0).2.1 ∧ (d.1[z]?.getD id0).2.1 < 60) := fun e => ⟨(ino_lnk (ins_ino hds.ins z (by omega)) e).1, by
            by_cases hh : 60 ≤ (d.1[z]?.getD id0).2.1
            · exact absurd (Or.inr ⟨e, hh⟩) hmany
            · omega⟩
          have HAD : Hid (addD d j s z = if (d.1[z]?.getD id0).1 = 1 then lnkD (entD d j (insE (entA d j) (plcE (entA d j) s) (s, (z : Int)))) z ((d.1[z]?.getD id0).2.1 + 1) else entD d j (insE (entA d j) (plcE (entA d j) s) (s, (z : Int)))) := rfl
          rw [HAD.out] at HGD
          have HEK := entD_kind d j z (insE (entA d j) (plcE (entA d j) s) (s, (z : Int))) hds.lt
          have HEK1 : Hid (((entD d j (insE (entA d j) (plcE (entA d j) s) (s, (z : Int)))).1[z]?.getD id0).1 = (d.1[z]?.getD id0).1) := HEK.1
          have HEK2 : Hid (((entD d j (insE (entA d j) (plcE (entA d j) s) (s, (z : Int)))).1[z]?.getD id0).2.1 = (d.1[z]?.getD id0).2.1) := HEK.2
          obtain ⟨_, _, _, _, -, -, -, -, -, -, jf, -⟩ := hfs.ino j hjn
          have c4f := jf (j * 5 + 4)
          have hne := hfs.ne
          have hoI : bo ≠ bI := fun e => hFo (e ▸ hne.2.1.1)
          have hlI : bI < w.heap.size := hne.2.1.2
          have hlo : bo < w.heap.size := World.block_lt_of_cell? _ _ h0
          generalize insE (entA d j) (plcE (entA d j) s) (s, (z : Int)) = nes at *
          generalize hent : entD d j nes = dn at *
          have HDN : Hid (entD d j nes = dn) := hent
          clear hi ha8 HAQ hfs hds hy hk0 hmany hm6 HAD HEK hent gf jf HBAD HR HATH HZZ HSAME
          generalize (entA d j).length = m at *
          generalize (d.1[z]?.getD id0).1 = kd at *
          generalize (d.1[z]?.getD id0).2.1 = kl at *
          have step : ∀ P : Prop, (kd = 1 → P) → (¬ kd = 1 → P) → P := fun P f1 f2 => by
            by_cases h : kd = 1
            · exact f1 h
            · exact f2 h
          apply step
          · intro hk1
            rw [if_pos hk1] at HGD
            have hkb1 : (kd == 1) = true := by simpa using hk1
            have hln := HLN.out hk1
            have hl6 : decide ((60 : Int) ≤ kl) = false := by simp; omega
            clear step hk1
            go_enter Tryz.func69, Tryz.ntmps69
            go_wp2_with fail
            refine HPL.out.mono ?_
            rintro e w1 ⟨rfl, rfl⟩
            go_wp2_with fail
            refine HPC.out.mono ?_
            rintro e w1 ⟨rfl, rfl⟩
            go_wp2_with fail
            go_region_law (first
              | (try go_simp; go_at_call 111; refine (HPUT.out w1.drew (Below.refl _ _).drew).mono ?_; rintro e w2 ⟨v, rfl, hw2, hb2⟩
                 obtain ⟨av, cv, rfl⟩ := hw2.shape
                 have HB2 : Hid (Below w1.heap.size w1 w2) := (Below.refl _ _).drew.trans hb2
                 have HW2 : Hid (WdE w2 w1.heap.size (.slice av nes.length cv) nes) := hw2
                 have b02 := cell_later HB2.out h0
                 have c42 := cell_later HB2.out k4
                 have c42f := (HB2.out.frozen (p := ⟨bI, j * 5 + 4, none⟩) hlI).trans c4f
                 clear hw2 hb2)
              | fail)
            all_goals
              have HF9 : Hid (FsS (w2.setCell ⟨bI, j * 5 + 4, none⟩ (.slice av nes.length cv)) bI n cI bD 20 cD dn (fun c => F c ∨ w1.heap.size ≤ c)) := by
                have := ((HFS.out.boundF.later HB2.out).entS j hjn HBK.out nes _ (HW2.out.own HEZ.out) (fun c hc => ⟨fun hh => by have := hh.2; have := hc.1; omega, hc.2⟩)).mono (F' := fun c => F c ∨ w1.heap.size ≤ c) fun c hh => by
                  rcases hh with hh | hh
                  · exact Or.inl hh.1
                  · exact Or.inr hh.1
                rw [← HDN.out]
                exact this
              have HC9 : Hid (Chg (fun c => c = bI) w1 (w2.setCell ⟨bI, j * 5 + 4, none⟩ (.slice av nes.length cv))) := Chg.set (F := fun c => c = bI) (Chg.of_below HB2.out) rfl _ _
              have p0 := HC9.out.cellOf h0 hoI
              obtain ⟨_, _, _, _, z0, z1, -, -, -, -, zf, -⟩ := HF9.out.ino z hzn
              rw [HEK1.out] at z0
              rw [HEK2.out] at z1
              have z1f := zf (z * 5 + 1)
              clear zf
              generalize (w2.setCell ⟨bI, j * 5 + 4, none⟩ (.slice av nes.length cv)) = W9 at *
              have HF10 : Hid (FsS (W9.setCell ⟨bI, z * 5 + 1, none⟩ (.int .i64 (kl + 1))) bI n cI bD 20 cD (lnkD dn z (kl + 1)) (fun c => F c ∨ w1.heap.size ≤ c)) := HF9.out.lnkS z hzn (kl + 1)
              have HC10 : Hid (Chg (fun c => c = bI) w1 (W9.setCell ⟨bI, z * 5 + 1, none⟩ (.int .i64 (kl + 1)))) := Chg.set (F := fun c => c = bI) HC9.out rfl _ _
              go_wp2
              go_ret
              exact HGD.out _ _ rfl HC10.out HF10.out
          · intro hk1
            rw [if_neg hk1] at HGD
            have hkb1 : (kd == 1) = false := by simpa using hk1
            clear step hk1 g1
            go_enter Tryz.func69, Tryz.ntmps69
            go_wp2_with fail
            refine HPL.out.mono ?_
            rintro e w1 ⟨rfl, rfl⟩
            go_wp2_with fail
            refine HPC.out.mono ?_
            rintro e w1 ⟨rfl, rfl⟩
            go_wp2_with fail
            go_region_law (first
              | (try go_simp; go_at_call 111; refine (HPUT.out w1.drew (Below.refl _ _).drew).mono ?_; rintro e w2 ⟨v, rfl, hw2, hb2⟩
                 obtain ⟨av, cv, rfl⟩ := hw2.shape
                 have HB2 : Hid (Below w1.heap.size w1 w2) := (Below.refl _ _).drew.trans hb2
                 have HW2 : Hid (WdE w2 w1.heap.size (.slice av nes.length cv) nes) := hw2
                 have b02 := cell_later HB2.out h0
                 have c42 := cell_later HB2.out k4
                 have c42f := (HB2.out.frozen (p := ⟨bI, j * 5 + 4, none⟩) hlI).trans c4f
                 clear hw2 hb2)
              | fail)
            all_goals
              have HF9 : Hid (FsS (w2.setCell ⟨bI, j * 5 + 4, none⟩ (.slice av nes.length cv)) bI n cI bD 20 cD dn (fun c => F c ∨ w1.heap.size ≤ c)) := by
                have := ((HFS.out.boundF.later HB2.out).entS j hjn HBK.out nes _ (HW2.out.own HEZ.out) (fun c hc => ⟨fun hh => by have := hh.2; have := hc.1; omega, hc.2⟩)).mono (F' := fun c => F c ∨ w1.heap.size ≤ c) fun c hh => by
                  rcases hh with hh | hh
                  · exact Or.inl hh.1
                  · exact Or.inr hh.1
                rw [← HDN.out]
                exact this
              have HC9 : Hid (Chg (fun c => c = bI) w1 (w2.setCell ⟨bI, j * 5 + 4, none⟩ (.slice av nes.length cv))) := Chg.set (F := fun c => c = bI) (Chg.of_below HB2.out) rfl _ _
              go_wp2
              go_ret
              exact HGD.out _ _ rfl HC9.out HF9.out

end Go.Proofs.YtaibcofendjnnaaGreatDoor

namespace Go.Proofs.YtaibcofendjnnaaGreatDoor
open Go.RowKit
set_option maxRecDepth 100000

theorem addQ_bad {d : FD} {j : Nat} {s : ByteArray} {y : Int} (hh : ¬ (addQ d j s y).1 = 0) : addQ d j s y = noFs (addQ d j s y).1 := by
  unfold addQ at hh ⊢
  split
  · rfl
  · split
    · split
      · rfl
      · rename_i h1 h2 h3
        rw [if_neg h1, if_pos h2, if_neg h3] at hh
        exact absurd rfl hh
    · rfl
theorem addQ_ok {d : FD} {j : Nat} {s : ByteArray} {y : Int} (hh : (addQ d j s y).1 = 0) : addQ d j s y = (0, addZ d j s y) := by
  unfold addZ
  rw [if_pos hh]
  exact Prod.ext hh rfl

set_option maxHeartbeats 12800000 in
theorem l10Link_any (w : World) (a1 : Option Addr) (n1 c1 : Nat) (a2 : Option Addr) (n2 c2 : Nat) (d : FD) (s t : ByteArray) (h : FsR w (.slice a1 n1 c1) (.slice a2 n2 c2) d) (hs : sizeFs d ≤ 1048576) (hl : s.size ≤ 1048576) (ht : t.size ≤ 1048576) (hf : fsF d = 0) :
    Calls Tryz.prog 37 #[.agg #[.slice a1 n1 c1, .slice a2 n2 c2], .string s, .string t] w (AnsCR w (linkQ d s t)) := by
  have hok := fsE_ok (fsF_E hf)
  have hsl : s.data.toList.length = s.size := Array.length_toList
  have htl : t.data.toList.length = t.size := Array.length_toList
  obtain ⟨hx0, rfl, rfl⟩ := FsX.box h 32
  have hat := h.1
  obtain ⟨_, _, e1, -, hAt⟩ := hat.open'
  simp only [Value.slice.injEq] at e1
  obtain ⟨rfl, -, rfl⟩ := e1
  have HAT : Hid (AtI w a1 d.1.length d.1) := hAt
  have HPT : Hid (∀ W, FsX W w.heap.size 0 d a1 c1 a2 c2 → Calls Tryz.prog 27 #[.pointer (some ⟨w.heap.size, 0, none⟩), .string s] W fun e w' => e = .returned (.tuple #[.int .i64 (walkR d s).2, .int .i64 (walkR d s).1]) ∧ Below W.heap.size W w') := fun W hW => by
    have := l9Path_any W _ d _ _ _ _ hW hok s.data.toList (by omega)
    rw [mkB_data] at this
    rw [walk_pth, if_pos hf]
    exact this
  have HPR : Hid (∀ W, FsX W w.heap.size 0 d a1 c1 a2 c2 → Calls Tryz.prog 35 #[.pointer (some ⟨w.heap.size, 0, none⟩), .string t] W fun e w' => e = .returned (.tuple #[.int .i64 (wparR d t).2, .string (lnmP d t.data.toList), .int .i64 (wparR d t).1]) ∧ Below W.heap.size W w') := fun W hW => by
    have := l9Parent_any W _ d _ _ _ _ hW hok t.data.toList (by omega)
    rw [mkB_data] at this
    rw [wpar_par, if_pos hf]
    exact this
  have HK : Hid ((walkR d s).1 = 0 → ∃ y : Nat, (walkR d s).2 = (y : Int) ∧ y < d.1.length ∧ d.1.length ≤ 10) := fun h0 => by
    obtain ⟨hok, y, h1, h2⟩ := walk_place h0
    exact ⟨y, h1, h2, hok.ten⟩
  have HPI : Hid ((wparR d t).1 = 0 → ∃ j : Nat, (wparR d t).2 = (j : Int) ∧ DirS d j ∧ (∀ y, addR d (j : Int) (mkB (lastT t.data.toList)) y = addQ d j (mkB (lastT t.data.toList)) y) ∧ (mkB (lastT t.data.toList)).size ≤ maxLen ∧ lnmP d t.data.toList = mkB (lastT t.data.toList)) := fun h0 => by
    rw [wpar_par, if_pos hf] at h0 ⊢
    obtain ⟨j, h1, h2, h3, h4⟩ := par_in hf h0
    have h5 := dirS h2
    rw [Int.toNat_natCast] at h5
    rw [h4] at h3
    refine ⟨j, h1, h5, fun y => ?_, ?_, h4⟩
    · unfold addR dirN
      rw [if_pos h2, if_pos h3, Int.toNat_natCast]
    · have := nameF_size h3; unfold maxLen; omega
  have HCF : Hid (∀ W, Below w.heap.size w W → Calls Tryz.prog 68 #[.agg #[.slice a1 d.1.length c1, .slice a2 d.2.length c2]] W (AnsFs W d)) := fun W hW => l6Copy_any W _ _ _ _ _ _ d (h.later hW) hs
  have HST : Hid (∀ W c, Below w.heap.size w W → Calls Tryz.prog 67 #[.agg #[.slice a1 d.1.length c1, .slice a2 d.2.length c2], .int .i64 c] W (AnsCR W (stayR d c))) := fun W c hW => l10Reply_any W _ _ _ _ _ _ d c (h.later hW) hs
  have HRQ : Hid (linkQ d s t = if (fileR d s).1 = 0 then (if (wparR d t).1 = 0 then (if (addR d (wparR d t).2 (mkB (lastT t.data.toList)) (fileR d s).2).1 = 0 then (0, 0, 0, [], [], (addR d (wparR d t).2 (mkB (lastT t.data.toList)) (fileR d s).2).2) else stayR d (addR d (wparR d t).2 (mkB (lastT t.data.toList)) (fileR d s).2).1) else stayR d (wparR d t).1) else stayR d (fileR d s).1) := rfl
  have HFR : Hid (fileR d s = if (walkR d s).1 = 0 ∧ kindAt d.1 (walkR d s).2.toNat = 2 then (9, 0) else walkR d s) := rfl
  obtain ⟨RES, hRES⟩ : ∃ r, linkQ d s t = r := ⟨_, rfl⟩
  rw [hRES] at HRQ ⊢
  obtain ⟨nn, hnn⟩ : ∃ nn, d.1.length = nn := ⟨_, rfl⟩
  obtain ⟨mm, hmm⟩ : ∃ mm, d.2.length = mm := ⟨_, rfl⟩
  rw [hnn, hmm] at HCF HST hx0 ⊢
  rw [hnn] at HAT HK
  have HB0 : Hid (Below w.heap.size w ((w.alloc (.cells #[.slice a1 nn c1, .slice a2 mm c2] 32)).alloc (.cells #[.int .i64 0, .int .i64 0, .int .i64 0, .slice none 0 0, .slice none 0 0, .slice none 0 0, .slice none 0 0] 44))) := later2 _ _ _
  have HX0 : Hid (Bx ((w.alloc (.cells #[.slice a1 nn c1, .slice a2 mm c2] 32)).alloc (.cells #[.int .i64 0, .int .i64 0, .int .i64 0, .slice none 0 0, .slice none 0 0, .slice none 0 0, .slice none 0 0] 44)) w.heap.size [.slice a1 nn c1, .slice a2 mm c2]) := (Bx.new w [.slice a1 nn c1, .slice a2 mm c2] _).later (later1 _ _)
  have HR0 : Hid (OwnRow ((w.alloc (.cells #[.slice a1 nn c1, .slice a2 mm c2] 32)).alloc (.cells #[.int .i64 0, .int .i64 0, .int .i64 0, .slice none 0 0, .slice none 0 0, .slice none 0 0, .slice none 0 0] 44)) (w.heap.size + 1) 7 (cel zero7)) := by
      have p2 := row7 (w.alloc (.cells #[.slice a1 nn c1, .slice a2 mm c2] 32)) 44
      rw [World.size_alloc] at p2
      exact p2
  have HFX0 : Hid (FsX ((w.alloc (.cells #[.slice a1 nn c1, .slice a2 mm c2] 32)).alloc (.cells #[.int .i64 0, .int .i64 0, .int .i64 0, .slice none 0 0, .slice none 0 0, .slice none 0 0, .slice none 0 0] 44)) w.heap.size 0 d a1 c1 a2 c2) := hx0.later (later1 _ _)
  have HNN : Hid (d.1.length = nn) := hnn
  clear hnn hmm hRES h hs hl ht hf hok hsl htl hx0 hAt hat
  generalize walkR d s = wr at *
  generalize wparR d t = pr at *
  generalize mkB (lastT t.data.toList) = nm at *
  generalize lnmP d t.data.toList = lnm at *
  obtain ⟨fc, fv⟩ := wr
  obtain ⟨pc, pv⟩ := pr
  dsimp only at HPT HPR HK HPI HRQ HFR
  go_enter Tryz.func37, Tryz.ntmps37
  go_wp2_with fail
  generalize ((w.alloc (.cells #[.slice a1 nn c1, .slice a2 mm c2] 32)).alloc (.cells #[.int .i64 0, .int .i64 0, .int .i64 0, .slice none 0 0, .slice none 0 0, .slice none 0 0, .slice none 0 0] 44)) = W0 at *
  refine (HPT.out _ HFX0.out).mono ?_
  rintro e w1 ⟨rfl, hb⟩
  have HB1 : Hid (Below w.heap.size w w1) := HB0.out.trans (hb.mono HB0.out.size)
  have HX1 : Hid (Bx w1 w.heap.size [.slice a1 nn c1, .slice a2 mm c2]) := HX0.out.later hb
  have HR1 : Hid (OwnRow w1 (w.heap.size + 1) 7 (cel zero7)) := HR0.out.later hb
  have HFX1 : Hid (FsX w1 w.heap.size 0 d a1 c1 a2 c2) := HFX0.out.later hb
  clear hb
  by_cases hfc : fc = 0
  rotate_left
  · have hfb : (fc != 0) = true := by simpa using hfc
    have HE : Hid (RES = stayR d fc) := by
      have he : fileR d s = (fc, fv) := by rw [HFR.out, if_neg (fun hh => hfc hh.1)]
      unfold Hid; rw [HRQ.out, he, if_neg hfc]
    clear hfc
    have xHX0 := HX1.out 0 _ rfl
    have xHX1 := HX1.out 1 _ rfl
    go_wp2_with fail
    clear xHX0 xHX1
    refine (HST.out _ fc HB1.out).mono ?_
    rintro e u ⟨y1, y2, b3, m3, k3, b4, m4, k4, b5, m5, k5, b6, m6, k6, rfl, hb, hu⟩
    have hrr := HR1.out.later hb
    have hlr : w.heap.size + 1 < w1.heap.size := HR1.out.lt
    have HBU : Hid (Below w1.heap.size w1 u) := hb
    have HCU : Hid (CResU u (.int .i64 y1) (.int .i64 y2) (.slice b3 m3 k3) (.slice b4 m4 k4) (.slice b5 m5 k5) (.slice b6 m6 k6) (stayR d fc).2 (fresh w1 u)) := hu
    have t0 : u.cell? ⟨w.heap.size + 1, 0, none⟩ = some (.int .i64 0) := hrr.cell (i := 0) (by omega)
    have t1 : u.cell? ⟨w.heap.size + 1, 1, none⟩ = some (.int .i64 0) := hrr.cell (i := 1) (by omega)
    have t2 : u.cell? ⟨w.heap.size + 1, 2, none⟩ = some (.int .i64 0) := hrr.cell (i := 2) (by omega)
    have t3 : u.cell? ⟨w.heap.size + 1, 3, none⟩ = some (.slice none 0 0) := hrr.cell (i := 3) (by omega)
    have t4 : u.cell? ⟨w.heap.size + 1, 4, none⟩ = some (.slice none 0 0) := hrr.cell (i := 4) (by omega)
    have t5 : u.cell? ⟨w.heap.size + 1, 5, none⟩ = some (.slice none 0 0) := hrr.cell (i := 5) (by omega)
    have t6 : u.cell? ⟨w.heap.size + 1, 6, none⟩ = some (.slice none 0 0) := hrr.cell (i := 6) (by omega)
    have s0 := hrr.frozen 0
    have s1 := hrr.frozen 1
    have s2 := hrr.frozen 2
    have s3 := hrr.frozen 3
    have s4 := hrr.frozen 4
    have s5 := hrr.frozen 5
    have s6 := hrr.frozen 6
    clear hb hu hrr
    go_wp2
    exact bodyPost_ret (v := .agg #[.int .i64 (stayR d fc).1, .int .i64 y1, .int .i64 y2, .slice b3 m3 k3, .slice b4 m4 k4, .slice b5 m5 k5, .slice b6 m6 k6]) (by simp [results, Tryz.results37, go_sem, t0, t1, t2, t3, t4, t5, t6]) rfl (by rw [HE.out]; exact AnsCR.pass HB1.out (by omega) hlr HBU.out HCU.out _ _ _ _ _ _ _)
  · subst hfc
    obtain ⟨y, rfl, hyl, h10⟩ := HK.out rfl
    obtain ⟨b0, o0, rfl, hI⟩ := HAT.out y hyl
    obtain ⟨aB, cB, aE, cE, k0, -, -, -, -, -⟩ := hI
    have g0 := cell_later HB1.out k0
    have hyI : (y : Int) < ((nn : Nat) : Int) := by omega
    by_cases h2 : (d.1[y]?.getD id0).1 = 2
    · have h2b : ((d.1[y]?.getD id0).1 == 2) = true := by simpa using h2
      have HE : Hid (RES = stayR d 9) := by
        have he : fileR d s = (9, 0) := by rw [HFR.out, if_pos ⟨rfl, by rw [Int.toNat_natCast]; exact h2⟩]
        unfold Hid; rw [HRQ.out, he, if_neg (by decide)]
      clear h2 k0
      generalize (d.1[y]?.getD id0).1 = kd at *
      have xHX0 := HX1.out 0 _ rfl
      have xHX1 := HX1.out 1 _ rfl
      go_wp2_with fail
      clear xHX0 xHX1
      refine (HST.out _ 9 HB1.out).mono ?_
      rintro e u ⟨y1, y2, b3, m3, k3, b4, m4, k4, b5, m5, k5, b6, m6, k6, rfl, hb, hu⟩
      have hrr := HR1.out.later hb
      have hlr : w.heap.size + 1 < w1.heap.size := HR1.out.lt
      have HBU : Hid (Below w1.heap.size w1 u) := hb
      have HCU : Hid (CResU u (.int .i64 y1) (.int .i64 y2) (.slice b3 m3 k3) (.slice b4 m4 k4) (.slice b5 m5 k5) (.slice b6 m6 k6) (stayR d 9).2 (fresh w1 u)) := hu
      have t0 : u.cell? ⟨w.heap.size + 1, 0, none⟩ = some (.int .i64 0) := hrr.cell (i := 0) (by omega)
      have t1 : u.cell? ⟨w.heap.size + 1, 1, none⟩ = some (.int .i64 0) := hrr.cell (i := 1) (by omega)
      have t2 : u.cell? ⟨w.heap.size + 1, 2, none⟩ = some (.int .i64 0) := hrr.cell (i := 2) (by omega)
      have t3 : u.cell? ⟨w.heap.size + 1, 3, none⟩ = some (.slice none 0 0) := hrr.cell (i := 3) (by omega)
      have t4 : u.cell? ⟨w.heap.size + 1, 4, none⟩ = some (.slice none 0 0) := hrr.cell (i := 4) (by omega)
      have t5 : u.cell? ⟨w.heap.size + 1, 5, none⟩ = some (.slice none 0 0) := hrr.cell (i := 5) (by omega)
      have t6 : u.cell? ⟨w.heap.size + 1, 6, none⟩ = some (.slice none 0 0) := hrr.cell (i := 6) (by omega)
      have s0 := hrr.frozen 0
      have s1 := hrr.frozen 1
      have s2 := hrr.frozen 2
      have s3 := hrr.frozen 3
      have s4 := hrr.frozen 4
      have s5 := hrr.frozen 5
      have s6 := hrr.frozen 6
      clear hb hu hrr
      go_wp2
      exact bodyPost_ret (v := .agg #[.int .i64 (stayR d 9).1, .int .i64 y1, .int .i64 y2, .slice b3 m3 k3, .slice b4 m4 k4, .slice b5 m5 k5, .slice b6 m6 k6]) (by simp [results, Tryz.results37, go_sem, t0, t1, t2, t3, t4, t5, t6]) rfl (by rw [HE.out]; exact AnsCR.pass HB1.out (by omega) hlr HBU.out HCU.out _ _ _ _ _ _ _)
    · have h2b : ((d.1[y]?.getD id0).1 == 2) = false := by simpa using h2
      have HEQ : Hid (RES = if pc = 0 then (if (addR d pv nm (y : Int)).1 = 0 then (0, 0, 0, [], [], (addR d pv nm (y : Int)).2) else stayR d (addR d pv nm (y : Int)).1) else stayR d pc) := by
        have he : fileR d s = (0, (y : Int)) := by rw [HFR.out, if_neg (fun hh => h2 (by have := hh.2; rw [Int.toNat_natCast] at this; exact this))]
        unfold Hid; rw [HRQ.out, he, if_pos rfl]
      clear h2 k0
      generalize (d.1[y]?.getD id0).1 = kd at *
      have xHX0 := HX1.out 0 _ rfl
      have xHX1 := HX1.out 1 _ rfl
      go_wp2_with fail
      clear xHX0 xHX1 g0 h2b
      refine (HPR.out _ HFX1.out).mono ?_
      rintro e w2 ⟨rfl, hb⟩
      have HB2 : Hid (Below w.heap.size w w2) := HB1.out.trans (hb.mono HB1.out.size)
      have HX2 : Hid (Bx w2 w.heap.size [.slice (some ⟨b0, o0, none⟩) nn c1, .slice a2 mm c2]) := HX1.out.later hb
      have HR2 : Hid (OwnRow w2 (w.heap.size + 1) 7 (cel zero7)) := HR1.out.later hb
      have HFX2 : Hid (FsX w2 w.heap.size 0 d (some ⟨b0, o0, none⟩) c1 a2 c2) := HFX1.out.later hb
      clear hb
      by_cases hpc : pc = 0
      rotate_left
      · have hpb : (pc != 0) = true := by simpa using hpc
        have HE : Hid (RES = stayR d pc) := by unfold Hid; rw [HEQ.out, if_neg hpc]
        clear hpc
        have xHX0 := HX2.out 0 _ rfl
        have xHX1 := HX2.out 1 _ rfl
        go_wp2_with fail
        clear xHX0 xHX1
        refine (HST.out _ pc HB2.out).mono ?_
        rintro e u ⟨y1, y2, b3, m3, k3, b4, m4, k4, b5, m5, k5, b6, m6, k6, rfl, hb, hu⟩
        have hrr := HR2.out.later hb
        have hlr : w.heap.size + 1 < w2.heap.size := HR2.out.lt
        have HBU : Hid (Below w2.heap.size w2 u) := hb
        have HCU : Hid (CResU u (.int .i64 y1) (.int .i64 y2) (.slice b3 m3 k3) (.slice b4 m4 k4) (.slice b5 m5 k5) (.slice b6 m6 k6) (stayR d pc).2 (fresh w2 u)) := hu
        have t0 : u.cell? ⟨w.heap.size + 1, 0, none⟩ = some (.int .i64 0) := hrr.cell (i := 0) (by omega)
        have t1 : u.cell? ⟨w.heap.size + 1, 1, none⟩ = some (.int .i64 0) := hrr.cell (i := 1) (by omega)
        have t2 : u.cell? ⟨w.heap.size + 1, 2, none⟩ = some (.int .i64 0) := hrr.cell (i := 2) (by omega)
        have t3 : u.cell? ⟨w.heap.size + 1, 3, none⟩ = some (.slice none 0 0) := hrr.cell (i := 3) (by omega)
        have t4 : u.cell? ⟨w.heap.size + 1, 4, none⟩ = some (.slice none 0 0) := hrr.cell (i := 4) (by omega)
        have t5 : u.cell? ⟨w.heap.size + 1, 5, none⟩ = some (.slice none 0 0) := hrr.cell (i := 5) (by omega)
        have t6 : u.cell? ⟨w.heap.size + 1, 6, none⟩ = some (.slice none 0 0) := hrr.cell (i := 6) (by omega)
        have s0 := hrr.frozen 0
        have s1 := hrr.frozen 1
        have s2 := hrr.frozen 2
        have s3 := hrr.frozen 3
        have s4 := hrr.frozen 4
        have s5 := hrr.frozen 5
        have s6 := hrr.frozen 6
        clear hb hu hrr
        go_wp2
        exact bodyPost_ret (v := .agg #[.int .i64 (stayR d pc).1, .int .i64 y1, .int .i64 y2, .slice b3 m3 k3, .slice b4 m4 k4, .slice b5 m5 k5, .slice b6 m6 k6]) (by simp [results, Tryz.results37, go_sem, t0, t1, t2, t3, t4, t5, t6]) rfl (by rw [HE.out]; exact AnsCR.pass HB2.out (by omega) hlr HBU.out HCU.out _ _ _ _ _ _ _)
      · subst hpc
        obtain ⟨j, rfl, hds, had, hsz, rfl⟩ := HPI.out rfl
        rw [if_pos rfl, had] at HEQ
        have HDS : Hid (DirS d j) := hds
        have HSZ : Hid (lnm.size ≤ maxLen) := hsz
        clear hds had hsz
        have xHX0 := HX2.out 0 _ rfl
        have xHX1 := HX2.out 1 _ rfl
        go_wp2_with fail
        clear xHX0 xHX1
        refine (HCF.out _ HB2.out).mono ?_
        rintro e w5 ⟨q1, m1, cI, q2, m2, cD, rfl, hb5, hf5⟩
        obtain ⟨bI, e1, bD, e2, eI, eD, hfs⟩ := FsS.of hf5 (by have := HDS.out.lt; omega) (by have := HDS.out.dat; omega)
        simp only [Value.slice.injEq] at eI eD
        obtain ⟨rfl, rfl, rfl⟩ := eI
        obtain ⟨rfl, rfl, rfl⟩ := eD
        rw [HDS.out.dat, HNN.out] at hfs
        rw [HDS.out.dat, HNN.out]
        have hb : Below w2.heap.size w2 (w5.alloc (.cells #[.slice (some ⟨bI, 0, none⟩) nn cI, .slice (some ⟨bD, 0, none⟩) 20 cD] 32)) := hb5.trans ((later1 _ _).mono hb5.size)
        have HB3 : Hid (Below w.heap.size w (w5.alloc (.cells #[.slice (some ⟨bI, 0, none⟩) nn cI, .slice (some ⟨bD, 0, none⟩) 20 cD] 32))) := HB2.out.trans (hb.mono HB2.out.size)
        have HX3 : Hid (Bx (w5.alloc (.cells #[.slice (some ⟨bI, 0, none⟩) nn cI, .slice (some ⟨bD, 0, none⟩) 20 cD] 32)) w.heap.size [.slice (some ⟨b0, o0, none⟩) nn c1, .slice a2 mm c2]) := HX2.out.later hb
        have HR3 : Hid (OwnRow (w5.alloc (.cells #[.slice (some ⟨bI, 0, none⟩) nn cI, .slice (some ⟨bD, 0, none⟩) 20 cD] 32)) (w.heap.size + 1) 7 (cel zero7)) := HR2.out.later hb
        have HFX3 : Hid (FsX (w5.alloc (.cells #[.slice (some ⟨bI, 0, none⟩) nn cI, .slice (some ⟨bD, 0, none⟩) 20 cD] 32)) w.heap.size 0 d (some ⟨b0, o0, none⟩) c1 a2 c2) := HFX2.out.later hb
        clear hb
        have HF3 : Hid (FsS (w5.alloc (.cells #[.slice (some ⟨bI, 0, none⟩) nn cI, .slice (some ⟨bD, 0, none⟩) 20 cD] 32)) bI nn cI bD 20 cD d (fun c => w2.heap.size ≤ c ∧ c < w5.heap.size)) := hfs.later (later1 _ _)
        have HO3 : Hid (Bx (w5.alloc (.cells #[.slice (some ⟨bI, 0, none⟩) nn cI, .slice (some ⟨bD, 0, none⟩) 20 cD] 32)) w5.heap.size [.slice (some ⟨bI, 0, none⟩) nn cI, .slice (some ⟨bD, 0, none⟩) 20 cD]) := Bx.new w5 [.slice (some ⟨bI, 0, none⟩) nn cI, .slice (some ⟨bD, 0, none⟩) 20 cD] _
        have HL3 : Hid (Below w2.heap.size w2 (w5.alloc (.cells #[.slice (some ⟨bI, 0, none⟩) nn cI, .slice (some ⟨bD, 0, none⟩) 20 cD] 32))) := hb5.trans ((later1 _ _).mono hb5.size)
        have HS3 : Hid (w2.heap.size ≤ w5.heap.size ∧ (w5.alloc (.cells #[.slice (some ⟨bI, 0, none⟩) nn cI, .slice (some ⟨bD, 0, none⟩) 20 cD] 32)).heap.size = w5.heap.size + 1) := ⟨hb5.size, by simp⟩
        have hlw : w.heap.size + 1 < w2.heap.size := HR2.out.lt
        clear hb5 hf5 hfs
        go_wp2_with fail
        generalize (w5.alloc (.cells #[.slice (some ⟨bI, 0, none⟩) nn cI, .slice (some ⟨bD, 0, none⟩) 20 cD] 32)) = W3 at *
        have hne := HF3.out.ne
        have hoI : w5.heap.size ≠ bI := fun e => by have := hne.2.1.1.2; omega
        refine (l8Add_any W3 w5.heap.size bI nn cI bD cD d _ j lnm (y : Int) (HO3.out 0 _ rfl) (HO3.out 1 _ rfl) HF3.out (fun hh => by have := hh.2; omega) HNN.out HDS.out HSZ.out).mono ?_
        rintro e w7 ⟨rfl, hc7, hf7⟩
        have HF7 : Hid (FsS w7 bI nn cI bD 20 cD (addZ d j lnm (y : Int)) (fun c => w2.heap.size ≤ c)) := hf7.mono fun c hh => by
          have := HS3.out
          rcases hh with hh | hh
          · exact hh.1
          · omega
        have hb : Below w2.heap.size w2 w7 := HL3.out.trans (hc7.below HL3.out.size fun b hb => by have := hne.2.1.1.1; omega)
        have p0 := hc7.cellOf (HO3.out 0 _ rfl) hoI
        have p1 := hc7.cellOf (HO3.out 1 _ rfl) hoI
        clear HB3 HX3 HR3 HFX3
        have HB3 : Hid (Below w.heap.size w w7) := HB2.out.trans (hb.mono HB2.out.size)
        have HX3 : Hid (Bx w7 w.heap.size [.slice (some ⟨b0, o0, none⟩) nn c1, .slice a2 mm c2]) := HX2.out.later hb
        have HR3 : Hid (OwnRow w7 (w.heap.size + 1) 7 (cel zero7)) := HR2.out.later hb
        have HFX3 : Hid (FsX w7 w.heap.size 0 d (some ⟨b0, o0, none⟩) c1 a2 c2) := HFX2.out.later hb
        clear hb
        clear hc7 hf7 HF3 HO3 HL3 HS3
        have HBAD : Hid (¬ (addQ d j lnm (y : Int)).1 = 0 → addQ d j lnm (y : Int) = noFs (addQ d j lnm (y : Int)).1) := addQ_bad
        have HAZ : Hid ((addQ d j lnm (y : Int)).1 = 0 → addQ d j lnm (y : Int) = (0, addZ d j lnm (y : Int))) := addQ_ok
        generalize addQ d j lnm (y : Int) = aq at *
        obtain ⟨qc, qd⟩ := aq
        dsimp only at HBAD HAZ HEQ ⊢
        by_cases hz : qc = 0
        rotate_left
        · have hzb : (qc != 0) = true := by simpa using hz
          have HE : Hid (RES = stayR d qc) := by unfold Hid; rw [HEQ.out, if_neg hz]
          clear hz p0 p1
          have xHX0 := HX3.out 0 _ rfl
          have xHX1 := HX3.out 1 _ rfl
          go_wp2_with fail
          clear xHX0 xHX1
          refine (HST.out _ qc HB3.out).mono ?_
          rintro e u ⟨y1, y2, b3, m3, k3, b4, m4, k4, b5, m5, k5, b6, m6, k6, rfl, hb, hu⟩
          have hrr := HR3.out.later hb
          have hlr : w.heap.size + 1 < w7.heap.size := HR3.out.lt
          have HBU : Hid (Below w7.heap.size w7 u) := hb
          have HCU : Hid (CResU u (.int .i64 y1) (.int .i64 y2) (.slice b3 m3 k3) (.slice b4 m4 k4) (.slice b5 m5 k5) (.slice b6 m6 k6) (stayR d qc).2 (fresh w7 u)) := hu
          have t0 : u.cell? ⟨w.heap.size + 1, 0, none⟩ = some (.int .i64 0) := hrr.cell (i := 0) (by omega)
          have t1 : u.cell? ⟨w.heap.size + 1, 1, none⟩ = some (.int .i64 0) := hrr.cell (i := 1) (by omega)
          have t2 : u.cell? ⟨w.heap.size + 1, 2, none⟩ = some (.int .i64 0) := hrr.cell (i := 2) (by omega)
          have t3 : u.cell? ⟨w.heap.size + 1, 3, none⟩ = some (.slice none 0 0) := hrr.cell (i := 3) (by omega)
          have t4 : u.cell? ⟨w.heap.size + 1, 4, none⟩ = some (.slice none 0 0) := hrr.cell (i := 4) (by omega)
          have t5 : u.cell? ⟨w.heap.size + 1, 5, none⟩ = some (.slice none 0 0) := hrr.cell (i := 5) (by omega)
          have t6 : u.cell? ⟨w.heap.size + 1, 6, none⟩ = some (.slice none 0 0) := hrr.cell (i := 6) (by omega)
          have s0 := hrr.frozen 0
          have s1 := hrr.frozen 1
          have s2 := hrr.frozen 2
          have s3 := hrr.frozen 3
          have s4 := hrr.frozen 4
          have s5 := hrr.frozen 5
          have s6 := hrr.frozen 6
          clear hb hu hrr
          go_wp2
          exact bodyPost_ret (v := .agg #[.int .i64 (stayR d qc).1, .int .i64 y1, .int .i64 y2, .slice b3 m3 k3, .slice b4 m4 k4, .slice b5 m5 k5, .slice b6 m6 k6]) (by simp [results, Tryz.results37, go_sem, t0, t1, t2, t3, t4, t5, t6]) rfl (by rw [HE.out]; exact AnsCR.pass HB3.out (by omega) hlr HBU.out HCU.out _ _ _ _ _ _ _)
        · have hzb : (qc != 0) = false := by simpa using hz
          have HE : Hid (RES = (0, 0, 0, [], [], addZ d j lnm (y : Int))) := by
            have he := HAZ.out hz
            unfold Hid; rw [HEQ.out, if_pos hz]; rw [(Prod.mk.inj he).2]
          clear hz
          have hrr := HR3.out
          have t0 : w7.cell? ⟨w.heap.size + 1, 0, none⟩ = some (.int .i64 0) := hrr.cell (i := 0) (by omega)
          have t1 : w7.cell? ⟨w.heap.size + 1, 1, none⟩ = some (.int .i64 0) := hrr.cell (i := 1) (by omega)
          have t2 : w7.cell? ⟨w.heap.size + 1, 2, none⟩ = some (.int .i64 0) := hrr.cell (i := 2) (by omega)
          have t3 : w7.cell? ⟨w.heap.size + 1, 3, none⟩ = some (.slice none 0 0) := hrr.cell (i := 3) (by omega)
          have t4 : w7.cell? ⟨w.heap.size + 1, 4, none⟩ = some (.slice none 0 0) := hrr.cell (i := 4) (by omega)
          have t5 : w7.cell? ⟨w.heap.size + 1, 5, none⟩ = some (.slice none 0 0) := hrr.cell (i := 5) (by omega)
          have t6 : w7.cell? ⟨w.heap.size + 1, 6, none⟩ = some (.slice none 0 0) := hrr.cell (i := 6) (by omega)
          have s0 := hrr.frozen 0
          have s1 := hrr.frozen 1
          have s2 := hrr.frozen 2
          have s3 := hrr.frozen 3
          have s4 := hrr.frozen 4
          have s5 := hrr.frozen 5
          have s6 := hrr.frozen 6
          clear hrr
          go_wp2
          exact bodyPost_ret (v := .agg #[.int .i64 0, .int .i64 0, .int .i64 0, .slice none 0 0, .slice none 0 0, .slice (some ⟨bI, 0, none⟩) nn cI, .slice (some ⟨bD, 0, none⟩) 20 cD]) (by simp [results, Tryz.results37, go_sem, t0, t1, t2, t3, t4, t5, t6]) rfl (by rw [HE.out]; exact AnsCR.put HB3.out (by omega) (CResU.fs 0 0 (HF7.out.fsB.mono fun b hh => ⟨by omega, hh.2, by omega⟩)) _ _ _ _ _ _ _)

set_option maxHeartbeats 3200000 in
theorem specLinkU (w : World) (a1 : Option Addr) (n1 c1 : Nat) (a2 : Option Addr) (n2 c2 : Nat) (d : FD) (s t : ByteArray) (h : FsR w (.slice a1 n1 c1) (.slice a2 n2 c2) d) (hs : sizeFs d ≤ 1048576) (hl : s.size ≤ 1048576) (ht : t.size ≤ 1048576) :
    Calls Tryz.prog 18 #[.agg #[.slice a1 n1 c1, .slice a2 n2 c2], .string s, .string t] w (AnsCR w (linkR d s t)) := by
  have hrn : linkR d s t = if fsF d = 0 then linkQ d s t else noCR (fsF d) := rfl
  obtain ⟨hx0, -, -⟩ := FsX.box h 32
  have HF : Hid (∀ W, FsX W w.heap.size 0 d a1 c1 a2 c2 → Calls Tryz.prog 26 #[.pointer (some ⟨w.heap.size, 0, none⟩)] W fun e w' => e = .returned (.int .i64 (fsF d)) ∧ Below W.heap.size W w') := fun W hW => (l6Fault_any W _ _ d _ _ _ _ hW (by unfold sizeFs at hs; omega)).mono fun _ _ hh => hh
  have HIN : Hid (fsF d = 0 → ∀ W, Below w.heap.size w W → Calls Tryz.prog 37 #[.agg #[.slice a1 n1 c1, .slice a2 n2 c2], .string s, .string t] W (AnsCR W (linkQ d s t))) := fun hf W hW => l10Link_any W _ _ _ _ _ _ d s t (h.later hW) hs hl ht hf
  obtain ⟨RES, hRES⟩ : ∃ r, linkR d s t = r := ⟨_, rfl⟩
  rw [hRES] at hrn ⊢
  have HRN : Hid (RES = if fsF d = 0 then linkQ d s t else noCR (fsF d)) := hrn
  have HB0 : Hid (Below w.heap.size w ((w.alloc (.cells #[.slice a1 n1 c1, .slice a2 n2 c2] 32)).alloc (.cells #[.int .i64 0, .int .i64 0, .int .i64 0, .slice none 0 0, .slice none 0 0, .slice none 0 0, .slice none 0 0] 44))) := later2 _ _ _
  have HX0 : Hid (Bx ((w.alloc (.cells #[.slice a1 n1 c1, .slice a2 n2 c2] 32)).alloc (.cells #[.int .i64 0, .int .i64 0, .int .i64 0, .slice none 0 0, .slice none 0 0, .slice none 0 0, .slice none 0 0] 44)) w.heap.size [.slice a1 n1 c1, .slice a2 n2 c2]) := (Bx.new w [.slice a1 n1 c1, .slice a2 n2 c2] _).later (later1 _ _)
  have HR0 : Hid (OwnRow ((w.alloc (.cells #[.slice a1 n1 c1, .slice a2 n2 c2] 32)).alloc (.cells #[.int .i64 0, .int .i64 0, .int .i64 0, .slice none 0 0, .slice none 0 0, .slice none 0 0, .slice none 0 0] 44)) (w.heap.size + 1) 7 (cel zero7)) := by
      have p2 := row7 (w.alloc (.cells #[.slice a1 n1 c1, .slice a2 n2 c2] 32)) 44
      rw [World.size_alloc] at p2
      exact p2
  have HFX0 : Hid (FsX ((w.alloc (.cells #[.slice a1 n1 c1, .slice a2 n2 c2] 32)).alloc (.cells #[.int .i64 0, .int .i64 0, .int .i64 0, .slice none 0 0, .slice none 0 0, .slice none 0 0, .slice none 0 0] 44)) w.heap.size 0 d a1 c1 a2 c2) := hx0.later (later1 _ _)
  clear hRES hrn h hs hl ht hx0
  generalize fsF d = fc at *
  go_enter Tryz.func18, Tryz.ntmps18
  go_wp2_with fail
  generalize ((w.alloc (.cells #[.slice a1 n1 c1, .slice a2 n2 c2] 32)).alloc (.cells #[.int .i64 0, .int .i64 0, .int .i64 0, .slice none 0 0, .slice none 0 0, .slice none 0 0, .slice none 0 0] 44)) = W0 at *
  refine (HF.out _ HFX0.out).mono ?_
  rintro e w1 ⟨rfl, hb⟩
  have HB1 : Hid (Below w.heap.size w w1) := HB0.out.trans (hb.mono HB0.out.size)
  have HX1 : Hid (Bx w1 w.heap.size [.slice a1 n1 c1, .slice a2 n2 c2]) := HX0.out.later hb
  have HR1 : Hid (OwnRow w1 (w.heap.size + 1) 7 (cel zero7)) := HR0.out.later hb
  have HFX1 : Hid (FsX w1 w.heap.size 0 d a1 c1 a2 c2) := HFX0.out.later hb
  clear hb
  by_cases hfc : fc = 0
  · have hfb : (fc != 0) = false := by simpa using hfc
    have HE : Hid (RES = linkQ d s t) := by unfold Hid; rw [HRN.out, if_pos hfc]
    have HI : Hid (∀ W, Below w.heap.size w W → Calls Tryz.prog 37 #[.agg #[.slice a1 n1 c1, .slice a2 n2 c2], .string s, .string t] W (AnsCR W (linkQ d s t))) := HIN.out hfc
    clear hfc HIN HRN HF
    have xHX0 := HX1.out 0 _ rfl
    have xHX1 := HX1.out 1 _ rfl
    go_wp2_with fail
    clear xHX0 xHX1
    refine (HI.out _ HB1.out).mono ?_
    rintro e u ⟨y1, y2, b3, m3, k3, b4, m4, k4, b5, m5, k5, b6, m6, k6, rfl, hb, hu⟩
    have hrr := HR1.out.later hb
    have hlr : w.heap.size + 1 < w1.heap.size := HR1.out.lt
    have HBU : Hid (Below w1.heap.size w1 u) := hb
    have HCU : Hid (CResU u (.int .i64 y1) (.int .i64 y2) (.slice b3 m3 k3) (.slice b4 m4 k4) (.slice b5 m5 k5) (.slice b6 m6 k6) (linkQ d s t).2 (fresh w1 u)) := hu
    have t0 : u.cell? ⟨w.heap.size + 1, 0, none⟩ = some (.int .i64 0) := hrr.cell (i := 0) (by omega)
    have t1 : u.cell? ⟨w.heap.size + 1, 1, none⟩ = some (.int .i64 0) := hrr.cell (i := 1) (by omega)
    have t2 : u.cell? ⟨w.heap.size + 1, 2, none⟩ = some (.int .i64 0) := hrr.cell (i := 2) (by omega)
    have t3 : u.cell? ⟨w.heap.size + 1, 3, none⟩ = some (.slice none 0 0) := hrr.cell (i := 3) (by omega)
    have t4 : u.cell? ⟨w.heap.size + 1, 4, none⟩ = some (.slice none 0 0) := hrr.cell (i := 4) (by omega)
    have t5 : u.cell? ⟨w.heap.size + 1, 5, none⟩ = some (.slice none 0 0) := hrr.cell (i := 5) (by omega)
    have t6 : u.cell? ⟨w.heap.size + 1, 6, none⟩ = some (.slice none 0 0) := hrr.cell (i := 6) (by omega)
    have s0 := hrr.frozen 0
    have s1 := hrr.frozen 1
    have s2 := hrr.frozen 2
    have s3 := hrr.frozen 3
    have s4 := hrr.frozen 4
    have s5 := hrr.frozen 5
    have s6 := hrr.frozen 6
    clear hb hu hrr
    go_wp2
    exact bodyPost_ret (v := .agg #[.int .i64 (linkQ d s t).1, .int .i64 y1, .int .i64 y2, .slice b3 m3 k3, .slice b4 m4 k4, .slice b5 m5 k5, .slice b6 m6 k6]) (by simp [results, Tryz.results18, go_sem, t0, t1, t2, t3, t4, t5, t6]) rfl (by rw [HE.out]; exact AnsCR.pass HB1.out (by omega) hlr HBU.out HCU.out _ _ _ _ _ _ _)
  · have hfb : (fc != 0) = true := by simpa using hfc
    have HE : Hid (RES = noCR fc) := by unfold Hid; rw [HRN.out, if_neg hfc]
    have hrr := HR1.out
    have hlw : w.heap.size + 1 < w1.heap.size := hrr.lt
    clear hfc HIN HRN HF
    have t0 : w1.cell? ⟨w.heap.size + 1, 0, none⟩ = some (.int .i64 0) := hrr.cell (i := 0) (by omega)
    have t1 : w1.cell? ⟨w.heap.size + 1, 1, none⟩ = some (.int .i64 0) := hrr.cell (i := 1) (by omega)
    have t2 : w1.cell? ⟨w.heap.size + 1, 2, none⟩ = some (.int .i64 0) := hrr.cell (i := 2) (by omega)
    have t3 : w1.cell? ⟨w.heap.size + 1, 3, none⟩ = some (.slice none 0 0) := hrr.cell (i := 3) (by omega)
    have t4 : w1.cell? ⟨w.heap.size + 1, 4, none⟩ = some (.slice none 0 0) := hrr.cell (i := 4) (by omega)
    have t5 : w1.cell? ⟨w.heap.size + 1, 5, none⟩ = some (.slice none 0 0) := hrr.cell (i := 5) (by omega)
    have t6 : w1.cell? ⟨w.heap.size + 1, 6, none⟩ = some (.slice none 0 0) := hrr.cell (i := 6) (by omega)
    have s0 := hrr.frozen 0
    have s1 := hrr.frozen 1
    have s2 := hrr.frozen 2
    have s3 := hrr.frozen 3
    have s4 := hrr.frozen 4
    have s5 := hrr.frozen 5
    have s6 := hrr.frozen 6
    clear hrr
    go_wp2
    exact bodyPost_ret (v := .agg #[.int .i64 fc, .int .i64 0, .int .i64 0, .slice none 0 0, .slice none 0 0, .slice none 0 0, .slice none 0 0]) (by simp [results, Tryz.results18, go_sem, t0, t1, t2, t3, t4, t5, t6]) rfl (by rw [HE.out]; exact AnsCR.no fc HB1.out (by omega) _ _ _ _ _ _ _)

theorem noCR_span (c : Int) : spanCR (noCR c).2 = 0 := by simp [noCR, spanCR, spanFs, spanInos, isp, ylens]
theorem rootS {d : FD} (hf : fsF d = 0) : DirS d 0 := by
  have hok := fsE_ok (fsF_E hf)
  have h : dirQ d 0 = 0 := by
    unfold dirQ
    rw [if_pos (fsF_E hf), if_pos ⟨by omega, by have := hok.pos; omega⟩, if_pos (by simpa using hok.top)]
  simpa using dirS h
theorem stay_span {d : FD} (hf : fsF d = 0) (c : Int) : spanCR (stayR d c).2 ≤ 1000 := by
  have e3 := spanInos_each (fsF_spans hf)
  have hok := fsE_ok (fsF_E hf)
  have e2 := ylens_eight (rootS hf).eight
  have h1 := hok.ten
  have h2 := hok.dat
  show 0 + 0 + (spanInos d.1 + (ylens d.2).sum) ≤ 1000
  omega
theorem linkR_span (d : FD) (s t : ByteArray) : spanCR (linkR d s t).2 ≤ 1000 := by
  unfold linkR
  split
  · rename_i hf
    unfold linkQ
    split
    · split
      · split
        · have := addR_span d (wparR d t).2 (mkB (lastT t.data.toList)) (fileR d s).2
          exact Nat.le_trans (Nat.le_of_eq (by simp [spanCR])) this
        · exact stay_span hf _
      · exact stay_span hf _
    · exact stay_span hf _
  · rw [noCR_span]; omega
end Go.Proofs.YtaibcofendjnnaaGreatDoor

namespace Go.Proofs.YtaibcofendjnnaaGreatDoor
open Go.ChangeShapes Go.WideShapes Go.ChangeAt Go.RowKit Go.Deep
set_option maxRecDepth 100000

section
variable {H : Type} {enc : TypeId × Value → H} {P : Program} {w : World} {base : Nat} {held : Bool}

theorem addr_of {a : Addr} {v : Value} (h : w.cell? (a.add 0) = some v) : a = ⟨a.block, a.off, none⟩ := by
  obtain ⟨b, o, s⟩ := a
  have : s = none := by simpa [Addr.add] using World.cell?_spot h
  subst this; rfl
theorem add_plain (b off k : Nat) : (⟨b, off, none⟩ : Addr).add k = ⟨b, off + k, none⟩ := by
  by_cases h : k = 0
  · subst h; simp [Addr.add]
  · simp [Addr.add, h]

theorem open_Ints {t e : TypeId} {fuel : Nat} {v : Value} {x : DataW H × List MemPlace} (ht : P.underlying t = some (.slice e)) (he : P.underlying e = some (.int .i64)) (ce : P.cellsOf e = 1) (h : DataW.trod enc P w base (fun _ => true) held fuel t [v] = some x) :
    ∃ zs, Ints w v zs := by
  rcases open_ints ht he ce h with ⟨hcs, _⟩ | ⟨a, len, cap, zs, hcs, _, hl, hm, hz, _, hcell, _⟩
  · simp only [List.cons.injEq, and_true] at hcs
    exact ⟨[], Or.inl ⟨rfl, none, 0, hcs⟩⟩
  · simp only [List.cons.injEq, and_true] at hcs
    simp only [if_true] at hz
    by_cases h0 : len = 0
    · subst h0; exact ⟨[], Or.inl ⟨rfl, some a, cap, hcs⟩⟩
    · have ha := addr_of (hcell 0 (by omega))
      refine ⟨zs.take len, Or.inr ⟨a.block, a.off, cap, ?_, ?_, fun k hk => ?_⟩⟩
      · rw [hcs, List.length_take, Nat.min_eq_left (by omega), ← ha]
      · rw [List.length_take]; omega
      · rw [List.length_take] at hk
        have h1 := hcell k (by omega)
        rw [ha, add_plain] at h1
        rw [h1, List.getElem?_take, if_pos (by omega)]
        rfl

theorem open_IntsS {t e q : TypeId} {fuel : Nat} {v : Value} {x : DataW H × List MemPlace} (ht : P.underlying t = some (.slice e)) (he : P.underlying e = some (.slice q)) (hq : P.underlying q = some (.int .i64)) (ce : P.cellsOf e = 1) (cq : P.cellsOf q = 1)
    (h : DataW.trod enc P w base (fun _ => true) held fuel t [v] = some x) : ∃ zss, IntsS w v zss := by
  rcases open_slice1 ht ce h with ⟨hcs, _⟩ | ⟨a, len, cap, m, n, V, D, Pl, hcs, _, hl, hm, hmm, _, hx⟩
  · simp only [List.cons.injEq, and_true] at hcs
    exact ⟨[], Or.inl ⟨rfl, none, 0, hcs⟩⟩
  · simp only [List.cons.injEq, and_true] at hcs
    simp only [if_true] at hmm
    by_cases h0 : len = 0
    · subst h0; exact ⟨[], Or.inl ⟨rfl, some a, cap, hcs⟩⟩
    · have ha := addr_of (hx 0 (by omega)).1
      obtain ⟨Z, hZ⟩ := choose_lt (α := List Int) (n := m) (p := fun i zs => Ints w (V i) zs) fun i hi => open_Ints he hq cq (hx i hi).2
      refine ⟨(List.range len).map Z, Or.inr ⟨a.block, a.off, cap, V, ?_, ?_, fun k hk => ?_⟩⟩
      · simp only [List.length_map, List.length_range]; rw [hcs, ← ha]
      · simp only [List.length_map, List.length_range]; omega
      · simp only [List.length_map, List.length_range] at hk
        have h1 := (hx k (by omega)).1
        rw [ha, add_plain] at h1
        refine ⟨h1, ?_⟩
        have := hZ k (by omega)
        simpa [hk] using this

theorem open_Puts {t e q : TypeId} {f0 f1 : Field} {fuel : Nat} {v : Value} {x : DataW H × List MemPlace} (ht : P.underlying t = some (.slice e)) (he : P.underlying e = some (.struct #[f0, f1]))
    (ce : P.cellsOf e = 2) (o0 : f0.offset = 0) (o1 : f1.offset = 1) (c0 : P.cellsOf f0.type = 1) (c1 : P.cellsOf f1.type = 1) (h0 : P.underlying f0.type = some (.int .i64)) (h1 : P.underlying f1.type = some (.slice q)) (hq : P.underlying q = some (.int .i64)) (cq : P.cellsOf q = 1)
    (h : DataW.trod enc P w base (fun _ => true) held fuel t [v] = some x) : ∃ ps, Puts w v ps := by
  rcases open_slice_pairs ht he ce o0 o1 c0 c1 h with ⟨hcs, _⟩ | ⟨a, len, cap, m, n, V0, V1, D0, D1, P0, P1, hcs, _, hl, hm, hmm, _, hx⟩
  · simp only [List.cons.injEq, and_true] at hcs
    exact ⟨[], Or.inl ⟨rfl, none, 0, hcs⟩⟩
  · simp only [List.cons.injEq, and_true] at hcs
    simp only [if_true] at hmm
    by_cases hl0 : len = 0
    · subst hl0; exact ⟨[], Or.inl ⟨rfl, some a, cap, hcs⟩⟩
    · have ha := addr_of (by simpa using (hx 0 (by omega)).1)
      obtain ⟨Z, hZ⟩ := choose_lt (α := Int × List Int) (n := m) (p := fun i z => V0 i = .int .i64 z.1 ∧ Ints w (V1 i) z.2) fun i hi => by
        obtain ⟨_, _, g0, g1⟩ := hx i hi
        obtain ⟨zs, hzs⟩ := open_Ints h1 hq cq g1
        obtain ⟨y, hy, _⟩ := DataW.trod_int h0 g0
        simp only [List.cons.injEq, and_true] at hy
        exact ⟨(y, zs), hy, hzs⟩
      refine ⟨(List.range len).map Z, Or.inr ⟨a.block, a.off, cap, V1, ?_, ?_, fun k hk => ?_⟩⟩
      · simp only [List.length_map, List.length_range]; rw [hcs, ← ha]
      · simp only [List.length_map, List.length_range]; omega
      · simp only [List.length_map, List.length_range] at hk
        obtain ⟨e0, e1, _, _⟩ := hx k (by omega)
        rw [ha, add_plain] at e0 e1
        obtain ⟨g0, g1⟩ := hZ k (by omega)
        rw [g0] at e0
        have hg : ((List.range len).map Z)[k]?.getD (0, []) = Z k := by simp [hk]
        rw [hg]
        exact ⟨e0, e1, g1⟩
end

end Go.Proofs.YtaibcofendjnnaaGreatDoor

namespace Go.Proofs.YtaibcofendjnnaaGreatDoor
open Go.ChangeShapes Go.WideShapes Go.ChangeAt Go.RowKit Go.Joins
set_option maxRecDepth 100000

theorem Tryz.own : ownKnob Tryz.prog.godebug = none := by kernel_rfl
theorem Tryz.laidOut : laidOutB Tryz.prog = true := by kernel_rfl
theorem Tryz.cellsInt : Tryz.prog.cellsOf 2 = 1 := by kernel_rfl
theorem Tryz.cellsInts : Tryz.prog.cellsOf 67 = 1 := by kernel_rfl

end Go.Proofs.YtaibcofendjnnaaGreatDoor

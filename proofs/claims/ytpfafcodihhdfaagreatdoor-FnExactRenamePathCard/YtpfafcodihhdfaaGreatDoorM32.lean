/- A name that is renamed. -/
import Derived.Test.YtpfafcodihhdfaaGreatDoorM31
namespace Go.Proofs.YtpfafcodihhdfaaGreatDoor
open Go.RowKit
set_option maxRecDepth 100000

theorem OwnRow.boxed {w : World} {b : Nat} {vs : List Value} (h : OwnRow w b vs.length (cel vs)) : Bx w b vs := fun i v hv => by
  have hi : i < vs.length := by
    rcases Nat.lt_or_ge i vs.length with hh | hh
    · exact hh
    · rw [List.getElem?_eq_none hh] at hv; exact absurd hv (by simp)
  have := h.cell hi
  rw [this]
  unfold cel
  rw [hv]
  rfl
theorem set2_box {w : World} {b : Nat} {u v : Value} (h : OwnRow w b 2 (cel [u, v])) (x y : Value) : Bx ((w.setCell ⟨b, 0, none⟩ x).setCell ⟨b, 1, none⟩ y) b [x, y] := by
  have h2 := (h.set 0 x).set 1 y
  intro i a ha
  match i, ha with
  | 0, ha => cases ha; exact h2.cell (i := 0) (by omega)
  | 1, ha => cases ha; exact h2.cell (i := 1) (by omega)
set_option maxHeartbeats 12800000 in
theorem renamed_any (w : World) (a1 : Option Addr) (n1 c1 : Nat) (a2 : Option Addr) (n2 c2 : Nat) (d : FD) (j : Nat) (s : ByteArray) (z tj : Nat) (t : ByteArray) (gf : Bool) (tz : Nat) (h : FsR w (.slice a1 n1 c1) (.slice a2 n2 c2) d) (hs : sizeFs d ≤ 1048576) (hgf : gf = hasE d tj t) (htz : gf = true → atE d tj t = (tz : Int)) (hds : DirS d tj) (hq : dirQ d (tj : Int) = 0) (hnm : nameF t = 0) (hrs : RenS d (clearD d tj t) j s tj) :
    Calls Tryz.prog 62 #[.agg #[.slice a1 n1 c1, .slice a2 n2 c2], .agg #[.int .i64 (j : Int), .string s, .bool true, .int .i64 (z : Int)], .agg #[.int .i64 (tj : Int), .string t, .bool gf, .int .i64 (tz : Int)]] w (AnsUn w d.1.length (renD d j s tj t z)) := by
  have HCF : Hid (∀ W, Below w.heap.size w W → Calls Tryz.prog 104 #[.agg #[.slice a1 n1 c1, .slice a2 n2 c2]] W (AnsFs W d)) := fun W hW => copyOfFs_any W _ _ _ _ _ _ d (h.later hW) hs (by have := hds.dat; omega)
  have HWN : Hid (gf = true → ∀ W, Below w.heap.size w W → Calls Tryz.prog 108 #[.agg #[.slice a1 n1 c1, .slice a2 n2 c2], .agg #[.int .i64 (tj : Int), .string t, .bool true, .int .i64 (tz : Int)]] W (AnsUn W d.1.length (clearD d tj t))) := fun hg W hW => by
    rw [hgf] at hg
    obtain ⟨z', hz', hl', hi'⟩ := atE_in hds hg
    have ez : z' = tz := by have := htz (by rw [hgf]; exact hg); omega
    subst ez
    have hw : ((entA d tj)[idxE (entA d tj) t]?.getD en0).2 = (z' : Int) := by rw [← hz']; unfold atE; rw [if_pos hi']
    have := withoutName_any W _ _ _ _ _ _ d tj t z' (h.later hW) hs hds hq hnm hi' hw hl'
    unfold clearD
    rw [if_pos hg, hz', Int.toNat_natCast]
    exact this
  have HCL : Hid (gf = false → clearD d tj t = d) := fun hg => by unfold clearD; rw [← hgf, hg]; rfl
  have HMS : Hid (t.size ≤ maxLen) := by have := nameF_size hnm; unfold Hid maxLen; omega
  have HRD : Hid (renD d j s tj t z = entD (entD (clearD d tj t) j (delE (entA (clearD d tj t) j) (idxE (entA (clearD d tj t) j) s))) tj (insE (entA (entD (clearD d tj t) j (delE (entA (clearD d tj t) j) (idxE (entA (clearD d tj t) j) s))) tj) (plcE (entA (entD (clearD d tj t) j (delE (entA (clearD d tj t) j) (idxE (entA (clearD d tj t) j) s))) tj) t) (t, (z : Int)))) := rfl
  have HDAT : Hid (d.2.length = 20) := hds.dat
  have HRS : Hid (RenS d (clearD d tj t) j s tj) := hrs
  have hjn := hrs.jlt
  have htn := hrs.tlt
  have hten := hds.ten
  obtain ⟨RES, hRES⟩ : ∃ r, renD d j s tj t z = r := ⟨_, rfl⟩
  rw [hRES] at HRD ⊢
  clear hRES h hs hgf htz hds hq hnm hrs
  generalize clearD d tj t = D at *
  obtain ⟨n, hn⟩ : ∃ n, d.1.length = n := ⟨_, rfl⟩
  have HN : Hid (d.1.length = n) := hn
  rw [hn] at hjn htn hten HWN ⊢
  clear hn
  have hjI : (j : Int) < (n : Int) := by omega
  have htI : (tj : Int) < (n : Int) := by omega
  have HB0 : Hid (Below w.heap.size w ((((w.alloc (.cells #[.slice a1 n1 c1, .slice a2 n2 c2] 32)).alloc (.cells #[.int .i64 (j : Int), .string s, .bool true, .int .i64 (z : Int)] 86)).alloc (.cells #[.int .i64 (tj : Int), .string t, .bool gf, .int .i64 (tz : Int)] 86)).alloc (.cells #[.slice none 0 0, .slice none 0 0] 32))) := (later3' _ _ _ _).trans ((later1 _ _).mono (later3' _ _ _ _).size)
  have hbx := boxes3 w [.slice a1 n1 c1, .slice a2 n2 c2] [.int .i64 (j : Int), .string s, .bool true, .int .i64 (z : Int)] [.int .i64 (tj : Int), .string t, .bool gf, .int .i64 (tz : Int)] 32 86 86
  have HX0 : Hid (Bx ((((w.alloc (.cells #[.slice a1 n1 c1, .slice a2 n2 c2] 32)).alloc (.cells #[.int .i64 (j : Int), .string s, .bool true, .int .i64 (z : Int)] 86)).alloc (.cells #[.int .i64 (tj : Int), .string t, .bool gf, .int .i64 (tz : Int)] 86)).alloc (.cells #[.slice none 0 0, .slice none 0 0] 32)) w.heap.size [.slice a1 n1 c1, .slice a2 n2 c2]) := hbx.1.later (later1 _ _)
  have HP0 : Hid (Bx ((((w.alloc (.cells #[.slice a1 n1 c1, .slice a2 n2 c2] 32)).alloc (.cells #[.int .i64 (j : Int), .string s, .bool true, .int .i64 (z : Int)] 86)).alloc (.cells #[.int .i64 (tj : Int), .string t, .bool gf, .int .i64 (tz : Int)] 86)).alloc (.cells #[.slice none 0 0, .slice none 0 0] 32)) (w.heap.size + 1) [.int .i64 (j : Int), .string s, .bool true, .int .i64 (z : Int)]) := hbx.2.1.later (later1 _ _)
  have HQ0 : Hid (Bx ((((w.alloc (.cells #[.slice a1 n1 c1, .slice a2 n2 c2] 32)).alloc (.cells #[.int .i64 (j : Int), .string s, .bool true, .int .i64 (z : Int)] 86)).alloc (.cells #[.int .i64 (tj : Int), .string t, .bool gf, .int .i64 (tz : Int)] 86)).alloc (.cells #[.slice none 0 0, .slice none 0 0] 32)) (w.heap.size + 1 + 1) [.int .i64 (tj : Int), .string t, .bool gf, .int .i64 (tz : Int)]) := hbx.2.2.later (later1 _ _)
  have HR0 : Hid (OwnRow ((((w.alloc (.cells #[.slice a1 n1 c1, .slice a2 n2 c2] 32)).alloc (.cells #[.int .i64 (j : Int), .string s, .bool true, .int .i64 (z : Int)] 86)).alloc (.cells #[.int .i64 (tj : Int), .string t, .bool gf, .int .i64 (tz : Int)] 86)).alloc (.cells #[.slice none 0 0, .slice none 0 0] 32)) (w.heap.size + 1 + 1 + 1) 2 (cel [.slice none 0 0, .slice none 0 0])) := by
      have p2 := newCel (((w.alloc (.cells #[.slice a1 n1 c1, .slice a2 n2 c2] 32)).alloc (.cells #[.int .i64 (j : Int), .string s, .bool true, .int .i64 (z : Int)] 86)).alloc (.cells #[.int .i64 (tj : Int), .string t, .bool gf, .int .i64 (tz : Int)] 86)) [.slice none 0 0, .slice none 0 0] 32
      rw [World.size_alloc, World.size_alloc, World.size_alloc] at p2
      exact p2
  clear hbx
  cases gf
  · skip
    have hcl := HCL.out rfl
    subst hcl
    clear HCL HWN
    have xHX0 := HX0.out 0 _ rfl
    have xHX1 := HX0.out 1 _ rfl
    go_enter Tryz.func62, Tryz.ntmps62
    go_wp2_with fail
    generalize ((((w.alloc (.cells #[.slice a1 n1 c1, .slice a2 n2 c2] 32)).alloc (.cells #[.int .i64 (j : Int), .string s, .bool true, .int .i64 (z : Int)] 86)).alloc (.cells #[.int .i64 (tj : Int), .string t, .bool false, .int .i64 (tz : Int)] 86)).alloc (.cells #[.slice none 0 0, .slice none 0 0] 32)) = W0 at *
    clear xHX0 xHX1
    have hlw : w.heap.size + 1 + 1 + 1 < W0.heap.size := HR0.out.lt
    refine (HCF.out _ HB0.out).mono ?_
    rintro e w1 ⟨q1, m1, cI, q2, m2, cD, rfl, hb, hf5⟩
    obtain ⟨bI, e1, bD, e2, eI, eD, hfs⟩ := FsS.of hf5 (by have := HN.out; omega) (by have := HDAT.out; omega)
    simp only [Value.slice.injEq] at eI eD
    obtain ⟨rfl, rfl, rfl⟩ := eI
    obtain ⟨rfl, rfl, rfl⟩ := eD
    rw [HN.out, HDAT.out] at hfs
    rw [HN.out, HDAT.out]
    have hbo4 : w.heap.size + 1 + 1 + 1 < w1.heap.size := by have := hb.size; omega
    have HS0 : Hid (W0.heap.size ≤ w1.heap.size) := hb.size
    have hb' : Below W0.heap.size W0 (w1.alloc (.cells #[.slice (some ⟨bI, 0, none⟩) n cI, .slice (some ⟨bD, 0, none⟩) 20 cD] 32)) := hb.trans ((later1 _ _).mono hb.size)
    have HB1 : Hid (Below w.heap.size w (w1.alloc (.cells #[.slice (some ⟨bI, 0, none⟩) n cI, .slice (some ⟨bD, 0, none⟩) 20 cD] 32))) := HB0.out.trans (hb'.mono HB0.out.size)
    have HX1 : Hid (Bx (w1.alloc (.cells #[.slice (some ⟨bI, 0, none⟩) n cI, .slice (some ⟨bD, 0, none⟩) 20 cD] 32)) w.heap.size [.slice a1 n1 c1, .slice a2 n2 c2]) := HX0.out.later hb'
    have HP1 : Hid (Bx (w1.alloc (.cells #[.slice (some ⟨bI, 0, none⟩) n cI, .slice (some ⟨bD, 0, none⟩) 20 cD] 32)) (w.heap.size + 1) [.int .i64 (j : Int), .string s, .bool true, .int .i64 (z : Int)]) := HP0.out.later hb'
    have HQ1 : Hid (Bx (w1.alloc (.cells #[.slice (some ⟨bI, 0, none⟩) n cI, .slice (some ⟨bD, 0, none⟩) 20 cD] 32)) (w.heap.size + 1 + 1) [.int .i64 (tj : Int), .string t, .bool false, .int .i64 (tz : Int)]) := HQ0.out.later hb'
    have HR1 : Hid (OwnRow (w1.alloc (.cells #[.slice (some ⟨bI, 0, none⟩) n cI, .slice (some ⟨bD, 0, none⟩) 20 cD] 32)) (w.heap.size + 1 + 1 + 1) 2 (cel [.slice none 0 0, .slice none 0 0])) := HR0.out.later hb'
    clear hb hb'
    have HO1 : Hid (Bx (w1.alloc (.cells #[.slice (some ⟨bI, 0, none⟩) n cI, .slice (some ⟨bD, 0, none⟩) 20 cD] 32)) w1.heap.size [.slice (some ⟨bI, 0, none⟩) n cI, .slice (some ⟨bD, 0, none⟩) 20 cD]) := Bx.new w1 [.slice (some ⟨bI, 0, none⟩) n cI, .slice (some ⟨bD, 0, none⟩) 20 cD] _
    clear hf5
    have HF1 : Hid (FsS (w1.alloc (.cells #[.slice (some ⟨bI, 0, none⟩) n cI, .slice (some ⟨bD, 0, none⟩) 20 cD] 32)) bI n cI bD 20 cD D (fun c => w.heap.size + 4 ≤ c ∧ c ≠ w1.heap.size)) := (hfs.later (later1 _ _)).mono fun c hh => ⟨by have := hh.1; omega, by have := hh.2; omega⟩
    clear hfs
    have xHQ2 := HQ1.out 2 _ rfl
    go_wp2_with fail
    generalize (w1.alloc (.cells #[.slice (some ⟨bI, 0, none⟩) n cI, .slice (some ⟨bD, 0, none⟩) 20 cD] 32)) = W1 at *
    clear xHQ2
    have HS1 : Hid (∀ W, Below W1.heap.size W1 W → Calls Tryz.prog 109 #[.pointer (some ⟨bI, j * 5, none⟩), .string s] W fun e w' => e = .returned (.tuple #[]) ∧ FsS w' bI n cI bD 20 cD (entD D j (delE (entA D j) (idxE (entA D j) s))) (fun c => (w.heap.size + 4 ≤ c ∧ c ≠ w1.heap.size) ∨ W.heap.size ≤ c) ∧ Chg (fun c => c = bI) W w') := fun W hW => strike_any W bI n cI bD cD D _ j s (HF1.out.later hW) hjn HRS.out.rises HRS.out.six HRS.out.has HRS.out.blk
    have hbo : w1.heap.size < W1.heap.size := HO1.out.lt
    have hro : w.heap.size + 1 + 1 + 1 < w1.heap.size := hbo4
    have hne := HF1.out.ne
    have hnb : bI ≠ w1.heap.size := hne.2.1.1.2
    have hb : Below W1.heap.size W1 W1.drew := (Below.refl _ _).drew
    have hbs : W1.drew.heap.size = W1.heap.size := rfl
    have HB2 : Hid (Below w.heap.size w W1.drew) := HB1.out.trans (hb.mono HB1.out.size)
    have HP2 : Hid (Bx W1.drew (w.heap.size + 1) [.int .i64 (j : Int), .string s, .bool true, .int .i64 (z : Int)]) := HP1.out.later hb
    have HQ2 : Hid (Bx W1.drew (w.heap.size + 1 + 1) [.int .i64 (tj : Int), .string t, .bool false, .int .i64 (tz : Int)]) := HQ1.out.later hb
    have HR2 : Hid (OwnRow W1.drew (w.heap.size + 1 + 1 + 1) 2 (cel [.slice none 0 0, .slice none 0 0])) := HR1.out.later hb
    have HO2 : Hid (Bx W1.drew w1.heap.size [.slice (some ⟨bI, 0, none⟩) n cI, .slice (some ⟨bD, 0, none⟩) 20 cD]) := HO1.out.later hb
    have HF2 : Hid (FsS W1.drew bI n cI bD 20 cD D (fun c => w.heap.size + 4 ≤ c ∧ c ≠ w1.heap.size)) := HF1.out.later hb
    clear hb
    have l0 := HO1.out 0 _ rfl
    have l1 := HP1.out 0 _ rfl
    have l2 := HP1.out 1 _ rfl
    go_region_held3 (fun W => W.cell? ⟨w1.heap.size, 0, none⟩ = some (.slice (some ⟨bI, 0, none⟩) n cI) ∧ W.cell? ⟨w.heap.size + 1, 0, none⟩ = some (.int .i64 (j : Int)) ∧ W.cell? ⟨w.heap.size + 1, 1, none⟩ = some (.string s)) (go_keep) (first
      | (go_at_call 109; refine (HS1.out _ (Below.refl _ _).drew).mono ?_; rintro e w5 ⟨rfl, hf5, hc5⟩
         have HB3 : Hid (Below w.heap.size w w5) := HB2.out.trans (hc5.below HB2.out.size (fun b hb => by have := hne.2.1.1.1; omega))
         have HP3 : Hid (Bx w5 (w.heap.size + 1) [.int .i64 (j : Int), .string s, .bool true, .int .i64 (z : Int)]) := HP2.out.chg hc5 (fun e => by have := hne.2.1.1.1; omega)
         have HQ3 : Hid (Bx w5 (w.heap.size + 1 + 1) [.int .i64 (tj : Int), .string t, .bool false, .int .i64 (tz : Int)]) := HQ2.out.chg hc5 (fun e => by have := hne.2.1.1.1; omega)
         have HR3 : Hid (OwnRow w5 (w.heap.size + 1 + 1 + 1) 2 (cel [.slice none 0 0, .slice none 0 0])) := HR2.out.block (hc5.block _ HR2.out.lt (fun e => by have := hne.2.1.1.1; omega))
         have HO3 : Hid (Bx w5 w1.heap.size [.slice (some ⟨bI, 0, none⟩) n cI, .slice (some ⟨bD, 0, none⟩) 20 cD]) := HO2.out.chg hc5 (fun e => hnb e.symm)
         have HF3 : Hid (FsS w5 bI n cI bD 20 cD (entD D j (delE (entA D j) (idxE (entA D j) s))) (fun c => w.heap.size + 4 ≤ c ∧ c ≠ w1.heap.size)) := hf5.mono fun c hh => by
           rcases hh with hh | hh
           · exact hh
           · exact ⟨by omega, by omega⟩
         have k0 := HO3.out 0 _ rfl
         have k1 := HP3.out 0 _ rfl
         have k2 := HP3.out 1 _ rfl
         clear hf5 hc5)
      | fail)
    clear l0 l1 l2
    go_wp2_with fail
    have HS2 : Hid (∀ W, Below w5.heap.size w5 W → Calls Tryz.prog 110 #[.pointer (some ⟨bI, tj * 5, none⟩), .string t, .int .i64 (z : Int)] W fun e w' => e = .returned (.tuple #[]) ∧ FsS w' bI n cI bD 20 cD (entD (entD D j (delE (entA D j) (idxE (entA D j) s))) tj (insE (entA (entD D j (delE (entA D j) (idxE (entA D j) s))) tj) (plcE (entA (entD D j (delE (entA D j) (idxE (entA D j) s))) tj) t) (t, (z : Int)))) (fun c => (w.heap.size + 4 ≤ c ∧ c ≠ w1.heap.size) ∨ W.heap.size ≤ c) ∧ Chg (fun c => c = bI) W w') := fun W hW => enter_any W bI n cI bD cD _ _ tj t (z : Int) (HF3.out.later hW) htn HRS.out.six2 HMS.out HRS.out.blk2
    clear k0 k1 k2
    have hbo5 : w1.heap.size < w5.heap.size := HO3.out.lt
    have hne5 := HF3.out.ne
    have hb : Below w5.heap.size w5 w5.drew := (Below.refl _ _).drew
    have hbs5 : w5.drew.heap.size = w5.heap.size := rfl
    have HB4 : Hid (Below w.heap.size w w5.drew) := HB3.out.trans (hb.mono HB3.out.size)
    have HP4 : Hid (Bx w5.drew (w.heap.size + 1) [.int .i64 (j : Int), .string s, .bool true, .int .i64 (z : Int)]) := HP3.out.later hb
    have HQ4 : Hid (Bx w5.drew (w.heap.size + 1 + 1) [.int .i64 (tj : Int), .string t, .bool false, .int .i64 (tz : Int)]) := HQ3.out.later hb
    have HR4 : Hid (OwnRow w5.drew (w.heap.size + 1 + 1 + 1) 2 (cel [.slice none 0 0, .slice none 0 0])) := HR3.out.later hb
    have HO4 : Hid (Bx w5.drew w1.heap.size [.slice (some ⟨bI, 0, none⟩) n cI, .slice (some ⟨bD, 0, none⟩) 20 cD]) := HO3.out.later hb
    have HF4 : Hid (FsS w5.drew bI n cI bD 20 cD (entD D j (delE (entA D j) (idxE (entA D j) s))) (fun c => w.heap.size + 4 ≤ c ∧ c ≠ w1.heap.size)) := HF3.out.later hb
    clear hb
    have l0 := HO3.out 0 _ rfl
    have l1 := HQ3.out 0 _ rfl
    have l2 := HQ3.out 1 _ rfl
    have l3 := HP3.out 3 _ rfl
    go_region_held3 (fun W => W.cell? ⟨w1.heap.size, 0, none⟩ = some (.slice (some ⟨bI, 0, none⟩) n cI) ∧ W.cell? ⟨w.heap.size + 1 + 1, 0, none⟩ = some (.int .i64 (tj : Int)) ∧ W.cell? ⟨w.heap.size + 1 + 1, 1, none⟩ = some (.string t) ∧ W.cell? ⟨w.heap.size + 1, 3, none⟩ = some (.int .i64 (z : Int))) (go_keep) (first
      | (go_at_call 110; refine (HS2.out _ (Below.refl _ _).drew).mono ?_; rintro e w7 ⟨rfl, hf7, hc7⟩
         have HB5 : Hid (Below w.heap.size w w7) := HB4.out.trans (hc7.below HB4.out.size (fun b hb => by have := hne5.2.1.1.1; omega))
         have HP5 : Hid (Bx w7 (w.heap.size + 1) [.int .i64 (j : Int), .string s, .bool true, .int .i64 (z : Int)]) := HP4.out.chg hc7 (fun e => by have := hne5.2.1.1.1; omega)
         have HQ5 : Hid (Bx w7 (w.heap.size + 1 + 1) [.int .i64 (tj : Int), .string t, .bool false, .int .i64 (tz : Int)]) := HQ4.out.chg hc7 (fun e => by have := hne5.2.1.1.1; omega)
         have HR5 : Hid (OwnRow w7 (w.heap.size + 1 + 1 + 1) 2 (cel [.slice none 0 0, .slice none 0 0])) := HR4.out.block (hc7.block _ HR4.out.lt (fun e => by have := hne5.2.1.1.1; omega))
         have HO5 : Hid (Bx w7 w1.heap.size [.slice (some ⟨bI, 0, none⟩) n cI, .slice (some ⟨bD, 0, none⟩) 20 cD]) := HO4.out.chg hc7 (fun e => hnb e.symm)
         have HF5 : Hid (FsS w7 bI n cI bD 20 cD RES (fun c => w.heap.size + 4 ≤ c)) := by
           unfold Hid
           rw [HRD.out]
           exact hf7.mono fun c hh => by
             rcases hh with hh | hh
             · exact hh.1
             · omega
         have k0 := HO5.out 0 _ rfl
         have k1 := HQ5.out 0 _ rfl
         have k2 := HQ5.out 1 _ rfl
         have k3 := HP5.out 3 _ rfl
         clear hf7 hc7)
      | fail)
    clear l0 l1 l2 l3 k1 k2 k3
    have o1 := HO5.out 1 _ rfl
    have hrr := HR5.out
    have t0 : w7.cell? ⟨w.heap.size + 1 + 1 + 1, 0, none⟩ = some (.slice none 0 0) := hrr.cell (i := 0) (by omega)
    have t1 : w7.cell? ⟨w.heap.size + 1 + 1 + 1, 1, none⟩ = some (.slice none 0 0) := hrr.cell (i := 1) (by omega)
    have s0 := hrr.frozen 0
    have s1 := hrr.frozen 1
    clear hrr
    go_wp2
    exact bodyPost_ret (v := .agg #[.slice (some ⟨bI, 0, none⟩) n cI, .slice (some ⟨bD, 0, none⟩) 20 cD]) (by simp [results, Tryz.results62, go_sem, t0, t1]) rfl (AnsUn.putM HB5.out HF5.out ⟨by omega, by omega⟩ _ _)
  · skip
    have HW2 : Hid (∀ W, Below w.heap.size w W → _) := HWN.out rfl
    clear HCL HWN
    have xHX0 := HX0.out 0 _ rfl
    have xHX1 := HX0.out 1 _ rfl
    go_enter Tryz.func62, Tryz.ntmps62
    go_wp2_with fail
    generalize ((((w.alloc (.cells #[.slice a1 n1 c1, .slice a2 n2 c2] 32)).alloc (.cells #[.int .i64 (j : Int), .string s, .bool true, .int .i64 (z : Int)] 86)).alloc (.cells #[.int .i64 (tj : Int), .string t, .bool true, .int .i64 (tz : Int)] 86)).alloc (.cells #[.slice none 0 0, .slice none 0 0] 32)) = W0 at *
    clear xHX0 xHX1
    have hlw : w.heap.size + 1 + 1 + 1 < W0.heap.size := HR0.out.lt
    refine (HCF.out _ HB0.out).mono ?_
    rintro e w1 ⟨q1, m1, cI, q2, m2, cD, rfl, hb, hf5⟩
    obtain ⟨bI, e1, bD, e2, eI, eD, hfs⟩ := FsS.of hf5 (by have := HN.out; omega) (by have := HDAT.out; omega)
    simp only [Value.slice.injEq] at eI eD
    obtain ⟨rfl, rfl, rfl⟩ := eI
    obtain ⟨rfl, rfl, rfl⟩ := eD
    rw [HN.out, HDAT.out] at hfs
    rw [HN.out, HDAT.out]
    have hbo4 : w.heap.size + 1 + 1 + 1 < w1.heap.size := by have := hb.size; omega
    have HS0 : Hid (W0.heap.size ≤ w1.heap.size) := hb.size
    clear hf5 hfs
    have hb' : Below W0.heap.size W0 (w1.alloc (.cells #[.slice (some ⟨bI, 0, none⟩) n cI, .slice (some ⟨bD, 0, none⟩) 20 cD] 32)) := hb.trans ((later1 _ _).mono hb.size)
    have HB1 : Hid (Below w.heap.size w (w1.alloc (.cells #[.slice (some ⟨bI, 0, none⟩) n cI, .slice (some ⟨bD, 0, none⟩) 20 cD] 32))) := HB0.out.trans (hb'.mono HB0.out.size)
    have HX1 : Hid (Bx (w1.alloc (.cells #[.slice (some ⟨bI, 0, none⟩) n cI, .slice (some ⟨bD, 0, none⟩) 20 cD] 32)) w.heap.size [.slice a1 n1 c1, .slice a2 n2 c2]) := HX0.out.later hb'
    have HP1 : Hid (Bx (w1.alloc (.cells #[.slice (some ⟨bI, 0, none⟩) n cI, .slice (some ⟨bD, 0, none⟩) 20 cD] 32)) (w.heap.size + 1) [.int .i64 (j : Int), .string s, .bool true, .int .i64 (z : Int)]) := HP0.out.later hb'
    have HQ1 : Hid (Bx (w1.alloc (.cells #[.slice (some ⟨bI, 0, none⟩) n cI, .slice (some ⟨bD, 0, none⟩) 20 cD] 32)) (w.heap.size + 1 + 1) [.int .i64 (tj : Int), .string t, .bool true, .int .i64 (tz : Int)]) := HQ0.out.later hb'
    have HR1 : Hid (OwnRow (w1.alloc (.cells #[.slice (some ⟨bI, 0, none⟩) n cI, .slice (some ⟨bD, 0, none⟩) 20 cD] 32)) (w.heap.size + 1 + 1 + 1) 2 (cel [.slice none 0 0, .slice none 0 0])) := HR0.out.later hb'
    clear hb hb'
    have HO1 : Hid (Bx (w1.alloc (.cells #[.slice (some ⟨bI, 0, none⟩) n cI, .slice (some ⟨bD, 0, none⟩) 20 cD] 32)) w1.heap.size [.slice (some ⟨bI, 0, none⟩) n cI, .slice (some ⟨bD, 0, none⟩) 20 cD]) := Bx.new w1 [.slice (some ⟨bI, 0, none⟩) n cI, .slice (some ⟨bD, 0, none⟩) 20 cD] _
    have HO1r : Hid (OwnRow (w1.alloc (.cells #[.slice (some ⟨bI, 0, none⟩) n cI, .slice (some ⟨bD, 0, none⟩) 20 cD] 32)) w1.heap.size 2 (cel [.slice (some ⟨bI, 0, none⟩) n cI, .slice (some ⟨bD, 0, none⟩) 20 cD])) := newCel w1 [.slice (some ⟨bI, 0, none⟩) n cI, .slice (some ⟨bD, 0, none⟩) 20 cD] _
    have xHX0 := HX1.out 0 _ rfl
    have xHX1 := HX1.out 1 _ rfl
    have xHQ0 := HQ1.out 0 _ rfl
    have xHQ1 := HQ1.out 1 _ rfl
    have xHQ2 := HQ1.out 2 _ rfl
    have xHQ3 := HQ1.out 3 _ rfl
    go_wp2_with fail
    generalize (w1.alloc (.cells #[.slice (some ⟨bI, 0, none⟩) n cI, .slice (some ⟨bD, 0, none⟩) 20 cD] 32)) = W1 at *
    clear xHX0 xHX1 xHQ0 xHQ1 xHQ2 xHQ3
    refine (HW2.out _ HB1.out).mono ?_
    rintro e w2 ⟨bI2, cI2, bD2, cD2, rfl, hb, hf⟩
    have HOr : Hid (OwnRow w2 w1.heap.size 2 (cel [.slice (some ⟨bI, 0, none⟩) n cI, .slice (some ⟨bD, 0, none⟩) 20 cD])) := HO1r.out.later hb
    have hbw : w1.heap.size < W1.heap.size := HO1r.out.lt
    have HF2' : Hid (FsS w2 bI2 n cI2 bD2 20 cD2 D (fun c => W1.heap.size ≤ c)) := hf
    clear hf HO1r
    have HB2 : Hid (Below w.heap.size w w2) := HB1.out.trans (hb.mono HB1.out.size)
    have HX2 : Hid (Bx w2 w.heap.size [.slice a1 n1 c1, .slice a2 n2 c2]) := HX1.out.later hb
    have HP2 : Hid (Bx w2 (w.heap.size + 1) [.int .i64 (j : Int), .string s, .bool true, .int .i64 (z : Int)]) := HP1.out.later hb
    have HQ2 : Hid (Bx w2 (w.heap.size + 1 + 1) [.int .i64 (tj : Int), .string t, .bool true, .int .i64 (tz : Int)]) := HQ1.out.later hb
    have HR2 : Hid (OwnRow w2 (w.heap.size + 1 + 1 + 1) 2 (cel [.slice none 0 0, .slice none 0 0])) := HR1.out.later hb
    clear hb
    have hrr := HOr.out
    have t0 : w2.cell? ⟨w1.heap.size, 0, none⟩ = some (.slice (some ⟨bI, 0, none⟩) n cI) := hrr.cell (i := 0) (by omega)
    have t1 : w2.cell? ⟨w1.heap.size, 1, none⟩ = some (.slice (some ⟨bD, 0, none⟩) 20 cD) := hrr.cell (i := 1) (by omega)
    have s0 := hrr.frozen 0
    have s1 := hrr.frozen 1
    clear hrr
    go_wp2_with fail
    have hcx : Chg (fun c => c = w1.heap.size) w2 ((w2.setCell ⟨w1.heap.size, 0, none⟩ (.slice (some ⟨bI2, 0, none⟩) n cI2)).setCell ⟨w1.heap.size, 1, none⟩ (.slice (some ⟨bD2, 0, none⟩) 20 cD2)) := Chg.set (F := fun c => c = w1.heap.size) (Chg.set (F := fun c => c = w1.heap.size) (Chg.refl _ w2) rfl 0 _) rfl 1 _
    have HB3 : Hid (Below w.heap.size w ((w2.setCell ⟨w1.heap.size, 0, none⟩ (.slice (some ⟨bI2, 0, none⟩) n cI2)).setCell ⟨w1.heap.size, 1, none⟩ (.slice (some ⟨bD2, 0, none⟩) 20 cD2))) := HB2.out.trans (hcx.below HB2.out.size (fun b hb => by omega))
    have HX3 : Hid (Bx ((w2.setCell ⟨w1.heap.size, 0, none⟩ (.slice (some ⟨bI2, 0, none⟩) n cI2)).setCell ⟨w1.heap.size, 1, none⟩ (.slice (some ⟨bD2, 0, none⟩) 20 cD2)) w.heap.size [.slice a1 n1 c1, .slice a2 n2 c2]) := HX2.out.chg hcx (fun e => by omega)
    have HP3 : Hid (Bx ((w2.setCell ⟨w1.heap.size, 0, none⟩ (.slice (some ⟨bI2, 0, none⟩) n cI2)).setCell ⟨w1.heap.size, 1, none⟩ (.slice (some ⟨bD2, 0, none⟩) 20 cD2)) (w.heap.size + 1) [.int .i64 (j : Int), .string s, .bool true, .int .i64 (z : Int)]) := HP2.out.chg hcx (fun e => by omega)
    have HQ3 : Hid (Bx ((w2.setCell ⟨w1.heap.size, 0, none⟩ (.slice (some ⟨bI2, 0, none⟩) n cI2)).setCell ⟨w1.heap.size, 1, none⟩ (.slice (some ⟨bD2, 0, none⟩) 20 cD2)) (w.heap.size + 1 + 1) [.int .i64 (tj : Int), .string t, .bool true, .int .i64 (tz : Int)]) := HQ2.out.chg hcx (fun e => by omega)
    have HR3 : Hid (OwnRow ((w2.setCell ⟨w1.heap.size, 0, none⟩ (.slice (some ⟨bI2, 0, none⟩) n cI2)).setCell ⟨w1.heap.size, 1, none⟩ (.slice (some ⟨bD2, 0, none⟩) 20 cD2)) (w.heap.size + 1 + 1 + 1) 2 (cel [.slice none 0 0, .slice none 0 0])) := HR2.out.block (hcx.block _ HR2.out.lt (fun e => by omega))
    have HO3 : Hid (Bx ((w2.setCell ⟨w1.heap.size, 0, none⟩ (.slice (some ⟨bI2, 0, none⟩) n cI2)).setCell ⟨w1.heap.size, 1, none⟩ (.slice (some ⟨bD2, 0, none⟩) 20 cD2)) w1.heap.size [.slice (some ⟨bI2, 0, none⟩) n cI2, .slice (some ⟨bD2, 0, none⟩) 20 cD2]) := set2_box HOr.out _ _
    have HF3 : Hid (FsS ((w2.setCell ⟨w1.heap.size, 0, none⟩ (.slice (some ⟨bI2, 0, none⟩) n cI2)).setCell ⟨w1.heap.size, 1, none⟩ (.slice (some ⟨bD2, 0, none⟩) 20 cD2)) bI2 n cI2 bD2 20 cD2 D (fun c => w.heap.size + 4 ≤ c ∧ c ≠ w1.heap.size)) := (HF2'.out.chg hcx (fun b hb e => by omega)).mono fun c hh => ⟨by omega, by omega⟩
    clear t0 t1 s0 s1 hcx HF2' HOr
    generalize ((w2.setCell ⟨w1.heap.size, 0, none⟩ (.slice (some ⟨bI2, 0, none⟩) n cI2)).setCell ⟨w1.heap.size, 1, none⟩ (.slice (some ⟨bD2, 0, none⟩) 20 cD2)) = W3 at *
    have HS1 : Hid (∀ W, Below W3.heap.size W3 W → Calls Tryz.prog 109 #[.pointer (some ⟨bI2, j * 5, none⟩), .string s] W fun e w' => e = .returned (.tuple #[]) ∧ FsS w' bI2 n cI2 bD2 20 cD2 (entD D j (delE (entA D j) (idxE (entA D j) s))) (fun c => (w.heap.size + 4 ≤ c ∧ c ≠ w1.heap.size) ∨ W.heap.size ≤ c) ∧ Chg (fun c => c = bI2) W w') := fun W hW => strike_any W bI2 n cI2 bD2 cD2 D _ j s (HF3.out.later hW) hjn HRS.out.rises HRS.out.six HRS.out.has HRS.out.blk
    have hbo : w1.heap.size < W3.heap.size := HO3.out.lt
    have hro : w.heap.size + 1 + 1 + 1 < w1.heap.size := hbo4
    have hne := HF3.out.ne
    have hnb : bI2 ≠ w1.heap.size := hne.2.1.1.2
    have hb : Below W3.heap.size W3 W3.drew := (Below.refl _ _).drew
    have hbs : W3.drew.heap.size = W3.heap.size := rfl
    have HB4 : Hid (Below w.heap.size w W3.drew) := HB3.out.trans (hb.mono HB3.out.size)
    have HP4 : Hid (Bx W3.drew (w.heap.size + 1) [.int .i64 (j : Int), .string s, .bool true, .int .i64 (z : Int)]) := HP3.out.later hb
    have HQ4 : Hid (Bx W3.drew (w.heap.size + 1 + 1) [.int .i64 (tj : Int), .string t, .bool true, .int .i64 (tz : Int)]) := HQ3.out.later hb
    have HR4 : Hid (OwnRow W3.drew (w.heap.size + 1 + 1 + 1) 2 (cel [.slice none 0 0, .slice none 0 0])) := HR3.out.later hb
    have HO4 : Hid (Bx W3.drew w1.heap.size [.slice (some ⟨bI2, 0, none⟩) n cI2, .slice (some ⟨bD2, 0, none⟩) 20 cD2]) := HO3.out.later hb
    have HF4 : Hid (FsS W3.drew bI2 n cI2 bD2 20 cD2 D (fun c => w.heap.size + 4 ≤ c ∧ c ≠ w1.heap.size)) := HF3.out.later hb
    clear hb
    have l0 := HO3.out 0 _ rfl
    have l1 := HP3.out 0 _ rfl
    have l2 := HP3.out 1 _ rfl
    go_region_held3 (fun W => W.cell? ⟨w1.heap.size, 0, none⟩ = some (.slice (some ⟨bI2, 0, none⟩) n cI2) ∧ W.cell? ⟨w.heap.size + 1, 0, none⟩ = some (.int .i64 (j : Int)) ∧ W.cell? ⟨w.heap.size + 1, 1, none⟩ = some (.string s)) (go_keep) (first
      | (go_at_call 109; refine (HS1.out _ (Below.refl _ _).drew).mono ?_; rintro e w5 ⟨rfl, hf5, hc5⟩
         have HB5 : Hid (Below w.heap.size w w5) := HB4.out.trans (hc5.below HB4.out.size (fun b hb => by have := hne.2.1.1.1; omega))
         have HP5 : Hid (Bx w5 (w.heap.size + 1) [.int .i64 (j : Int), .string s, .bool true, .int .i64 (z : Int)]) := HP4.out.chg hc5 (fun e => by have := hne.2.1.1.1; omega)
         have HQ5 : Hid (Bx w5 (w.heap.size + 1 + 1) [.int .i64 (tj : Int), .string t, .bool true, .int .i64 (tz : Int)]) := HQ4.out.chg hc5 (fun e => by have := hne.2.1.1.1; omega)
         have HR5 : Hid (OwnRow w5 (w.heap.size + 1 + 1 + 1) 2 (cel [.slice none 0 0, .slice none 0 0])) := HR4.out.block (hc5.block _ HR4.out.lt (fun e => by have := hne.2.1.1.1; omega))
         have HO5 : Hid (Bx w5 w1.heap.size [.slice (some ⟨bI2, 0, none⟩) n cI2, .slice (some ⟨bD2, 0, none⟩) 20 cD2]) := HO4.out.chg hc5 (fun e => hnb e.symm)
         have HF5 : Hid (FsS w5 bI2 n cI2 bD2 20 cD2 (entD D j (delE (entA D j) (idxE (entA D j) s))) (fun c => w.heap.size + 4 ≤ c ∧ c ≠ w1.heap.size)) := hf5.mono fun c hh => by
           rcases hh with hh | hh
           · exact hh
           · exact ⟨by omega, by omega⟩
         have k0 := HO5.out 0 _ rfl
         have k1 := HP5.out 0 _ rfl
         have k2 := HP5.out 1 _ rfl
         clear hf5 hc5)
      | fail)
    clear l0 l1 l2
    go_wp2_with fail
    have HS2 : Hid (∀ W, Below w5.heap.size w5 W → Calls Tryz.prog 110 #[.pointer (some ⟨bI2, tj * 5, none⟩), .string t, .int .i64 (z : Int)] W fun e w' => e = .returned (.tuple #[]) ∧ FsS w' bI2 n cI2 bD2 20 cD2 (entD (entD D j (delE (entA D j) (idxE (entA D j) s))) tj (insE (entA (entD D j (delE (entA D j) (idxE (entA D j) s))) tj) (plcE (entA (entD D j (delE (entA D j) (idxE (entA D j) s))) tj) t) (t, (z : Int)))) (fun c => (w.heap.size + 4 ≤ c ∧ c ≠ w1.heap.size) ∨ W.heap.size ≤ c) ∧ Chg (fun c => c = bI2) W w') := fun W hW => enter_any W bI2 n cI2 bD2 cD2 _ _ tj t (z : Int) (HF5.out.later hW) htn HRS.out.six2 HMS.out HRS.out.blk2
    clear k0 k1 k2
    have hbo5 : w1.heap.size < w5.heap.size := HO5.out.lt
    have hne5 := HF5.out.ne
    have hb : Below w5.heap.size w5 w5.drew := (Below.refl _ _).drew
    have hbs5 : w5.drew.heap.size = w5.heap.size := rfl
    have HB6 : Hid (Below w.heap.size w w5.drew) := HB5.out.trans (hb.mono HB5.out.size)
    have HP6 : Hid (Bx w5.drew (w.heap.size + 1) [.int .i64 (j : Int), .string s, .bool true, .int .i64 (z : Int)]) := HP5.out.later hb
    have HQ6 : Hid (Bx w5.drew (w.heap.size + 1 + 1) [.int .i64 (tj : Int), .string t, .bool true, .int .i64 (tz : Int)]) := HQ5.out.later hb
    have HR6 : Hid (OwnRow w5.drew (w.heap.size + 1 + 1 + 1) 2 (cel [.slice none 0 0, .slice none 0 0])) := HR5.out.later hb
    have HO6 : Hid (Bx w5.drew w1.heap.size [.slice (some ⟨bI2, 0, none⟩) n cI2, .slice (some ⟨bD2, 0, none⟩) 20 cD2]) := HO5.out.later hb
    have HF6 : Hid (FsS w5.drew bI2 n cI2 bD2 20 cD2 (entD D j (delE (entA D j) (idxE (entA D j) s))) (fun c => w.heap.size + 4 ≤ c ∧ c ≠ w1.heap.size)) := HF5.out.later hb
    clear hb
    have l0 := HO5.out 0 _ rfl
    have l1 := HQ5.out 0 _ rfl
    have l2 := HQ5.out 1 _ rfl
    have l3 := HP5.out 3 _ rfl
    go_region_held3 (fun W => W.cell? ⟨w1.heap.size, 0, none⟩ = some (.slice (some ⟨bI2, 0, none⟩) n cI2) ∧ W.cell? ⟨w.heap.size + 1 + 1, 0, none⟩ = some (.int .i64 (tj : Int)) ∧ W.cell? ⟨w.heap.size + 1 + 1, 1, none⟩ = some (.string t) ∧ W.cell? ⟨w.heap.size + 1, 3, none⟩ = some (.int .i64 (z : Int))) (go_keep) (first
      | (go_at_call 110; refine (HS2.out _ (Below.refl _ _).drew).mono ?_; rintro e w7 ⟨rfl, hf7, hc7⟩
         have HB7 : Hid (Below w.heap.size w w7) := HB6.out.trans (hc7.below HB6.out.size (fun b hb => by have := hne5.2.1.1.1; omega))
         have HP7 : Hid (Bx w7 (w.heap.size + 1) [.int .i64 (j : Int), .string s, .bool true, .int .i64 (z : Int)]) := HP6.out.chg hc7 (fun e => by have := hne5.2.1.1.1; omega)
         have HQ7 : Hid (Bx w7 (w.heap.size + 1 + 1) [.int .i64 (tj : Int), .string t, .bool true, .int .i64 (tz : Int)]) := HQ6.out.chg hc7 (fun e => by have := hne5.2.1.1.1; omega)
         have HR7 : Hid (OwnRow w7 (w.heap.size + 1 + 1 + 1) 2 (cel [.slice none 0 0, .slice none 0 0])) := HR6.out.block (hc7.block _ HR6.out.lt (fun e => by have := hne5.2.1.1.1; omega))
         have HO7 : Hid (Bx w7 w1.heap.size [.slice (some ⟨bI2, 0, none⟩) n cI2, .slice (some ⟨bD2, 0, none⟩) 20 cD2]) := HO6.out.chg hc7 (fun e => hnb e.symm)
         have HF7 : Hid (FsS w7 bI2 n cI2 bD2 20 cD2 RES (fun c => w.heap.size + 4 ≤ c)) := by
           unfold Hid
           rw [HRD.out]
           exact hf7.mono fun c hh => by
             rcases hh with hh | hh
             · exact hh.1
             · omega
         have k0 := HO7.out 0 _ rfl
         have k1 := HQ7.out 0 _ rfl
         have k2 := HQ7.out 1 _ rfl
         have k3 := HP7.out 3 _ rfl
         clear hf7 hc7)
      | fail)
    clear l0 l1 l2 l3 k1 k2 k3
    have o1 := HO7.out 1 _ rfl
    have hrr := HR7.out
    have t0 : w7.cell? ⟨w.heap.size + 1 + 1 + 1, 0, none⟩ = some (.slice none 0 0) := hrr.cell (i := 0) (by omega)
    have t1 : w7.cell? ⟨w.heap.size + 1 + 1 + 1, 1, none⟩ = some (.slice none 0 0) := hrr.cell (i := 1) (by omega)
    have s0 := hrr.frozen 0
    have s1 := hrr.frozen 1
    clear hrr
    go_wp2
    exact bodyPost_ret (v := .agg #[.slice (some ⟨bI2, 0, none⟩) n cI2, .slice (some ⟨bD2, 0, none⟩) 20 cD2]) (by simp [results, Tryz.results62, go_sem, t0, t1]) rfl (AnsUn.putM HB7.out HF7.out ⟨by omega, by omega⟩ _ _)
end Go.Proofs.YtpfafcodihhdfaaGreatDoor


/- The walks of the program's look at a block. -/
import Derived.Test.YtomcejofhfngkaaDrvB
import Derived.Test.YtomcejofhfngkaaAtA
namespace Go.Proofs.Ytomcejofhfngkaa
open Go.RowKit
set_option maxRecDepth 100000

theorem placeF_fault {bs : List (List Int)} {ps : List (Int × List Int)} {x : Int} (h : ¬ faultF bs ps = 0) : placeF bs ps x = faultF bs ps := by simp [placeF, h]
theorem placeF_no {bs : List (List Int)} {ps : List (Int × List Int)} {x : Int} (h : faultF bs ps = 0) (h2 : placeB bs.length x = false) : placeF bs ps x = 3 := by simp [placeF, h, h2]
theorem placeF_ok {bs : List (List Int)} {ps : List (Int × List Int)} {x : Int} (h : faultF bs ps = 0) (h2 : placeB bs.length x = true) : placeF bs ps x = 0 := by simp [placeF, h, h2]

set_option maxHeartbeats 800000 in
theorem placeFault_any (w : World) (aB : Option Addr) (cB : Nat) (vC : Value) (bs : List (List Int)) (ps : List (Int × List Int)) (x : Int) (hB : IntsS w (.slice aB bs.length cB) bs) (hP : Puts w vC ps) :
    Calls Try.prog 50 #[.agg #[.slice aB bs.length cB, vC], .int .i64 x] w fun e w' => e = .returned (.int .i64 (placeF bs ps x)) ∧ Below w.heap.size w w' := by
  have HB : Hid (IntsS w (.slice aB bs.length cB) bs) := hB
  have HP : Hid (Puts w vC ps) := hP
  clear hB hP
  generalize hF : faultF bs ps = F
  have HF : Hid (faultF bs ps = F) := hF
  clear hF
  by_cases hz : F = 0
  · subst hz
    cases hpl : placeB bs.length x
    · have HPL : Hid (placeB bs.length x = false) := hpl
      rw [placeF_no HF.out hpl]
      clear hpl
      go_enter Try.func50, Try.ntmps50
      go_wp2_with fail
      refine (fault_any _ _ _ bs ps (HB.out.later (later1 _ _)) (HP.out.later (later1 _ _))).mono ?_
      rw [HF.out]
      rintro e w1 ⟨rfl, hb1⟩
      have HX : Hid (Box2 w1 w.heap.size (.slice aB bs.length cB) vC) := (Box2.new _ _ _ _).later hb1
      have HW1 : Hid (Below w.heap.size w w1) := (later1 _ _).trans (hb1.mono (by simp))
      clear hb1
      obtain ⟨x0, x1⟩ := HX.out
      obtain ⟨aC, cC, hvC, _⟩ := HP.out.open'
      rw [hvC] at x1
      go_wp2_with fail
      refine (isPlace_any _ _ _ _ _ _).mono ?_
      rw [HPL.out]
      rintro e w2 ⟨rfl, hb2⟩
      have HW2 : Hid (Below w.heap.size w w2) := HW1.out.trans (hb2.mono HW1.out.size)
      clear hb2
      go_wp2
      go_ret
      exact ⟨rfl, HW2.out⟩
    · have HPL : Hid (placeB bs.length x = true) := hpl
      rw [placeF_ok HF.out hpl]
      clear hpl
      go_enter Try.func50, Try.ntmps50
      go_wp2_with fail
      refine (fault_any _ _ _ bs ps (HB.out.later (later1 _ _)) (HP.out.later (later1 _ _))).mono ?_
      rw [HF.out]
      rintro e w1 ⟨rfl, hb1⟩
      have HX : Hid (Box2 w1 w.heap.size (.slice aB bs.length cB) vC) := (Box2.new _ _ _ _).later hb1
      have HW1 : Hid (Below w.heap.size w w1) := (later1 _ _).trans (hb1.mono (by simp))
      clear hb1
      obtain ⟨x0, x1⟩ := HX.out
      obtain ⟨aC, cC, hvC, _⟩ := HP.out.open'
      rw [hvC] at x1
      go_wp2_with fail
      refine (isPlace_any _ _ _ _ _ _).mono ?_
      rw [HPL.out]
      rintro e w2 ⟨rfl, hb2⟩
      have HW2 : Hid (Below w.heap.size w w2) := HW1.out.trans (hb2.mono HW1.out.size)
      clear hb2
      go_wp2
      go_ret
      exact ⟨rfl, HW2.out⟩
  · have hne : (F != 0) = true := by simpa using hz
    rw [placeF_fault (by rw [HF.out]; exact hz), HF.out]
    go_enter Try.func50, Try.ntmps50
    go_wp2_with fail
    refine (fault_any _ _ _ bs ps (HB.out.later (later1 _ _)) (HP.out.later (later1 _ _))).mono ?_
    rw [HF.out]
    rintro e w1 ⟨rfl, hb1⟩
    have HW1 : Hid (Below w.heap.size w w1) := (later1 _ _).trans (hb1.mono (by simp))
    clear hb1
    go_wp2
    go_ret
    exact ⟨rfl, HW1.out⟩

/-- How the cache of a drive is read. -/
def AtC (w : World) (a : Option Addr) (n : Nat) (ps : List (Int × List Int)) : Prop :=
  ∀ i, i < n → ∃ g pb ua uc, a = some ⟨g, 0, none⟩ ∧ w.cell? ⟨g, i, none⟩ = some (.pointer (some ⟨pb, 0, none⟩)) ∧ w.cell? ⟨pb, 0, none⟩ = some (.int .i64 (ps[i]?.getD (0, [])).1) ∧ w.cell? ⟨pb, 1, none⟩ = some (.slice ua (ps[i]?.getD (0, [])).2.length uc) ∧ Ints w (.slice ua (ps[i]?.getD (0, [])).2.length uc) (ps[i]?.getD (0, [])).2
theorem Cache.at {w : World} {base n c : Nat} {a : Option Addr} {ps : List (Int × List Int)} {pb k : Nat → Nat} {u : Nat → Value} (h : Cache w base (.slice a n c) n (fun i => ps[i]?.getD (0, [])) pb k u) : AtC w a n ps := by
  intro i hi
  obtain ⟨g, cap, e, _, _, _, hrow⟩ := ownsRow_row h.own (by omega)
  simp only [Value.slice.injEq, true_and] at e
  obtain ⟨ua, uc, hu⟩ := h.sh i hi
  have hb := h.box i hi
  have b0 := hb.cell (i := 0) (by omega)
  have b1 := hb.cell (i := 1) (by omega)
  simp at b0 b1
  rw [hu] at b1
  have hio := (h.at' i hi).ints
  rw [hu] at hio
  refine ⟨g, pb i, ua, uc, e.1, ?_, b0, b1, hio⟩
  have := hrow.cell hi
  rw [this]
  simp [hi]

set_option maxHeartbeats 800000 in
theorem get_any (w : World) (br o : Nat) (a : Option Addr) (n cap x : Nat) (bs : List (List Int)) (_hn : n ≤ 60) (hx : x < n) (h0 : w.cell? ⟨br, o, none⟩ = some (.slice a n cap)) (hB : AtS w a n bs) (hl : (bs[x]?.getD []).length ≤ 1048576) :
    Calls Try.prog 111 #[.pointer (some ⟨br, o, none⟩), .int .i64 (x : Int)] w fun e w' => e = .returned (.slice (some ⟨w.heap.size, 0, none⟩) (bs[x]?.getD []).length (bs[x]?.getD []).length) ∧ Below w.heap.size w w' ∧ IntsO w' (.slice (some ⟨w.heap.size, 0, none⟩) (bs[x]?.getD []).length (bs[x]?.getD []).length) (bs[x]?.getD []) (fresh w w') := by
  obtain ⟨b, off, ua, ucap, e, c1, i1⟩ := hB x hx
  subst e
  have HI : Hid (Ints w (.slice ua (bs[x]?.getD []).length ucap) (bs[x]?.getD [])) := i1
  have HL : Hid ((bs[x]?.getD []).length ≤ 1048576) := hl
  clear i1 hl hB
  go_enter Try.func111, Try.ntmps111
  go_wp2_with fail
  refine (copyOf_any HI.out HL.out).mono ?_
  rintro e w1 ⟨rfl, hb1, ho1⟩
  have HB1 : Hid (Below w.heap.size w w1) := hb1
  have HO1 : Hid (IntsO w1 _ (bs[x]?.getD []) (fresh w w1)) := ho1
  clear hb1 ho1
  go_wp2
  go_ret
  exact ⟨rfl, HB1.out, HO1.out⟩

set_option maxHeartbeats 1600000 in
theorem read_any (w : World) (bd : Nat) (aB aP : Option Addr) (nB cB nP cP : Nat) (bs : List (List Int)) (ps : List (Int × List Int)) (x : Nat) (hxl : x < nB) (hnB : nB ≤ 60) (hpl : ps.length = nP) (g2 : nP ≤ 200) (h0 : w.cell? ⟨bd, 0, none⟩ = some (.slice aB nB cB)) (h1 : w.cell? ⟨bd, 1, none⟩ = some (.slice aP nP cP))
    (hB : AtS w aB nB bs) (hP : AtC w aP nP ps) (hz : ∀ k : Nat, (bs[k]?.getD []).length ≤ 1048576) (hzp : ∀ k : Nat, (ps[k]?.getD (0, [])).2.length ≤ 1048576) :
    Calls Try.prog 83 #[.pointer (some ⟨bd, 0, none⟩), .int .i64 (x : Int)] w fun e w' => ∃ a n c, e = .returned (.slice a n c) ∧ Below w.heap.size w w' ∧ IntsO w' (.slice a n c) (atF bs ps x) (fresh w w') := by
  have HPL : Hid (ps.length = nP) := hpl
  have HB : Hid (AtS w aB nB bs) := hB
  have HP : Hid (AtC w aP nP ps) := hP
  have HZ : Hid (∀ k : Nat, (bs[k]?.getD []).length ≤ 1048576) := hz
  have HZP : Hid (∀ k : Nat, (ps[k]?.getD (0, [])).2.length ≤ 1048576) := hzp
  clear hpl hB hP hz hzp
  go_enter Try.func83, Try.ntmps83
  go_wp2
  go_loop [5] (fun i => ∃ k : Nat, k ≤ nP ∧ i = .int .i64 ((k : Int) - 1) ∧ atF bs ps x = atK bs ps x k) (fun i => (intOf i + 1).toNat)
  case atStart => exact ⟨nP, Nat.le_refl _, rfl, by unfold atF; rw [HPL.out]⟩
  case round =>
    obtain ⟨k, hk, rfl, hat⟩ := hrel
    have HA : Hid (atF bs ps x = atK bs ps x k) := hat
    clear hat
    cases k with
    | succ k =>
      have ek : (((k + 1 : Nat) : Int) - 1) = (k : Int) := by omega
      rw [ek]
      clear ek
      obtain ⟨g, pb, ua, uc, e, c0, c1, c2, i1⟩ := HP.out k (by omega)
      clear HP
      subst e
      have HI : Hid (Ints w (.slice ua (ps[k]?.getD (0, [])).2.length uc) (ps[k]?.getD (0, [])).2) := i1
      clear i1
      have hlt : k < nP := by omega
      by_cases he : (ps[k]?.getD (0, [])).1 = (x : Int)
      · have hb : ((ps[k]?.getD (0, [])).1 == (x : Int)) = true := by simpa using he
        have HE : Hid ((ps[k]?.getD (0, [])).1 = (x : Int)) := he
        clear he
        go_wp2_with fail
        refine (copyOf_any HI.out (HZP.out k)).mono ?_
        rintro e w1 ⟨rfl, hb1, ho1⟩
        have HB1 : Hid (Below w.heap.size w w1) := hb1
        have HO1 : Hid (IntsO w1 _ (ps[k]?.getD (0, [])).2 (fresh w w1)) := ho1
        clear hb1 ho1
        go_wp2
        go_ret
        exact ⟨_, _, _, rfl, HB1.out, by rw [HA.out, atK_hit HE.out]; exact HO1.out⟩
      · have hb : ((ps[k]?.getD (0, [])).1 == (x : Int)) = false := by simpa using he
        have HE : Hid (¬ (ps[k]?.getD (0, [])).1 = (x : Int)) := he
        clear he
        go_wp2
        go_round
        case rel => exact ⟨k, by omega, rfl, by rw [HA.out, atK_miss HE.out]⟩
        case measure => simp [intOf]
    | zero =>
      go_wp2_with fail
      refine (get_any _ bd 0 aB nB cB x bs hnB hxl h0 HB.out (HZ.out x)).mono ?_
      rintro e w1 ⟨rfl, hb1, ho1⟩
      have HB1 : Hid (Below w.heap.size w w1) := hb1
      have HO1 : Hid (IntsO w1 _ (bs[x]?.getD []) (fresh w w1)) := ho1
      clear hb1 ho1
      go_wp2
      go_ret
      exact ⟨_, _, _, rfl, HB1.out, by rw [HA.out]; simpa [atK] using HO1.out⟩

theorem atF_len {bs : List (List Int)} {ps : List (Int × List Int)} {x : Int} {M : Nat} (hz : ∀ k : Nat, (bs[k]?.getD []).length ≤ M) (hzp : ∀ k : Nat, (ps[k]?.getD (0, [])).2.length ≤ M) : (atF bs ps x).length ≤ M := by
  unfold atF
  generalize ps.length = n
  induction n with
  | zero => exact hz _
  | succ n ih =>
    by_cases h : (ps[n]?.getD (0, [])).1 = x
    · rw [atK_hit h]; exact hzp n
    · rw [atK_miss h]; exact ih

set_option maxHeartbeats 1600000 in
theorem implAt_bad (w : World) (aB : Option Addr) (cB : Nat) (aC : Option Addr) (nC cC : Nat) (bs : List (List Int)) (ps : List (Int × List Int)) (x : Int) (hB : IntsS w (.slice aB bs.length cB) bs) (hP : Puts w (.slice aC nC cC) ps) (hf : ¬ placeF bs ps x = 0) :
    Calls Try.prog 39 #[.agg #[.slice aB bs.length cB, .slice aC nC cC], .int .i64 x] w (AnsInts w (placeF bs ps x) []) := by
  have HB : Hid (IntsS w (.slice aB bs.length cB) bs) := hB
  have HP : Hid (Puts w (.slice aC nC cC) ps) := hP
  clear hB hP
  generalize hF : placeF bs ps x = F at *
  have HF : Hid (placeF bs ps x = F) := hF
  have hne : (F != 0) = true := by simpa using hf
  clear hF hf
  go_enter Try.func39, Try.ntmps39
  go_wp2_with fail
  refine (placeFault_any _ aB cB _ bs ps x (HB.out.later (later2 _ _ _)) (HP.out.later (later2 _ _ _))).mono ?_
  rw [HF.out]
  rintro e w1 ⟨rfl, hb1⟩
  have HW1 : Hid (Below w.heap.size w w1) := (later2 _ _ _).trans (hb1.mono (by simp; omega))
  have HR1 : OwnRow w1 (w.heap.size + 1) 2 (fun i => if i = 0 then .int .i64 0 else .slice none 0 0) := by
    have h := (OwnRow.two (w.alloc (Obj.cells #[Value.slice aB bs.length cB, Value.slice aC nC cC] 30)) (.int .i64 0) (.slice none 0 0) 73).later hb1
    simpa using h
  have t0 := HR1.cell (i := 0) (by omega)
  have t1 := HR1.cell (i := 1) (by omega)
  have t2 := HR1.frozen 0
  have t3 := HR1.frozen 1
  simp at t0 t1
  clear hb1 HR1
  go_wp2
  exact bodyPost_ret (v := .agg #[.int .i64 F, .slice none 0 0]) (by simp [results, Try.results39, go_sem, t0, t1]) rfl (ansInts_bad ((HW1.out.setCell (by simp) _).setCell (by simp) _) F)

set_option maxHeartbeats 1600000 in
theorem implAt_ok (w : World) (aB aC : Option Addr) (cB cC : Nat) (bs : List (List Int)) (ps : List (Int × List Int)) (x : Nat) (hB : IntsS w (.slice aB bs.length cB) bs) (hP : Puts w (.slice aC ps.length cC) ps) (sB : AtS w aB bs.length bs) (sP : AtP w aC ps.length ps) (hf : faultF bs ps = 0) (hx : x < bs.length)
    (hz : ∀ k : Nat, (bs[k]?.getD []).length ≤ 1048576) (hzp : ∀ k : Nat, (ps[k]?.getD (0, [])).2.length ≤ 1048576) :
    Calls Try.prog 39 #[.agg #[.slice aB bs.length cB, .slice aC ps.length cC], .int .i64 (x : Int)] w (AnsInts w 0 (atF bs ps x)) := by
  have HB : Hid (IntsS w (.slice aB bs.length cB) bs) := hB
  have HP : Hid (Puts w (.slice aC ps.length cC) ps) := hP
  have SB : Hid (AtS w aB bs.length bs) := sB
  have SP : Hid (AtP w aC ps.length ps) := sP
  obtain ⟨g1, g2⟩ := faultF_lens hf
  have HPL : Hid (placeF bs ps (x : Int) = 0) := placeF_ok hf (by unfold placeB; simp [hx])
  have HZ : Hid (∀ k : Nat, (bs[k]?.getD []).length ≤ 1048576) := hz
  have HZP : Hid (∀ k : Nat, (ps[k]?.getD (0, [])).2.length ≤ 1048576) := hzp
  clear hB hP sB sP hf hz hzp
  go_enter Try.func39, Try.ntmps39
  go_wp2_with fail
  refine (placeFault_any _ aB cB _ bs ps x (HB.out.later (later2 _ _ _)) (HP.out.later (later2 _ _ _))).mono ?_
  rw [HPL.out]
  rintro e w1 ⟨rfl, hb1⟩
  have HW1 : Hid (Below w.heap.size w w1) := (later2 _ _ _).trans (hb1.mono (by simp; omega))
  have HR1 : Hid (OwnRow w1 (w.heap.size + 1) 2 (fun i => if i = 0 then .int .i64 0 else .slice none 0 0)) := by
    have h := (OwnRow.two (w.alloc (Obj.cells #[Value.slice aB bs.length cB, Value.slice aC ps.length cC] 30)) (.int .i64 0) (.slice none 0 0) 73).later hb1
    unfold Hid
    simpa using h
  have HX1 : Hid (Box2 w1 w.heap.size (.slice aB bs.length cB) (.slice aC ps.length cC)) := ((Box2.new w _ _ 30).later (later1 _ _)).later hb1
  have hz1 : w.heap.size + 1 < w1.heap.size := HR1.out.lt
  clear hb1
  obtain ⟨x0, x1⟩ := HX1.out
  go_wp2_with fail
  clear x0 x1
  refine (openDisk_walk _ aB aC bs.length cB ps.length cC bs ps rfl rfl g1 g2 (fun k _ => HZ.out k) (fun k _ => HZP.out k) (SB.out.later HW1.out) (SP.out.later HW1.out)).mono ?_
  rintro e w2 ⟨bd, g, aP, cP, pb, k, u, rfl, hdr⟩
  have HDR : Hid (Drive w1 w2 bd (some ⟨g, 0, none⟩) bs.length bs.length aP ps.length cP bs ps pb k u) := hdr
  clear hdr
  go_wp2_with fail
  have hcell0 := HDR.out.row.cell (i := 0) (by omega)
  have hcell1 := HDR.out.row.cell (i := 1) (by omega)
  simp at hcell0 hcell1
  obtain ⟨aB', cB', hvB, _, hSB⟩ := HDR.out.blocks.ints.open'
  simp only [Value.slice.injEq] at hvB
  refine (read_any _ bd (some ⟨g, 0, none⟩) aP bs.length bs.length ps.length cP bs ps x hx g1 rfl g2 hcell0 hcell1 (by rw [hvB.1]; exact hSB) HDR.out.cache.at HZ.out HZP.out).mono ?_
  clear hcell0 hcell1 hvB hSB
  rintro e w3 ⟨ra, rn, rc, rfl, hb3, ho3⟩
  have HW3 : Hid (Below w.heap.size w w3) := (HW1.out.trans (HDR.out.below.mono HW1.out.size)).trans (hb3.mono (by have := HDR.out.below.size; have := HW1.out.size; omega))
  have HO3 : Hid (IntsO w3 (.slice ra rn rc) (atF bs ps x) (fun b => w1.heap.size ≤ b ∧ b < w3.heap.size)) := ho3.mono fun b hb => ⟨Nat.le_trans HDR.out.below.size hb.1, hb.2⟩
  have HR3 := (HR1.out.later HDR.out.below).later hb3
  have t0 := HR3.cell (i := 0) (by omega)
  have t1 := HR3.cell (i := 1) (by omega)
  have t2 := HR3.frozen 0
  have t3 := HR3.frozen 1
  simp at t0 t1
  clear hb3 ho3 HR3
  go_wp2
  refine bodyPost_ret (v := .agg #[.int .i64 0, .slice ra rn rc]) (by simp [results, Try.results39, go_sem, t0, t1]) rfl ⟨_, _, _, rfl, ?_, ?_⟩
  · exact (HW3.out.setCell (by simp) _).setCell (by simp) _
  · refine ((HO3.out.store (fun b hb => ?_) _).store (fun b hb => ?_) _).mono fun b hb => ?_
    · have := hb.1; simp; omega
    · have := hb.1; simp; omega
    · exact ⟨by have := hb.1; omega, by simpa [World.setCell] using hb.2⟩

theorem implAt_any (w : World) (vB vC : Value) (bs : List (List Int)) (ps : List (Int × List Int)) (x : Int) (hB : IntsS w vB bs) (hP : Puts w vC ps) (hz : ∀ k : Nat, (bs[k]?.getD []).length ≤ 1048576) (hzp : ∀ k : Nat, (ps[k]?.getD (0, [])).2.length ≤ 1048576) :
    Calls Try.prog 39 #[.agg #[vB, vC], .int .i64 x] w (AnsInts w (placeF bs ps x) (atList bs ps x)) := by
  obtain ⟨aB, cB, rfl, m1, sB⟩ := hB.open'
  obtain ⟨aC, cC, rfl, m2, sP⟩ := hP.open'
  by_cases h0 : placeF bs ps x = 0
  · have hf : faultF bs ps = 0 := by
      by_cases hf : faultF bs ps = 0
      · exact hf
      · rw [placeF_fault hf] at h0; exact h0
    have hp : placeB bs.length x = true := by
      cases hp : placeB bs.length x
      · rw [placeF_no hf hp] at h0; omega
      · rfl
    have e2 : atList bs ps x = atF bs ps x := by unfold atList; rw [h0]; simp
    rw [h0, e2]
    unfold placeB at hp
    simp at hp
    obtain ⟨n, rfl⟩ := Int.eq_ofNat_of_zero_le hp.1
    exact implAt_ok w aB aC cB cC bs ps n hB hP sB sP hf (by omega) hz hzp
  · have e2 : atList bs ps x = [] := by unfold atList; simp [h0]
    rw [e2]
    exact implAt_bad w aB cB aC _ cC bs ps x hB hP h0
end Go.Proofs.Ytomcejofhfngkaa

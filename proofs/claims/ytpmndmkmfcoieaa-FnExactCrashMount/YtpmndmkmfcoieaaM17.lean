/- RunSteps of the specification, at steps without a fault: the steps one by one. RunSteps of the specification, at steps without a fault. A plan done in part, and then a crash: spec. CrashMount, both sides. -/
import Derived.Test.YtpmndmkmfcoieaaM15
import Derived.Test.YtpmndmkmfcoieaaM16
import Derived.Test.YtpmndmkmfcoieaaM04
namespace Go.Proofs.Ytpmndmkmfcoieaa
open Go.RowKit
set_option maxRecDepth 100000

theorem put_step {s : SD} {d : DK} (h : GoodD d) (hs : stepF s = 0) (hf : s.1 = false) : (putCode d.1 d.2 s.2.1 s.2.2, putBlocks d.1 d.2 s.2.1 s.2.2, putCache d.1 d.2 s.2.1 s.2.2) = stepD s d := by
  unfold stepF at hs
  rw [if_neg (by rw [hf]; simp)] at hs
  have hp : ¬ (s.2.1 < 0 ∨ 47 ≤ s.2.1) := fun e => by rw [if_pos e] at hs; omega
  rw [if_neg hp] at hs
  have h0 : placeF d.1 d.2 s.2.1 = 0 := placeF_ok h.fault (by rw [h.n47]; exact decide_eq_true (p := 0 ≤ s.2.1 ∧ s.2.1 < ((47 : Nat) : Int)) ⟨by omega, by omega⟩)
  unfold stepD
  rw [if_neg (by rw [hf]; simp)]
  by_cases hq : 200 ≤ d.2.length
  · have ec : putCode d.1 d.2 s.2.1 s.2.2 = 2 := by unfold putCode; simp [h0, hs, hq]
    unfold putBlocks putCache
    rw [ec, if_pos hq]; rfl
  · have ec : putCode d.1 d.2 s.2.1 s.2.2 = 0 := by unfold putCode; simp [h0, hs, hq]
    unfold putBlocks putCache
    rw [ec, if_neg hq]; rfl
theorem specPutS {w : World} {vB vC v : Value} {d : DK} {s : SD} (h : DiskR w vB vC d) (hg : GoodD d) (hs : stepF s = 0) (hf : s.1 = false) (hv : Ints w v s.2.2) :
    Calls Try.prog 81 #[.agg #[vB, vC], .int .i64 s.2.1, v] w (AnsDR w (stepD s d)) := by
  rw [← put_step hg hs hf]
  exact (specPut_any l1Copy_said w vB vC v d.1 d.2 s.2.1 s.2.2 h.1 h.2 hv hg.hz hg.hzp (by have := small_stp hs; omega)).mono fun _ _ h => h.uni
theorem specKeepS {w : World} {aB aC : Option Addr} {nB cB nC cC : Nat} {d : DK} (h : DiskR w (.slice aB nB cB) (.slice aC nC cC) d) (hg : GoodD d) :
    Calls Try.prog 53 #[.agg #[.slice aB nB cB, .slice aC nC cC], .slice none 0 0, .bool true] w fun e w' => ∃ aX nX cX, e = .returned (.agg #[.slice aX nX cX, .slice none 0 0]) ∧ Below w.heap.size w w' ∧ DiskU w' (.slice aX nX cX) (.slice none 0 0) (keepD d) (fresh w w') := by
  obtain ⟨_, _, e1, _, sB⟩ := h.1.open'
  simp only [Value.slice.injEq] at e1
  obtain ⟨rfl, rfl, rfl⟩ := e1
  obtain ⟨_, _, e2, _, sP⟩ := h.2.open'
  simp only [Value.slice.injEq] at e2
  obtain ⟨rfl, rfl, rfl⟩ := e2
  refine (l1Keep_any l1Copy_said w _ _ none cB cC 0 0 true d.1 d.2 [] (by have := hg.n47; omega) hg.few hg.hz hg.hzp sB sP (faultF_places hg.fault) rfl (fun k hk => by omega)).mono ?_
  rintro e w' ⟨aX, cX, rfl, hb, hi⟩
  exact ⟨_, _, _, rfl, hb, fresh w w', fun _ => False, hi, Or.inl ⟨rfl, _, _, rfl⟩, fun _ _ h => h.elim, fun b hb => hb.elim id False.elim⟩
theorem specCopyS {w : World} {aB aC : Option Addr} {nB cB nC cC : Nat} {d : DK} (h : DiskR w (.slice aB nB cB) (.slice aC nC cC) d) (hg : GoodD d) :
    Calls Try.prog 80 #[.agg #[.slice aB nB cB, .slice aC nC cC]] w fun e w' => ∃ aX nX cX aY nY cY, e = .returned (.agg #[.slice aX nX cX, .slice aY nY cY]) ∧ Below w.heap.size w w' ∧ DiskU w' (.slice aX nX cX) (.slice aY nY cY) d (fresh w w') := by
  obtain ⟨_, _, e1, _, sB⟩ := h.1.open'
  simp only [Value.slice.injEq] at e1
  obtain ⟨rfl, rfl, rfl⟩ := e1
  obtain ⟨_, _, e2, _, sP⟩ := h.2.open'
  simp only [Value.slice.injEq] at e2
  obtain ⟨rfl, rfl, rfl⟩ := e2
  exact l1CopyU l1Copy_said w _ _ cB cC d.1 d.2 (by have := hg.n47; omega) hg.few hg.hz hg.hzp sB sP
def outC (aB : Option Addr) (nB cB : Nat) (aC : Option Addr) (nC cC : Nat) : List Value := [.int .i64 0, .slice aB nB cB, .slice aC nC cC]
set_option maxHeartbeats 6400000 in
theorem l13Run_any (w : World) (a1 : Option Addr) (n1 c1 : Nat) (a2 : Option Addr) (n2 c2 : Nat) (d : DK) (a : Option Addr) (n c : Nat) (l : List SD) (h : DiskR w (.slice a1 n1 c1) (.slice a2 n2 c2) d) (hl : AtStp w a n l) (hn : l.length = n) (hm : n ≤ 120) (hst : ∀ i, i < n → stepF (l[i]?.getD sd0) = 0) (hg : GoodD d) :
    Calls Try.prog 52 #[.agg #[.slice a1 n1 c1, .slice a2 n2 c2], .slice a n c] w (AnsDR w (runD l d)) := by
  have HL : Hid (AtStp w a n l) := hl
  have HS : Hid (∀ i, i < n → stepF (l[i]?.getD sd0) = 0) := hst
  have HG : Hid (∀ j, j ≤ n → (runJ l d j).1 = 0 → GoodD (runJ l d j).2) := fun j hj h0 => good_run hg (by rw [hn]; exact hst) j (by omega) h0
  have HST : Hid (∀ j, j ≤ n → ¬ (runJ l d j).1 = 0 → runD l d = runJ l d j) := fun j hj h => runD_stop (by omega) h
  have HEN : Hid (runD l d = runJ l d n) := by unfold Hid runD; rw [hn]
  have HCP : Hid (∀ W, Below w.heap.size w W → Calls Try.prog 80 #[.agg #[.slice a1 n1 c1, .slice a2 n2 c2]] W _) := fun W hW => specCopyS (h.later hW) hg
  have HB0 : Hid (Below w.heap.size w ((w.alloc (.cells #[.slice a1 n1 c1, .slice a2 n2 c2] 30)).alloc (.cells #[.int .i64 0, .slice none 0 0, .slice none 0 0] 32))) := later2 _ _ _
  have HR0 : Hid (OwnRow ((w.alloc (.cells #[.slice a1 n1 c1, .slice a2 n2 c2] 30)).alloc (.cells #[.int .i64 0, .slice none 0 0, .slice none 0 0] 32)) (w.heap.size + 1) 3 (cel [.int .i64 0, .slice none 0 0, .slice none 0 0])) := by
    have := newCel (w.alloc (.cells #[.slice a1 n1 c1, .slice a2 n2 c2] 30)) [.int .i64 0, .slice none 0 0, .slice none 0 0] 32
    rw [World.size_alloc] at this
    exact this
  clear h hl hst hg hn
  go_enter Try.func52, Try.ntmps52
  go_wp2_with fail
  refine (HCP.out _ HB0.out).mono ?_
  rintro e w1 ⟨aX, nX, cX, aY, nY, cY, rfl, hb, hdu⟩
  have hrl := (HR0.out.later hb).lt
  have HB1 : Hid (Below w.heap.size w (w1.alloc (.cells #[.int .i64 0, .slice aX nX cX, .slice aY nY cY] 32))) := HB0.out.trans ((hb.trans ((later1 _ _).mono hb.size)).mono HB0.out.size)
  have HR1 : Hid (OwnRow (w1.alloc (.cells #[.int .i64 0, .slice aX nX cX, .slice aY nY cY] 32)) (w.heap.size + 1) 3 (cel [.int .i64 0, .slice none 0 0, .slice none 0 0])) := (HR0.out.later hb).later (later1 _ _)
  have HO1 : Hid (OwnRow (w1.alloc (.cells #[.int .i64 0, .slice aX nX cX, .slice aY nY cY] 32)) w1.heap.size 3 (cel (outC aX nX cX aY nY cY))) := newCel w1 [.int .i64 0, .slice aX nX cX, .slice aY nY cY] _
  have HD1 : Hid (DiskU (w1.alloc (.cells #[.int .i64 0, .slice aX nX cX, .slice aY nY cY] 32)) (.slice aX nX cX) (.slice aY nY cY) d (fun b => w.heap.size + 1 < b ∧ b < (w1.alloc (.cells #[.int .i64 0, .slice aX nX cX, .slice aY nY cY] 32)).heap.size ∧ b ≠ w1.heap.size)) := (hdu.later (later1 _ _)).mono fun b hb' => ⟨by have := hb'.1; have := HR0.out.lt; omega, by simp; have := hb'.2; omega, by have := hb'.2; omega⟩
  clear hb hdu HCP HB0 HR0
  go_wp2
  generalize hbo : w1.heap.size = bo at *
  go_loopw [6] (fun i wr => ∃ j : Nat, j ≤ n ∧ i = .int .i64 j ∧ (runJ l d j).1 = 0 ∧ Below w.heap.size w wr ∧ OwnRow wr (w.heap.size + 1) 3 (cel [.int .i64 0, .slice none 0 0, .slice none 0 0]) ∧ ∃ aB nB cB aC nC cC, OwnRow wr bo 3 (cel (outC aB nB cB aC nC cC)) ∧ DiskU wr (.slice aB nB cB) (.slice aC nC cC) (runJ l d j).2 (fun b => w.heap.size + 1 < b ∧ b < wr.heap.size ∧ b ≠ bo)) (fun i _ => n - (intOf i).toNat)
  case atStart => exact ⟨0, Nat.zero_le _, rfl, rfl, HB1.out, HR1.out, _, _, _, _, _, _, HO1.out, HD1.out⟩
  case round =>
    obtain ⟨j, hj, rfl, hc0, hbl, hrr, aB, nB, cB, aC, nC, cC, hro, hdu⟩ := hrel
    have HBL : Hid (Below w.heap.size w wr) := hbl
    have HRR : Hid (OwnRow wr (w.heap.size + 1) 3 (cel [.int .i64 0, .slice none 0 0, .slice none 0 0])) := hrr
    have HRO : Hid (OwnRow wr bo 3 (cel (outC aB nB cB aC nC cC))) := hro
    have HDU : Hid (DiskU wr (.slice aB nB cB) (.slice aC nC cC) (runJ l d j).2 (fun b => w.heap.size + 1 < b ∧ b < wr.heap.size ∧ b ≠ bo)) := hdu
    have o0 : wr.cell? ⟨bo, 0, none⟩ = some (.int .i64 0) := hro.cell (i := 0) (by omega)
    have o1 : wr.cell? ⟨bo, 1, none⟩ = some (.slice aB nB cB) := hro.cell (i := 1) (by omega)
    have o2 : wr.cell? ⟨bo, 2, none⟩ = some (.slice aC nC cC) := hro.cell (i := 2) (by omega)
    have hol := hro.lt
    clear hbl hrr hro hdu HB1 HR1 HO1 HD1 hbo
    by_cases hlt : j < n
    · have hsf := HS.out j hlt
      obtain ⟨b, o, rfl, aW, cW, k0, k1, k2, k3⟩ := HL.out j hlt
      have HIW : Hid (∀ W, Below w.heap.size w W → Ints W (.slice aW (l[j]?.getD sd0).2.2.length cW) (l[j]?.getD sd0).2.2) := fun W hW => k3.2.later hW
      replace k0 := cell_later HBL.out k0
      replace k1 := cell_later HBL.out k1
      replace k2 := cell_later HBL.out k2
      have hbz := lt_of_cell k0
      have HGJ := HG.out j hj hc0
      have HDR : Hid (DiskR wr (.slice aB nB cB) (.slice aC nC cC) (runJ l d j).2) := HDU.out.reads
      clear k3
      cases hfl : (l[j]?.getD sd0).1 with
      | true =>
        rw [hfl] at k0
        have hr := run_flush hc0 hfl
        have HKP : Hid (Calls Try.prog 53 #[.agg #[.slice aB nB cB, .slice aC nC cC], .slice none 0 0, .bool true] wr _) := specKeepS HDR.out HGJ
        clear HDU HDR HGJ HIW k1 k2
        go_wp2_with fail
        clear k0 o0 o1 o2
        refine HKP.out.mono ?_
        rintro e w2 ⟨aN, nN, cN, rfl, hb, hdn⟩
        have HB2 : Hid (Below w.heap.size w w2) := HBL.out.trans (hb.mono HBL.out.size)
        have HR2 : Hid (OwnRow w2 (w.heap.size + 1) 3 (cel [.int .i64 0, .slice none 0 0, .slice none 0 0])) := HRR.out.later hb
        have HO2 : Hid (OwnRow w2 bo 3 (cel (outC aB nB cB aC nC cC))) := HRO.out.later hb
        have HD2 : Hid (DiskU w2 (.slice aN nN cN) (.slice none 0 0) (keepD (runJ l d j).2) (fun b => w.heap.size + 1 < b ∧ b < w2.heap.size ∧ b ≠ bo)) := hdn.mono fun b hb' => ⟨by have := hb'.1; omega, hb'.2, by have := hb'.1; omega⟩
        have o1 : w2.cell? ⟨bo, 1, none⟩ = some (.slice aB nB cB) := HO2.out.cell (i := 1) (by omega)
        have o2 : w2.cell? ⟨bo, 2, none⟩ = some (.slice aC nC cC) := HO2.out.cell (i := 2) (by omega)
        have f1 := HO2.out.frozen 1
        have f2 := HO2.out.frozen 2
        have hol2 := HO2.out.lt
        clear hb hdn HKP HRR HRO HBL
        go_wp2
        go_roundw
        case rel =>
          refine ⟨j + 1, by omega, by go_num, by rw [hr], (HB2.out.setCell (by show w.heap.size ≤ bo; omega) _).setCell (by show w.heap.size ≤ bo; omega) _, (HR2.out.store (by show w.heap.size + 1 ≠ bo; omega) _).store (by show w.heap.size + 1 ≠ bo; omega) _, aN, nN, cN, none, 0, 0, ((HO2.out.set 1 _).set 2 _).congr fun i hi => by rcases (show i = 0 ∨ i = 1 ∨ i = 2 by omega) with rfl | rfl | rfl <;> rfl, ?_⟩
          rw [hr]
          exact (HD2.out.keep fun b hb _ => by rw [Below.heap_setCell _ _ _ _ (by show b ≠ bo; exact hb.2.2), Below.heap_setCell _ _ _ _ (by show b ≠ bo; exact hb.2.2)]).mono fun b hb => ⟨hb.1, by simpa [World.setCell] using hb.2.1, hb.2.2⟩
        case measure => simp [intOf]; omega
      | false =>
        rw [hfl] at k0
        have HPU : Hid (∀ W, Below wr.heap.size wr W → Calls Try.prog 81 #[.agg #[.slice aB nB cB, .slice aC nC cC], .int .i64 (l[j]?.getD sd0).2.1, .slice aW (l[j]?.getD sd0).2.2.length cW] W (AnsDR W (runJ l d (j + 1)))) := fun W hW => by
          rw [runJ_next hc0]
          exact specPutS (HDR.out.later hW) HGJ hsf hfl (HIW.out W (HBL.out.trans (hW.mono HBL.out.size)))
        have HSN := HST.out (j + 1) (by omega)
        have HCD : Hid (¬ (runJ l d (j + 1)).1 = 0 → runJ l d (j + 1) = (2, [], [])) := runJ_code (j + 1)
        clear HDU HDR HGJ HIW hsf
        obtain ⟨RN, hRN⟩ : ∃ RN, runJ l d (j + 1) = RN := ⟨_, rfl⟩
        rw [hRN] at HPU HSN HCD
        have HRN : Hid (runJ l d (j + 1) = RN) := hRN
        clear hRN
        by_cases hrn : RN.1 = 0
        · obtain ⟨rc, rd⟩ := RN
          obtain rfl : rc = 0 := hrn
          clear HSN HCD
          go_wp2_with fail
          go_region_with (go_at_call 81; refine (HPU.out _ (Below.refl _ _).drew).mono ?_; rintro e w2 ⟨aN, nN, cN, aM, nM, cM, rfl, hb, hdn⟩
                          have hb' : Below wr.heap.size wr w2 := (Below.refl _ _).drew.trans hb
                          have HB2 : Hid (Below w.heap.size w w2) := HBL.out.trans (hb'.mono HBL.out.size)
                          have HR2 : Hid (OwnRow w2 (w.heap.size + 1) 3 (cel [.int .i64 0, .slice none 0 0, .slice none 0 0])) := HRR.out.later hb'
                          have HO2 : Hid (OwnRow w2 bo 3 (cel (outC aB nB cB aC nC cC))) := HRO.out.later hb'
                          have HD2 : Hid (DiskU w2 (.slice aN nN cN) (.slice aM nM cM) rd (fun b => w.heap.size + 1 < b ∧ b < w2.heap.size ∧ b ≠ bo)) := hdn.mono fun b hb' => ⟨by have : wr.heap.size ≤ b := hb'.1; omega, hb'.2, by have : wr.heap.size ≤ b := hb'.1; omega⟩
                          have q0 : w2.cell? ⟨bo, 0, none⟩ = some (.int .i64 0) := HO2.out.cell (i := 0) (by omega)
                          have q1 : w2.cell? ⟨bo, 1, none⟩ = some (.slice aB nB cB) := HO2.out.cell (i := 1) (by omega)
                          have q2 : w2.cell? ⟨bo, 2, none⟩ = some (.slice aC nC cC) := HO2.out.cell (i := 2) (by omega)
                          have f0 := HO2.out.frozen 0
                          have f1 := HO2.out.frozen 1
                          have f2 := HO2.out.frozen 2
                          have hol2 := HO2.out.lt
                          clear hb hb' hdn)
          all_goals
            clear HPU HRR HRO HBL o0 o1 o2 k0 k1 k2
            go_wp2
            go_roundw
            case rel =>
              refine ⟨j + 1, by omega, by go_num, ?_, ((HB2.out.setCell (by show w.heap.size ≤ bo; omega) _).setCell (by show w.heap.size ≤ bo; omega) _).setCell (by show w.heap.size ≤ bo; omega) _, ((HR2.out.store (by show w.heap.size + 1 ≠ bo; omega) _).store (by show w.heap.size + 1 ≠ bo; omega) _).store (by show w.heap.size + 1 ≠ bo; omega) _, aN, nN, cN, aM, nM, cM, (((HO2.out.set 0 _).set 1 _).set 2 _).congr fun i hi => by rcases (show i = 0 ∨ i = 1 ∨ i = 2 by omega) with rfl | rfl | rfl <;> rfl, ?_⟩
              · rw [HRN.out]
              · rw [HRN.out]
                exact (HD2.out.keep fun b hb _ => by rw [Below.heap_setCell _ _ _ _ (by show b ≠ bo; exact hb.2.2), Below.heap_setCell _ _ _ _ (by show b ≠ bo; exact hb.2.2), Below.heap_setCell _ _ _ _ (by show b ≠ bo; exact hb.2.2)]).mono fun b hb => ⟨hb.1, by simpa [World.setCell] using hb.2.1, hb.2.2⟩
            case measure => simp [intOf]; omega
        · have hrn2 := HCD.out hrn
          have HE : Hid (runD l d = (2, [], [])) := by unfold Hid; rw [HSN hrn, hrn2]
          rw [hrn2] at HPU
          clear HSN HCD HRN hrn2 hrn
          go_wp2_with fail
          go_region_with (go_at_call 81; refine (HPU.out _ (Below.refl _ _).drew).mono ?_; rintro e w2 ⟨aN, nN, cN, aM, nM, cM, rfl, hb, hdn⟩
                          have hb' : Below wr.heap.size wr w2 := (Below.refl _ _).drew.trans hb
                          have HB2 : Hid (Below w.heap.size w w2) := HBL.out.trans (hb'.mono HBL.out.size)
                          have HR2 : Hid (OwnRow w2 (w.heap.size + 1) 3 (cel [.int .i64 0, .slice none 0 0, .slice none 0 0])) := HRR.out.later hb'
                          have HO2 : Hid (OwnRow w2 bo 3 (cel (outC aB nB cB aC nC cC))) := HRO.out.later hb'
                          have HD2 : Hid (DiskU w2 (.slice aN nN cN) (.slice aM nM cM) ([], []) (fun b => w.heap.size + 1 < b ∧ b < w2.heap.size ∧ b ≠ bo)) := hdn.mono fun b hb' => ⟨by have : wr.heap.size ≤ b := hb'.1; omega, hb'.2, by have : wr.heap.size ≤ b := hb'.1; omega⟩
                          have q0 : w2.cell? ⟨bo, 0, none⟩ = some (.int .i64 0) := HO2.out.cell (i := 0) (by omega)
                          have q1 : w2.cell? ⟨bo, 1, none⟩ = some (.slice aB nB cB) := HO2.out.cell (i := 1) (by omega)
                          have q2 : w2.cell? ⟨bo, 2, none⟩ = some (.slice aC nC cC) := HO2.out.cell (i := 2) (by omega)
                          have f0 := HO2.out.frozen 0
                          have f1 := HO2.out.frozen 1
                          have f2 := HO2.out.frozen 2
                          have hol2 := HO2.out.lt
                          clear hb hb' hdn)
          all_goals
            have t0 : w2.cell? ⟨w.heap.size + 1, 0, none⟩ = some (.int .i64 0) := HR2.out.cell (i := 0) (by omega)
            have t1 : w2.cell? ⟨w.heap.size + 1, 1, none⟩ = some (.slice none 0 0) := HR2.out.cell (i := 1) (by omega)
            have t2 : w2.cell? ⟨w.heap.size + 1, 2, none⟩ = some (.slice none 0 0) := HR2.out.cell (i := 2) (by omega)
            have s0 := HR2.out.frozen 0
            have s1 := HR2.out.frozen 1
            have s2 := HR2.out.frozen 2
            have hlr := HR2.out.lt
            have hbr : bo ≠ w.heap.size + 1 := by omega
            have HB3 : Hid (Below w.heap.size w (((w2.setCell ⟨bo, 0, none⟩ (.int .i64 2)).setCell ⟨bo, 1, none⟩ (.slice aN nN cN)).setCell ⟨bo, 2, none⟩ (.slice aM nM cM))) := ((HB2.out.setCell (by show w.heap.size ≤ bo; omega) _).setCell (by show w.heap.size ≤ bo; omega) _).setCell (by show w.heap.size ≤ bo; omega) _
            have HD3 : Hid (DiskU (((w2.setCell ⟨bo, 0, none⟩ (.int .i64 2)).setCell ⟨bo, 1, none⟩ (.slice aN nN cN)).setCell ⟨bo, 2, none⟩ (.slice aM nM cM)) (.slice aN nN cN) (.slice aM nM cM) ([], []) (fun b => w.heap.size + 1 < b ∧ b < (((w2.setCell ⟨bo, 0, none⟩ (.int .i64 2)).setCell ⟨bo, 1, none⟩ (.slice aN nN cN)).setCell ⟨bo, 2, none⟩ (.slice aM nM cM)).heap.size)) := (HD2.out.keep fun b hb _ => by rw [Below.heap_setCell _ _ _ _ (by show b ≠ bo; exact hb.2.2), Below.heap_setCell _ _ _ _ (by show b ≠ bo; exact hb.2.2), Below.heap_setCell _ _ _ _ (by show b ≠ bo; exact hb.2.2)]).mono fun b hb => ⟨hb.1, by simpa [World.setCell] using hb.2.1⟩
            clear HPU HRR HRO HBL HL HS HG HST HEN o0 o1 o2 k0 k1 k2
            go_wp2
            exact bodyPost_ret (v := .agg #[.int .i64 2, .slice aN nN cN, .slice aM nM cM]) (by simp [results, Try.results52, go_sem, t0, t1, t2]) rfl (by rw [HE.out]; exact AnsDR.put3 HB3.out (by omega) HD3.out _ _ _)
    · have e : j = n := by omega
      subst e
      have t0 : wr.cell? ⟨w.heap.size + 1, 0, none⟩ = some (.int .i64 0) := HRR.out.cell (i := 0) (by omega)
      have t1 : wr.cell? ⟨w.heap.size + 1, 1, none⟩ = some (.slice none 0 0) := HRR.out.cell (i := 1) (by omega)
      have t2 : wr.cell? ⟨w.heap.size + 1, 2, none⟩ = some (.slice none 0 0) := HRR.out.cell (i := 2) (by omega)
      have f0 := HRR.out.frozen 0
      have f1 := HRR.out.frozen 1
      have f2 := HRR.out.frozen 2
      have hlr := HRR.out.lt
      have HE : Hid (runD l d = (0, (runJ l d j).2)) := by unfold Hid; rw [HEN.out]; exact Prod.ext hc0 rfl
      clear HL HS HG HST HEN HRO HRR
      go_wp2
      exact bodyPost_ret (v := .agg #[.int .i64 0, .slice aB nB cB, .slice aC nC cC]) (by simp [results, Try.results52, go_sem, t0, t1, t2]) rfl (by rw [HE.out]; exact AnsDR.put3 HBL.out (by omega) (HDU.out.mono fun b hb => ⟨hb.1, hb.2.1⟩) _ _ _)
end Go.Proofs.Ytpmndmkmfcoieaa

namespace Go.Proofs.Ytpmndmkmfcoieaa
open Go.RowKit
set_option maxRecDepth 100000

set_option maxHeartbeats 3200000 in
theorem specRunU (w : World) (a1 : Option Addr) (n1 c1 : Nat) (a2 : Option Addr) (n2 c2 : Nat) (d : DK) (a : Option Addr) (n c : Nat) (l : List SD) (h : DiskR w (.slice a1 n1 c1) (.slice a2 n2 c2) d) (hl : AtStp w a n l) (hn : l.length = n) (hm : n ≤ 120) (hst : ∀ i, i < n → stepF (l[i]?.getD sd0) = 0) :
    Calls Try.prog 32 #[.agg #[.slice a1 n1 c1, .slice a2 n2 c2], .slice a n c] w (AnsDR w (runsR l d)) := by
  obtain ⟨_, _, e1, hmx, sB⟩ := h.1.open'
  simp only [Value.slice.injEq] at e1
  obtain ⟨rfl, rfl, rfl⟩ := e1
  obtain ⟨_, _, e2, _, sP⟩ := h.2.open'
  simp only [Value.slice.injEq] at e2
  obtain ⟨rfl, rfl, rfl⟩ := e2
  have HF : Hid (∀ W, Below w.heap.size w W → W.cell? ⟨w.heap.size, 0, none⟩ = some (.slice a1 d.1.length c1) → W.cell? ⟨w.heap.size, 1, none⟩ = some (.slice a2 d.2.length c2) → Calls Try.prog 50 #[.pointer (some ⟨w.heap.size, 0, none⟩)] W fun e w' => e = .returned (.int .i64 (faultF d.1 d.2)) ∧ ∃ m, w' = W.drewN m) := fun W hW x0 x1 => l1Fault_any x0 x1 (h.1.later hW) (h.2.later hW)
  have HSS : Hid (∀ W, Below w.heap.size w W → Calls Try.prog 51 #[.slice a n c] W fun e w' => e = .returned (.int .i64 0) ∧ Below W.heap.size W w') := fun W hW => by
    have := l13Steps_any W a n c l hn (by unfold maxLen; omega) (hl.later hW) (fun k => by
      by_cases hk : k < n
      · have := small_stp (hst k hk); show (l[k]?.getD sd0).2.2.length ≤ 1048576; omega
      · rw [List.getElem?_eq_none (by omega)]; simp [sizeSte, sd0])
    rw [stsF_no (by omega) (by rw [hn]; exact hst)] at this
    exact this
  have HRN : Hid (faultF d.1 d.2 = 0 → d.1.length = 47 → ∀ W, Below w.heap.size w W → Calls Try.prog 52 #[.agg #[.slice a1 d.1.length c1, .slice a2 d.2.length c2], .slice a n c] W (AnsDR W ((runD l d).1, (runD l d).2))) := fun h0 h1 W hW => l13Run_any W a1 _ c1 a2 _ c2 d a n c l (h.later hW) (hl.later hW) hn hm hst (GoodD.of (by unfold sizF; rw [if_pos h0, if_pos h1]))
  have HRA : Hid (faultF d.1 d.2 = 0 → d.1.length = 47 → runsR l d = ((runD l d).1, (runD l d).2)) := fun h0 h1 => by unfold runsR sizF; rw [if_pos h0, if_pos h1, if_pos rfl]
  have HRC : Hid (¬ faultF d.1 d.2 = 0 → runsR l d = (faultF d.1 d.2, [], [])) := fun h0 => by unfold runsR sizF; rw [if_neg h0, if_neg h0]
  have HRE : Hid (faultF d.1 d.2 = 0 → ¬ d.1.length = 47 → runsR l d = (1, [], [])) := fun h0 h1 => by unfold runsR sizF; rw [if_pos h0, if_neg h1, if_neg (by decide)]
  unfold maxLen at hmx
  clear h sB sP hl hst hn
  generalize runsR l d = RES at *
  generalize (runD l d).1 = qc at *
  generalize (runD l d).2 = qd at *
  generalize faultF d.1 d.2 = r at *
  generalize d.1.length = n1 at *
  generalize d.2.length = n2 at *
  have HB0 : Hid (Below w.heap.size w ((w.alloc (.cells #[.slice a1 n1 c1, .slice a2 n2 c2] 30)).alloc (.cells #[.int .i64 0, .slice none 0 0, .slice none 0 0] 32))) := later2 _ _ _
  have HX0 : Hid (Bx ((w.alloc (.cells #[.slice a1 n1 c1, .slice a2 n2 c2] 30)).alloc (.cells #[.int .i64 0, .slice none 0 0, .slice none 0 0] 32)) (w.heap.size) [.slice a1 n1 c1, .slice a2 n2 c2]) := (Bx.new w [.slice a1 n1 c1, .slice a2 n2 c2] _).later (later1 _ _)
  have HR0 : Hid (OwnRow ((w.alloc (.cells #[.slice a1 n1 c1, .slice a2 n2 c2] 30)).alloc (.cells #[.int .i64 0, .slice none 0 0, .slice none 0 0] 32)) (w.heap.size + 1) 3 (cel [.int .i64 0, .slice none 0 0, .slice none 0 0])) := (show OwnRow ((w.alloc (.cells #[.slice a1 n1 c1, .slice a2 n2 c2] 30)).alloc (.cells #[.int .i64 0, .slice none 0 0, .slice none 0 0] 32)) (w.heap.size + 1) 3 (cel [.int .i64 0, .slice none 0 0, .slice none 0 0]) from by have := newCel (w.alloc (.cells #[.slice a1 n1 c1, .slice a2 n2 c2] 30)) [.int .i64 0, .slice none 0 0, .slice none 0 0] 32; rw [World.size_alloc] at this; exact this)
  go_enter Try.func32, Try.ntmps32
  go_wp2_with fail
  refine (HF.out _ HB0.out (HX0.out 0 _ rfl) (HX0.out 1 _ rfl)).mono ?_
  rintro e w1 ⟨rfl, m, rfl⟩
  have hb := below_drewN (Below.refl ((w.alloc (.cells #[.slice a1 n1 c1, .slice a2 n2 c2] 30)).alloc (.cells #[.int .i64 0, .slice none 0 0, .slice none 0 0] 32)).heap.size ((w.alloc (.cells #[.slice a1 n1 c1, .slice a2 n2 c2] 30)).alloc (.cells #[.int .i64 0, .slice none 0 0, .slice none 0 0] 32))) m
  have HB1 : Hid (Below w.heap.size w (((w.alloc (.cells #[.slice a1 n1 c1, .slice a2 n2 c2] 30)).alloc (.cells #[.int .i64 0, .slice none 0 0, .slice none 0 0] 32)).drewN m)) := HB0.out.trans (hb.mono HB0.out.size)
  have HX1 : Hid (Bx (((w.alloc (.cells #[.slice a1 n1 c1, .slice a2 n2 c2] 30)).alloc (.cells #[.int .i64 0, .slice none 0 0, .slice none 0 0] 32)).drewN m) (w.heap.size) [.slice a1 n1 c1, .slice a2 n2 c2]) := HX0.out.later hb
  have HR1 : Hid (OwnRow (((w.alloc (.cells #[.slice a1 n1 c1, .slice a2 n2 c2] 30)).alloc (.cells #[.int .i64 0, .slice none 0 0, .slice none 0 0] 32)).drewN m) (w.heap.size + 1) 3 (cel [.int .i64 0, .slice none 0 0, .slice none 0 0])) := HR0.out.later hb
  clear hb
  generalize (((w.alloc (.cells #[.slice a1 n1 c1, .slice a2 n2 c2] 30)).alloc (.cells #[.int .i64 0, .slice none 0 0, .slice none 0 0] 32)).drewN m) = w1 at *
  by_cases hf : r = 0
  · skip
    have hfb : (r != 0) = false := by simpa using hf
    by_cases hq : n1 = 47
    · skip
      have h47 : (((n1 : Nat) : Int) != 47) = false := by simp; omega
      replace HRA : Hid _ := HRA.out hf hq
      replace HRN : Hid _ := HRN.out hf hq
      clear HRC HRE HF hq
      have HE : Hid (RES = (qc, qd)) := HRA.out
      clear HRA
      have xHX0 := HX1.out 0 _ rfl
      have xHX1 := HX1.out 1 _ rfl
      go_wp2_with fail
      clear xHX0 xHX1
      refine (HSS.out _ HB1.out).mono ?_
      rintro e w2 ⟨rfl, hb⟩
      have HB2 : Hid (Below w.heap.size w w2) := HB1.out.trans (hb.mono HB1.out.size)
      have HX2 : Hid (Bx w2 (w.heap.size) [.slice a1 n1 c1, .slice a2 n2 c2]) := HX1.out.later hb
      have HR2 : Hid (OwnRow w2 (w.heap.size + 1) 3 (cel [.int .i64 0, .slice none 0 0, .slice none 0 0])) := HR1.out.later hb
      clear hb
      have xHX0 := HX2.out 0 _ rfl
      have xHX1 := HX2.out 1 _ rfl
      go_wp2_with fail
      clear xHX0 xHX1
      refine (HRN.out _ HB2.out).mono ?_
      rintro e w3 ⟨aB, nB, cB, aC, nC, cC, rfl, hb, hdu⟩
      have HDK : Hid (DiskU w3 (.slice aB nB cB) (.slice aC nC cC) qd (fun b => w.heap.size + 1 < b ∧ b < w3.heap.size)) := hdu.mono fun b hb' => ⟨by have := hb'.1; have := HR2.out.lt; omega, hb'.2⟩
      clear hdu HSS HRN
      have HB3 : Hid (Below w.heap.size w w3) := HB2.out.trans (hb.mono HB2.out.size)
      have HX3 : Hid (Bx w3 (w.heap.size) [.slice a1 n1 c1, .slice a2 n2 c2]) := HX2.out.later hb
      have HR3 : Hid (OwnRow w3 (w.heap.size + 1) 3 (cel [.int .i64 0, .slice none 0 0, .slice none 0 0])) := HR2.out.later hb
      clear hb
      have hrr := HR3.out
      have t0 : w3.cell? ⟨w.heap.size + 1, 0, none⟩ = some (.int .i64 0) := hrr.cell (i := 0) (by omega)
      have t1 : w3.cell? ⟨w.heap.size + 1, 1, none⟩ = some (.slice none 0 0) := hrr.cell (i := 1) (by omega)
      have t2 : w3.cell? ⟨w.heap.size + 1, 2, none⟩ = some (.slice none 0 0) := hrr.cell (i := 2) (by omega)
      have f0 := hrr.frozen 0
      have f1 := hrr.frozen 1
      have f2 := hrr.frozen 2
      have hlr := hrr.lt
      clear hrr
      go_wp2
      exact bodyPost_ret (v := .agg #[.int .i64 qc, .slice aB nB cB, .slice aC nC cC]) (by simp [results, Try.results32, go_sem, t0, t1, t2]) rfl (by rw [HE.out]; exact AnsDR.put3 HB3.out (by omega) HDK.out _ _ _)
    · skip
      have h47 : (((n1 : Nat) : Int) != 47) = true := by simp; omega
      have HE : Hid (RES = (1, [], [])) := HRE.out hf hq
      clear HRA HRC HRE HRN HSS HF
      have xHX0 := HX1.out 0 _ rfl
      have hrr := HR1.out
      have t0 : w1.cell? ⟨w.heap.size + 1, 0, none⟩ = some (.int .i64 0) := hrr.cell (i := 0) (by omega)
      have t1 : w1.cell? ⟨w.heap.size + 1, 1, none⟩ = some (.slice none 0 0) := hrr.cell (i := 1) (by omega)
      have t2 : w1.cell? ⟨w.heap.size + 1, 2, none⟩ = some (.slice none 0 0) := hrr.cell (i := 2) (by omega)
      have f0 := hrr.frozen 0
      have f1 := hrr.frozen 1
      have f2 := hrr.frozen 2
      have hlr := hrr.lt
      clear hrr
      go_wp2
      exact bodyPost_ret (v := .agg #[.int .i64 1, .slice none 0 0, .slice none 0 0]) (by simp [results, Try.results32, go_sem, t0, t1, t2]) rfl (by rw [HE.out]; exact AnsDR.put3 HB1.out (by omega) (DiskU.none' _ _) _ _ _)
  · skip
    have hbb : (r != 0) = true := by simpa using hf
    have HE : Hid (RES = (r, [], [])) := HRC.out hf
    clear HRA HRC HRE HRN HSS HF
    have hrr := HR1.out
    have t0 : w1.cell? ⟨w.heap.size + 1, 0, none⟩ = some (.int .i64 0) := hrr.cell (i := 0) (by omega)
    have t1 : w1.cell? ⟨w.heap.size + 1, 1, none⟩ = some (.slice none 0 0) := hrr.cell (i := 1) (by omega)
    have t2 : w1.cell? ⟨w.heap.size + 1, 2, none⟩ = some (.slice none 0 0) := hrr.cell (i := 2) (by omega)
    have f0 := hrr.frozen 0
    have f1 := hrr.frozen 1
    have f2 := hrr.frozen 2
    have hlr := hrr.lt
    clear hrr
    go_wp2
    exact bodyPost_ret (v := .agg #[.int .i64 r, .slice none 0 0, .slice none 0 0]) (by simp [results, Try.results32, go_sem, t0, t1, t2]) rfl (by rw [HE.out]; exact AnsDR.put3 HB1.out (by omega) (DiskU.none' _ _) _ _ _)

end Go.Proofs.Ytpmndmkmfcoieaa

namespace Go.Proofs.Ytpmndmkmfcoieaa
open Go.RowKit
set_option maxRecDepth 100000

set_option maxHeartbeats 6400000 in
theorem specCutU (w : World) (a1 : Option Addr) (n1 c1 : Nat) (a2 : Option Addr) (n2 c2 : Nat) (d : DK) (p0 : Int) (aS : Option Addr) (nS cS : Nat) (l : List SD) (x : Int) (aP : Option Addr) (nP cP : Nat) (bb : List Bool) (h : DiskR w (.slice a1 n1 c1) (.slice a2 n2 c2) d) (_hs : sizeDisk d ≤ 1048576) (hl : AtStp w aS nS l) (hn : l.length = nS) (hc : nS ≤ cS) (hm : nS ≤ 120) (hst : ∀ i, i < nS → stepF (l[i]?.getD sd0) = 0) (hb : Bools w (.slice aP nP cP) bb) (hbl : bb.length ≤ 1048576) :
    Calls Try.prog 18 #[.agg #[.slice a1 n1 c1, .slice a2 n2 c2], .agg #[.int .i64 p0, .slice aS nS cS], .int .i64 x, .slice aP nP cP] w (AnsDR w (cutR d (p0, l) x bb)) := by
  have HBAD : Hid (¬ p0 = 0 → cutR d (p0, l) x bb = (p0, [], [])) := fun h0 => by unfold cutR; rw [if_neg h0]
  have HRNG : Hid (p0 = 0 → ¬ (0 ≤ x ∧ x ≤ (nS : Int)) → cutR d (p0, l) x bb = (3, [], [])) := fun h0 h1 => by unfold cutR; rw [if_pos h0, if_neg (by rw [show ((p0, l) : Int × List SD).2.length = nS from hn]; exact h1)]
  have HOK : Hid (p0 = 0 → ∀ k : Nat, x = (k : Int) → k ≤ nS → cutR d (p0, l) x bb = if (runsR (l.take k) d).1 = 0 then crashR (runsR (l.take k) d).2 bb else runsR (l.take k) d) := fun h0 k e hk => by
    unfold cutR
    rw [if_pos h0, if_pos (by rw [show ((p0, l) : Int × List SD).2.length = nS from hn]; omega), e, Int.toNat_natCast]
  have HTK : Hid (∀ k, k ≤ nS → ∀ i, i < (l.take k).length → stepF ((l.take k)[i]?.getD sd0) = 0) := fun k hk i hi => by
    rw [List.length_take] at hi
    rw [take_get _ (by omega)]
    exact hst i (by omega)
  have HSM : Hid (∀ k, k ≤ nS → (runsR (l.take k) d).1 = 0 → sizeDisk (runsR (l.take k) d).2 ≤ 1048576) := fun k hk h0 => runs_size (HTK.out k hk) h0
  have HRN : Hid (∀ k, k ≤ nS → ∀ W, Below w.heap.size w W → Calls Try.prog 32 #[.agg #[.slice a1 n1 c1, .slice a2 n2 c2], .slice aS k cS] W (AnsDR W ((runsR (l.take k) d).1, (runsR (l.take k) d).2))) := fun k hk W hW => specRunU W _ _ _ _ _ _ d aS k cS (l.take k) (h.later hW) ((hl.later hW).take hk) (by rw [List.length_take]; omega) (by omega) (fun i hi => HTK.out k hk i (by rw [List.length_take]; omega))
  have HCR : Hid (∀ W aB nB cB aC nC cC RD, Below w.heap.size w W → DiskR W (.slice aB nB cB) (.slice aC nC cC) RD → sizeDisk RD ≤ 1048576 → Calls Try.prog 33 #[.agg #[.slice aB nB cB, .slice aC nC cC], .slice aP nP cP] W (AnsDR W ((crashR RD bb).1, (crashR RD bb).2))) := fun W aB nB cB aC nC cC RD hW hr hz => specCrashU W _ _ _ _ _ _ RD aP nP cP bb hr (hb.later hW) hz hbl
  have HCC : Hid (nS ≤ cS) := hc
  clear h hl _hs hst hb hbl hn hc
  generalize cutR d (p0, l) x bb = RES at *
  have HB0 : Hid (Below w.heap.size w (((w.alloc (.cells #[.slice a1 n1 c1, .slice a2 n2 c2] 30)).alloc (.cells #[.int .i64 p0, .slice aS nS cS] 48)).alloc (.cells #[.int .i64 0, .slice none 0 0, .slice none 0 0] 32))) := later3 _ _ _ _
  have HD0 : Hid (Bx (((w.alloc (.cells #[.slice a1 n1 c1, .slice a2 n2 c2] 30)).alloc (.cells #[.int .i64 p0, .slice aS nS cS] 48)).alloc (.cells #[.int .i64 0, .slice none 0 0, .slice none 0 0] 32)) (w.heap.size) [.slice a1 n1 c1, .slice a2 n2 c2]) := (Bx.new w [.slice a1 n1 c1, .slice a2 n2 c2] _).later (later2 _ _ _)
  have HX0 : Hid (Bx (((w.alloc (.cells #[.slice a1 n1 c1, .slice a2 n2 c2] 30)).alloc (.cells #[.int .i64 p0, .slice aS nS cS] 48)).alloc (.cells #[.int .i64 0, .slice none 0 0, .slice none 0 0] 32)) (w.heap.size + 1) [.int .i64 p0, .slice aS nS cS]) := ((show Bx ((w.alloc (.cells #[.slice a1 n1 c1, .slice a2 n2 c2] 30)).alloc (.cells #[.int .i64 p0, .slice aS nS cS] 48)) (w.heap.size + 1) [.int .i64 p0, .slice aS nS cS] from by have := Bx.new (w.alloc (.cells #[.slice a1 n1 c1, .slice a2 n2 c2] 30)) [.int .i64 p0, .slice aS nS cS] 48; rw [World.size_alloc] at this; exact this)).later (later1 _ _)
  have HR0 : Hid (OwnRow (((w.alloc (.cells #[.slice a1 n1 c1, .slice a2 n2 c2] 30)).alloc (.cells #[.int .i64 p0, .slice aS nS cS] 48)).alloc (.cells #[.int .i64 0, .slice none 0 0, .slice none 0 0] 32)) (w.heap.size + 2) 3 (cel [.int .i64 0, .slice none 0 0, .slice none 0 0])) := (show OwnRow (((w.alloc (.cells #[.slice a1 n1 c1, .slice a2 n2 c2] 30)).alloc (.cells #[.int .i64 p0, .slice aS nS cS] 48)).alloc (.cells #[.int .i64 0, .slice none 0 0, .slice none 0 0] 32)) (w.heap.size + 2) 3 (cel [.int .i64 0, .slice none 0 0, .slice none 0 0]) from by have := newCel ((w.alloc (.cells #[.slice a1 n1 c1, .slice a2 n2 c2] 30)).alloc (.cells #[.int .i64 p0, .slice aS nS cS] 48)) [.int .i64 0, .slice none 0 0, .slice none 0 0] 32; simp only [World.size_alloc, Nat.add_assoc] at this; exact this)
  go_enter Try.func18, Try.ntmps18
  by_cases hf : p0 = 0
  · skip
    have hfb : (p0 != 0) = false := by simpa using hf
    by_cases hx : 0 ≤ x ∧ x ≤ (nS : Int)
    · skip
      obtain ⟨k, rfl⟩ : ∃ k : Nat, x = (k : Int) := ⟨x.toNat, by omega⟩
      have hk : k ≤ nS := by omega
      have HQ : Hid (∀ W, Calls Try.prog 31 #[.int .i64 (k : Int), .int .i64 0, .int .i64 (nS : Int)] W fun e w' => e = .returned (.bool true) ∧ w' = W) := fun W => by have := l1In_any W k 0 (nS : Int); rw [decide_eq_true hx] at this; exact this
      have hslc := slice_takeS aS nS cS k hk HCC.out
      replace HOK : Hid _ := HOK.out hf k rfl hk
      replace HSM : Hid _ := HSM.out k hk
      replace HRN : Hid _ := HRN.out k hk
      clear HBAD HRNG HTK HCC hf hx
      generalize runsR (l.take k) d = RR at *
      obtain ⟨rc, RD⟩ := RR
      have xHX0 := HX0.out 0 _ rfl
      have xHX1 := HX0.out 1 _ rfl
      have xHD0 := HD0.out 0 _ rfl
      have xHD1 := HD0.out 1 _ rfl
      go_wp2_with fail
      clear xHX0 xHX1 xHD0 xHD1
      refine (HQ.out _).mono ?_
      rintro e w' ⟨rfl, rfl⟩
      have xHX0 := HX0.out 0 _ rfl
      have xHX1 := HX0.out 1 _ rfl
      have xHD0 := HD0.out 0 _ rfl
      have xHD1 := HD0.out 1 _ rfl
      go_wp2_with fail
      clear xHX0 xHX1 xHD0 xHD1
      generalize (((w.alloc (.cells #[.slice a1 n1 c1, .slice a2 n2 c2] 30)).alloc (.cells #[.int .i64 p0, .slice aS nS cS] 48)).alloc (.cells #[.int .i64 0, .slice none 0 0, .slice none 0 0] 32)) = W0 at *
      have HA1 : Hid (Below W0.heap.size W0 W0.drew) := (Below.refl _ _).drew
      have HA2 : Hid (Below W0.heap.size W0 (W0.drew.alloc (.cells #[.int .i64 0, .slice none 0 0, .slice none 0 0] 32))) := (Below.refl _ _).drew.trans (later1 W0.drew _)
      have HZ2 : Hid (OwnRow (W0.drew.alloc (.cells #[.int .i64 0, .slice none 0 0, .slice none 0 0] 32)) W0.heap.size 3 (cel [.int .i64 0, .slice none 0 0, .slice none 0 0])) := newCel W0.drew [.int .i64 0, .slice none 0 0, .slice none 0 0] _
      have HR1 : Hid (∀ W, Below W0.heap.size W0 W → Calls Try.prog 32 #[.agg #[.slice a1 n1 c1, .slice a2 n2 c2], .slice aS k cS] W (AnsDR W (rc, RD))) := fun W hW => HRN.out W (HB0.out.trans (hW.mono HB0.out.size))
      clear HRN
      go_cut [9] from 26 (fun s9 wx => ∃ g aB nB cB aC nC cC, s9 = .pointer (some ⟨g, 0, none⟩) ∧ Dned W0 wx (rc, RD) g aB nB cB aC nC cC)
      case first =>
        have hl2 : w.heap.size + 2 < W0.heap.size := HR0.out.lt
        have hl1 : w.heap.size + 1 < W0.heap.size := by omega
        have hl0 : w.heap.size < W0.heap.size := by omega
        have x0 := HX0.out 0 _ rfl
        have x1 := HX0.out 1 _ rfl
        have x2 := HD0.out 0 _ rfl
        have x3 := HD0.out 1 _ rfl
        go_wp2_with fail
        go_region_law (try go_simp; first
          | (go_at_call 32; refine (HR1.out W0.drew HA1.out).mono ?_; rintro e w2 ⟨aB, nB, cB, aC, nC, cC, rfl, hb2, ho2⟩
             have HPA : Hid (∀ t, Dned W0 (w2.alloc (.cells #[.int .i64 rc, .slice aB nB cB, .slice aC nC cC] t)) (rc, RD) w2.heap.size aB nB cB aC nC cC) := fun t => Dned.after HA1.out hb2 ho2 t
             clear hb2 ho2)
          | (go_at_call 32; refine (HR1.out (W0.drew.alloc (.cells #[.int .i64 0, .slice none 0 0, .slice none 0 0] 32)) HA2.out).mono ?_; rintro e w2 ⟨aB, nB, cB, aC, nC, cC, rfl, hb2, ho2⟩
             have HRW : Hid (OwnRow w2 W0.heap.size 3 (cel [.int .i64 0, .slice none 0 0, .slice none 0 0])) := HZ2.out.later hb2
             have t0 : w2.cell? ⟨W0.heap.size, 0, none⟩ = some (.int .i64 0) := HRW.out.cell (i := 0) (by decide)
             have t1 : w2.cell? ⟨W0.heap.size, 1, none⟩ = some (.slice none 0 0) := HRW.out.cell (i := 1) (by decide)
             have t2 : w2.cell? ⟨W0.heap.size, 2, none⟩ = some (.slice none 0 0) := HRW.out.cell (i := 2) (by decide)
             have s0 : w2.frozen? ⟨W0.heap.size, 0, none⟩ = false := HRW.out.frozen 0
             have s1 : w2.frozen? ⟨W0.heap.size, 1, none⟩ = false := HRW.out.frozen 1
             have s2 : w2.frozen? ⟨W0.heap.size, 2, none⟩ = false := HRW.out.frozen 2
             have hlg : W0.heap.size < w2.heap.size := HRW.out.lt
             have HPA : Hid (Dned W0 (((w2.setCell ⟨W0.heap.size, 0, none⟩ (.int .i64 rc)).setCell ⟨W0.heap.size, 1, none⟩ (.slice aB nB cB)).setCell ⟨W0.heap.size, 2, none⟩ (.slice aC nC cC)) (rc, RD) W0.heap.size aB nB cB aC nC cC) := Dned.ahead (r := (rc, RD)) HA2.out (Nat.le_refl _) HZ2.out.lt _ HZ2.out hb2 ho2
             clear hb2 ho2)
          )
        all_goals
          go_wp2
          go_meet
          case rel => first | exact ⟨_, aB, nB, cB, aC, nC, cC, rfl, HPA.out _⟩ | exact ⟨_, aB, nB, cB, aC, nC, cC, rfl, HPA.out⟩
      case rest =>
        obtain ⟨g, aB, nB, cB, aC, nC, cC, rfl, hpk⟩ := hcut
        obtain ⟨hb, hgW, hbx, hio⟩ := hpk
        clear hslc HA1 HA2 HZ2 HR1
        have HRL : Hid (w.heap.size + 2 < W0.heap.size) := HR0.out.lt
        have HGW : Hid (W0.heap.size ≤ g) := hgW
        have HSW : Hid (W0.heap.size ≤ wc.heap.size) := hb.size
        clear hgW
        have HB1 : Hid (Below w.heap.size w wc) := HB0.out.trans (hb.mono HB0.out.size)
        have HD1 : Hid (Bx wc (w.heap.size) [.slice a1 n1 c1, .slice a2 n2 c2]) := HD0.out.later hb
        have HX1 : Hid (Bx wc (w.heap.size + 1) [.int .i64 p0, .slice aS nS cS]) := HX0.out.later hb
        have HR1 : Hid (OwnRow wc (w.heap.size + 2) 3 (cel [.int .i64 0, .slice none 0 0, .slice none 0 0])) := HR0.out.later hb
        clear hb
        have hgl : g < wc.heap.size := hbx.lt
        have HG1 : Hid (Bx wc g [.int .i64 rc, .slice aB nB cB, .slice aC nC cC]) := hbx
        have HO1 : Hid (DiskU wc (.slice aB nB cB) (.slice aC nC cC) RD (fun b => W0.heap.size ≤ b ∧ b < wc.heap.size ∧ b ≠ g)) := hio
        clear hbx hio
        by_cases hr : rc = 0
        · skip
          have hrb : (rc != 0) = false := by simpa using hr
          have HE : Hid (RES = crashR RD bb) := by have := HOK.out; unfold Hid; rw [this]; exact if_pos hr
          replace HSM : Hid (sizeDisk RD ≤ 1048576) := HSM.out hr
          clear HOK
          have HCN : Hid (Calls Try.prog 33 #[.agg #[.slice aB nB cB, .slice aC nC cC], .slice aP nP cP] wc (AnsDR wc ((crashR RD bb).1, (crashR RD bb).2))) := HCR.out wc _ _ _ _ _ _ RD HB1.out HO1.out.reads HSM.out
          clear HCR HSM hr
          have HE2 : Hid (RES = ((crashR RD bb).1, (crashR RD bb).2)) := HE.out
          clear HE
          generalize (crashR RD bb).1 = qc at *
          generalize (crashR RD bb).2 = qd at *
          have xHG0 := HG1.out 0 _ rfl
          have xHG1 := HG1.out 1 _ rfl
          have xHG2 := HG1.out 2 _ rfl
          go_wp2_with fail
          clear xHG0 xHG1 xHG2
          refine HCN.out.mono ?_
          rintro e w3 ⟨aE, nE, cE, aF, nF, cF, rfl, hb, hdu⟩
          have HRL2 : Hid (w.heap.size + 2 < wc.heap.size) := by have := HRL.out; have := HSW.out; unfold Hid; omega
          have HDK : Hid (DiskU w3 (.slice aE nE cE) (.slice aF nF cF) qd (fun b => w.heap.size + 2 < b ∧ b < w3.heap.size)) := hdu.mono fun b hb' => ⟨by have := hb'.1; have := HRL2.out; omega, hb'.2⟩
          clear hdu HCN
          have HB2 : Hid (Below w.heap.size w w3) := HB1.out.trans (hb.mono HB1.out.size)
          have HD2 : Hid (Bx w3 (w.heap.size) [.slice a1 n1 c1, .slice a2 n2 c2]) := HD1.out.later hb
          have HX2 : Hid (Bx w3 (w.heap.size + 1) [.int .i64 p0, .slice aS nS cS]) := HX1.out.later hb
          have HR2 : Hid (OwnRow w3 (w.heap.size + 2) 3 (cel [.int .i64 0, .slice none 0 0, .slice none 0 0])) := HR1.out.later hb
          have HG2 : Hid (Bx w3 g [.int .i64 rc, .slice aB nB cB, .slice aC nC cC]) := HG1.out.later hb
          have HO2 : Hid (DiskU w3 (.slice aB nB cB) (.slice aC nC cC) RD (fun b => W0.heap.size ≤ b ∧ b < wc.heap.size ∧ b ≠ g)) := HO1.out.later hb
          clear hb
          have hrr := HR2.out
          have t0 : w3.cell? ⟨w.heap.size + 2, 0, none⟩ = some (.int .i64 0) := hrr.cell (i := 0) (by omega)
          have t1 : w3.cell? ⟨w.heap.size + 2, 1, none⟩ = some (.slice none 0 0) := hrr.cell (i := 1) (by omega)
          have t2 : w3.cell? ⟨w.heap.size + 2, 2, none⟩ = some (.slice none 0 0) := hrr.cell (i := 2) (by omega)
          have f0 := hrr.frozen 0
          have f1 := hrr.frozen 1
          have f2 := hrr.frozen 2
          have hlr := hrr.lt
          clear hrr
          go_wp2
          exact bodyPost_ret (v := .agg #[.int .i64 qc, .slice aE nE cE, .slice aF nF cF]) (by simp [results, Try.results18, go_sem, t0, t1, t2]) rfl (by rw [HE2.out]; exact AnsDR.put3 HB2.out (by omega) HDK.out _ _ _)
        · skip
          have hrb : (rc != 0) = true := by simpa using hr
          have HE : Hid (RES = (rc, RD)) := by have := HOK.out; unfold Hid; rw [this]; exact if_neg hr
          clear HOK HSM HCR hr
          have xHG0 := HG1.out 0 _ rfl
          have xHG1 := HG1.out 1 _ rfl
          have xHG2 := HG1.out 2 _ rfl
          have hrr := HR1.out
          have t0 : wc.cell? ⟨w.heap.size + 2, 0, none⟩ = some (.int .i64 0) := hrr.cell (i := 0) (by omega)
          have t1 : wc.cell? ⟨w.heap.size + 2, 1, none⟩ = some (.slice none 0 0) := hrr.cell (i := 1) (by omega)
          have t2 : wc.cell? ⟨w.heap.size + 2, 2, none⟩ = some (.slice none 0 0) := hrr.cell (i := 2) (by omega)
          have f0 := hrr.frozen 0
          have f1 := hrr.frozen 1
          have f2 := hrr.frozen 2
          have hlr := hrr.lt
          clear hrr
          go_wp2
          exact bodyPost_ret (v := .agg #[.int .i64 rc, .slice aB nB cB, .slice aC nC cC]) (by simp [results, Try.results18, go_sem, t0, t1, t2]) rfl (by rw [HE.out]; exact AnsDR.put3 HB1.out (by omega) (HO1.out.mono fun b hb' => ⟨by have := HRL.out; have := hb'.1; omega, hb'.2.1⟩) _ _ _)
    · skip
      have HE : Hid (RES = (3, [], [])) := HRNG.out hf hx
      have HQ : Hid (∀ W, Calls Try.prog 31 #[.int .i64 x, .int .i64 0, .int .i64 (nS : Int)] W fun e w' => e = .returned (.bool false) ∧ w' = W) := fun W => by have := l1In_any W x 0 (nS : Int); rw [decide_eq_false hx] at this; exact this
      clear HBAD HRNG HOK HTK HSM HRN HCR HCC hf hx
      have xHX0 := HX0.out 0 _ rfl
      have xHX1 := HX0.out 1 _ rfl
      go_wp2_with fail
      clear xHX0 xHX1
      refine (HQ.out _).mono ?_
      rintro e w' ⟨rfl, rfl⟩
      have hrr := HR0.out
      have t0 : (((w.alloc (.cells #[.slice a1 n1 c1, .slice a2 n2 c2] 30)).alloc (.cells #[.int .i64 p0, .slice aS nS cS] 48)).alloc (.cells #[.int .i64 0, .slice none 0 0, .slice none 0 0] 32)).cell? ⟨w.heap.size + 2, 0, none⟩ = some (.int .i64 0) := hrr.cell (i := 0) (by omega)
      have t1 : (((w.alloc (.cells #[.slice a1 n1 c1, .slice a2 n2 c2] 30)).alloc (.cells #[.int .i64 p0, .slice aS nS cS] 48)).alloc (.cells #[.int .i64 0, .slice none 0 0, .slice none 0 0] 32)).cell? ⟨w.heap.size + 2, 1, none⟩ = some (.slice none 0 0) := hrr.cell (i := 1) (by omega)
      have t2 : (((w.alloc (.cells #[.slice a1 n1 c1, .slice a2 n2 c2] 30)).alloc (.cells #[.int .i64 p0, .slice aS nS cS] 48)).alloc (.cells #[.int .i64 0, .slice none 0 0, .slice none 0 0] 32)).cell? ⟨w.heap.size + 2, 2, none⟩ = some (.slice none 0 0) := hrr.cell (i := 2) (by omega)
      have f0 := hrr.frozen 0
      have f1 := hrr.frozen 1
      have f2 := hrr.frozen 2
      have hlr := hrr.lt
      clear hrr
      go_wp2
      all_goals exact bodyPost_ret (v := .agg #[.int .i64 3, .slice none 0 0, .slice none 0 0]) (by simp [results, Try.results18, go_sem]) rfl (by rw [HE.out]; exact ⟨none, 0, 0, none, 0, 0, rfl, later3 _ _ _ _, DiskU.none' _ _⟩)
  · skip
    have hfb : (p0 != 0) = true := by simpa using hf
    have HE : Hid (RES = (p0, [], [])) := HBAD.out hf
    clear HBAD HRNG HOK HTK HSM HRN HCR HCC hf
    have xHX0 := HX0.out 0 _ rfl
    have xHX1 := HX0.out 1 _ rfl
    have hrr := HR0.out
    have t0 : (((w.alloc (.cells #[.slice a1 n1 c1, .slice a2 n2 c2] 30)).alloc (.cells #[.int .i64 p0, .slice aS nS cS] 48)).alloc (.cells #[.int .i64 0, .slice none 0 0, .slice none 0 0] 32)).cell? ⟨w.heap.size + 2, 0, none⟩ = some (.int .i64 0) := hrr.cell (i := 0) (by omega)
    have t1 : (((w.alloc (.cells #[.slice a1 n1 c1, .slice a2 n2 c2] 30)).alloc (.cells #[.int .i64 p0, .slice aS nS cS] 48)).alloc (.cells #[.int .i64 0, .slice none 0 0, .slice none 0 0] 32)).cell? ⟨w.heap.size + 2, 1, none⟩ = some (.slice none 0 0) := hrr.cell (i := 1) (by omega)
    have t2 : (((w.alloc (.cells #[.slice a1 n1 c1, .slice a2 n2 c2] 30)).alloc (.cells #[.int .i64 p0, .slice aS nS cS] 48)).alloc (.cells #[.int .i64 0, .slice none 0 0, .slice none 0 0] 32)).cell? ⟨w.heap.size + 2, 2, none⟩ = some (.slice none 0 0) := hrr.cell (i := 2) (by omega)
    have f0 := hrr.frozen 0
    have f1 := hrr.frozen 1
    have f2 := hrr.frozen 2
    have hlr := hrr.lt
    clear hrr
    go_wp2
    all_goals exact bodyPost_ret (v := .agg #[.int .i64 p0, .slice none 0 0, .slice none 0 0]) (by simp [results, Try.results18, go_sem]) rfl (by rw [HE.out]; exact ⟨none, 0, 0, none, 0, 0, rfl, later3 _ _ _ _, DiskU.none' _ _⟩)

end Go.Proofs.Ytpmndmkmfcoieaa

namespace Go.Proofs.Ytpmndmkmfcoieaa
open Go.RowKit
set_option maxRecDepth 100000

set_option maxHeartbeats 6400000 in
theorem implCrashMU (w : World) (a1 : Option Addr) (n1 c1 : Nat) (a2 : Option Addr) (n2 c2 : Nat) (d : DK) (x : Int) (aP : Option Addr) (nP cP : Nat) (bb : List Bool) (h : DiskR w (.slice a1 n1 c1) (.slice a2 n2 c2) d) (hb : Bools w (.slice aP nP cP) bb) (hs : sizeDisk d ≤ 1048576) (hbl : bb.length ≤ 1048576) :
    Calls Try.prog 8 #[.agg #[.slice a1 n1 c1, .slice a2 n2 c2], .int .i64 x, .slice aP nP cP] w (AnsDR w (crashMR d x bb)) := by
  have HPL : Hid (∀ W, Below w.heap.size w W → Calls Try.prog 23 #[.agg #[.slice a1 n1 c1, .slice a2 n2 c2]] W (AnsSR W ((planR d).1, (planR d).2))) := fun W hW => implPlanU W _ _ _ _ _ _ d (h.later hW) hs
  have HCT : Hid (∀ W aS cS, Below w.heap.size w W → AtStp W aS (planR d).2.length (planR d).2 → (planR d).2.length ≤ cS → Calls Try.prog 22 #[.agg #[.slice a1 n1 c1, .slice a2 n2 c2], .agg #[.int .i64 (planR d).1, .slice aS (planR d).2.length cS], .int .i64 x, .slice aP nP cP] W (AnsDR W ((cutR d ((planR d).1, (planR d).2) x bb).1, (cutR d ((planR d).1, (planR d).2) x bb).2))) := fun W aS cS hW hat hc => implCutU W _ _ _ _ _ _ d _ aS _ cS _ x aP nP cP bb (h.later hW) hs hat rfl hc (plan_few d) (fun i hi => plan_ok i hi) (hb.later hW) hbl
  have HRES : Hid (crashMR d x bb = ((cutR d ((planR d).1, (planR d).2) x bb).1, (cutR d ((planR d).1, (planR d).2) x bb).2)) := rfl
  clear h hs hb hbl
  generalize crashMR d x bb = RES at *
  generalize (cutR d ((planR d).1, (planR d).2) x bb).1 = qc at *
  generalize (cutR d ((planR d).1, (planR d).2) x bb).2 = qd at *
  generalize (planR d).1 = p0 at *
  generalize (planR d).2 = pl at *
  have HB0 : Hid (Below w.heap.size w ((w.alloc (.cells #[.slice a1 n1 c1, .slice a2 n2 c2] 30)).alloc (.cells #[.int .i64 0, .slice none 0 0, .slice none 0 0] 32))) := later2 _ _ _
  have HD0 : Hid (Bx ((w.alloc (.cells #[.slice a1 n1 c1, .slice a2 n2 c2] 30)).alloc (.cells #[.int .i64 0, .slice none 0 0, .slice none 0 0] 32)) (w.heap.size) [.slice a1 n1 c1, .slice a2 n2 c2]) := (Bx.new w [.slice a1 n1 c1, .slice a2 n2 c2] _).later (later1 _ _)
  have HR0 : Hid (OwnRow ((w.alloc (.cells #[.slice a1 n1 c1, .slice a2 n2 c2] 30)).alloc (.cells #[.int .i64 0, .slice none 0 0, .slice none 0 0] 32)) (w.heap.size + 1) 3 (cel [.int .i64 0, .slice none 0 0, .slice none 0 0])) := (show OwnRow ((w.alloc (.cells #[.slice a1 n1 c1, .slice a2 n2 c2] 30)).alloc (.cells #[.int .i64 0, .slice none 0 0, .slice none 0 0] 32)) (w.heap.size + 1) 3 (cel [.int .i64 0, .slice none 0 0, .slice none 0 0]) from by have := newCel (w.alloc (.cells #[.slice a1 n1 c1, .slice a2 n2 c2] 30)) [.int .i64 0, .slice none 0 0, .slice none 0 0] 32; rw [World.size_alloc] at this; exact this)
  go_enter Try.func8, Try.ntmps8
  have xHD0 := HD0.out 0 _ rfl
  have xHD1 := HD0.out 1 _ rfl
  have hrr := HR0.out
  have t0 : ((w.alloc (.cells #[.slice a1 n1 c1, .slice a2 n2 c2] 30)).alloc (.cells #[.int .i64 0, .slice none 0 0, .slice none 0 0] 32)).cell? ⟨w.heap.size + 1, 0, none⟩ = some (.int .i64 0) := hrr.cell (i := 0) (by omega)
  have t1 : ((w.alloc (.cells #[.slice a1 n1 c1, .slice a2 n2 c2] 30)).alloc (.cells #[.int .i64 0, .slice none 0 0, .slice none 0 0] 32)).cell? ⟨w.heap.size + 1, 1, none⟩ = some (.slice none 0 0) := hrr.cell (i := 1) (by omega)
  have t2 : ((w.alloc (.cells #[.slice a1 n1 c1, .slice a2 n2 c2] 30)).alloc (.cells #[.int .i64 0, .slice none 0 0, .slice none 0 0] 32)).cell? ⟨w.heap.size + 1, 2, none⟩ = some (.slice none 0 0) := hrr.cell (i := 2) (by omega)
  have f0 := hrr.frozen 0
  have f1 := hrr.frozen 1
  have f2 := hrr.frozen 2
  have hlr := hrr.lt
  clear hrr
  go_wp2_with fail
  go_region_law (try go_simp; first
    | (go_at_call 23; refine (HPL.out _ (HB0.out.drew)).mono ?_; rintro e w2 ⟨aS, nS, cS, rfl, hb2, ho2⟩
       obtain ⟨_, _, e, ⟨_, hcap⟩, hat⟩ := ho2.reads.open'
       simp only [Value.slice.injEq] at e
       obtain ⟨rfl, rfl, rfl⟩ := e
       have hb0 : Below ((w.alloc (.cells #[.slice a1 n1 c1, .slice a2 n2 c2] 30)).alloc (.cells #[.int .i64 0, .slice none 0 0, .slice none 0 0] 32)).heap.size ((w.alloc (.cells #[.slice a1 n1 c1, .slice a2 n2 c2] 30)).alloc (.cells #[.int .i64 0, .slice none 0 0, .slice none 0 0] 32)) w2 := (Below.refl _ _).drew.trans hb2
       have HB2 : Hid (Below w.heap.size w w2) := HB0.out.trans (hb0.mono HB0.out.size)
       have HD2 : Hid (Bx w2 (w.heap.size) [.slice a1 n1 c1, .slice a2 n2 c2]) := HD0.out.later hb0
       have HR2 : Hid (OwnRow w2 (w.heap.size + 1) 3 (cel [.int .i64 0, .slice none 0 0, .slice none 0 0])) := HR0.out.later hb0
       have HC2 : Hid (Calls Try.prog 22 #[.agg #[.slice a1 n1 c1, .slice a2 n2 c2], .agg #[.int .i64 p0, .slice aS pl.length cS], .int .i64 x, .slice aP nP cP] w2 (AnsDR w2 (qc, qd))) := HCT.out w2 aS cS HB2.out hat hcap
       have z0 := HD2.out 0 _ rfl
       have z1 := HD2.out 1 _ rfl
       clear hb2 ho2 hb0 hat hcap)
    | (go_at_call 22; refine HC2.out.mono ?_; rintro e w3 ⟨aE, nE, cE, aF, nF, cF, rfl, hb3, hdu⟩
       have HB3 : Hid (Below w.heap.size w w3) := HB2.out.trans (hb3.mono HB2.out.size)
       have HR3 : Hid (OwnRow w3 (w.heap.size + 1) 3 (cel [.int .i64 0, .slice none 0 0, .slice none 0 0])) := HR2.out.later hb3
       have HDK : Hid (DiskU w3 (.slice aE nE cE) (.slice aF nF cF) qd (fun b => w.heap.size + 1 < b ∧ b < w3.heap.size)) := hdu.mono fun b hb' => ⟨by have := hb'.1; have := HR2.out.lt; omega, hb'.2⟩
       have hrr := HR3.out
       have u0 : w3.cell? ⟨w.heap.size + 1, 0, none⟩ = some (.int .i64 0) := hrr.cell (i := 0) (by omega)
       have u1 : w3.cell? ⟨w.heap.size + 1, 1, none⟩ = some (.slice none 0 0) := hrr.cell (i := 1) (by omega)
       have u2 : w3.cell? ⟨w.heap.size + 1, 2, none⟩ = some (.slice none 0 0) := hrr.cell (i := 2) (by omega)
       have k0 := hrr.frozen 0
       have k1 := hrr.frozen 1
       have k2 := hrr.frozen 2
       have hll := hrr.lt
       clear hb3 hdu hrr))
  all_goals
    go_wp2
    exact bodyPost_ret (v := .agg #[.int .i64 qc, .slice aE nE cE, .slice aF nF cF]) (by simp [results, Try.results8, go_sem, u0, u1, u2]) rfl (by rw [HRES.out]; exact AnsDR.put3 HB3.out (by omega) HDK.out _ _ _)

set_option maxHeartbeats 6400000 in
theorem specCrashMU (w : World) (a1 : Option Addr) (n1 c1 : Nat) (a2 : Option Addr) (n2 c2 : Nat) (d : DK) (x : Int) (aP : Option Addr) (nP cP : Nat) (bb : List Bool) (h : DiskR w (.slice a1 n1 c1) (.slice a2 n2 c2) d) (hb : Bools w (.slice aP nP cP) bb) (hs : sizeDisk d ≤ 1048576) (hbl : bb.length ≤ 1048576) :
    Calls Try.prog 5 #[.agg #[.slice a1 n1 c1, .slice a2 n2 c2], .int .i64 x, .slice aP nP cP] w (AnsDR w (crashMR d x bb)) := by
  have HPL : Hid (∀ W, Below w.heap.size w W → Calls Try.prog 19 #[.agg #[.slice a1 n1 c1, .slice a2 n2 c2]] W (AnsSR W ((planR d).1, (planR d).2))) := fun W hW => specPlanU W _ _ _ _ _ _ d (h.later hW) hs
  have HCT : Hid (∀ W aS cS, Below w.heap.size w W → AtStp W aS (planR d).2.length (planR d).2 → (planR d).2.length ≤ cS → Calls Try.prog 18 #[.agg #[.slice a1 n1 c1, .slice a2 n2 c2], .agg #[.int .i64 (planR d).1, .slice aS (planR d).2.length cS], .int .i64 x, .slice aP nP cP] W (AnsDR W ((cutR d ((planR d).1, (planR d).2) x bb).1, (cutR d ((planR d).1, (planR d).2) x bb).2))) := fun W aS cS hW hat hc => specCutU W _ _ _ _ _ _ d _ aS _ cS _ x aP nP cP bb (h.later hW) hs hat rfl hc (plan_few d) (fun i hi => plan_ok i hi) (hb.later hW) hbl
  have HRES : Hid (crashMR d x bb = ((cutR d ((planR d).1, (planR d).2) x bb).1, (cutR d ((planR d).1, (planR d).2) x bb).2)) := rfl
  clear h hs hb hbl
  generalize crashMR d x bb = RES at *
  generalize (cutR d ((planR d).1, (planR d).2) x bb).1 = qc at *
  generalize (cutR d ((planR d).1, (planR d).2) x bb).2 = qd at *
  generalize (planR d).1 = p0 at *
  generalize (planR d).2 = pl at *
  have HB0 : Hid (Below w.heap.size w ((w.alloc (.cells #[.slice a1 n1 c1, .slice a2 n2 c2] 30)).alloc (.cells #[.int .i64 0, .slice none 0 0, .slice none 0 0] 32))) := later2 _ _ _
  have HD0 : Hid (Bx ((w.alloc (.cells #[.slice a1 n1 c1, .slice a2 n2 c2] 30)).alloc (.cells #[.int .i64 0, .slice none 0 0, .slice none 0 0] 32)) (w.heap.size) [.slice a1 n1 c1, .slice a2 n2 c2]) := (Bx.new w [.slice a1 n1 c1, .slice a2 n2 c2] _).later (later1 _ _)
  have HR0 : Hid (OwnRow ((w.alloc (.cells #[.slice a1 n1 c1, .slice a2 n2 c2] 30)).alloc (.cells #[.int .i64 0, .slice none 0 0, .slice none 0 0] 32)) (w.heap.size + 1) 3 (cel [.int .i64 0, .slice none 0 0, .slice none 0 0])) := (show OwnRow ((w.alloc (.cells #[.slice a1 n1 c1, .slice a2 n2 c2] 30)).alloc (.cells #[.int .i64 0, .slice none 0 0, .slice none 0 0] 32)) (w.heap.size + 1) 3 (cel [.int .i64 0, .slice none 0 0, .slice none 0 0]) from by have := newCel (w.alloc (.cells #[.slice a1 n1 c1, .slice a2 n2 c2] 30)) [.int .i64 0, .slice none 0 0, .slice none 0 0] 32; rw [World.size_alloc] at this; exact this)
  go_enter Try.func5, Try.ntmps5
  have xHD0 := HD0.out 0 _ rfl
  have xHD1 := HD0.out 1 _ rfl
  have hrr := HR0.out
  have t0 : ((w.alloc (.cells #[.slice a1 n1 c1, .slice a2 n2 c2] 30)).alloc (.cells #[.int .i64 0, .slice none 0 0, .slice none 0 0] 32)).cell? ⟨w.heap.size + 1, 0, none⟩ = some (.int .i64 0) := hrr.cell (i := 0) (by omega)
  have t1 : ((w.alloc (.cells #[.slice a1 n1 c1, .slice a2 n2 c2] 30)).alloc (.cells #[.int .i64 0, .slice none 0 0, .slice none 0 0] 32)).cell? ⟨w.heap.size + 1, 1, none⟩ = some (.slice none 0 0) := hrr.cell (i := 1) (by omega)
  have t2 : ((w.alloc (.cells #[.slice a1 n1 c1, .slice a2 n2 c2] 30)).alloc (.cells #[.int .i64 0, .slice none 0 0, .slice none 0 0] 32)).cell? ⟨w.heap.size + 1, 2, none⟩ = some (.slice none 0 0) := hrr.cell (i := 2) (by omega)
  have f0 := hrr.frozen 0
  have f1 := hrr.frozen 1
  have f2 := hrr.frozen 2
  have hlr := hrr.lt
  clear hrr
  go_wp2_with fail
  go_region_law (try go_simp; first
    | (go_at_call 19; refine (HPL.out _ (HB0.out.drew)).mono ?_; rintro e w2 ⟨aS, nS, cS, rfl, hb2, ho2⟩
       obtain ⟨_, _, e, ⟨_, hcap⟩, hat⟩ := ho2.reads.open'
       simp only [Value.slice.injEq] at e
       obtain ⟨rfl, rfl, rfl⟩ := e
       have hb0 : Below ((w.alloc (.cells #[.slice a1 n1 c1, .slice a2 n2 c2] 30)).alloc (.cells #[.int .i64 0, .slice none 0 0, .slice none 0 0] 32)).heap.size ((w.alloc (.cells #[.slice a1 n1 c1, .slice a2 n2 c2] 30)).alloc (.cells #[.int .i64 0, .slice none 0 0, .slice none 0 0] 32)) w2 := (Below.refl _ _).drew.trans hb2
       have HB2 : Hid (Below w.heap.size w w2) := HB0.out.trans (hb0.mono HB0.out.size)
       have HD2 : Hid (Bx w2 (w.heap.size) [.slice a1 n1 c1, .slice a2 n2 c2]) := HD0.out.later hb0
       have HR2 : Hid (OwnRow w2 (w.heap.size + 1) 3 (cel [.int .i64 0, .slice none 0 0, .slice none 0 0])) := HR0.out.later hb0
       have HC2 : Hid (Calls Try.prog 18 #[.agg #[.slice a1 n1 c1, .slice a2 n2 c2], .agg #[.int .i64 p0, .slice aS pl.length cS], .int .i64 x, .slice aP nP cP] w2 (AnsDR w2 (qc, qd))) := HCT.out w2 aS cS HB2.out hat hcap
       have z0 := HD2.out 0 _ rfl
       have z1 := HD2.out 1 _ rfl
       clear hb2 ho2 hb0 hat hcap)
    | (go_at_call 18; refine HC2.out.mono ?_; rintro e w3 ⟨aE, nE, cE, aF, nF, cF, rfl, hb3, hdu⟩
       have HB3 : Hid (Below w.heap.size w w3) := HB2.out.trans (hb3.mono HB2.out.size)
       have HR3 : Hid (OwnRow w3 (w.heap.size + 1) 3 (cel [.int .i64 0, .slice none 0 0, .slice none 0 0])) := HR2.out.later hb3
       have HDK : Hid (DiskU w3 (.slice aE nE cE) (.slice aF nF cF) qd (fun b => w.heap.size + 1 < b ∧ b < w3.heap.size)) := hdu.mono fun b hb' => ⟨by have := hb'.1; have := HR2.out.lt; omega, hb'.2⟩
       have hrr := HR3.out
       have u0 : w3.cell? ⟨w.heap.size + 1, 0, none⟩ = some (.int .i64 0) := hrr.cell (i := 0) (by omega)
       have u1 : w3.cell? ⟨w.heap.size + 1, 1, none⟩ = some (.slice none 0 0) := hrr.cell (i := 1) (by omega)
       have u2 : w3.cell? ⟨w.heap.size + 1, 2, none⟩ = some (.slice none 0 0) := hrr.cell (i := 2) (by omega)
       have k0 := hrr.frozen 0
       have k1 := hrr.frozen 1
       have k2 := hrr.frozen 2
       have hll := hrr.lt
       clear hb3 hdu hrr))
  all_goals
    go_wp2
    exact bodyPost_ret (v := .agg #[.int .i64 qc, .slice aE nE cE, .slice aF nF cF]) (by simp [results, Try.results5, go_sem, u0, u1, u2]) rfl (by rw [HRES.out]; exact AnsDR.put3 HB3.out (by omega) HDK.out _ _ _)

end Go.Proofs.Ytpmndmkmfcoieaa

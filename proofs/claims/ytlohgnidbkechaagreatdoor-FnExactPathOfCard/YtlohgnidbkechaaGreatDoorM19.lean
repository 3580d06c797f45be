/- The specification's walk: where names lead (l9Walk, l9Path). PathOf of the specification. HeldBy, both sides. From the reading of an argument to the lists that it holds. No program is named here. What the rows of this seat share: how a disk that came in is opened. -/
import Derived.Test.YtlohgnidbkechaaGreatDoorM16
import Derived.Test.YtlohgnidbkechaaGreatDoorM15
import Derived.Test.YtlohgnidbkechaaGreatDoorM10
import Derived.Test.YtlohgnidbkechaaGreatDoorM18
import Derived.Test.YtlohgnidbkechaaGreatDoorM08
import Derived.Test.YtlohgnidbkechaaGreatDoorM06
import Derived.Test.YtlohgnidbkechaaGreatDoorM00
import Derived.ProofKit
import Derived.Deep.Slices
import Derived.Deep.SlicePairs
import Derived.Lib.SmallJoins
import Derived.Test.YtlohgnidbkechaaGreatDoorRows
namespace Go.Proofs.YtlohgnidbkechaaGreatDoor
open Go.RowKit
set_option maxRecDepth 100000

set_option maxHeartbeats 3200000 in
theorem l9Walk_any (w : World) (b : Nat) (d : FD) (aI : Option Addr) (cI : Nat) (aD : Option Addr) (cD : Nat) (hx : FsX w b 0 d aI cI aD cD) (hok : FsOk d) (aN : Option Addr) (mN cN : Nat) (xs : List (List UInt8)) (hmN : xs.length = mN) (hmx : mN ≤ 1048577) (hat : AtT w aN mN xs) :
    Calls Tryz.prog 36 #[.pointer (some ⟨b, 0, none⟩), .slice aN mN cN] w fun e w' => e = .returned (.tuple #[.int .i64 (wkR d.1 0 xs).2, .int .i64 (wkR d.1 0 xs).1]) ∧ ∃ q, w' = w.drewN q := by
  obtain ⟨f0, -, hI, -⟩ := hx
  obtain ⟨_, _, e1, -, hAt⟩ := hI.open'
  simp only [Value.slice.injEq] at e1
  obtain ⟨rfl, -, rfl⟩ := e1
  have HAI : Hid (AtI w aI d.1.length d.1) := hAt
  have HAT : Hid (AtT w aN mN xs) := hat
  have HM : Hid (xs.length = mN) := hmN
  have HR : Hid (inRange d.1) := hok.rng
  have H6 : Hid (∀ i : Nat, (d.1[i]?.getD id0).2.2.2.2.length ≤ 6) := ents_six hok
  have hpos := hok.pos
  have hten := hok.ten
  obtain ⟨RES, hRES⟩ : ∃ RES, wkR d.1 0 xs = RES := ⟨_, rfl⟩
  have HRES : Hid (wkR d.1 0 xs = RES) := hRES
  rw [hRES]
  clear hRES hI hAt hat hmN hok
  obtain ⟨n, hn⟩ : ∃ n, d.1.length = n := ⟨_, rfl⟩
  have HN : Hid (d.1.length = n) := hn
  rw [hn] at f0 HAI hpos hten
  clear hn
  go_enter Tryz.func36, Tryz.ntmps36
  go_wp2_with fail
  go_loopw [6, 7] (fun va vi wr => ∃ q t m : Nat, q ≤ mN ∧ t < n ∧ va = .int .i64 (t : Int) ∧ vi = .int .i64 (q : Int) ∧ wr = w.drewN m ∧ wkR d.1 t (xs.drop q) = RES) (fun _ vi _ => mN - (intOf vi).toNat)
  case atStart => exact ⟨0, 0, 0, Nat.zero_le _, hpos, rfl, rfl, rfl, HRES.out⟩
  case round =>
    obtain ⟨q, t, m, hq, ht, rfl, rfl, rfl, hz⟩ := hrel
    have HZ : Hid (wkR d.1 t (xs.drop q) = RES) := hz
    clear hz
    by_cases hlt : q < mN
    · have HDC : Hid (xs.drop q = xs[q]?.getD [] :: xs.drop (q + 1)) := drop_cons (by rw [HM.out]; exact hlt)
      obtain ⟨bn, on, rfl, c0⟩ := HAT.out q hlt
      obtain ⟨bI, oI, rfl, hIt⟩ := HAI.out t ht
      obtain ⟨aB, cB, aE, cE, k0, -, -, -, k4, h5⟩ := hIt
      obtain ⟨_, _, e3, -, -, hEt⟩ := h5.2.2.open'
      simp only [Value.slice.injEq] at e3
      obtain ⟨rfl, -, rfl⟩ := e3
      generalize hs : xs[q]?.getD [] = s at *
      clear hs
      have htI : (t : Int) < (n : Int) := by omega
      have hqI : (q : Int) < (mN : Int) := by omega
      have hE6 := H6.out t
      have HST : Hid (RES = if (d.1[t]?.getD id0).1 = 2 then (if idxE (d.1[t]?.getD id0).2.2.2.2 (mkB s) < (d.1[t]?.getD id0).2.2.2.2.length then wkR d.1 ((d.1[t]?.getD id0).2.2.2.2[idxE (d.1[t]?.getD id0).2.2.2.2 (mkB s)]?.getD en0).2.toNat (xs.drop (q + 1)) else (4, 0)) else (9, 0)) := by
        unfold Hid
        rw [← HZ.out, HDC.out]; rfl
      by_cases hk : (d.1[t]?.getD id0).1 = 2
      rotate_left
      · have hkb : ((d.1[t]?.getD id0).1 != 2) = true := by simpa using hk
        have HRR : Hid (RES = (9, 0)) := by unfold Hid; rw [HST.out, if_neg hk]
        clear HST hk
        generalize (d.1[t]?.getD id0).1 = kd at *
        go_wp2
        go_ret2
        exact ⟨by rw [HRR.out]; rfl, _, rfl⟩
      · have hkb : ((d.1[t]?.getD id0).1 != 2) = false := by simpa using hk
        rw [if_pos hk] at HST
        have HL8 : Hid (∀ m, Calls Tryz.prog 65 #[.slice aE (d.1[t]?.getD id0).2.2.2.2.length cE, .string (mkB s)] (w.drewN m) fun e w' => e = .returned (.int .i64 (at8 (d.1[t]?.getD id0).2.2.2.2 (mkB s))) ∧ w' = w.drewN m) := fun m => l8At_any (w.drewN m) aE _ cE _ (mkB s) rfl (by omega) (hEt.later (below_drewN (Below.refl _ _) m))
        have HEN : Hid (AtN w aE (d.1[t]?.getD id0).2.2.2.2.length (d.1[t]?.getD id0).2.2.2.2) := hEt
        by_cases hi : idxE (d.1[t]?.getD id0).2.2.2.2 (mkB s) < (d.1[t]?.getD id0).2.2.2.2.length
        · have ha8 : at8 (d.1[t]?.getD id0).2.2.2.2 (mkB s) = ((idxE (d.1[t]?.getD id0).2.2.2.2 (mkB s) : Nat) : Int) := by unfold at8; rw [if_pos hi]
          rw [ha8] at HL8
          rw [if_pos hi] at HST
          obtain ⟨y, hy, hyn⟩ := rng_nat HR.out (by rw [HN.out]; exact ht) hi
          obtain ⟨b1, o1, rfl, -, d1⟩ := HEN.out _ hi
          rw [hy] at d1 HST
          rw [Int.toNat_natCast] at HST
          rw [HN.out] at hyn
          clear hk hy ha8 hEt h5 HZ
          generalize idxE (d.1[t]?.getD id0).2.2.2.2 (mkB s) = k at *
          generalize (d.1[t]?.getD id0).2.2.2.2.length = nE at *
          generalize (d.1[t]?.getD id0).1 = kd at *
          go_wp2_with fail
          go_quiet ((go_at_call 65; exact quiet_same2 (HL8.out _)))
          go_wp2
          go_roundw
          case rel => exact ⟨q + 1, y, _, by omega, hyn, rfl, by go_num, by first | rfl | rw [World.drewN_drewN], HST.out.symm⟩
          case measure => simp [intOf]; omega
        · have ha8 : at8 (d.1[t]?.getD id0).2.2.2.2 (mkB s) = -1 := by unfold at8; rw [if_neg hi]
          rw [ha8] at HL8
          have HRR : Hid (RES = (4, 0)) := by unfold Hid; rw [HST.out, if_neg hi]
          clear HST hk ha8 hEt h5 HZ hi
          generalize (d.1[t]?.getD id0).2.2.2.2.length = nE at *
          generalize (d.1[t]?.getD id0).1 = kd at *
          go_wp2_with fail
          go_quiet ((go_at_call 65; exact quiet_same2 (HL8.out _)))
          go_wp2
          go_ret2
          exact ⟨by rw [HRR.out]; rfl, _, by first | rfl | rw [World.drewN_drewN]⟩
    · have HRR : Hid (RES = (0, (t : Int))) := by
        unfold Hid
        rw [← HZ.out, List.drop_of_length_le (by rw [HM.out]; omega)]; rfl
      go_wp2
      go_ret2
      exact ⟨by rw [HRR.out]; rfl, _, rfl⟩
end Go.Proofs.YtlohgnidbkechaaGreatDoor

namespace Go.Proofs.YtlohgnidbkechaaGreatDoor
open Go.RowKit
set_option maxRecDepth 100000

set_option maxHeartbeats 6400000 in
theorem specPathU (w : World) (a1 : Option Addr) (n1 c1 : Nat) (a2 : Option Addr) (n2 c2 : Nat) (d : FD) (x : Int) (h : FsR w (.slice a1 n1 c1) (.slice a2 n2 c2) d) (hs : sizeFs d ≤ 1048576) :
    Calls Tryz.prog 13 #[.agg #[.slice a1 n1 c1, .slice a2 n2 c2], .int .i64 x] w fun e w' => e = .returned (.agg #[.int .i64 (pathT d x).1, .string (pathT d x).2]) ∧ Below w.heap.size w w' := by
  obtain ⟨hx0, rfl, rfl⟩ := FsX.box h 32
  have hsi : sizeInos d.1 ≤ 1048576 := by unfold sizeFs at hs; omega
  have HF : Hid (∀ W, FsX W w.heap.size 0 d a1 c1 a2 c2 → Calls Tryz.prog 25 #[.pointer (some ⟨w.heap.size, 0, none⟩)] W fun e w' => e = .returned (.int .i64 (fsF d)) ∧ Below W.heap.size W w') := fun W hx => l6Fault_any W _ _ d _ _ _ _ hx hsi
  have HLT : Hid (0 < d.1.length → ∃ b0 o0, a1 = some ⟨b0, o0, none⟩) := fun hp => by
    obtain ⟨_, _, e1, -, hAI⟩ := h.1.open'
    simp only [Value.slice.injEq] at e1
    obtain ⟨b0, o0, e2, -⟩ := hAI 0 hp
    exact ⟨b0, o0, e1.1.trans e2⟩
  have HQ : Hid (∀ W, FsX W w.heap.size 0 d a1 c1 a2 c2 → Calls Tryz.prog 34 #[.pointer (some ⟨w.heap.size, 0, none⟩), .int .i64 x] W fun e w' => e = .returned (.bool (decide (0 ≤ x ∧ x < (d.1.length : Int)))) ∧ w' = W) := fun W hx => l6Place_any W _ _ d _ _ _ _ x hx
  have HP : Hid (fsF d = 0 → ∀ W, FsX W w.heap.size 0 d a1 c1 a2 c2 → Calls Tryz.prog 35 #[.pointer (some ⟨w.heap.size, 0, none⟩)] W fun e w' => ∃ a n c, e = .returned (.slice a n c) ∧ Below W.heap.size W w' ∧ AtT w' a n (toldL d) ∧ (toldL d).length = n) := fun hf W hx => by
    have hok := fsE_ok (fsF_zero hf)
    obtain ⟨b0, o0, rfl⟩ := HLT.out hok.pos
    refine (l9Paths_any W _ d b0 o0 c1 a2 c2 hok hx).mono ?_
    rintro e w' ⟨a, n, c, rfl, hb, ho⟩
    obtain ⟨_, _, ev, _, hat⟩ := ho.reads
    simp only [Value.slice.injEq] at ev
    obtain ⟨rfl, rfl, rfl⟩ := ev
    exact ⟨_, _, _, rfl, hb, hat, rfl⟩
  have HCT : Hid (fsF d = 0 → ∀ W k, k < (toldL d).length → Calls Tryz.prog 37 #[.string (mkB (((toldL d)[k]?.getD []).drop 1)), .int .u8 47] W fun e w' => ∃ a n c, e = .returned (.slice a n c) ∧ Below W.heap.size W w' ∧ AtT w' a n (cutB (((toldL d)[k]?.getD []).drop 1)) ∧ (cutB (((toldL d)[k]?.getD []).drop 1)).length = n) := fun hf W k hk => by
    have hok := fsE_ok (fsF_zero hf)
    have h30 := (told_ok hok.ins (told_mem d k hk)).2.2
    refine (l3Cut_any W _ (by rw [List.length_drop]; omega)).mono ?_
    rintro e w' ⟨v, rfl, hb, hr⟩
    obtain ⟨a, c, rfl⟩ := ownsRow_shape hr
    have ht := TxF.of_row hr
    exact ⟨a, _, c, rfl, hb, ht.1, ht.2.1⟩
  have HWK : Hid (fsF d = 0 → ∀ W k aN mN cN, k < (toldL d).length → FsX W w.heap.size 0 d a1 c1 a2 c2 → (cutB (((toldL d)[k]?.getD []).drop 1)).length = mN → AtT W aN mN (cutB (((toldL d)[k]?.getD []).drop 1)) → Calls Tryz.prog 36 #[.pointer (some ⟨w.heap.size, 0, none⟩), .slice aN mN cN] W fun e w' => e = .returned (.tuple #[.int .i64 (leadW d ((toldL d)[k]?.getD [])).2, .int .i64 (leadW d ((toldL d)[k]?.getD [])).1]) ∧ ∃ q, w' = W.drewN q) := fun hf W k aN mN cN hk hx hm hat => by
    have hok := fsE_ok (fsF_zero hf)
    have h30 := (told_ok hok.ins (told_mem d k hk)).2.2
    exact l9Walk_any W _ d _ _ _ _ hx hok aN mN cN _ hm (by have := cutB_len (((toldL d)[k]?.getD []).drop 1); rw [List.length_drop] at this; omega) hat
  have HSL : Hid (fsF d = 0 → ∀ k, k < (toldL d).length → ∀ W, (Instr.slice 9 (.string (mkB ((toldL d)[k]?.getD []))) (some (.int .i64 1)) none none).run Tryz.prog W = .ok (.string (mkB (((toldL d)[k]?.getD []).drop 1))) W) := fun hf k hk W => by
    have hok := fsE_ok (fsF_zero hf)
    have hp := (told_ok hok.ins (told_mem d k hk)).1
    obtain ⟨t, ht⟩ := (path_head hp).1
    exact run_from _ 1 (by rw [ht]; simp) W
  have HL60 : Hid ((toldL d).length ≤ 60) := by unfold Hid toldL; rw [List.length_take]; omega
  have HRC : Hid (¬ fsF d = 0 → pathT d x = (fsF d, ⟨#[]⟩)) := fun hf => by unfold pathT pathR; rw [if_neg hf]; rfl
  have HRQ : Hid (fsF d = 0 → ¬ (0 ≤ x ∧ x < (d.1.length : Int)) → pathT d x = (3, ⟨#[]⟩)) := fun hf h1 => by unfold pathT pathR pathQ; rw [if_pos hf, if_neg h1]; rfl
  have HRT : Hid (fsF d = 0 → (0 ≤ x ∧ x < (d.1.length : Int)) → x = 0 → pathT d x = (0, ⟨#[47]⟩)) := fun hf h1 h2 => by unfold pathT pathR pathQ; rw [if_pos hf, if_pos h1, if_pos h2]; rfl
  have HRH : Hid (fsF d = 0 → (0 ≤ x ∧ x < (d.1.length : Int)) → ¬ x = 0 → ∀ j, j < (toldL d).length → (∀ i, i < j → ¬ ((leadW d ((toldL d)[i]?.getD [])).1 = 0 ∧ (leadW d ((toldL d)[i]?.getD [])).2 = x)) → (leadW d ((toldL d)[j]?.getD [])).1 = 0 ∧ (leadW d ((toldL d)[j]?.getD [])).2 = x → pathT d x = (0, mkB ((toldL d)[j]?.getD []))) := fun hf h1 h2 j hj h3 h4 => by
    unfold pathT pathR pathQ
    rw [if_pos hf, if_pos h1, if_neg h2, findP_hit (toldL d) j hj (fun i hi => by unfold leadB; rw [← Bool.decide_and]; exact decide_eq_false (h3 i hi)) (by unfold leadB; rw [← Bool.decide_and]; exact decide_eq_true h4)]
  have HRM : Hid (fsF d = 0 → (0 ≤ x ∧ x < (d.1.length : Int)) → ¬ x = 0 → (∀ i, i < (toldL d).length → ¬ ((leadW d ((toldL d)[i]?.getD [])).1 = 0 ∧ (leadW d ((toldL d)[i]?.getD [])).2 = x)) → pathT d x = (4, ⟨#[]⟩)) := fun hf h1 h2 h3 => by
    unfold pathT pathR pathQ
    rw [if_pos hf, if_pos h1, if_neg h2, findP_miss (toldL d) (fun i hi => by unfold leadB; rw [← Bool.decide_and]; exact decide_eq_false (h3 i hi))]
    rfl
  clear h hs hsi HLT
  generalize pathT d x = RES at *
  generalize hld : leadW d = LD at *
  clear hld
  generalize toldL d = ps at *
  generalize fsF d = r at *
  have HFX : Hid (FsX (w.alloc (.cells #[.slice a1 d.1.length c1, .slice a2 d.2.length c2] 32)) w.heap.size 0 d a1 c1 a2 c2) := hx0
  clear hx0
  generalize hN1 : d.1.length = n1 at *
  generalize hN2 : d.2.length = n2 at *
  clear hN1 hN2
  have HB0 : Hid (Below w.heap.size w ((w.alloc (.cells #[.slice a1 n1 c1, .slice a2 n2 c2] 32)).alloc (.cells #[.int .i64 0, .string ⟨#[]⟩] 28))) := later2 _ _ _
  have HX0 : Hid (Bx ((w.alloc (.cells #[.slice a1 n1 c1, .slice a2 n2 c2] 32)).alloc (.cells #[.int .i64 0, .string ⟨#[]⟩] 28)) (w.heap.size) [.slice a1 n1 c1, .slice a2 n2 c2]) := (Bx.new w [.slice a1 n1 c1, .slice a2 n2 c2] _).later (later1 _ _)
  have HR0 : Hid (OwnRow ((w.alloc (.cells #[.slice a1 n1 c1, .slice a2 n2 c2] 32)).alloc (.cells #[.int .i64 0, .string ⟨#[]⟩] 28)) (w.heap.size + 1) 2 (cel [.int .i64 0, .string ⟨#[]⟩])) := (show OwnRow ((w.alloc (.cells #[.slice a1 n1 c1, .slice a2 n2 c2] 32)).alloc (.cells #[.int .i64 0, .string ⟨#[]⟩] 28)) (w.heap.size + 1) 2 (cel [.int .i64 0, .string ⟨#[]⟩]) from by have := newCel (w.alloc (.cells #[.slice a1 n1 c1, .slice a2 n2 c2] 32)) [.int .i64 0, .string ⟨#[]⟩] 28; rw [World.size_alloc] at this; exact this)
  have HZ0 : Hid (FsX ((w.alloc (.cells #[.slice a1 n1 c1, .slice a2 n2 c2] 32)).alloc (.cells #[.int .i64 0, .string ⟨#[]⟩] 28)) w.heap.size 0 d a1 c1 a2 c2) := HFX.out.later (later1 _ _)
  clear HFX
  go_enter Tryz.func13, Tryz.ntmps13
  go_wp2_with fail
  refine (HF.out _ HZ0.out).mono ?_
  rintro e w1 ⟨rfl, hb⟩
  have HB1 : Hid (Below w.heap.size w w1) := HB0.out.trans (hb.mono HB0.out.size)
  have HX1 : Hid (Bx w1 (w.heap.size) [.slice a1 n1 c1, .slice a2 n2 c2]) := HX0.out.later hb
  have HR1 : Hid (OwnRow w1 (w.heap.size + 1) 2 (cel [.int .i64 0, .string ⟨#[]⟩])) := HR0.out.later hb
  have HZ1 : Hid (FsX w1 w.heap.size 0 d a1 c1 a2 c2) := HZ0.out.later hb
  clear hb
  by_cases hf : r = 0
  · skip
    have hfb : (r != 0) = false := by simpa using hf
    go_wp2_with fail
    refine (HQ.out _ HZ1.out).mono ?_
    rintro e wq ⟨rfl, hq0⟩
    subst wq
    by_cases hq : 0 ≤ x ∧ x < (n1 : Int)
    · skip
      have hqb : decide (0 ≤ x ∧ x < (n1 : Int)) = true := by simpa using hq
      by_cases h0 : x = 0
      · skip
        have h0b : (x == 0) = true := by simpa using h0
        have HE : Hid (RES = (0, ⟨#[47]⟩)) := HRT.out hf hq h0
        have hrr := HR1.out
        have t0 : w1.cell? ⟨w.heap.size + 1, 0, none⟩ = some (.int .i64 0) := hrr.cell (i := 0) (by omega)
        have t1 : w1.cell? ⟨w.heap.size + 1, 1, none⟩ = some (.string ⟨#[]⟩) := hrr.cell (i := 1) (by omega)
        have f0 := hrr.frozen 0
        have f1 := hrr.frozen 1
        have hlr := hrr.lt
        clear hrr
        rw [hqb]
        clear hq h0 hqb
        go_wp2
        exact bodyPost_ret (v := .agg #[.int .i64 0, .string ⟨#[47]⟩]) (by simp [results, Tryz.results13, go_sem, t0, t1]) rfl (⟨by rw [HE.out], ((HB1.out).setCell (by first | omega | (simp <;> omega)) _).setCell (by first | omega | (simp <;> omega)) _⟩)
      · skip
        have h0b : (x == 0) = false := by simpa using h0
        have HH : Hid (∀ j, j < ps.length → (∀ i, i < j → ¬ ((LD (ps[i]?.getD [])).1 = 0 ∧ (LD (ps[i]?.getD [])).2 = x)) → ((LD (ps[j]?.getD [])).1 = 0 ∧ (LD (ps[j]?.getD [])).2 = x) → RES = (0, mkB (ps[j]?.getD []))) := HRH.out hf hq h0
        have HM : Hid ((∀ i, i < ps.length → ¬ ((LD (ps[i]?.getD [])).1 = 0 ∧ (LD (ps[i]?.getD [])).2 = x)) → RES = (4, ⟨#[]⟩)) := HRM.out hf hq h0
        have HCC := HCT.out hf
        have HC2 : Hid (∀ W k, k < ps.length → Calls Tryz.prog 37 _ W _) := HCC
        have HWW := HWK.out hf
        have HW2 : Hid (∀ W k aN mN cN, k < ps.length → FsX W w.heap.size 0 d a1 c1 a2 c2 → _ → _ → Calls Tryz.prog 36 _ W _) := HWW
        have HS2 : Hid (∀ k, k < ps.length → ∀ W, _ = _) := HSL.out hf
        have HP2 : Hid (∀ W, FsX W w.heap.size 0 d a1 c1 a2 c2 → Calls Tryz.prog 35 #[.pointer (some ⟨w.heap.size, 0, none⟩)] W _) := HP.out hf
        have hl60 := HL60.out
        rw [hqb]
        clear hq h0 HRH HRM HRT HRQ HRC HF HQ hqb HCC HWW HCT HWK HSL HP
        go_wp2_with fail
        refine (HP2.out _ HZ1.out).mono ?_
        rintro e w2 ⟨av, N, cv, rfl, hb, hat, hN⟩
        have HAT : Hid (AtT w2 av N ps) := hat
        clear hat
        rw [hN] at HH HM HC2 HW2 HS2 hl60
        clear hN
        have HB2 : Hid (Below w.heap.size w w2) := HB1.out.trans (hb.mono HB1.out.size)
        have HX2 : Hid (Bx w2 (w.heap.size) [.slice a1 n1 c1, .slice a2 n2 c2]) := HX1.out.later hb
        have HR2 : Hid (OwnRow w2 (w.heap.size + 1) 2 (cel [.int .i64 0, .string ⟨#[]⟩])) := HR1.out.later hb
        have HZ2 : Hid (FsX w2 w.heap.size 0 d a1 c1 a2 c2) := HZ1.out.later hb
        clear hb
        have HN2 : Hid (AtT w2 av N ps) := HAT.out
        clear HAT HP2
        go_wp2
        go_loopw [7] (fun i wr => ∃ j : Nat, j ≤ N ∧ i = .int .i64 j ∧ Below w2.heap.size w2 wr ∧ ∀ i, i < j → ¬ ((LD (ps[i]?.getD [])).1 = 0 ∧ (LD (ps[i]?.getD [])).2 = x)) (fun i _ => N - (intOf i).toNat)
        case atStart => exact ⟨0, Nat.zero_le _, rfl, Below.refl _ _, fun i hi => by omega⟩
        case round =>
          obtain ⟨j, hj, rfl, hb, hz⟩ := hrel
          have HBL : Hid (Below w2.heap.size w2 wr) := hb
          have HZI : Hid (∀ i, i < j → ¬ ((LD (ps[i]?.getD [])).1 = 0 ∧ (LD (ps[i]?.getD [])).2 = x)) := hz
          clear hz
          have HB3 : Hid (Below w.heap.size w wr) := HB2.out.trans (hb.mono HB2.out.size)
          have HX3 : Hid (Bx wr (w.heap.size) [.slice a1 n1 c1, .slice a2 n2 c2]) := HX2.out.later hb
          have HR3 : Hid (OwnRow wr (w.heap.size + 1) 2 (cel [.int .i64 0, .string ⟨#[]⟩])) := HR2.out.later hb
          have HZ3 : Hid (FsX wr w.heap.size 0 d a1 c1 a2 c2) := HZ2.out.later hb
          have HN3 : Hid (AtT wr av N ps) := HN2.out.later hb
          clear hb
          by_cases hlt : j < N
          · skip
            obtain ⟨b1, o1, rfl, k0⟩ := HN3.out j hlt
            replace k0 : wr.cell? ⟨b1, o1 + j, none⟩ = some (.string (mkB (ps[j]?.getD []))) := k0
            have HSJ := HS2.out j hlt
            have hc := HC2.out wr j hlt
            have HCJ : Hid (Calls Tryz.prog 37 _ wr _) := hc
            have hw := fun W aN mN cN => HW2.out W j aN mN cN hlt
            have HWJ : Hid (∀ W aN mN cN, FsX W w.heap.size 0 d a1 c1 a2 c2 → _ → _ → Calls Tryz.prog 36 _ W _) := hw
            have HHJ : Hid (((LD (ps[j]?.getD [])).1 = 0 ∧ (LD (ps[j]?.getD [])).2 = x) → RES = (0, mkB (ps[j]?.getD []))) := HH.out j hlt HZI.out
            have HZN : Hid (¬ ((LD (ps[j]?.getD [])).1 = 0 ∧ (LD (ps[j]?.getD [])).2 = x) → ∀ i, i < j + 1 → ¬ ((LD (ps[i]?.getD [])).1 = 0 ∧ (LD (ps[i]?.getD [])).2 = x)) := fun hn i hi => by
              by_cases e : i = j
              · subst e; exact hn
              · exact HZI.out i (by omega)
            clear hc hw HZI HH HM HC2 HW2 HS2
            generalize cutB ((ps[j]?.getD []).drop 1) = xs at *
            generalize (LD (ps[j]?.getD [])).1 = lc at *
            generalize (LD (ps[j]?.getD [])).2 = lv at *
            generalize mkB ((ps[j]?.getD []).drop 1) = s2 at *
            generalize mkB (ps[j]?.getD []) = s at *
            go_wp2_with fail
            refine HCJ.out.mono ?_
            rintro e w4 ⟨aN, mN, cN, rfl, hb, hat, hmn⟩
            have HA4 : Hid (AtT w4 aN mN xs) := hat
            have HMN : Hid (xs.length = mN) := hmn
            clear hat hmn HCJ
            have k4 := cell_later hb k0
            have HBR : Hid (Below w2.heap.size w2 w4) := HBL.out.trans (hb.mono HBL.out.size)
            have HB4 : Hid (Below w.heap.size w w4) := HB3.out.trans (hb.mono HB3.out.size)
            have HX4 : Hid (Bx w4 (w.heap.size) [.slice a1 n1 c1, .slice a2 n2 c2]) := HX3.out.later hb
            have HR4 : Hid (OwnRow w4 (w.heap.size + 1) 2 (cel [.int .i64 0, .string ⟨#[]⟩])) := HR3.out.later hb
            have HZ4 : Hid (FsX w4 w.heap.size 0 d a1 c1 a2 c2) := HZ3.out.later hb
            have HN4 : Hid (AtT w4 (some ⟨b1, o1, none⟩) N ps) := HN3.out.later hb
            clear hb
            clear k0
            go_wp2_with fail
            refine (HWJ.out _ _ _ _ HZ4.out HMN.out HA4.out).mono ?_
            rintro e wq ⟨rfl, q, rfl⟩
            have hb := below_drewN (Below.refl w4.heap.size w4) q
            replace HBR : Hid (Below w2.heap.size w2 (w4.drewN q)) := below_drewN HBR.out q
            replace k4 := cell_later hb k4
            have HB5 : Hid (Below w.heap.size w (w4.drewN q)) := HB4.out.trans (hb.mono HB4.out.size)
            have HX5 : Hid (Bx (w4.drewN q) (w.heap.size) [.slice a1 n1 c1, .slice a2 n2 c2]) := HX4.out.later hb
            have HR5 : Hid (OwnRow (w4.drewN q) (w.heap.size + 1) 2 (cel [.int .i64 0, .string ⟨#[]⟩])) := HR4.out.later hb
            have HZ5 : Hid (FsX (w4.drewN q) w.heap.size 0 d a1 c1 a2 c2) := HZ4.out.later hb
            have HN5 : Hid (AtT (w4.drewN q) (some ⟨b1, o1, none⟩) N ps) := HN4.out.later hb
            clear hb
            clear HWJ HA4
            by_cases hc : lc = 0
            · skip
              have hcb : (lc == 0) = true := by simpa using hc
              by_cases hl : lv = x
              · skip
                have hlb : (lv == x) = true := by simpa using hl
                have HE : Hid (RES = (0, s)) := HHJ.out ⟨hc, hl⟩
                have hrr := HR5.out
                have t0 : (w4.drewN q).cell? ⟨w.heap.size + 1, 0, none⟩ = some (.int .i64 0) := hrr.cell (i := 0) (by omega)
                have t1 : (w4.drewN q).cell? ⟨w.heap.size + 1, 1, none⟩ = some (.string ⟨#[]⟩) := hrr.cell (i := 1) (by omega)
                have f0 := hrr.frozen 0
                have f1 := hrr.frozen 1
                have hlr := hrr.lt
                clear hrr
                clear hl hc
                go_wp2
                exact bodyPost_ret (v := .agg #[.int .i64 0, .string s]) (by simp [results, Tryz.results13, go_sem, t0, t1]) rfl (⟨by rw [HE.out], ((HB5.out).setCell (by first | omega | (simp <;> omega)) _).setCell (by first | omega | (simp <;> omega)) _⟩)
              · skip
                have hlb : (lv == x) = false := by simpa using hl
                have HZ9 : Hid _ := HZN.out (fun hh => hl hh.2)
                clear hl hc
                go_wp2
                go_roundw
                case rel => exact ⟨j + 1, by omega, by go_num, HBR.out, HZ9.out⟩
                case measure => simp [intOf]; omega
            · skip
              have hcb : (lc == 0) = false := by simpa using hc
              have HZ9 : Hid _ := HZN.out (fun hh => hc hh.1)
              clear hc
              go_wp2
              go_roundw
              case rel => exact ⟨j + 1, by omega, by go_num, HBR.out, HZ9.out⟩
              case measure => simp [intOf]; omega
          · skip
            have HE : Hid (RES = (4, ⟨#[]⟩)) := HM.out fun i hi => HZI.out i (by omega)
            have hrr := HR3.out
            have t0 : wr.cell? ⟨w.heap.size + 1, 0, none⟩ = some (.int .i64 0) := hrr.cell (i := 0) (by omega)
            have t1 : wr.cell? ⟨w.heap.size + 1, 1, none⟩ = some (.string ⟨#[]⟩) := hrr.cell (i := 1) (by omega)
            have f0 := hrr.frozen 0
            have f1 := hrr.frozen 1
            have hlr := hrr.lt
            clear hrr
            go_wp2
            exact bodyPost_ret (v := .agg #[.int .i64 4, .string ⟨#[]⟩]) (by simp [results, Tryz.results13, go_sem, t0, t1]) rfl (⟨by rw [HE.out], ((HB3.out).setCell (by first | omega | (simp <;> omega)) _).setCell (by first | omega | (simp <;> omega)) _⟩)
    · skip
      have hqb : decide (0 ≤ x ∧ x < (n1 : Int)) = false := by simpa using hq
      have HE : Hid (RES = (3, ⟨#[]⟩)) := HRQ.out hf hq
      rw [hqb]
      clear hq hqb
      have hrr := HR1.out
      have t0 : w1.cell? ⟨w.heap.size + 1, 0, none⟩ = some (.int .i64 0) := hrr.cell (i := 0) (by omega)
      have t1 : w1.cell? ⟨w.heap.size + 1, 1, none⟩ = some (.string ⟨#[]⟩) := hrr.cell (i := 1) (by omega)
      have f0 := hrr.frozen 0
      have f1 := hrr.frozen 1
      have hlr := hrr.lt
      clear hrr
      go_wp2
      exact bodyPost_ret (v := .agg #[.int .i64 3, .string ⟨#[]⟩]) (by simp [results, Tryz.results13, go_sem, t0, t1]) rfl (⟨by rw [HE.out], ((HB1.out).setCell (by first | omega | (simp <;> omega)) _).setCell (by first | omega | (simp <;> omega)) _⟩)
  · skip
    have hbb : (r != 0) = true := by simpa using hf
    have HE : Hid (RES = (r, ⟨#[]⟩)) := HRC.out hf
    have hrr := HR1.out
    have t0 : w1.cell? ⟨w.heap.size + 1, 0, none⟩ = some (.int .i64 0) := hrr.cell (i := 0) (by omega)
    have t1 : w1.cell? ⟨w.heap.size + 1, 1, none⟩ = some (.string ⟨#[]⟩) := hrr.cell (i := 1) (by omega)
    have f0 := hrr.frozen 0
    have f1 := hrr.frozen 1
    have hlr := hrr.lt
    clear hrr
    go_wp2
    exact bodyPost_ret (v := .agg #[.int .i64 r, .string ⟨#[]⟩]) (by simp [results, Tryz.results13, go_sem, t0, t1]) rfl (⟨by rw [HE.out], ((HB1.out).setCell (by first | omega | (simp <;> omega)) _).setCell (by first | omega | (simp <;> omega)) _⟩)

end Go.Proofs.YtlohgnidbkechaaGreatDoor

namespace Go.Proofs.YtlohgnidbkechaaGreatDoor
open Go.RowKit
set_option maxRecDepth 100000

def firstI (m : Nat → Bool) : Nat → Option Nat
  | 0 => none
  | k + 1 => match firstI m k with
    | some i => some i
    | none => if m k = true then some k else none
theorem firstI_none {m : Nat → Bool} : ∀ n, (∀ i, i < n → m i = false) → firstI m n = none
  | 0, _ => rfl
  | n + 1, h => by
    unfold firstI
    rw [firstI_none n fun i hi => h i (by omega)]
    simp only
    rw [if_neg (by rw [h n (by omega)]; simp)]
theorem firstI_some {m : Nat → Bool} {j : Nat} (h1 : ∀ i, i < j → m i = false) (h2 : m j = true) : ∀ n, j < n → firstI m n = some j
  | 0, h => by omega
  | n + 1, h => by
    unfold firstI
    by_cases e : j = n
    · subst e
      rw [firstI_none j h1]
      simp only
      rw [if_pos h2]
    · rw [firstI_some h1 h2 n (by omega)]
theorem hasI_contains (bs : List Int) (x : Int) {n : Nat} (h : n = bs.length) : hasI bs n x = bs.contains x := by
  subst h
  rw [Bool.eq_iff_iff]
  unfold hasI
  rw [List.any_eq_true, List.contains_iff_mem]
  constructor
  · rintro ⟨k, hk, e⟩
    have hk' := List.mem_range.1 hk
    rw [List.getElem?_eq_getElem hk'] at e
    have e' : bs[k] = x := by simpa using e
    rw [← e']
    exact List.getElem_mem hk'
  · intro hm
    obtain ⟨k, hk, e⟩ := List.getElem_of_mem hm
    exact ⟨k, List.mem_range.2 hk, by rw [List.getElem?_eq_getElem hk, e]; simp⟩
def blkHas (d : FD) (x : Int) (i : Nat) : Bool := (d.1[i]?.getD id0).2.2.2.1.contains x
def heldQ (d : FD) (x : Int) : Int × ByteArray := match firstI (blkHas d x) d.1.length with
  | some i => pathT d (i : Int)
  | none => (4, ⟨#[]⟩)
def heldR (d : FD) (x : Int) : Int × ByteArray := if fsF d = 0 then (if 0 ≤ x ∧ x ≤ 19 then heldQ d x else (3, ⟨#[]⟩)) else (fsF d, ⟨#[]⟩)

set_option maxHeartbeats 6400000 in
theorem implHeldU (w : World) (a1 : Option Addr) (n1 c1 : Nat) (a2 : Option Addr) (n2 c2 : Nat) (d : FD) (x : Int) (h : FsR w (.slice a1 n1 c1) (.slice a2 n2 c2) d) (hs : sizeFs d ≤ 1048576) (hgl : Gl w) :
    Calls Tryz.prog 10 #[.agg #[.slice a1 n1 c1, .slice a2 n2 c2], .int .i64 x] w fun e w' => e = .returned (.agg #[.int .i64 (heldR d x).1, .string (heldR d x).2]) ∧ Below w.heap.size w w' := by
  have HF : Hid (∀ W, Below w.heap.size w W → Calls Tryz.prog 30 #[.agg #[.slice a1 n1 c1, .slice a2 n2 c2]] W fun e w' => e = .returned (.int .i64 (fsF d)) ∧ Below W.heap.size W w') := fun W hW => implFsU W _ _ _ _ _ _ d (h.later hW) hs
  have HPO : Hid (∀ W (j : Nat), Below w.heap.size w W → Calls Tryz.prog 14 #[.agg #[.slice a1 n1 c1, .slice a2 n2 c2], .int .i64 (j : Int)] W fun e w' => e = .returned (.agg #[.int .i64 (pathT d (j : Int)).1, .string (pathT d (j : Int)).2]) ∧ Below W.heap.size W w') := fun W j hW => implPathU W _ _ _ _ _ _ d (j : Int) (h.later hW) hs (hgl.later hW)
  have HRC : Hid (¬ fsF d = 0 → heldR d x = (fsF d, ⟨#[]⟩)) := fun hf => by unfold heldR; rw [if_neg hf]
  have HRQ : Hid (fsF d = 0 → ¬ (0 ≤ x ∧ x ≤ 19) → heldR d x = (3, ⟨#[]⟩)) := fun hf h1 => by unfold heldR; rw [if_pos hf, if_neg h1]
  have HRH : Hid (fsF d = 0 → (0 ≤ x ∧ x ≤ 19) → ∀ j, j < d.1.length → (∀ i, i < j → blkHas d x i = false) → blkHas d x j = true → heldR d x = pathT d (j : Int)) := fun hf h1 j hj h3 h4 => by
    unfold heldR heldQ
    rw [if_pos hf, if_pos h1, firstI_some h3 h4 _ hj]
  have HRM : Hid (fsF d = 0 → (0 ≤ x ∧ x ≤ 19) → (∀ i, i < d.1.length → blkHas d x i = false) → heldR d x = (4, ⟨#[]⟩)) := fun hf h1 h3 => by
    unfold heldR heldQ
    rw [if_pos hf, if_pos h1, firstI_none _ h3]
  have HBH : Hid (∀ i, (d.1[i]?.getD id0).2.2.2.1.contains x = blkHas d x i) := fun i => rfl
  obtain ⟨_, _, e2, _, hc⟩ := h.1.open'
  simp only [Value.slice.injEq] at e2
  obtain ⟨rfl, rfl, rfl⟩ := e2
  have HC : Hid (AtI w a1 d.1.length d.1) := hc
  have hnm : d.1.length ≤ 1048576 := by unfold sizeFs sizeInos at hs; omega
  have HSZ : Hid (∀ j : Nat, (d.1[j]?.getD id0).2.2.2.1.length ≤ 1048576) := fun j => by
    have h1 := isz_le d.1 j
    have h2 : sizeIno (d.1[j]?.getD id0) = (d.1[j]?.getD id0).2.2.2.1.length + sizeN (d.1[j]?.getD id0).2.2.2.2 := rfl
    unfold sizeFs sizeInos at hs
    omega
  clear h hs hgl hc
  generalize heldR d x = RES at *
  generalize pathT d = PT at *
  generalize fsF d = r at *
  generalize blkHas d x = M at *
  generalize d.1.length = n1 at *
  have HB0 : Hid (Below w.heap.size w ((w.alloc (.cells #[.slice a1 n1 c1, .slice a2 n2 c2] 32)).alloc (.cells #[.int .i64 0, .string ⟨#[]⟩] 28))) := later2 _ _ _
  have HX0 : Hid (Bx ((w.alloc (.cells #[.slice a1 n1 c1, .slice a2 n2 c2] 32)).alloc (.cells #[.int .i64 0, .string ⟨#[]⟩] 28)) (w.heap.size) [.slice a1 n1 c1, .slice a2 n2 c2]) := (Bx.new w [.slice a1 n1 c1, .slice a2 n2 c2] _).later (later1 _ _)
  have HR0 : Hid (OwnRow ((w.alloc (.cells #[.slice a1 n1 c1, .slice a2 n2 c2] 32)).alloc (.cells #[.int .i64 0, .string ⟨#[]⟩] 28)) (w.heap.size + 1) 2 (cel [.int .i64 0, .string ⟨#[]⟩])) := (show OwnRow ((w.alloc (.cells #[.slice a1 n1 c1, .slice a2 n2 c2] 32)).alloc (.cells #[.int .i64 0, .string ⟨#[]⟩] 28)) (w.heap.size + 1) 2 (cel [.int .i64 0, .string ⟨#[]⟩]) from by have := newCel (w.alloc (.cells #[.slice a1 n1 c1, .slice a2 n2 c2] 32)) [.int .i64 0, .string ⟨#[]⟩] 28; rw [World.size_alloc] at this; exact this)
  go_enter Tryz.func10, Tryz.ntmps10
  have xHX0 := HX0.out 0 _ rfl
  have xHX1 := HX0.out 1 _ rfl
  go_wp2_with fail
  clear xHX0 xHX1
  refine (HF.out _ HB0.out).mono ?_
  rintro e w1 ⟨rfl, hb⟩
  have HB1 : Hid (Below w.heap.size w w1) := HB0.out.trans (hb.mono HB0.out.size)
  have HX1 : Hid (Bx w1 (w.heap.size) [.slice a1 n1 c1, .slice a2 n2 c2]) := HX0.out.later hb
  have HR1 : Hid (OwnRow w1 (w.heap.size + 1) 2 (cel [.int .i64 0, .string ⟨#[]⟩])) := HR0.out.later hb
  clear hb
  by_cases hf : r = 0
  · skip
    have hfb : (r != 0) = false := by simpa using hf
    by_cases h0 : x < 0
    · skip
      have HE : Hid (RES = (3, ⟨#[]⟩)) := HRQ.out hf (by omega)
      have h0b : decide (x < 0) = true := by simpa using h0
      have hrr := HR1.out
      have t0 : w1.cell? ⟨w.heap.size + 1, 0, none⟩ = some (.int .i64 0) := hrr.cell (i := 0) (by omega)
      have t1 : w1.cell? ⟨w.heap.size + 1, 1, none⟩ = some (.string ⟨#[]⟩) := hrr.cell (i := 1) (by omega)
      have f0 := hrr.frozen 0
      have f1 := hrr.frozen 1
      have hlr := hrr.lt
      clear hrr
      go_wp2
      exact bodyPost_ret (v := .agg #[.int .i64 3, .string ⟨#[]⟩]) (by simp [results, Tryz.results10, go_sem, t0, t1]) rfl (⟨by rw [HE.out], ((HB1.out).setCell (by first | omega | (simp <;> omega)) _).setCell (by first | omega | (simp <;> omega)) _⟩)
    · skip
      have h0b : decide (x < 0) = false := by simpa using h0
      by_cases h9 : 20 ≤ x
      · skip
        have HE : Hid (RES = (3, ⟨#[]⟩)) := HRQ.out hf (by omega)
        have h9b : decide (20 ≤ x) = true := by simpa using h9
        have hrr := HR1.out
        have t0 : w1.cell? ⟨w.heap.size + 1, 0, none⟩ = some (.int .i64 0) := hrr.cell (i := 0) (by omega)
        have t1 : w1.cell? ⟨w.heap.size + 1, 1, none⟩ = some (.string ⟨#[]⟩) := hrr.cell (i := 1) (by omega)
        have f0 := hrr.frozen 0
        have f1 := hrr.frozen 1
        have hlr := hrr.lt
        clear hrr
        go_wp2
        exact bodyPost_ret (v := .agg #[.int .i64 3, .string ⟨#[]⟩]) (by simp [results, Tryz.results10, go_sem, t0, t1]) rfl (⟨by rw [HE.out], ((HB1.out).setCell (by first | omega | (simp <;> omega)) _).setCell (by first | omega | (simp <;> omega)) _⟩)
      · skip
        have hq : 0 ≤ x ∧ x ≤ 19 := by omega
        have h9b : decide (20 ≤ x) = false := by simpa using h9
        have HH : Hid (∀ j, j < n1 → (∀ i, i < j → M i = false) → M j = true → RES = PT (j : Int)) := HRH.out hf hq
        have HM : Hid ((∀ i, i < n1 → M i = false) → RES = (4, ⟨#[]⟩)) := HRM.out hf hq
        clear HRH HRM HRQ HRC HF
        have xHX0 := HX1.out 0 _ rfl
        go_wp2
        go_loopw [24] (fun i wr => ∃ j : Nat, j ≤ n1 ∧ i = .int .i64 j ∧ Below w1.heap.size w1 wr ∧ ∀ i, i < j → M i = false) (fun i _ => n1 - (intOf i).toNat)
        case atStart => exact ⟨0, Nat.zero_le _, rfl, Below.refl _ _, fun i hi => by omega⟩
        case round =>
          obtain ⟨j, hj, rfl, hb, hz⟩ := hrel
          have HBL : Hid (Below w1.heap.size w1 wr) := hb
          have HZI : Hid (∀ i, i < j → M i = false) := hz
          clear hz
          clear xHX0
          have HB2 : Hid (Below w.heap.size w wr) := HB1.out.trans (hb.mono HB1.out.size)
          have HX2 : Hid (Bx wr (w.heap.size) [.slice a1 n1 c1, .slice a2 n2 c2]) := HX1.out.later hb
          have HR2 : Hid (OwnRow wr (w.heap.size + 1) 2 (cel [.int .i64 0, .string ⟨#[]⟩])) := HR1.out.later hb
          clear hb
          by_cases hlt : j < n1
          · skip
            obtain ⟨b1, o1, rfl, hI⟩ := HC.out j hlt
            obtain ⟨aB, cB, aE, cE, k0, k1, k2, k3, k4, k5⟩ := hI.later HB2.out
            have hbz := lt_of_cell k0
            have hib := k5.2.1
            have hisz : (d.1[j]?.getD id0).2.2.2.1.length ≤ 1048576 := by have := HSZ.out j; exact this
            have HLB : Hid ((d.1[j]?.getD id0).2.2.2.1.length ≤ 1048576) := hisz
            have HIB : Hid (Ints wr (.slice aB (d.1[j]?.getD id0).2.2.2.1.length cB) (d.1[j]?.getD id0).2.2.2.1) := hib
            have HBJ := HBH.out j
            have HCB : Hid ((d.1[j]?.getD id0).2.2.2.1.contains x = M j) := HBJ
            have HHJ : Hid (M j = true → RES = PT (j : Int)) := HH.out j hlt HZI.out
            have HZN : Hid (M j = false → ∀ i, i < j + 1 → M i = false) := fun hn i hi => by
              by_cases e : i = j
              · subst e; exact hn
              · exact HZI.out i (by omega)
            clear HZI hI k5 hib HBJ HH HM HBH hisz
            generalize M j = mj at *
            generalize (d.1[j]?.getD id0).2.2.2.2.length = lE at *
            generalize hbs : (d.1[j]?.getD id0).2.2.2.1 = bs at *
            clear hbs
            generalize bs.length = lB at *
            generalize (d.1[j]?.getD id0).1 = z0 at *
            generalize (d.1[j]?.getD id0).2.1 = z1 at *
            generalize (d.1[j]?.getD id0).2.2.1 = z2 at *
            have hb := later1 wr (.cells #[.int .i64 z0, .int .i64 z1, .int .i64 z2, .slice aB lB cB, .slice aE lE cE] 55)
            have HIB2 : Hid (Ints (wr.alloc (.cells #[.int .i64 z0, .int .i64 z1, .int .i64 z2, .slice aB lB cB, .slice aE lE cE] 55)) (.slice aB lB cB) bs) := HIB.out.later hb
            have HBR0 : Hid (Below w1.heap.size w1 (wr.alloc (.cells #[.int .i64 z0, .int .i64 z1, .int .i64 z2, .slice aB lB cB, .slice aE lE cE] 55))) := HBL.out.trans (hb.mono HBL.out.size)
            have HB3 : Hid (Below w.heap.size w (wr.alloc (.cells #[.int .i64 z0, .int .i64 z1, .int .i64 z2, .slice aB lB cB, .slice aE lE cE] 55))) := HB2.out.trans (hb.mono HB2.out.size)
            have HX3 : Hid (Bx (wr.alloc (.cells #[.int .i64 z0, .int .i64 z1, .int .i64 z2, .slice aB lB cB, .slice aE lE cE] 55)) (w.heap.size) [.slice (some ⟨b1, o1, none⟩) n1 c1, .slice a2 n2 c2]) := HX2.out.later hb
            have HR3 : Hid (OwnRow (wr.alloc (.cells #[.int .i64 z0, .int .i64 z1, .int .i64 z2, .slice aB lB cB, .slice aE lE cE] 55)) (w.heap.size + 1) 2 (cel [.int .i64 0, .string ⟨#[]⟩])) := HR2.out.later hb
            clear hb
            go_wp2_with fail
            obtain ⟨_, _, evB, hmB, hatB⟩ := HIB2.out.open'
            simp only [Value.slice.injEq] at evB
            obtain ⟨rfl, hlB, rfl⟩ := evB
            have hcn := containsI_any (wr.alloc (.cells #[.int .i64 z0, .int .i64 z1, .int .i64 z2, .slice aB lB cB, .slice aE lE cE] 55)) aB lB cB bs x HLB.out (fun k hk => hatB k (by rw [← hlB]; exact hk))
            rw [hasI_contains bs x hlB, HCB.out] at hcn
            clear hlB hatB hmB
            refine hcn.mono ?_
            clear hcn
            rintro e wq ⟨rfl, mq, rfl⟩
            have hb := below_drewN (Below.refl (wr.alloc (.cells #[.int .i64 z0, .int .i64 z1, .int .i64 z2, .slice aB lB cB, .slice aE lE cE] 55)).heap.size (wr.alloc (.cells #[.int .i64 z0, .int .i64 z1, .int .i64 z2, .slice aB lB cB, .slice aE lE cE] 55))) mq
            have HBR : Hid (Below w1.heap.size w1 ((wr.alloc (.cells #[.int .i64 z0, .int .i64 z1, .int .i64 z2, .slice aB lB cB, .slice aE lE cE] 55)).drewN mq)) := HBR0.out.trans (hb.mono HBR0.out.size)
            have HB4 : Hid (Below w.heap.size w ((wr.alloc (.cells #[.int .i64 z0, .int .i64 z1, .int .i64 z2, .slice aB lB cB, .slice aE lE cE] 55)).drewN mq)) := HB3.out.trans (hb.mono HB3.out.size)
            have HX4 : Hid (Bx ((wr.alloc (.cells #[.int .i64 z0, .int .i64 z1, .int .i64 z2, .slice aB lB cB, .slice aE lE cE] 55)).drewN mq) (w.heap.size) [.slice (some ⟨b1, o1, none⟩) n1 c1, .slice a2 n2 c2]) := HX3.out.later hb
            have HR4 : Hid (OwnRow ((wr.alloc (.cells #[.int .i64 z0, .int .i64 z1, .int .i64 z2, .slice aB lB cB, .slice aE lE cE] 55)).drewN mq) (w.heap.size + 1) 2 (cel [.int .i64 0, .string ⟨#[]⟩])) := HR3.out.later hb
            clear hb
            cases mj with
            | true =>
              have HE : Hid (RES = PT (j : Int)) := HHJ.out rfl
              clear k0 k1 k2 k3 k4
              have xHX0 := HX4.out 0 _ rfl
              have xHX1 := HX4.out 1 _ rfl
              go_wp2_with fail
              clear xHX0 xHX1
              refine (HPO.out _ j HB4.out).mono ?_
              rintro e w5 ⟨rfl, hb⟩
              have HB5 : Hid (Below w.heap.size w w5) := HB4.out.trans (hb.mono HB4.out.size)
              have HX5 : Hid (Bx w5 (w.heap.size) [.slice (some ⟨b1, o1, none⟩) n1 c1, .slice a2 n2 c2]) := HX4.out.later hb
              have HR5 : Hid (OwnRow w5 (w.heap.size + 1) 2 (cel [.int .i64 0, .string ⟨#[]⟩])) := HR4.out.later hb
              clear hb
              have hrr := HR5.out
              have t0 : w5.cell? ⟨w.heap.size + 1, 0, none⟩ = some (.int .i64 0) := hrr.cell (i := 0) (by omega)
              have t1 : w5.cell? ⟨w.heap.size + 1, 1, none⟩ = some (.string ⟨#[]⟩) := hrr.cell (i := 1) (by omega)
              have f0 := hrr.frozen 0
              have f1 := hrr.frozen 1
              have hlr := hrr.lt
              clear hrr
              go_wp2
              exact bodyPost_ret (v := .agg #[.int .i64 (PT (j : Int)).1, .string (PT (j : Int)).2]) (by simp [results, Tryz.results10, go_sem, t0, t1]) rfl (⟨by rw [HE.out], ((HB5.out).setCell (by first | omega | (simp <;> omega)) _).setCell (by first | omega | (simp <;> omega)) _⟩)
            | false =>
              have HZ9 : Hid _ := HZN.out rfl
              go_wp2
              go_roundw
              case rel => exact ⟨j + 1, by omega, by go_num, HBR.out, HZ9.out⟩
              case measure => simp [intOf]; omega
          · skip
            have HE : Hid (RES = (4, ⟨#[]⟩)) := HM.out fun i hi => HZI.out i (by omega)
            have hrr := HR2.out
            have t0 : wr.cell? ⟨w.heap.size + 1, 0, none⟩ = some (.int .i64 0) := hrr.cell (i := 0) (by omega)
            have t1 : wr.cell? ⟨w.heap.size + 1, 1, none⟩ = some (.string ⟨#[]⟩) := hrr.cell (i := 1) (by omega)
            have f0 := hrr.frozen 0
            have f1 := hrr.frozen 1
            have hlr := hrr.lt
            clear hrr
            go_wp2
            exact bodyPost_ret (v := .agg #[.int .i64 4, .string ⟨#[]⟩]) (by simp [results, Tryz.results10, go_sem, t0, t1]) rfl (⟨by rw [HE.out], ((HB2.out).setCell (by first | omega | (simp <;> omega)) _).setCell (by first | omega | (simp <;> omega)) _⟩)
  · skip
    have hbb : (r != 0) = true := by simpa using hf
    have HE : Hid (RES = (r, ⟨#[]⟩)) := HRC.out hf
    have hrr := HR1.out
    have t0 : w1.cell? ⟨w.heap.size + 1, 0, none⟩ = some (.int .i64 0) := hrr.cell (i := 0) (by omega)
    have t1 : w1.cell? ⟨w.heap.size + 1, 1, none⟩ = some (.string ⟨#[]⟩) := hrr.cell (i := 1) (by omega)
    have f0 := hrr.frozen 0
    have f1 := hrr.frozen 1
    have hlr := hrr.lt
    clear hrr
    go_wp2
    exact bodyPost_ret (v := .agg #[.int .i64 r, .string ⟨#[]⟩]) (by simp [results, Tryz.results10, go_sem, t0, t1]) rfl (⟨by rw [HE.out], ((HB1.out).setCell (by first | omega | (simp <;> omega)) _).setCell (by first | omega | (simp <;> omega)) _⟩)

set_option maxHeartbeats 6400000 in
theorem specHeldU (w : World) (a1 : Option Addr) (n1 c1 : Nat) (a2 : Option Addr) (n2 c2 : Nat) (d : FD) (x : Int) (h : FsR w (.slice a1 n1 c1) (.slice a2 n2 c2) d) (hs : sizeFs d ≤ 1048576) :
    Calls Tryz.prog 8 #[.agg #[.slice a1 n1 c1, .slice a2 n2 c2], .int .i64 x] w fun e w' => e = .returned (.agg #[.int .i64 (heldR d x).1, .string (heldR d x).2]) ∧ Below w.heap.size w w' := by
  obtain ⟨hx0, hq1, hq2⟩ := FsX.box h 32
  have hx := hx0.later (later1 _ (.cells #[.int .i64 0, .string ⟨#[]⟩] 28))
  have hsi : sizeInos d.1 ≤ 1048576 := by unfold sizeFs at hs; omega
  have HF : Hid (Calls Tryz.prog 25 _ _ _) := l6Fault_any _ _ _ d _ _ _ _ hx hsi
  have HPO : Hid (∀ W (j : Nat), Below w.heap.size w W → Calls Tryz.prog 13 #[.agg #[.slice a1 n1 c1, .slice a2 n2 c2], .int .i64 (j : Int)] W fun e w' => e = .returned (.agg #[.int .i64 (pathT d (j : Int)).1, .string (pathT d (j : Int)).2]) ∧ Below W.heap.size W w') := fun W j hW => specPathU W _ _ _ _ _ _ d (j : Int) (h.later hW) hs
  have HRC : Hid (¬ fsF d = 0 → heldR d x = (fsF d, ⟨#[]⟩)) := fun hf => by unfold heldR; rw [if_neg hf]
  have HRQ : Hid (fsF d = 0 → ¬ (0 ≤ x ∧ x ≤ 19) → heldR d x = (3, ⟨#[]⟩)) := fun hf h1 => by unfold heldR; rw [if_pos hf, if_neg h1]
  have HRH : Hid (fsF d = 0 → (0 ≤ x ∧ x ≤ 19) → ∀ j, j < d.1.length → (∀ i, i < j → blkHas d x i = false) → blkHas d x j = true → heldR d x = pathT d (j : Int)) := fun hf h1 j hj h3 h4 => by
    unfold heldR heldQ
    rw [if_pos hf, if_pos h1, firstI_some h3 h4 _ hj]
  have HRM : Hid (fsF d = 0 → (0 ≤ x ∧ x ≤ 19) → (∀ i, i < d.1.length → blkHas d x i = false) → heldR d x = (4, ⟨#[]⟩)) := fun hf h1 h3 => by
    unfold heldR heldQ
    rw [if_pos hf, if_pos h1, firstI_none _ h3]
  have HBH : Hid (∀ i, (d.1[i]?.getD id0).2.2.2.1.contains x = blkHas d x i) := fun i => rfl
  obtain ⟨_, _, e2, _, hc⟩ := h.1.open'
  simp only [Value.slice.injEq] at e2
  obtain ⟨rfl, hone, rfl⟩ := e2
  have HC : Hid (AtI w a1 d.1.length d.1) := hc
  have hnm : d.1.length ≤ 1048576 := by unfold sizeFs sizeInos at hs; omega
  have HSZ : Hid (∀ j : Nat, (d.1[j]?.getD id0).2.2.2.1.length ≤ 1048576) := fun j => by
    have h1 := isz_le d.1 j
    have h2 : sizeIno (d.1[j]?.getD id0) = (d.1[j]?.getD id0).2.2.2.1.length + sizeN (d.1[j]?.getD id0).2.2.2.2 := rfl
    unfold sizeFs sizeInos at hs
    omega
  subst hone; subst hq2
  clear h hx hx0 hs hsi hc hq1
  generalize heldR d x = RES at *
  generalize pathT d = PT at *
  generalize fsF d = r at *
  generalize blkHas d x = M at *
  generalize d.1.length = n1 at *
  generalize d.2.length = n2 at *
  have HB0 : Hid (Below w.heap.size w ((w.alloc (.cells #[.slice a1 n1 c1, .slice a2 n2 c2] 32)).alloc (.cells #[.int .i64 0, .string ⟨#[]⟩] 28))) := later2 _ _ _
  have HX0 : Hid (Bx ((w.alloc (.cells #[.slice a1 n1 c1, .slice a2 n2 c2] 32)).alloc (.cells #[.int .i64 0, .string ⟨#[]⟩] 28)) (w.heap.size) [.slice a1 n1 c1, .slice a2 n2 c2]) := (Bx.new w [.slice a1 n1 c1, .slice a2 n2 c2] _).later (later1 _ _)
  have HR0 : Hid (OwnRow ((w.alloc (.cells #[.slice a1 n1 c1, .slice a2 n2 c2] 32)).alloc (.cells #[.int .i64 0, .string ⟨#[]⟩] 28)) (w.heap.size + 1) 2 (cel [.int .i64 0, .string ⟨#[]⟩])) := (show OwnRow ((w.alloc (.cells #[.slice a1 n1 c1, .slice a2 n2 c2] 32)).alloc (.cells #[.int .i64 0, .string ⟨#[]⟩] 28)) (w.heap.size + 1) 2 (cel [.int .i64 0, .string ⟨#[]⟩]) from by have := newCel (w.alloc (.cells #[.slice a1 n1 c1, .slice a2 n2 c2] 32)) [.int .i64 0, .string ⟨#[]⟩] 28; rw [World.size_alloc] at this; exact this)
  go_enter Tryz.func8, Tryz.ntmps8
  go_wp2_with fail
  refine (HF.out).mono ?_
  rintro e w1 ⟨rfl, hb⟩
  have HB1 : Hid (Below w.heap.size w w1) := HB0.out.trans (hb.mono HB0.out.size)
  have HX1 : Hid (Bx w1 (w.heap.size) [.slice a1 n1 c1, .slice a2 n2 c2]) := HX0.out.later hb
  have HR1 : Hid (OwnRow w1 (w.heap.size + 1) 2 (cel [.int .i64 0, .string ⟨#[]⟩])) := HR0.out.later hb
  clear hb
  by_cases hf : r = 0
  · skip
    have hfb : (r != 0) = false := by simpa using hf
    by_cases h0 : 0 ≤ x ∧ x ≤ 19
    · skip
      have hq : 0 ≤ x ∧ x ≤ 19 := by omega
      have HH : Hid (∀ j, j < n1 → (∀ i, i < j → M i = false) → M j = true → RES = PT (j : Int)) := HRH.out hf hq
      have HM : Hid ((∀ i, i < n1 → M i = false) → RES = (4, ⟨#[]⟩)) := HRM.out hf hq
      go_wp2_with fail
      refine (l1In_is (r := true) (by simp <;> omega)).mono ?_
      rintro e wq ⟨rfl, hq0⟩
      subst wq
      clear HRH HRM HRQ HRC HF
      go_wp2
      go_loopw [6] (fun i wr => ∃ j : Nat, j ≤ n1 ∧ i = .int .i64 j ∧ Below w1.heap.size w1 wr ∧ ∀ i, i < j → M i = false) (fun i _ => n1 - (intOf i).toNat)
      case atStart => exact ⟨0, Nat.zero_le _, rfl, Below.refl _ _, fun i hi => by omega⟩
      case round =>
        obtain ⟨j, hj, rfl, hb, hz⟩ := hrel
        have HBL : Hid (Below w1.heap.size w1 wr) := hb
        have HZI : Hid (∀ i, i < j → M i = false) := hz
        clear hz
        have HB2 : Hid (Below w.heap.size w wr) := HB1.out.trans (hb.mono HB1.out.size)
        have HX2 : Hid (Bx wr (w.heap.size) [.slice a1 n1 c1, .slice a2 n2 c2]) := HX1.out.later hb
        have HR2 : Hid (OwnRow wr (w.heap.size + 1) 2 (cel [.int .i64 0, .string ⟨#[]⟩])) := HR1.out.later hb
        clear hb
        have xHX0 := HX2.out 0 _ rfl
        by_cases hlt : j < n1
        · skip
          obtain ⟨b1, o1, rfl, hI⟩ := HC.out j hlt
          obtain ⟨aB, cB, aE, cE, k0, k1, k2, k3, k4, k5⟩ := hI.later HB2.out
          have hbz := lt_of_cell k0
          have hib := k5.2.1
          have hisz : (d.1[j]?.getD id0).2.2.2.1.length ≤ 1048576 := by have := HSZ.out j; exact this
          have HLB : Hid ((d.1[j]?.getD id0).2.2.2.1.length ≤ 1048576) := hisz
          have HIB : Hid (Ints wr (.slice aB (d.1[j]?.getD id0).2.2.2.1.length cB) (d.1[j]?.getD id0).2.2.2.1) := hib
          have HBJ := HBH.out j
          have HCB : Hid ((d.1[j]?.getD id0).2.2.2.1.contains x = M j) := HBJ
          have HHJ : Hid (M j = true → RES = PT (j : Int)) := HH.out j hlt HZI.out
          have HZN : Hid (M j = false → ∀ i, i < j + 1 → M i = false) := fun hn i hi => by
            by_cases e : i = j
            · subst e; exact hn
            · exact HZI.out i (by omega)
          clear HZI hI k5 hib HBJ HH HM HBH hisz
          generalize M j = mj at *
          generalize (d.1[j]?.getD id0).2.2.2.2.length = lE at *
          generalize hbs : (d.1[j]?.getD id0).2.2.2.1 = bs at *
          clear hbs
          generalize bs.length = lB at *
          generalize (d.1[j]?.getD id0).1 = z0 at *
          generalize (d.1[j]?.getD id0).2.1 = z1 at *
          generalize (d.1[j]?.getD id0).2.2.1 = z2 at *
          go_wp2_with fail
          refine (l5Among_any HIB.out x).mono ?_
          rw [HCB.out]
          rintro e wq ⟨rfl, m, rfl⟩
          have hb := below_drewN (Below.refl wr.heap.size wr) m
          have HBR : Hid (Below w1.heap.size w1 (wr.drewN m)) := below_drewN HBL.out m
          have HB3 : Hid (Below w.heap.size w (wr.drewN m)) := HB2.out.trans (hb.mono HB2.out.size)
          have HX3 : Hid (Bx (wr.drewN m) (w.heap.size) [.slice (some ⟨b1, o1, none⟩) n1 c1, .slice a2 n2 c2]) := HX2.out.later hb
          have HR3 : Hid (OwnRow (wr.drewN m) (w.heap.size + 1) 2 (cel [.int .i64 0, .string ⟨#[]⟩])) := HR2.out.later hb
          clear hb
          cases mj with
          | true =>
            have HE : Hid (RES = PT (j : Int)) := HHJ.out rfl
            clear k0 k1 k2 k3 k4 xHX0
            have xHX0 := HX3.out 0 _ rfl
            have xHX1 := HX3.out 1 _ rfl
            go_wp2_with fail
            clear xHX0 xHX1
            refine (HPO.out _ j HB3.out).mono ?_
            rintro e w4 ⟨rfl, hb⟩
            have HB4 : Hid (Below w.heap.size w w4) := HB3.out.trans (hb.mono HB3.out.size)
            have HX4 : Hid (Bx w4 (w.heap.size) [.slice (some ⟨b1, o1, none⟩) n1 c1, .slice a2 n2 c2]) := HX3.out.later hb
            have HR4 : Hid (OwnRow w4 (w.heap.size + 1) 2 (cel [.int .i64 0, .string ⟨#[]⟩])) := HR3.out.later hb
            clear hb
            have hrr := HR4.out
            have t0 : w4.cell? ⟨w.heap.size + 1, 0, none⟩ = some (.int .i64 0) := hrr.cell (i := 0) (by omega)
            have t1 : w4.cell? ⟨w.heap.size + 1, 1, none⟩ = some (.string ⟨#[]⟩) := hrr.cell (i := 1) (by omega)
            have f0 := hrr.frozen 0
            have f1 := hrr.frozen 1
            have hlr := hrr.lt
            clear hrr
            go_wp2
            exact bodyPost_ret (v := .agg #[.int .i64 (PT (j : Int)).1, .string (PT (j : Int)).2]) (by simp [results, Tryz.results8, go_sem, t0, t1]) rfl (⟨by rw [HE.out], ((HB4.out).setCell (by first | omega | (simp <;> omega)) _).setCell (by first | omega | (simp <;> omega)) _⟩)
          | false =>
            have HZ9 : Hid _ := HZN.out rfl
            go_wp2
            go_roundw
            case rel => exact ⟨j + 1, by omega, by go_num, HBR.out, HZ9.out⟩
            case measure => simp [intOf]; omega
        · skip
          have HE : Hid (RES = (4, ⟨#[]⟩)) := HM.out fun i hi => HZI.out i (by omega)
          have hrr := HR2.out
          have t0 : wr.cell? ⟨w.heap.size + 1, 0, none⟩ = some (.int .i64 0) := hrr.cell (i := 0) (by omega)
          have t1 : wr.cell? ⟨w.heap.size + 1, 1, none⟩ = some (.string ⟨#[]⟩) := hrr.cell (i := 1) (by omega)
          have f0 := hrr.frozen 0
          have f1 := hrr.frozen 1
          have hlr := hrr.lt
          clear hrr
          go_wp2
          exact bodyPost_ret (v := .agg #[.int .i64 4, .string ⟨#[]⟩]) (by simp [results, Tryz.results8, go_sem, t0, t1]) rfl (⟨by rw [HE.out], ((HB2.out).setCell (by first | omega | (simp <;> omega)) _).setCell (by first | omega | (simp <;> omega)) _⟩)
    · skip
      have HE : Hid (RES = (3, ⟨#[]⟩)) := HRQ.out hf (by omega)
      go_wp2_with fail
      refine (l1In_is (r := false) (by simp <;> omega)).mono ?_
      rintro e wq ⟨rfl, hq0⟩
      subst wq
      have hrr := HR1.out
      have t0 : w1.cell? ⟨w.heap.size + 1, 0, none⟩ = some (.int .i64 0) := hrr.cell (i := 0) (by omega)
      have t1 : w1.cell? ⟨w.heap.size + 1, 1, none⟩ = some (.string ⟨#[]⟩) := hrr.cell (i := 1) (by omega)
      have f0 := hrr.frozen 0
      have f1 := hrr.frozen 1
      have hlr := hrr.lt
      clear hrr
      go_wp2
      exact bodyPost_ret (v := .agg #[.int .i64 3, .string ⟨#[]⟩]) (by simp [results, Tryz.results8, go_sem, t0, t1]) rfl (⟨by rw [HE.out], ((HB1.out).setCell (by first | omega | (simp <;> omega)) _).setCell (by first | omega | (simp <;> omega)) _⟩)
  · skip
    have hbb : (r != 0) = true := by simpa using hf
    have HE : Hid (RES = (r, ⟨#[]⟩)) := HRC.out hf
    have hrr := HR1.out
    have t0 : w1.cell? ⟨w.heap.size + 1, 0, none⟩ = some (.int .i64 0) := hrr.cell (i := 0) (by omega)
    have t1 : w1.cell? ⟨w.heap.size + 1, 1, none⟩ = some (.string ⟨#[]⟩) := hrr.cell (i := 1) (by omega)
    have f0 := hrr.frozen 0
    have f1 := hrr.frozen 1
    have hlr := hrr.lt
    clear hrr
    go_wp2
    exact bodyPost_ret (v := .agg #[.int .i64 r, .string ⟨#[]⟩]) (by simp [results, Tryz.results8, go_sem, t0, t1]) rfl (⟨by rw [HE.out], ((HB1.out).setCell (by first | omega | (simp <;> omega)) _).setCell (by first | omega | (simp <;> omega)) _⟩)

end Go.Proofs.YtlohgnidbkechaaGreatDoor

namespace Go.Proofs.YtlohgnidbkechaaGreatDoor
open Go.ChangeShapes Go.WideShapes Go.ChangeAt Go.RowKit Go.Deep
set_option maxRecDepth 100000

section
variable {H : Type} {enc : TypeId × Value → H} {P : Program} {w : World} {base : Nat} {held : Bool}

theorem addr_of {a : Addr} {v : Value} (h : w.cell? (a.add 0) = some v) : a = ⟨a.block, a.off, none⟩ := by
  obtain ⟨b, o, s⟩ := a
  have : s = none := by simpa [Addr.add] using World.cell?_spot h
  subst this; rfl
theorem add_plain (b off k : Nat) : (⟨b, off, none⟩ : Addr).add k = ⟨b, off + k, none⟩ := by
  by_cases h : k = 0
  · subst h; simp [Addr.add]
  · simp [Addr.add, h]

theorem open_Ints {t e : TypeId} {fuel : Nat} {v : Value} {x : DataW H × List MemPlace} (ht : P.underlying t = some (.slice e)) (he : P.underlying e = some (.int .i64)) (ce : P.cellsOf e = 1) (h : DataW.trod enc P w base (fun _ => true) held fuel t [v] = some x) :
    ∃ zs, Ints w v zs := by
  rcases open_ints ht he ce h with ⟨hcs, _⟩ | ⟨a, len, cap, zs, hcs, _, hl, hm, hz, _, hcell, _⟩
  · simp only [List.cons.injEq, and_true] at hcs
    exact ⟨[], Or.inl ⟨rfl, none, 0, hcs⟩⟩
  · simp only [List.cons.injEq, and_true] at hcs
    simp only [if_true] at hz
    by_cases h0 : len = 0
    · subst h0; exact ⟨[], Or.inl ⟨rfl, some a, cap, hcs⟩⟩
    · have ha := addr_of (hcell 0 (by omega))
      refine ⟨zs.take len, Or.inr ⟨a.block, a.off, cap, ?_, ?_, fun k hk => ?_⟩⟩
      · rw [hcs, List.length_take, Nat.min_eq_left (by omega), ← ha]
      · rw [List.length_take]; omega
      · rw [List.length_take] at hk
        have h1 := hcell k (by omega)
        rw [ha, add_plain] at h1
        rw [h1, List.getElem?_take, if_pos (by omega)]
        rfl

theorem open_IntsS {t e q : TypeId} {fuel : Nat} {v : Value} {x : DataW H × List MemPlace} (ht : P.underlying t = some (.slice e)) (he : P.underlying e = some (.slice q)) (hq : P.underlying q = some (.int .i64)) (ce : P.cellsOf e = 1) (cq : P.cellsOf q = 1)
    (h : DataW.trod enc P w base (fun _ => true) held fuel t [v] = some x) : ∃ zss, IntsS w v zss := by
  rcases open_slice1 ht ce h with ⟨hcs, _⟩ | ⟨a, len, cap, m, n, V, D, Pl, hcs, _, hl, hm, hmm, _, hx⟩
  · simp only [List.cons.injEq, and_true] at hcs
    exact ⟨[], Or.inl ⟨rfl, none, 0, hcs⟩⟩
  · simp only [List.cons.injEq, and_true] at hcs
    simp only [if_true] at hmm
    by_cases h0 : len = 0
    · subst h0; exact ⟨[], Or.inl ⟨rfl, some a, cap, hcs⟩⟩
    · have ha := addr_of (hx 0 (by omega)).1
      obtain ⟨Z, hZ⟩ := choose_lt (α := List Int) (n := m) (p := fun i zs => Ints w (V i) zs) fun i hi => open_Ints he hq cq (hx i hi).2
      refine ⟨(List.range len).map Z, Or.inr ⟨a.block, a.off, cap, V, ?_, ?_, fun k hk => ?_⟩⟩
      · simp only [List.length_map, List.length_range]; rw [hcs, ← ha]
      · simp only [List.length_map, List.length_range]; omega
      · simp only [List.length_map, List.length_range] at hk
        have h1 := (hx k (by omega)).1
        rw [ha, add_plain] at h1
        refine ⟨h1, ?_⟩
        have := hZ k (by omega)
        simpa [hk] using this

theorem open_Puts {t e q : TypeId} {f0 f1 : Field} {fuel : Nat} {v : Value} {x : DataW H × List MemPlace} (ht : P.underlying t = some (.slice e)) (he : P.underlying e = some (.struct #[f0, f1]))
    (ce : P.cellsOf e = 2) (o0 : f0.offset = 0) (o1 : f1.offset = 1) (c0 : P.cellsOf f0.type = 1) (c1 : P.cellsOf f1.type = 1) (h0 : P.underlying f0.type = some (.int .i64)) (h1 : P.underlying f1.type = some (.slice q)) (hq : P.underlying q = some (.int .i64)) (cq : P.cellsOf q = 1)
    (h : DataW.trod enc P w base (fun _ => true) held fuel t [v] = some x) : ∃ ps, Puts w v ps := by
  rcases open_slice_pairs ht he ce o0 o1 c0 c1 h with ⟨hcs, _⟩ | ⟨a, len, cap, m, n, V0, V1, D0, D1, P0, P1, hcs, _, hl, hm, hmm, _, hx⟩
  · simp only [List.cons.injEq, and_true] at hcs
    exact ⟨[], Or.inl ⟨rfl, none, 0, hcs⟩⟩
  · simp only [List.cons.injEq, and_true] at hcs
    simp only [if_true] at hmm
    by_cases hl0 : len = 0
    · subst hl0; exact ⟨[], Or.inl ⟨rfl, some a, cap, hcs⟩⟩
    · have ha := addr_of (by simpa using (hx 0 (by omega)).1)
      obtain ⟨Z, hZ⟩ := choose_lt (α := Int × List Int) (n := m) (p := fun i z => V0 i = .int .i64 z.1 ∧ Ints w (V1 i) z.2) fun i hi => by
        obtain ⟨_, _, g0, g1⟩ := hx i hi
        obtain ⟨zs, hzs⟩ := open_Ints h1 hq cq g1
        obtain ⟨y, hy, _⟩ := DataW.trod_int h0 g0
        simp only [List.cons.injEq, and_true] at hy
        exact ⟨(y, zs), hy, hzs⟩
      refine ⟨(List.range len).map Z, Or.inr ⟨a.block, a.off, cap, V1, ?_, ?_, fun k hk => ?_⟩⟩
      · simp only [List.length_map, List.length_range]; rw [hcs, ← ha]
      · simp only [List.length_map, List.length_range]; omega
      · simp only [List.length_map, List.length_range] at hk
        obtain ⟨e0, e1, _, _⟩ := hx k (by omega)
        rw [ha, add_plain] at e0 e1
        obtain ⟨g0, g1⟩ := hZ k (by omega)
        rw [g0] at e0
        have hg : ((List.range len).map Z)[k]?.getD (0, []) = Z k := by simp [hk]
        rw [hg]
        exact ⟨e0, e1, g1⟩
end

end Go.Proofs.YtlohgnidbkechaaGreatDoor

namespace Go.Proofs.YtlohgnidbkechaaGreatDoor
open Go.ChangeShapes Go.WideShapes Go.ChangeAt Go.RowKit Go.Joins
set_option maxRecDepth 100000

theorem Tryz.own : ownKnob Tryz.prog.godebug = none := by kernel_rfl
theorem Tryz.laidOut : laidOutB Tryz.prog = true := by kernel_rfl
theorem Tryz.cellsInt : Tryz.prog.cellsOf 2 = 1 := by kernel_rfl
theorem Tryz.cellsInts : Tryz.prog.cellsOf 52 = 1 := by kernel_rfl

end Go.Proofs.YtlohgnidbkechaaGreatDoor

/- IsWithin, of the specification. From the reading of an argument to the lists that it holds. No program is named here. What the rows of this seat share: how a disk that came in is opened. How inodes that came in are opened. How lists of inodes that came in are opened. How file systems that came in are opened. -/
import Derived.Test.YtmlfpikhencgcaoM11
import Derived.Test.YtmlfpikhencgcaoM00
import Derived.ProofKit
import Derived.Deep.Slices
import Derived.Deep.SlicePairs
import Derived.Lib.SmallJoins
import Derived.Test.YtmlfpikhencgcaoRows
import Derived.Test.YtmlfpikhencgcaoM01
import Derived.Test.YtmlfpikhencgcaoM02
import Derived.Test.YtmlfpikhencgcaoM03
namespace Go.Proofs.Ytmlfpikhencgcao
open Go.RowKit
set_option maxRecDepth 100000

theorem any_drop {l : List Int} {k : Nat} {a : Int} {p : Int → Bool} (h : l[k]? = some a) : (l.drop k).any p = (p a || (l.drop (k + 1)).any p) := by
  obtain ⟨hk, e⟩ := List.getElem?_eq_some_iff.1 h
  rw [List.drop_eq_getElem_cons hk, e]; rfl
set_option maxHeartbeats 3200000 in
theorem l9Within_any (b : Nat) (d : FD) (b0 o0 cI : Nat) (aD : Option Addr) (cD : Nat) (x : Int) (hok : FsOk d) :
    ∀ (k : Nat), k ≤ 10 → ∀ (t : Nat), t < d.1.length → ∀ (w : World), FsX w b 0 d (some ⟨b0, o0, none⟩) cI aD cD →
      Calls Try.prog 13 #[.pointer (some ⟨b, 0, none⟩), .int .i64 x, .int .i64 (t : Int), .int .i64 (k : Int)] w fun e w' => e = .returned (.bool (witB (entsOf d.1) x k (t : Int))) ∧ w' = w := by
  intro k
  induction k with
  | zero =>
    intro _ t ht w _
    have HR : Hid (witB (entsOf d.1) x 0 (t : Int) = decide (x = (t : Int))) := rfl
    rw [HR.out]
    by_cases he : x = (t : Int)
    · rw [decide_eq_true he]
      have hb : (x == (t : Int)) = true := by simpa using he
      clear he HR
      go_enter Try.func13, Try.ntmps13
      go_wp2
      go_ret
      exact ⟨rfl, rfl⟩
    · rw [decide_eq_false he]
      have hb : (x == (t : Int)) = false := by simpa using he
      have hg : decide ((0 : Int) < ((0 : Nat) : Int)) = false := by simp
      clear he HR
      go_enter Try.func13, Try.ntmps13
      go_wp2_with fail
      refine wp_loop_rounds 1 ?_
      rw [rounds_succ]
      go_wp2
      go_ret
      exact ⟨rfl, rfl⟩
  | succ k ih =>
    intro hk10 t ht w hx
    have HR : Hid (witB (entsOf d.1) x (k + 1) (t : Int) = (decide (x = (t : Int)) || (entsOf d.1 t).any fun y => witB (entsOf d.1) x k y)) := rfl
    rw [HR.out]
    clear HR
    by_cases he : x = (t : Int)
    · rw [decide_eq_true he, Bool.true_or]
      have hb : (x == (t : Int)) = true := by simpa using he
      clear he
      go_enter Try.func13, Try.ntmps13
      go_wp2
      go_ret
      exact ⟨rfl, rfl⟩
    · rw [decide_eq_false he, Bool.false_or]
      have hb : (x == (t : Int)) = false := by simpa using he
      have HIH : Hid (∀ t' : Nat, t' < d.1.length → Calls Try.prog 13 #[.pointer (some ⟨b, 0, none⟩), .int .i64 x, .int .i64 (t' : Int), .int .i64 (k : Int)] w fun e w' => e = .returned (.bool (witB (entsOf d.1) x k (t' : Int))) ∧ w' = w) := fun t' h' => ih (by omega) t' h' w hx
      obtain ⟨f0, -, hI, -⟩ := hx
      obtain ⟨_, _, e1, -, hAt⟩ := hI.open'
      simp only [Value.slice.injEq] at e1
      obtain ⟨rfl, -, rfl⟩ := e1
      obtain ⟨_, _, e2, hIt⟩ := hAt t ht
      simp only [Option.some.injEq, Addr.mk.injEq, and_true] at e2
      obtain ⟨rfl, rfl⟩ := e2
      obtain ⟨aB, cB, aE, cE, -, -, -, -, c4, h5⟩ := hIt
      obtain ⟨_, _, e3, -, -, hEt⟩ := h5.2.2.open'
      simp only [Value.slice.injEq] at e3
      obtain ⟨rfl, -, rfl⟩ := e3
      have HAT : Hid (AtN w aE (d.1[t]?.getD id0).2.2.2.2.length (d.1[t]?.getD id0).2.2.2.2) := hEt
      have HGET : Hid (∀ q, q < (d.1[t]?.getD id0).2.2.2.2.length → (entsOf d.1 t)[q]? = some ((d.1[t]?.getD id0).2.2.2.2[q]?.getD en0).2) := fun q hq => entsOf_get hq
      have HLEN : Hid ((entsOf d.1 t).length = (d.1[t]?.getD id0).2.2.2.2.length) := entsOf_len d.1 t
      have HRNG : Hid (∀ y ∈ entsOf d.1 t, 0 ≤ y ∧ y < (d.1.length : Int)) := hok.rng t ht
      have hnE : (d.1[t]?.getD id0).2.2.2.2.length ≤ 6 := by have := hok.six t; rw [HLEN.out] at this; exact this
      have hten := hok.ten
      obtain ⟨K, hK⟩ : ∃ K, k + 1 = K := ⟨_, rfl⟩
      rw [hK]
      have hKm : (K : Int) - 1 = (k : Int) := by omega
      have hKp : decide (0 < (K : Int)) = true := decide_eq_true (by omega)
      have hK10 : (K : Int) ≤ 10 := by omega
      have htI : (t : Int) < ((d.1.length : Nat) : Int) := by omega
      clear ih hI hAt h5 hEt he hok hK
      generalize entsOf d.1 t = E at *
      generalize hes : (d.1[t]?.getD id0).2.2.2.2 = es at *
      clear hes
      generalize hnn : es.length = nE at *
      clear hnn
      obtain ⟨RES, hRES⟩ : ∃ RES, (E.any fun y => witB (entsOf d.1) x k y) = RES := ⟨_, rfl⟩
      have HRES : Hid ((E.any fun y => witB (entsOf d.1) x k y) = RES) := hRES
      rw [hRES]
      clear hRES
      generalize d.1.length = n at *
      go_enter Try.func13, Try.ntmps13
      go_wp2_with fail
      go_loop [9] (fun i => ∃ q : Nat, q ≤ nE ∧ i = .int .i64 q ∧ (E.drop q).any (fun y => witB (entsOf d.1) x k y) = RES) (fun i => nE - (intOf i).toNat)
      case atStart => exact ⟨0, Nat.zero_le _, rfl, HRES.out⟩
      case round =>
        obtain ⟨q, hq, rfl, hz⟩ := hrel
        have HZ : Hid ((E.drop q).any (fun y => witB (entsOf d.1) x k y) = RES) := hz
        clear hz
        by_cases hlt : q < nE
        · have hg := HGET.out q hlt
          have hr := HRNG.out _ (List.mem_of_getElem? hg)
          have hst := any_drop (p := fun y => witB (entsOf d.1) x k y) hg
          obtain ⟨b1, o1, rfl, -, d1⟩ := HAT.out q hlt
          generalize (es[q]?.getD en0).2 = y at *
          obtain ⟨u, rfl⟩ : ∃ u : Nat, y = (u : Int) := ⟨y.toNat, by omega⟩
          have HC := HIH.out u (by omega)
          have HST : Hid (RES = (witB (entsOf d.1) x k (u : Int) || (E.drop (q + 1)).any fun y => witB (entsOf d.1) x k y)) := by
            unfold Hid; rw [← HZ.out, hst]
          cases hw : witB (entsOf d.1) x k (u : Int) with
          | true =>
            rw [hw] at HC HST
            have HR : Hid (RES = true) := by unfold Hid; rw [HST.out, Bool.true_or]
            have HCC : Hid (Calls Try.prog 13 _ w _) := HC
            clear HC hw hst hg HZ HST
            go_wp2_with fail
            refine HCC.out.mono ?_
            rintro e w2 ⟨rfl, rfl⟩
            go_wp2
            go_ret
            exact ⟨ret_bool HR.out.symm, rfl⟩
          | false =>
            rw [hw] at HC HST
            have HR : Hid ((E.drop (q + 1)).any (fun y => witB (entsOf d.1) x k y) = RES) := by unfold Hid; rw [HST.out, Bool.false_or]
            have HCC : Hid (Calls Try.prog 13 _ w _) := HC
            clear HC hw hst hg HZ HST
            go_wp2_with fail
            refine HCC.out.mono ?_
            rintro e w2 ⟨rfl, rfl⟩
            go_wp2
            go_round
            case rel => exact ⟨q + 1, by omega, by go_num, HR.out⟩
            case measure => simp [intOf]; omega
        · have HR : Hid (RES = false) := by
            unfold Hid
            rw [← HZ.out, List.drop_of_length_le (by rw [HLEN.out]; omega)]; rfl
          go_wp2
          go_ret
          exact ⟨ret_bool HR.out.symm, rfl⟩
set_option maxHeartbeats 6400000 in
theorem specWithinU (w : World) (a1 : Option Addr) (n1 c1 : Nat) (a2 : Option Addr) (n2 c2 : Nat) (d : FD) (x y : Int) (h : FsR w (.slice a1 n1 c1) (.slice a2 n2 c2) d) (hs : sizeFs d ≤ 1048576) :
    Calls Try.prog 5 #[.agg #[.slice a1 n1 c1, .slice a2 n2 c2], .int .i64 x, .int .i64 y] w fun e w' => e = .returned (.bool (winB d x y)) ∧ Below w.heap.size w w' := by
  obtain ⟨hx0, rfl, rfl⟩ := FsX.box h 30
  have HX0 : Hid (FsX (w.alloc (.cells #[.slice a1 d.1.length c1, .slice a2 d.2.length c2] 30)) w.heap.size 0 d a1 c1 a2 c2) := hx0
  have HF : Hid (Calls Try.prog 11 #[.pointer (some ⟨w.heap.size, 0, none⟩)] (w.alloc (.cells #[.slice a1 d.1.length c1, .slice a2 d.2.length c2] 30)) fun e w' => e = .returned (.int .i64 (fsF d)) ∧ Below (w.alloc (.cells #[.slice a1 d.1.length c1, .slice a2 d.2.length c2] 30)).heap.size (w.alloc (.cells #[.slice a1 d.1.length c1, .slice a2 d.2.length c2] 30)) w') := l6Fault_any _ _ _ d _ _ _ _ hx0 (by unfold sizeFs at hs; omega)
  have HP : Hid (∀ W v, Below (w.alloc (.cells #[.slice a1 d.1.length c1, .slice a2 d.2.length c2] 30)).heap.size (w.alloc (.cells #[.slice a1 d.1.length c1, .slice a2 d.2.length c2] 30)) W → Calls Try.prog 12 #[.pointer (some ⟨w.heap.size, 0, none⟩), .int .i64 v] W fun e w' => e = .returned (.bool (decide (0 ≤ v ∧ v < (d.1.length : Int)))) ∧ w' = W) := fun W v hW => l6Place_any W _ _ d _ _ _ _ v (HX0.out.later hW)
  have HB0 : Hid (Below w.heap.size w (w.alloc (.cells #[.slice a1 d.1.length c1, .slice a2 d.2.length c2] 30))) := later1 _ _
  by_cases hf : fsF d = 0
  rotate_left
  · have HR : Hid (winB d x y = false) := by unfold Hid winB; rw [decide_eq_false hf]; rfl
    rw [HR.out]
    have hb : (fsF d != 0) = true := by simpa using hf
    clear hf HR h hs hx0 HP HX0
    generalize fsF d = r at *
    generalize d.1.length = n at *
    generalize d.2.length = m at *
    go_enter Try.func5, Try.ntmps5
    go_wp2_with fail
    generalize (w.alloc (.cells #[.slice a1 n c1, .slice a2 m c2] 30)) = W0 at *
    refine HF.out.mono ?_
    rintro e w1 ⟨rfl, hb1⟩
    have HB1 : Hid (Below w.heap.size w w1) := HB0.out.trans (hb1.mono HB0.out.size)
    clear hb1
    go_wp2
    go_ret
    exact ⟨rfl, HB1.out⟩
  · have hok := fsE_ok (fsF_E hf)
    rw [hf] at HF
    have HWB : Hid (winB d x y = (thB d x && (thB d y && witB (entsOf d.1) x 10 y))) := by unfold Hid winB; rw [decide_eq_true hf, Bool.true_and]
    rw [HWB.out]
    have HTH : Hid (∀ v, thB d v = (decide (0 ≤ v ∧ v < (d.1.length : Int)) && !decide (kindAt d.1 v.toNat = 0))) := fun v => rfl
    rw [HTH.out x, HTH.out y]
    clear HWB HTH h hs hf
    by_cases hpx : 0 ≤ x ∧ x < (d.1.length : Int)
    rotate_left
    · rw [decide_eq_false hpx, Bool.false_and, Bool.false_and]
      have HPX : Hid (∀ W, Below (w.alloc (.cells #[.slice a1 d.1.length c1, .slice a2 d.2.length c2] 30)).heap.size (w.alloc (.cells #[.slice a1 d.1.length c1, .slice a2 d.2.length c2] 30)) W → Calls Try.prog 12 #[.pointer (some ⟨w.heap.size, 0, none⟩), .int .i64 x] W fun e w' => e = .returned (.bool false) ∧ w' = W) := fun W hW => by
        have := HP.out W x hW
        rw [decide_eq_false hpx] at this
        exact this
      clear hx0 HX0 HP hpx hok
      generalize d.1.length = n at *
      generalize d.2.length = m at *
      go_enter Try.func5, Try.ntmps5
      go_wp2_with fail
      generalize (w.alloc (.cells #[.slice a1 n c1, .slice a2 m c2] 30)) = W0 at *
      refine HF.out.mono ?_
      rintro e w1 ⟨rfl, hb1⟩
      have HB1 : Hid (Below w.heap.size w w1) := HB0.out.trans (hb1.mono HB0.out.size)
      have HB : Hid (Below W0.heap.size W0 w1) := hb1
      clear hb1
      go_wp2_with fail
      refine (HPX.out _ HB.out).mono ?_
      rintro e w2 ⟨rfl, rfl⟩
      go_wp2
      go_ret
      exact ⟨rfl, HB1.out⟩
    · rw [decide_eq_true hpx, Bool.true_and]
      have HPX : Hid (∀ W, Below (w.alloc (.cells #[.slice a1 d.1.length c1, .slice a2 d.2.length c2] 30)).heap.size (w.alloc (.cells #[.slice a1 d.1.length c1, .slice a2 d.2.length c2] 30)) W → Calls Try.prog 12 #[.pointer (some ⟨w.heap.size, 0, none⟩), .int .i64 x] W fun e w' => e = .returned (.bool true) ∧ w' = W) := fun W hW => by
        have := HP.out W x hW
        rw [decide_eq_true hpx] at this
        exact this
      by_cases hpy : 0 ≤ y ∧ y < (d.1.length : Int)
      rotate_left
      · rw [decide_eq_false hpy, Bool.false_and, Bool.false_and, Bool.and_false]
        have HPY : Hid (∀ W, Below (w.alloc (.cells #[.slice a1 d.1.length c1, .slice a2 d.2.length c2] 30)).heap.size (w.alloc (.cells #[.slice a1 d.1.length c1, .slice a2 d.2.length c2] 30)) W → Calls Try.prog 12 #[.pointer (some ⟨w.heap.size, 0, none⟩), .int .i64 y] W fun e w' => e = .returned (.bool false) ∧ w' = W) := fun W hW => by
          have := HP.out W y hW
          rw [decide_eq_false hpy] at this
          exact this
        clear hx0 HX0 HP hpx hpy hok
        generalize d.1.length = n at *
        generalize d.2.length = m at *
        go_enter Try.func5, Try.ntmps5
        go_wp2_with fail
        generalize (w.alloc (.cells #[.slice a1 n c1, .slice a2 m c2] 30)) = W0 at *
        refine HF.out.mono ?_
        rintro e w1 ⟨rfl, hb1⟩
        have HB1 : Hid (Below w.heap.size w w1) := HB0.out.trans (hb1.mono HB0.out.size)
        have HB : Hid (Below W0.heap.size W0 w1) := hb1
        clear hb1
        go_wp2_with fail
        refine (HPX.out _ HB.out).mono ?_
        rintro e w2 ⟨rfl, rfl⟩
        go_wp2_with fail
        refine (HPY.out _ HB.out).mono ?_
        rintro e w2 ⟨rfl, rfl⟩
        go_wp2
        go_ret
        exact ⟨rfl, HB1.out⟩
      · rw [decide_eq_true hpy, Bool.true_and]
        have HPY : Hid (∀ W, Below (w.alloc (.cells #[.slice a1 d.1.length c1, .slice a2 d.2.length c2] 30)).heap.size (w.alloc (.cells #[.slice a1 d.1.length c1, .slice a2 d.2.length c2] 30)) W → Calls Try.prog 12 #[.pointer (some ⟨w.heap.size, 0, none⟩), .int .i64 y] W fun e w' => e = .returned (.bool true) ∧ w' = W) := fun W hW => by
          have := HP.out W y hW
          rw [decide_eq_true hpy] at this
          exact this
        obtain ⟨i, rfl⟩ : ∃ i : Nat, x = (i : Int) := ⟨x.toNat, by omega⟩
        obtain ⟨t, rfl⟩ : ∃ t : Nat, y = (t : Int) := ⟨y.toNat, by omega⟩
        rw [Int.toNat_natCast, Int.toNat_natCast]
        have hi : i < d.1.length := by omega
        have ht : t < d.1.length := by omega
        obtain ⟨_, _, e1, -, hAt⟩ := hx0.ins.open'
        simp only [Value.slice.injEq] at e1
        obtain ⟨rfl, -, rfl⟩ := e1
        obtain ⟨b0, o0, rfl, hIi⟩ := hAt i hi
        obtain ⟨_, _, e2, hIt⟩ := hAt t ht
        simp only [Option.some.injEq, Addr.mk.injEq, and_true] at e2
        obtain ⟨rfl, rfl⟩ := e2
        obtain ⟨_, _, _, _, ki, -⟩ := hIi
        obtain ⟨_, _, _, _, kt, -⟩ := hIt
        have HKI : Hid (_ = some (Value.int .i64 (d.1[i]?.getD id0).1)) := ki
        have HKT : Hid (_ = some (Value.int .i64 (d.1[t]?.getD id0).1)) := kt
        have HW : Hid (∀ W, Below (w.alloc (.cells #[.slice (some ⟨b0, o0, none⟩) d.1.length c1, .slice a2 d.2.length c2] 30)).heap.size (w.alloc (.cells #[.slice (some ⟨b0, o0, none⟩) d.1.length c1, .slice a2 d.2.length c2] 30)) W → Calls Try.prog 13 #[.pointer (some ⟨w.heap.size, 0, none⟩), .int .i64 (i : Int), .int .i64 (t : Int), .int .i64 10] W fun e w' => e = .returned (.bool (witB (entsOf d.1) (i : Int) 10 (t : Int))) ∧ w' = W) := fun W hW => l9Within_any w.heap.size d b0 o0 c1 a2 c2 (i : Int) hok 10 (by omega) t ht W (HX0.out.later hW)
        have HC0 : Hid (_ = _) := hx0.c0
        have hiI : (i : Int) < ((d.1.length : Nat) : Int) := hpx.2
        have htI : (t : Int) < ((d.1.length : Nat) : Int) := hpy.2
        have HK1 : Hid (kindAt d.1 i = (d.1[i]?.getD id0).1) := rfl
        have HK2 : Hid (kindAt d.1 t = (d.1[t]?.getD id0).1) := rfl
        rw [HK1.out, HK2.out]
        clear hx0 HX0 HP hpx hpy hok hAt ki kt HK1 HK2
        generalize witB (entsOf d.1) (i : Int) 10 (t : Int) = RR at *
        generalize (d.1[i]?.getD id0).1 = ka at *
        generalize (d.1[t]?.getD id0).1 = kb at *
        generalize d.1.length = n at *
        generalize d.2.length = m at *
        by_cases hka : ka = 0
        · rw [decide_eq_true hka, Bool.not_true, Bool.false_and]
          have hkab : (ka == 0) = true := by simpa using hka
          clear hka HW
          go_enter Try.func5, Try.ntmps5
          go_wp2_with fail
          generalize (w.alloc (.cells #[.slice (some ⟨b0, o0, none⟩) n c1, .slice a2 m c2] 30)) = W0 at *
          refine HF.out.mono ?_
          rintro e w1 ⟨rfl, hb1⟩
          have HB1 : Hid (Below w.heap.size w w1) := HB0.out.trans (hb1.mono HB0.out.size)
          have HB : Hid (Below W0.heap.size W0 w1) := hb1
          have x0 := cell_later hb1 HC0.out
          have k0 := cell_later hb1 HKI.out
          clear hb1
          go_wp2_with fail
          refine (HPX.out _ HB.out).mono ?_
          rintro e w2 ⟨rfl, rfl⟩
          go_wp2_with fail
          refine (HPY.out _ HB.out).mono ?_
          rintro e w2 ⟨rfl, rfl⟩
          go_wp2
          go_ret
          exact ⟨rfl, HB1.out⟩
        · rw [decide_eq_false hka, Bool.not_false, Bool.true_and]
          have hkab : (ka == 0) = false := by simpa using hka
          clear hka
          by_cases hkb : kb = 0
          · rw [decide_eq_true hkb, Bool.not_true, Bool.false_and]
            have hkbb : (kb == 0) = true := by simpa using hkb
            clear hkb HW
            go_enter Try.func5, Try.ntmps5
            go_wp2_with fail
            generalize (w.alloc (.cells #[.slice (some ⟨b0, o0, none⟩) n c1, .slice a2 m c2] 30)) = W0 at *
            refine HF.out.mono ?_
            rintro e w1 ⟨rfl, hb1⟩
            have HB1 : Hid (Below w.heap.size w w1) := HB0.out.trans (hb1.mono HB0.out.size)
            have HB : Hid (Below W0.heap.size W0 w1) := hb1
            have x0 := cell_later hb1 HC0.out
            have k0 := cell_later hb1 HKI.out
            have k1 := cell_later hb1 HKT.out
            clear hb1
            go_wp2_with fail
            refine (HPX.out _ HB.out).mono ?_
            rintro e w2 ⟨rfl, rfl⟩
            go_wp2_with fail
            refine (HPY.out _ HB.out).mono ?_
            rintro e w2 ⟨rfl, rfl⟩
            go_wp2
            go_ret
            exact ⟨rfl, HB1.out⟩
          · rw [decide_eq_false hkb, Bool.not_false, Bool.true_and]
            have hkbb : (kb == 0) = false := by simpa using hkb
            clear hkb
            go_enter Try.func5, Try.ntmps5
            go_wp2_with fail
            generalize (w.alloc (.cells #[.slice (some ⟨b0, o0, none⟩) n c1, .slice a2 m c2] 30)) = W0 at *
            refine HF.out.mono ?_
            rintro e w1 ⟨rfl, hb1⟩
            have HB1 : Hid (Below w.heap.size w w1) := HB0.out.trans (hb1.mono HB0.out.size)
            have HB : Hid (Below W0.heap.size W0 w1) := hb1
            have x0 := cell_later hb1 HC0.out
            have k0 := cell_later hb1 HKI.out
            have k1 := cell_later hb1 HKT.out
            clear hb1
            go_wp2_with fail
            refine (HPX.out _ HB.out).mono ?_
            rintro e w2 ⟨rfl, rfl⟩
            go_wp2_with fail
            refine (HPY.out _ HB.out).mono ?_
            rintro e w2 ⟨rfl, rfl⟩
            go_wp2_with fail
            refine (HW.out _ HB.out).mono ?_
            rintro e w2 ⟨rfl, rfl⟩
            go_wp2
            go_ret
            exact ⟨rfl, HB1.out⟩
end Go.Proofs.Ytmlfpikhencgcao

namespace Go.Proofs.Ytmlfpikhencgcao
open Go.ChangeShapes Go.WideShapes Go.ChangeAt Go.RowKit Go.Deep
set_option maxRecDepth 100000

section
variable {H : Type} {enc : TypeId × Value → H} {P : Program} {w : World} {base : Nat} {held : Bool}

theorem addr_of {a : Addr} {v : Value} (h : w.cell? (a.add 0) = some v) : a = ⟨a.block, a.off, none⟩ := by
  obtain ⟨b, o, s⟩ := a
  have : s = none := by simpa [Addr.add] using World.cell?_spot h
  subst this; rfl
theorem add_plain (b off k : Nat) : (⟨b, off, none⟩ : Addr).add k = ⟨b, off + k, none⟩ := by
  by_cases h : k = 0
  · subst h; simp [Addr.add]
  · simp [Addr.add, h]

theorem open_Ints {t e : TypeId} {fuel : Nat} {v : Value} {x : DataW H × List MemPlace} (ht : P.underlying t = some (.slice e)) (he : P.underlying e = some (.int .i64)) (ce : P.cellsOf e = 1) (h : DataW.trod enc P w base (fun _ => true) held fuel t [v] = some x) :
    ∃ zs, Ints w v zs := by
  rcases open_ints ht he ce h with ⟨hcs, _⟩ | ⟨a, len, cap, zs, hcs, _, hl, hm, hz, _, hcell, _⟩
  · simp only [List.cons.injEq, and_true] at hcs
    exact ⟨[], Or.inl ⟨rfl, none, 0, hcs⟩⟩
  · simp only [List.cons.injEq, and_true] at hcs
    simp only [if_true] at hz
    by_cases h0 : len = 0
    · subst h0; exact ⟨[], Or.inl ⟨rfl, some a, cap, hcs⟩⟩
    · have ha := addr_of (hcell 0 (by omega))
      refine ⟨zs.take len, Or.inr ⟨a.block, a.off, cap, ?_, ?_, fun k hk => ?_⟩⟩
      · rw [hcs, List.length_take, Nat.min_eq_left (by omega), ← ha]
      · rw [List.length_take]; omega
      · rw [List.length_take] at hk
        have h1 := hcell k (by omega)
        rw [ha, add_plain] at h1
        rw [h1, List.getElem?_take, if_pos (by omega)]
        rfl

theorem open_IntsS {t e q : TypeId} {fuel : Nat} {v : Value} {x : DataW H × List MemPlace} (ht : P.underlying t = some (.slice e)) (he : P.underlying e = some (.slice q)) (hq : P.underlying q = some (.int .i64)) (ce : P.cellsOf e = 1) (cq : P.cellsOf q = 1)
    (h : DataW.trod enc P w base (fun _ => true) held fuel t [v] = some x) : ∃ zss, IntsS w v zss := by
  rcases open_slice1 ht ce h with ⟨hcs, _⟩ | ⟨a, len, cap, m, n, V, D, Pl, hcs, _, hl, hm, hmm, _, hx⟩
  · simp only [List.cons.injEq, and_true] at hcs
    exact ⟨[], Or.inl ⟨rfl, none, 0, hcs⟩⟩
  · simp only [List.cons.injEq, and_true] at hcs
    simp only [if_true] at hmm
    by_cases h0 : len = 0
    · subst h0; exact ⟨[], Or.inl ⟨rfl, some a, cap, hcs⟩⟩
    · have ha := addr_of (hx 0 (by omega)).1
      obtain ⟨Z, hZ⟩ := choose_lt (α := List Int) (n := m) (p := fun i zs => Ints w (V i) zs) fun i hi => open_Ints he hq cq (hx i hi).2
      refine ⟨(List.range len).map Z, Or.inr ⟨a.block, a.off, cap, V, ?_, ?_, fun k hk => ?_⟩⟩
      · simp only [List.length_map, List.length_range]; rw [hcs, ← ha]
      · simp only [List.length_map, List.length_range]; omega
      · simp only [List.length_map, List.length_range] at hk
        have h1 := (hx k (by omega)).1
        rw [ha, add_plain] at h1
        refine ⟨h1, ?_⟩
        have := hZ k (by omega)
        simpa [hk] using this

theorem open_Puts {t e q : TypeId} {f0 f1 : Field} {fuel : Nat} {v : Value} {x : DataW H × List MemPlace} (ht : P.underlying t = some (.slice e)) (he : P.underlying e = some (.struct #[f0, f1]))
    (ce : P.cellsOf e = 2) (o0 : f0.offset = 0) (o1 : f1.offset = 1) (c0 : P.cellsOf f0.type = 1) (c1 : P.cellsOf f1.type = 1) (h0 : P.underlying f0.type = some (.int .i64)) (h1 : P.underlying f1.type = some (.slice q)) (hq : P.underlying q = some (.int .i64)) (cq : P.cellsOf q = 1)
    (h : DataW.trod enc P w base (fun _ => true) held fuel t [v] = some x) : ∃ ps, Puts w v ps := by
  rcases open_slice_pairs ht he ce o0 o1 c0 c1 h with ⟨hcs, _⟩ | ⟨a, len, cap, m, n, V0, V1, D0, D1, P0, P1, hcs, _, hl, hm, hmm, _, hx⟩
  · simp only [List.cons.injEq, and_true] at hcs
    exact ⟨[], Or.inl ⟨rfl, none, 0, hcs⟩⟩
  · simp only [List.cons.injEq, and_true] at hcs
    simp only [if_true] at hmm
    by_cases hl0 : len = 0
    · subst hl0; exact ⟨[], Or.inl ⟨rfl, some a, cap, hcs⟩⟩
    · have ha := addr_of (by simpa using (hx 0 (by omega)).1)
      obtain ⟨Z, hZ⟩ := choose_lt (α := Int × List Int) (n := m) (p := fun i z => V0 i = .int .i64 z.1 ∧ Ints w (V1 i) z.2) fun i hi => by
        obtain ⟨_, _, g0, g1⟩ := hx i hi
        obtain ⟨zs, hzs⟩ := open_Ints h1 hq cq g1
        obtain ⟨y, hy, _⟩ := DataW.trod_int h0 g0
        simp only [List.cons.injEq, and_true] at hy
        exact ⟨(y, zs), hy, hzs⟩
      refine ⟨(List.range len).map Z, Or.inr ⟨a.block, a.off, cap, V1, ?_, ?_, fun k hk => ?_⟩⟩
      · simp only [List.length_map, List.length_range]; rw [hcs, ← ha]
      · simp only [List.length_map, List.length_range]; omega
      · simp only [List.length_map, List.length_range] at hk
        obtain ⟨e0, e1, _, _⟩ := hx k (by omega)
        rw [ha, add_plain] at e0 e1
        obtain ⟨g0, g1⟩ := hZ k (by omega)
        rw [g0] at e0
        have hg : ((List.range len).map Z)[k]?.getD (0, []) = Z k := by simp [hk]
        rw [hg]
        exact ⟨e0, e1, g1⟩
end

end Go.Proofs.Ytmlfpikhencgcao

namespace Go.Proofs.Ytmlfpikhencgcao
open Go.ChangeShapes Go.WideShapes Go.ChangeAt Go.RowKit Go.Joins
set_option maxRecDepth 100000

theorem Try.own : ownKnob Try.prog.godebug = none := by kernel_rfl
theorem Try.laidOut : laidOutB Try.prog = true := by kernel_rfl
theorem Try.cellsInt : Try.prog.cellsOf 2 = 1 := by kernel_rfl
theorem Try.cellsInts : Try.prog.cellsOf 39 = 1 := by kernel_rfl

end Go.Proofs.Ytmlfpikhencgcao

namespace Go.Proofs.Ytmlfpikhencgcao
open Go.ChangeShapes Go.WideShapes Go.ChangeAt Go.RowKit Go.Joins Go.Deep
set_option maxRecDepth 100000

theorem open_Ents {H : Type} {enc : TypeId × Value → H} {P : Program} {w : World} {base : Nat} {held : Bool} {t e : TypeId} {f0 f1 : Field} {fuel : Nat} {v : Value} {x : DataW H × List MemPlace} (ht : P.underlying t = some (.slice e)) (he : P.underlying e = some (.struct #[f0, f1]))
    (ce : P.cellsOf e = 2) (o0 : f0.offset = 0) (o1 : f1.offset = 1) (c0 : P.cellsOf f0.type = 1) (c1 : P.cellsOf f1.type = 1) (h0 : P.underlying f0.type = some .string) (h1 : P.underlying f1.type = some (.int .i64))
    (h : DataW.trod enc P w base (fun _ => true) held fuel t [v] = some x) : ∃ es, Ents w v es := by
  rcases open_slice ht h with ⟨hcs, _⟩ | ⟨a, len, cap, m, n, D, Pl, hcs, hb, hl, hm, hmm, _, hx⟩
  · simp only [List.cons.injEq, and_true] at hcs
    exact ⟨[], by rw [hcs]; exact Ents.nil w none 0⟩
  · simp only [List.cons.injEq, and_true] at hcs
    simp only [if_true] at hmm
    by_cases hl0 : len = 0
    · subst hl0; exact ⟨[], by rw [hcs]; exact Ents.nil w (some a) cap⟩
    · have each : ∀ i, i < m → ∃ q : EN, w.cell? (a.add (i * 2)) = some (.string q.1) ∧ w.cell? (a.add (i * 2 + 1)) = some (.int .i64 q.2) ∧ q.1.size ≤ maxLen := by
        intro i hi
        obtain ⟨cs', k1, k2⟩ := hx i hi
        rw [ce] at k1
        obtain ⟨_, hlen, hcell⟩ := World.cells?_some k1
        obtain ⟨xs, k, hk, hxy, _, hxl, hf⟩ := DataW.trod_struct he k2
        match xs, hxl, cs', hlen with
        | [y0, y1], _, [v0, v1], _ =>
          have g0 := hf 0 f0 rfl
          have g1 := hf 1 f1 rfl
          simp [o0, o1, c0, c1] at g0 g1
          have e0 := hcell 0 (by omega)
          have e1 := hcell 1 (by omega)
          rw [add_add] at e0 e1
          obtain ⟨z0, hz0, _, hs⟩ := DataW.trod_string h0 g0
          obtain ⟨z1, hz1, _⟩ := DataW.trod_int h1 g1
          simp only [List.cons.injEq, and_true] at hz0 hz1
          subst hz0 hz1
          exact ⟨(z0, z1), by simpa using e0, by simpa using e1, hs⟩
      obtain ⟨q, hq⟩ := choose_lt each
      have ha := addr_of (by simpa using (hq 0 (by omega)).1)
      refine ⟨(List.range len).map q, some a, cap, ?_, ?_, fun k hk => ?_⟩
      · simp only [List.length_map, List.length_range]; exact hcs
      · simp only [List.length_map, List.length_range]
        refine ⟨by omega, by omega, fun k => ?_⟩
        by_cases hk : k < len
        · have hg : ((List.range len).map q)[k]?.getD en0 = q k := by simp [hk]
          rw [hg]
          exact (hq k (by omega)).2.2
        · rw [List.getElem?_eq_none (by simpa using Nat.le_of_not_lt hk)]
          simp [en0, ByteArray.size]
      · simp only [List.length_map, List.length_range] at hk
        obtain ⟨e0, e1, _⟩ := hq k (by omega)
        rw [ha, add_plain] at e0 e1
        have hg : ((List.range len).map q)[k]?.getD en0 = q k := by simp [hk]
        rw [hg]
        exact ⟨a.block, a.off, by rw [← ha], e0, e1⟩

theorem open_cap {H : Type} {enc : TypeId × Value → H} {P : Program} {w : World} {base : Nat} {held : Bool} {t e : TypeId} {fuel : Nat} {v : Value} {x : DataW H × List MemPlace} (ht : P.underlying t = some (.slice e)) (h : DataW.trod enc P w base (fun _ => true) held fuel t [v] = some x) : capOK v := by
  rcases DataW.trod_slice ht h with ⟨hcs, _⟩ | ⟨a, len, cap, _, _, _, _, hcs, _, _, hl, _⟩
  · simp only [List.cons.injEq, and_true] at hcs
    exact ⟨none, 0, 0, hcs, Nat.le_refl _⟩
  · simp only [List.cons.injEq, and_true] at hcs
    exact ⟨some a, len, cap, hcs, hl⟩
theorem Try.cellsStr : Try.prog.cellsOf 9 = 1 := by kernel_rfl
theorem Try.cellsEnt : Try.prog.cellsOf 87 = 2 := by kernel_rfl
theorem Try.cellsEnts : Try.prog.cellsOf 53 = 1 := by kernel_rfl
theorem Try.cellsIno : Try.prog.cellsOf 55 = 5 := by kernel_rfl
theorem array5 {α : Type} {a : Array α} (h : a.size = 5) : ∃ x0 x1 x2 x3 x4, a = #[x0, x1, x2, x3, x4] := by
  obtain ⟨l⟩ := a
  match l, h with
  | [x0, x1, x2, x3, x4], _ => exact ⟨x0, x1, x2, x3, x4, rfl⟩
theorem open_InoU {H : Type} {enc : TypeId × Value → H} {W : World} {r : Reach} {b0 : Nat} {v : Value} {d : DataW H} {p : List MemPlace} (hv : Value.okWide Try.prog W r b0 55 v) (h : DataW.Trod enc Try.prog W 0 (fun _ => true) true 55 v d p) :
    ∃ v0 v1 v2 vB vE id, v = .agg #[v0, v1, v2, vB, vE] ∧ InoR W v0 v1 v2 vB vE id := by
  obtain ⟨cs, rfl, hsz⟩ := okWide_struct Try.underlying55 hv
  obtain ⟨c0, c1, c2, c3, c4, rfl⟩ := array5 (hsz.trans Try.cellsIno)
  obtain ⟨fuel, hf⟩ := h
  obtain ⟨xs, k, hk, hxy, _, hxl, hg⟩ := DataW.trod_struct Try.underlying55 hf
  match xs, hxl with
  | [y0, y1, y2, y3, y4], _ =>
    have g0 : DataW.trod enc Try.prog W 0 (fun _ => true) true k 2 [c0] = some y0 := by simpa [Value.cells, Try.cellsInt] using hg 0 _ rfl
    have g1 : DataW.trod enc Try.prog W 0 (fun _ => true) true k 2 [c1] = some y1 := by simpa [Value.cells, Try.cellsInt] using hg 1 _ rfl
    have g2 : DataW.trod enc Try.prog W 0 (fun _ => true) true k 2 [c2] = some y2 := by simpa [Value.cells, Try.cellsInt] using hg 2 _ rfl
    have g3 : DataW.trod enc Try.prog W 0 (fun _ => true) true k 39 [c3] = some y3 := by simpa [Value.cells, Try.cellsInts] using hg 3 _ rfl
    have g4 : DataW.trod enc Try.prog W 0 (fun _ => true) true k 53 [c4] = some y4 := by simpa [Value.cells, Try.cellsEnts] using hg 4 _ rfl
    obtain ⟨z0, hz0, _⟩ := DataW.trod_int Try.underlying2 g0
    obtain ⟨z1, hz1, _⟩ := DataW.trod_int Try.underlying2 g1
    obtain ⟨z2, hz2, _⟩ := DataW.trod_int Try.underlying2 g2
    simp only [List.cons.injEq, and_true] at hz0 hz1 hz2
    obtain ⟨bs, hbs⟩ := open_Ints Try.underlying39 Try.underlying2 Try.cellsInt g3
    obtain ⟨es, hes⟩ := open_Ents Try.underlying53 Try.underlying87 Try.cellsEnt rfl rfl Try.cellsStr Try.cellsInt Try.underlying9 Try.underlying2 g4
    exact ⟨c0, c1, c2, c3, c4, (z0, z1, z2, bs, es), rfl, ⟨hz0, hz1, hz2, open_cap Try.underlying39 g3⟩, hbs, hes⟩
end Go.Proofs.Ytmlfpikhencgcao

namespace Go.Proofs.Ytmlfpikhencgcao
open Go.ChangeShapes Go.WideShapes Go.ChangeAt Go.RowKit Go.Joins Go.Deep
set_option maxRecDepth 100000

theorem open_Inos {H : Type} {enc : TypeId × Value → H} {w : World} {base : Nat} {held : Bool} {fuel : Nat} {v : Value} {x : DataW H × List MemPlace}
    (h : DataW.trod enc Try.prog w base (fun _ => true) held fuel 22 [v] = some x) : ∃ ds, Inos w v ds := by
  rcases open_slice Try.underlying22 h with ⟨hcs, _⟩ | ⟨a, len, cap, m, n, D, Pl, hcs, hb, hl, hm, hmm, _, hx⟩
  · simp only [List.cons.injEq, and_true] at hcs
    exact ⟨[], by rw [hcs]; exact Inos.nil w none 0⟩
  · simp only [List.cons.injEq, and_true] at hcs
    simp only [if_true] at hmm
    by_cases hl0 : len = 0
    · subst hl0; exact ⟨[], by rw [hcs]; exact Inos.nil w (some a) cap⟩
    · have each : ∀ i, i < m → ∃ q : ID, ∃ vB vE, w.cell? (a.add (i * 5)) = some (.int .i64 q.1) ∧ w.cell? (a.add (i * 5 + 1)) = some (.int .i64 q.2.1) ∧ w.cell? (a.add (i * 5 + 2)) = some (.int .i64 q.2.2.1) ∧ w.cell? (a.add (i * 5 + 3)) = some vB ∧ w.cell? (a.add (i * 5 + 4)) = some vE ∧ InoR w (.int .i64 q.1) (.int .i64 q.2.1) (.int .i64 q.2.2.1) vB vE q := by
        intro i hi
        obtain ⟨cs', k1, k2⟩ := hx i hi
        rw [Try.cellsIno] at k1
        obtain ⟨_, hlen, hcell⟩ := World.cells?_some k1
        obtain ⟨xs, k, hk, hxy, _, hxl, hg⟩ := DataW.trod_struct Try.underlying55 k2
        match xs, hxl, cs', hlen with
        | [y0, y1, y2, y3, y4], _, [c0, c1, c2, c3, c4], _ =>
          have g0 : DataW.trod enc Try.prog w base (fun _ => true) held k 2 [c0] = some y0 := by simpa [Try.cellsInt] using hg 0 _ rfl
          have g1 : DataW.trod enc Try.prog w base (fun _ => true) held k 2 [c1] = some y1 := by simpa [Try.cellsInt] using hg 1 _ rfl
          have g2 : DataW.trod enc Try.prog w base (fun _ => true) held k 2 [c2] = some y2 := by simpa [Try.cellsInt] using hg 2 _ rfl
          have g3 : DataW.trod enc Try.prog w base (fun _ => true) held k 39 [c3] = some y3 := by simpa [Try.cellsInts] using hg 3 _ rfl
          have g4 : DataW.trod enc Try.prog w base (fun _ => true) held k 53 [c4] = some y4 := by simpa [Try.cellsEnts] using hg 4 _ rfl
          have e0 := hcell 0 (by omega)
          have e1 := hcell 1 (by omega)
          have e2 := hcell 2 (by omega)
          have e3 := hcell 3 (by omega)
          have e4 := hcell 4 (by omega)
          rw [add_add] at e0 e1 e2 e3 e4
          obtain ⟨z0, hz0, _⟩ := DataW.trod_int Try.underlying2 g0
          obtain ⟨z1, hz1, _⟩ := DataW.trod_int Try.underlying2 g1
          obtain ⟨z2, hz2, _⟩ := DataW.trod_int Try.underlying2 g2
          simp only [List.cons.injEq, and_true] at hz0 hz1 hz2
          subst hz0 hz1 hz2
          obtain ⟨bs, hbs⟩ := open_Ints Try.underlying39 Try.underlying2 Try.cellsInt g3
          obtain ⟨es, hes⟩ := open_Ents Try.underlying53 Try.underlying87 Try.cellsEnt rfl rfl Try.cellsStr Try.cellsInt Try.underlying9 Try.underlying2 g4
          exact ⟨(z0, z1, z2, bs, es), c3, c4, by simpa using e0, by simpa using e1, by simpa using e2, by simpa using e3, by simpa using e4, ⟨rfl, rfl, rfl, open_cap Try.underlying39 g3⟩, hbs, hes⟩
      obtain ⟨q, hq⟩ := choose_lt each
      obtain ⟨_, _, hq0, _⟩ := hq 0 (by omega)
      have ha := addr_of (by simpa using hq0)
      refine ⟨(List.range len).map q, some a, cap, ?_, ?_, fun k hk => ?_⟩
      · simp only [List.length_map, List.length_range]; exact hcs
      · simp only [List.length_map, List.length_range]
        exact ⟨by omega, by omega⟩
      · simp only [List.length_map, List.length_range] at hk
        obtain ⟨vB, vE, e0, e1, e2, e3, e4, hR⟩ := hq k (by omega)
        rw [ha, add_plain] at e0 e1 e2 e3 e4
        have hg : ((List.range len).map q)[k]?.getD id0 = q k := by simp [hk]
        rw [hg]
        exact ⟨a.block, a.off, by rw [← ha], InoAt.mk' e0 e1 e2 e3 e4 hR⟩
end Go.Proofs.Ytmlfpikhencgcao

namespace Go.Proofs.Ytmlfpikhencgcao
open Go.ChangeShapes Go.WideShapes Go.ChangeAt Go.RowKit Go.Joins Go.Deep
set_option maxRecDepth 100000

theorem Try.cellsByteF : Try.prog.cellsOf 5 = 1 := by kernel_rfl
theorem Try.cellsBytF : Try.prog.cellsOf 57 = 1 := by kernel_rfl
theorem Try.cellsBytsF : Try.prog.cellsOf 23 = 1 := by kernel_rfl
theorem Try.cellsInosF : Try.prog.cellsOf 22 = 1 := by kernel_rfl
theorem Try.cellsFsF : Try.prog.cellsOf 25 = 2 := by kernel_rfl
theorem open_Byt {H : Type} {enc : TypeId × Value → H} {P : Program} {w : World} {base : Nat} {held : Bool} {t e : TypeId} {fuel : Nat} {v : Value} {x : DataW H × List MemPlace} (ht : P.underlying t = some (.slice e)) (he : P.underlying e = some (.int .u8)) (ce : P.cellsOf e = 1) (h : DataW.trod enc P w base (fun _ => true) held fuel t [v] = some x) :
    ∃ zs, Byt w v zs := by
  rcases open_slice1 ht ce h with ⟨hcs, _⟩ | ⟨a, len, cap, m, n, V, D, Pl, hcs, _, hl, hm, hmm, _, hx⟩
  · simp only [List.cons.injEq, and_true] at hcs
    exact ⟨[], by rw [hcs]; exact Byt.nil w none 0⟩
  · simp only [List.cons.injEq, and_true] at hcs
    simp only [if_true] at hmm
    by_cases h0 : len = 0
    · subst h0; exact ⟨[], by rw [hcs]; exact Byt.nil w (some a) cap⟩
    · have ha := addr_of (hx 0 (by omega)).1
      obtain ⟨Z, hZ⟩ := choose_lt (α := UInt8) (n := m) (p := fun i b => V i = .int .u8 ((b.toNat : Nat) : Int)) fun i hi => by
        obtain ⟨z, h1, _, hw⟩ := DataW.trod_int he (hx i hi).2
        have hz0 : IntKind.u8.min ≤ z ∧ z ≤ IntKind.u8.max := by simpa [Lit.wf] using hw
        have hz : 0 ≤ z ∧ z ≤ 255 := hz0
        refine ⟨UInt8.ofNat z.toNat, ?_⟩
        simp only [List.cons.injEq, and_true] at h1
        rw [h1]
        congr 1
        have : (UInt8.ofNat z.toNat).toNat = z.toNat := by simp; omega
        rw [this]; omega
      refine ⟨(List.range len).map Z, some a, cap, ?_, ?_, fun k hk => ?_⟩
      · simp only [List.length_map, List.length_range]; exact hcs
      · simp only [List.length_map, List.length_range]; exact ⟨by omega, by omega⟩
      · simp only [List.length_map, List.length_range] at hk
        have h1 := (hx k (by omega)).1
        rw [ha, add_plain] at h1
        refine ⟨a.block, a.off, by rw [← ha], ?_⟩
        rw [h1, hZ k (by omega)]
        simp [hk]
theorem open_Byts {H : Type} {enc : TypeId × Value → H} {P : Program} {w : World} {base : Nat} {held : Bool} {t e q : TypeId} {fuel : Nat} {v : Value} {x : DataW H × List MemPlace} (ht : P.underlying t = some (.slice e)) (he : P.underlying e = some (.slice q)) (hq : P.underlying q = some (.int .u8)) (ce : P.cellsOf e = 1) (cq : P.cellsOf q = 1)
    (h : DataW.trod enc P w base (fun _ => true) held fuel t [v] = some x) : ∃ zss, Byts w v zss := by
  rcases open_slice1 ht ce h with ⟨hcs, _⟩ | ⟨a, len, cap, m, n, V, D, Pl, hcs, _, hl, hm, hmm, _, hx⟩
  · simp only [List.cons.injEq, and_true] at hcs
    exact ⟨[], by rw [hcs]; exact Byts.nil w none 0⟩
  · simp only [List.cons.injEq, and_true] at hcs
    simp only [if_true] at hmm
    by_cases h0 : len = 0
    · subst h0; exact ⟨[], by rw [hcs]; exact Byts.nil w (some a) cap⟩
    · have ha := addr_of (hx 0 (by omega)).1
      obtain ⟨Z, hZ⟩ := choose_lt (α := List UInt8) (n := m) (p := fun i zs => Byt w (V i) zs) fun i hi => open_Byt he hq cq (hx i hi).2
      refine ⟨(List.range len).map Z, some a, cap, ?_, ?_, fun k hk => ?_⟩
      · simp only [List.length_map, List.length_range]; exact hcs
      · simp only [List.length_map, List.length_range]; exact ⟨by omega, by omega⟩
      · simp only [List.length_map, List.length_range] at hk
        have h1 := (hx k (by omega)).1
        rw [ha, add_plain] at h1
        have hg : ((List.range len).map Z)[k]?.getD [] = Z k := by simp [hk]
        rw [hg]
        obtain ⟨ua, uc, e1, e2, e3⟩ := hZ k (by omega)
        rw [e1] at h1
        exact ⟨a.block, a.off, ua, uc, by rw [← ha], h1, ua, uc, rfl, e2, e3⟩
theorem open_FsU {H : Type} {enc : TypeId × Value → H} {W : World} {r : Reach} {b0 : Nat} {v : Value} {d : DataW H} {p : List MemPlace} (hv : Value.okWide Try.prog W r b0 25 v) (h : DataW.Trod enc Try.prog W 0 (fun _ => true) true 25 v d p) :
    ∃ v0 v1 fd, v = .agg #[v0, v1] ∧ FsR W v0 v1 fd := by
  obtain ⟨cs, rfl, hsz⟩ := okWide_struct Try.underlying25 hv
  obtain ⟨c0, c1, rfl⟩ := array2 (hsz.trans Try.cellsFsF)
  obtain ⟨fuel, hf⟩ := h
  obtain ⟨xs, k, hk, hxy, _, hxl, hg⟩ := DataW.trod_struct Try.underlying25 hf
  match xs, hxl with
  | [y0, y1], _ =>
    have g0 : DataW.trod enc Try.prog W 0 (fun _ => true) true k 22 [c0] = some y0 := by simpa [Value.cells, Try.cellsInosF] using hg 0 _ rfl
    have g1 : DataW.trod enc Try.prog W 0 (fun _ => true) true k 23 [c1] = some y1 := by simpa [Value.cells, Try.cellsBytsF] using hg 1 _ rfl
    obtain ⟨ds, hds⟩ := open_Inos g0
    obtain ⟨zss, hz⟩ := open_Byts Try.underlying23 Try.underlying57 Try.underlying5 Try.cellsBytF Try.cellsByteF g1
    exact ⟨c0, c1, (ds, zss), rfl, hds, hz⟩
end Go.Proofs.Ytmlfpikhencgcao

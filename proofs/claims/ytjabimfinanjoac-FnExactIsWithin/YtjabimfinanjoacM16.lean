/- IsWithin, of the specification. -/
import Derived.Test.YtjabimfinanjoacM15
import Derived.Test.YtjabimfinanjoacM09
namespace Go.Proofs.Ytjabimfinanjoac
open Go.RowKit
set_option maxRecDepth 100000

theorem any_drop {l : List Int} {k : Nat} {a : Int} {p : Int → Bool} (h : l[k]? = some a) : (l.drop k).any p = (p a || (l.drop (k + 1)).any p) := by
  obtain ⟨hk, e⟩ := List.getElem?_eq_some_iff.1 h
  rw [List.drop_eq_getElem_cons hk, e]; rfl
set_option maxHeartbeats 3200000 in
theorem l9Within_any (b : Nat) (d : FD) (b0 o0 cI : Nat) (aD : Option Addr) (cD : Nat) (x : Int) (hok : FsOk d) :
    ∀ (k : Nat), k ≤ 10 → ∀ (t : Nat), t < d.1.length → ∀ (w : World), FsX w b 0 d (some ⟨b0, o0, none⟩) cI aD cD →
      Calls Try.prog 35 #[.pointer (some ⟨b, 0, none⟩), .int .i64 x, .int .i64 (t : Int), .int .i64 (k : Int)] w fun e w' => e = .returned (.bool (witB (entsOf d.1) x k (t : Int))) ∧ w' = w := by
  intro k
  induction k with
  | zero =>
    intro _ t ht w _
    have HR : Hid (witB (entsOf d.1) x 0 (t : Int) = decide (x = (t : Int))) := rfl
    rw [HR.out]
    by_cases he : x = (t : Int)
    · rw [decide_eq_true he]
      have hb : (x == (t : Int)) = true := by simpa using he
      clear he HR
      go_enter Try.func35, Try.ntmps35
      go_wp2
      go_ret
      exact ⟨rfl, rfl⟩
    · rw [decide_eq_false he]
      have hb : (x == (t : Int)) = false := by simpa using he
      have hg : decide ((0 : Int) < ((0 : Nat) : Int)) = false := by simp
      clear he HR
      go_enter Try.func35, Try.ntmps35
      go_wp2_with fail
      refine wp_loop_rounds 1 ?_
      rw [rounds_succ]
      go_wp2
      go_ret
      exact ⟨rfl, rfl⟩
  | succ k ih =>
    intro hk10 t ht w hx
    have HR : Hid (witB (entsOf d.1) x (k + 1) (t : Int) = (decide (x = (t : Int)) || (entsOf d.1 t).any fun y => witB (entsOf d.1) x k y)) := rfl
    rw [HR.out]
    clear HR
    by_cases he : x = (t : Int)
    · rw [decide_eq_true he, Bool.true_or]
      have hb : (x == (t : Int)) = true := by simpa using he
      clear he
      go_enter Try.func35, Try.ntmps35
      go_wp2
      go_ret
      exact ⟨rfl, rfl⟩
    · rw [decide_eq_false he, Bool.false_or]
      have hb : (x == (t : Int)) = false := by simpa using he
      have HIH : Hid (∀ t' : Nat, t' < d.1.length → Calls Try.prog 35 #[.pointer (some ⟨b, 0, none⟩), .int .i64 x, .int .i64 (t' : Int), .int .i64 (k : Int)] w fun e w' => e = .returned (.bool (witB (entsOf d.1) x k (t' : Int))) ∧ w' = w) := fun t' h' => ih (by omega) t' h' w hx
      obtain ⟨f0, -, hI, -⟩ := hx
      obtain ⟨_, _, e1, -, hAt⟩ := hI.open'
      simp only [Value.slice.injEq] at e1
      obtain ⟨rfl, -, rfl⟩ := e1
      obtain ⟨_, _, e2, hIt⟩ := hAt t ht
      simp only [Option.some.injEq, Addr.mk.injEq, and_true] at e2
      obtain ⟨rfl, rfl⟩ := e2
      obtain ⟨aB, cB, aE, cE, -, -, -, -, c4, h5⟩ := hIt
      obtain ⟨_, _, e3, -, -, hEt⟩ := h5.2.2.open'
      simp only [Value.slice.injEq] at e3
      obtain ⟨rfl, -, rfl⟩ := e3
      have HAT : Hid (AtN w aE (d.1[t]?.getD id0).2.2.2.2.length (d.1[t]?.getD id0).2.2.2.2) := hEt
      have HGET : Hid (∀ q, q < (d.1[t]?.getD id0).2.2.2.2.length → (entsOf d.1 t)[q]? = some ((d.1[t]?.getD id0).2.2.2.2[q]?.getD en0).2) := fun q hq => entsOf_get hq
      have HLEN : Hid ((entsOf d.1 t).length = (d.1[t]?.getD id0).2.2.2.2.length) := entsOf_len d.1 t
      have HRNG : Hid (∀ y ∈ entsOf d.1 t, 0 ≤ y ∧ y < (d.1.length : Int)) := hok.rng t ht
      have hnE : (d.1[t]?.getD id0).2.2.2.2.length ≤ 6 := by have := hok.six t; rw [HLEN.out] at this; exact this
      have hten := hok.ten
      obtain ⟨K, hK⟩ : ∃ K, k + 1 = K := ⟨_, rfl⟩
      rw [hK]
      have hKm : (K : Int) - 1 = (k : Int) := by omega
      have hKp : decide (0 < (K : Int)) = true := decide_eq_true (by omega)
      have hK10 : (K : Int) ≤ 10 := by omega
      have htI : (t : Int) < ((d.1.length : Nat) : Int) := by omega
      clear ih hI hAt h5 hEt he hok hK
      generalize entsOf d.1 t = E at *
      generalize hes : (d.1[t]?.getD id0).2.2.2.2 = es at *
      clear hes
      generalize hnn : es.length = nE at *
      clear hnn
      obtain ⟨RES, hRES⟩ : ∃ RES, (E.any fun y => witB (entsOf d.1) x k y) = RES := ⟨_, rfl⟩
      have HRES : Hid ((E.any fun y => witB (entsOf d.1) x k y) = RES) := hRES
      rw [hRES]
      clear hRES
      generalize d.1.length = n at *
      go_enter Try.func35, Try.ntmps35
      go_wp2_with fail
      go_loop [9] (fun i => ∃ q : Nat, q ≤ nE ∧ i = .int .i64 q ∧ (E.drop q).any (fun y => witB (entsOf d.1) x k y) = RES) (fun i => nE - (intOf i).toNat)
      case atStart => exact ⟨0, Nat.zero_le _, rfl, HRES.out⟩
      case round =>
        obtain ⟨q, hq, rfl, hz⟩ := hrel
        have HZ : Hid ((E.drop q).any (fun y => witB (entsOf d.1) x k y) = RES) := hz
        clear hz
        by_cases hlt : q < nE
        · have hg := HGET.out q hlt
          have hr := HRNG.out _ (List.mem_of_getElem? hg)
          have hst := any_drop (p := fun y => witB (entsOf d.1) x k y) hg
          obtain ⟨b1, o1, rfl, -, d1⟩ := HAT.out q hlt
          generalize (es[q]?.getD en0).2 = y at *
          obtain ⟨u, rfl⟩ : ∃ u : Nat, y = (u : Int) := ⟨y.toNat, by omega⟩
          have HC := HIH.out u (by omega)
          have HST : Hid (RES = (witB (entsOf d.1) x k (u : Int) || (E.drop (q + 1)).any fun y => witB (entsOf d.1) x k y)) := by
            unfold Hid; rw [← HZ.out, hst]
          cases hw : witB (entsOf d.1) x k (u : Int) with
          | true =>
            rw [hw] at HC HST
            have HR : Hid (RES = true) := by unfold Hid; rw [HST.out, Bool.true_or]
            have HCC : Hid (Calls Try.prog 35 _ w _) := HC
            clear HC hw hst hg HZ HST
            go_wp2_with fail
            refine HCC.out.mono ?_
            rintro e w2 ⟨rfl, rfl⟩
            go_wp2
            go_ret
            exact ⟨ret_bool HR.out.symm, rfl⟩
          | false =>
            rw [hw] at HC HST
            have HR : Hid ((E.drop (q + 1)).any (fun y => witB (entsOf d.1) x k y) = RES) := by unfold Hid; rw [HST.out, Bool.false_or]
            have HCC : Hid (Calls Try.prog 35 _ w _) := HC
            clear HC hw hst hg HZ HST
            go_wp2_with fail
            refine HCC.out.mono ?_
            rintro e w2 ⟨rfl, rfl⟩
            go_wp2
            go_round
            case rel => exact ⟨q + 1, by omega, by go_num, HR.out⟩
            case measure => simp [intOf]; omega
        · have HR : Hid (RES = false) := by
            unfold Hid
            rw [← HZ.out, List.drop_of_length_le (by rw [HLEN.out]; omega)]; rfl
          go_wp2
          go_ret
          exact ⟨ret_bool HR.out.symm, rfl⟩
set_option maxHeartbeats 6400000 in
theorem specWithinU (w : World) (a1 : Option Addr) (n1 c1 : Nat) (a2 : Option Addr) (n2 c2 : Nat) (d : FD) (x y : Int) (h : FsR w (.slice a1 n1 c1) (.slice a2 n2 c2) d) (hs : sizeFs d ≤ 1048576) :
    Calls Try.prog 17 #[.agg #[.slice a1 n1 c1, .slice a2 n2 c2], .int .i64 x, .int .i64 y] w fun e w' => e = .returned (.bool (winB d x y)) ∧ Below w.heap.size w w' := by
  obtain ⟨hx0, rfl, rfl⟩ := FsX.box h 33
  have HX0 : Hid (FsX (w.alloc (.cells #[.slice a1 d.1.length c1, .slice a2 d.2.length c2] 33)) w.heap.size 0 d a1 c1 a2 c2) := hx0
  have HF : Hid (Calls Try.prog 33 #[.pointer (some ⟨w.heap.size, 0, none⟩)] (w.alloc (.cells #[.slice a1 d.1.length c1, .slice a2 d.2.length c2] 33)) fun e w' => e = .returned (.int .i64 (fsF d)) ∧ Below (w.alloc (.cells #[.slice a1 d.1.length c1, .slice a2 d.2.length c2] 33)).heap.size (w.alloc (.cells #[.slice a1 d.1.length c1, .slice a2 d.2.length c2] 33)) w') := l6Fault_any _ _ _ d _ _ _ _ hx0 (by unfold sizeFs at hs; omega)
  have HP : Hid (∀ W v, Below (w.alloc (.cells #[.slice a1 d.1.length c1, .slice a2 d.2.length c2] 33)).heap.size (w.alloc (.cells #[.slice a1 d.1.length c1, .slice a2 d.2.length c2] 33)) W → Calls Try.prog 34 #[.pointer (some ⟨w.heap.size, 0, none⟩), .int .i64 v] W fun e w' => e = .returned (.bool (decide (0 ≤ v ∧ v < (d.1.length : Int)))) ∧ w' = W) := fun W v hW => l6Place_any W _ _ d _ _ _ _ v (HX0.out.later hW)
  have HB0 : Hid (Below w.heap.size w (w.alloc (.cells #[.slice a1 d.1.length c1, .slice a2 d.2.length c2] 33))) := later1 _ _
  by_cases hf : fsF d = 0
  rotate_left
  · have HR : Hid (winB d x y = false) := by unfold Hid winB; rw [decide_eq_false hf]; rfl
    rw [HR.out]
    have hb : (fsF d != 0) = true := by simpa using hf
    clear hf HR h hs hx0 HP HX0
    generalize fsF d = r at *
    generalize d.1.length = n at *
    generalize d.2.length = m at *
    go_enter Try.func17, Try.ntmps17
    go_wp2_with fail
    generalize (w.alloc (.cells #[.slice a1 n c1, .slice a2 m c2] 33)) = W0 at *
    refine HF.out.mono ?_
    rintro e w1 ⟨rfl, hb1⟩
    have HB1 : Hid (Below w.heap.size w w1) := HB0.out.trans (hb1.mono HB0.out.size)
    clear hb1
    go_wp2
    go_ret
    exact ⟨rfl, HB1.out⟩
  · have hok := fsE_ok (fsF_E hf)
    rw [hf] at HF
    have HWB : Hid (winB d x y = (thB d x && (thB d y && witB (entsOf d.1) x 10 y))) := by unfold Hid winB; rw [decide_eq_true hf, Bool.true_and]
    rw [HWB.out]
    have HTH : Hid (∀ v, thB d v = (decide (0 ≤ v ∧ v < (d.1.length : Int)) && !decide (kindAt d.1 v.toNat = 0))) := fun v => rfl
    rw [HTH.out x, HTH.out y]
    clear HWB HTH h hs hf
    by_cases hpx : 0 ≤ x ∧ x < (d.1.length : Int)
    rotate_left
    · rw [decide_eq_false hpx, Bool.false_and, Bool.false_and]
      have HPX : Hid (∀ W, Below (w.alloc (.cells #[.slice a1 d.1.length c1, .slice a2 d.2.length c2] 33)).heap.size (w.alloc (.cells #[.slice a1 d.1.length c1, .slice a2 d.2.length c2] 33)) W → Calls Try.prog 34 #[.pointer (some ⟨w.heap.size, 0, none⟩), .int .i64 x] W fun e w' => e = .returned (.bool false) ∧ w' = W) := fun W hW => by
        have := HP.out W x hW
        rw [decide_eq_false hpx] at this
        exact this
      clear hx0 HX0 HP hpx hok
      generalize d.1.length = n at *
      generalize d.2.length = m at *
      go_enter Try.func17, Try.ntmps17
      go_wp2_with fail
      generalize (w.alloc (.cells #[.slice a1 n c1, .slice a2 m c2] 33)) = W0 at *
      refine HF.out.mono ?_
      rintro e w1 ⟨rfl, hb1⟩
      have HB1 : Hid (Below w.heap.size w w1) := HB0.out.trans (hb1.mono HB0.out.size)
      have HB : Hid (Below W0.heap.size W0 w1) := hb1
      clear hb1
      go_wp2_with fail
      refine (HPX.out _ HB.out).mono ?_
      rintro e w2 ⟨rfl, rfl⟩
      go_wp2
      go_ret
      exact ⟨rfl, HB1.out⟩
    · rw [decide_eq_true hpx, Bool.true_and]
      have HPX : Hid (∀ W, Below (w.alloc (.cells #[.slice a1 d.1.length c1, .slice a2 d.2.length c2] 33)).heap.size (w.alloc (.cells #[.slice a1 d.1.length c1, .slice a2 d.2.length c2] 33)) W → Calls Try.prog 34 #[.pointer (some ⟨w.heap.size, 0, none⟩), .int .i64 x] W fun e w' => e = .returned (.bool true) ∧ w' = W) := fun W hW => by
        have := HP.out W x hW
        rw [decide_eq_true hpx] at this
        exact this
      by_cases hpy : 0 ≤ y ∧ y < (d.1.length : Int)
      rotate_left
      · rw [decide_eq_false hpy, Bool.false_and, Bool.false_and, Bool.and_false]
        have HPY : Hid (∀ W, Below (w.alloc (.cells #[.slice a1 d.1.length c1, .slice a2 d.2.length c2] 33)).heap.size (w.alloc (.cells #[.slice a1 d.1.length c1, .slice a2 d.2.length c2] 33)) W → Calls Try.prog 34 #[.pointer (some ⟨w.heap.size, 0, none⟩), .int .i64 y] W fun e w' => e = .returned (.bool false) ∧ w' = W) := fun W hW => by
          have := HP.out W y hW
          rw [decide_eq_false hpy] at this
          exact this
        clear hx0 HX0 HP hpx hpy hok
        generalize d.1.length = n at *
        generalize d.2.length = m at *
        go_enter Try.func17, Try.ntmps17
        go_wp2_with fail
        generalize (w.alloc (.cells #[.slice a1 n c1, .slice a2 m c2] 33)) = W0 at *
        refine HF.out.mono ?_
        rintro e w1 ⟨rfl, hb1⟩
        have HB1 : Hid (Below w.heap.size w w1) := HB0.out.trans (hb1.mono HB0.out.size)
        have HB : Hid (Below W0.heap.size W0 w1) := hb1
        clear hb1
        go_wp2_with fail
        refine (HPX.out _ HB.out).mono ?_
        rintro e w2 ⟨rfl, rfl⟩
        go_wp2_with fail
        refine (HPY.out _ HB.out).mono ?_
        rintro e w2 ⟨rfl, rfl⟩
        go_wp2
        go_ret
        exact ⟨rfl, HB1.out⟩
      · rw [decide_eq_true hpy, Bool.true_and]
        have HPY : Hid (∀ W, Below (w.alloc (.cells #[.slice a1 d.1.length c1, .slice a2 d.2.length c2] 33)).heap.size (w.alloc (.cells #[.slice a1 d.1.length c1, .slice a2 d.2.length c2] 33)) W → Calls Try.prog 34 #[.pointer (some ⟨w.heap.size, 0, none⟩), .int .i64 y] W fun e w' => e = .returned (.bool true) ∧ w' = W) := fun W hW => by
          have := HP.out W y hW
          rw [decide_eq_true hpy] at this
          exact this
        obtain ⟨i, rfl⟩ : ∃ i : Nat, x = (i : Int) := ⟨x.toNat, by omega⟩
        obtain ⟨t, rfl⟩ : ∃ t : Nat, y = (t : Int) := ⟨y.toNat, by omega⟩
        rw [Int.toNat_natCast, Int.toNat_natCast]
        have hi : i < d.1.length := by omega
        have ht : t < d.1.length := by omega
        obtain ⟨_, _, e1, -, hAt⟩ := hx0.ins.open'
        simp only [Value.slice.injEq] at e1
        obtain ⟨rfl, -, rfl⟩ := e1
        obtain ⟨b0, o0, rfl, hIi⟩ := hAt i hi
        obtain ⟨_, _, e2, hIt⟩ := hAt t ht
        simp only [Option.some.injEq, Addr.mk.injEq, and_true] at e2
        obtain ⟨rfl, rfl⟩ := e2
        obtain ⟨_, _, _, _, ki, -⟩ := hIi
        obtain ⟨_, _, _, _, kt, -⟩ := hIt
        have HKI : Hid (_ = some (Value.int .i64 (d.1[i]?.getD id0).1)) := ki
        have HKT : Hid (_ = some (Value.int .i64 (d.1[t]?.getD id0).1)) := kt
        have HW : Hid (∀ W, Below (w.alloc (.cells #[.slice (some ⟨b0, o0, none⟩) d.1.length c1, .slice a2 d.2.length c2] 33)).heap.size (w.alloc (.cells #[.slice (some ⟨b0, o0, none⟩) d.1.length c1, .slice a2 d.2.length c2] 33)) W → Calls Try.prog 35 #[.pointer (some ⟨w.heap.size, 0, none⟩), .int .i64 (i : Int), .int .i64 (t : Int), .int .i64 10] W fun e w' => e = .returned (.bool (witB (entsOf d.1) (i : Int) 10 (t : Int))) ∧ w' = W) := fun W hW => l9Within_any w.heap.size d b0 o0 c1 a2 c2 (i : Int) hok 10 (by omega) t ht W (HX0.out.later hW)
        have HC0 : Hid (_ = _) := hx0.c0
        have hiI : (i : Int) < ((d.1.length : Nat) : Int) := hpx.2
        have htI : (t : Int) < ((d.1.length : Nat) : Int) := hpy.2
        have HK1 : Hid (kindAt d.1 i = (d.1[i]?.getD id0).1) := rfl
        have HK2 : Hid (kindAt d.1 t = (d.1[t]?.getD id0).1) := rfl
        rw [HK1.out, HK2.out]
        clear hx0 HX0 HP hpx hpy hok hAt ki kt HK1 HK2
        generalize witB (entsOf d.1) (i : Int) 10 (t : Int) = RR at *
        generalize (d.1[i]?.getD id0).1 = ka at *
        generalize (d.1[t]?.getD id0).1 = kb at *
        generalize d.1.length = n at *
        generalize d.2.length = m at *
        by_cases hka : ka = 0
        · rw [decide_eq_true hka, Bool.not_true, Bool.false_and]
          have hkab : (ka == 0) = true := by simpa using hka
          clear hka HW
          go_enter Try.func17, Try.ntmps17
          go_wp2_with fail
          generalize (w.alloc (.cells #[.slice (some ⟨b0, o0, none⟩) n c1, .slice a2 m c2] 33)) = W0 at *
          refine HF.out.mono ?_
          rintro e w1 ⟨rfl, hb1⟩
          have HB1 : Hid (Below w.heap.size w w1) := HB0.out.trans (hb1.mono HB0.out.size)
          have HB : Hid (Below W0.heap.size W0 w1) := hb1
          have x0 := cell_later hb1 HC0.out
          have k0 := cell_later hb1 HKI.out
          clear hb1
          go_wp2_with fail
          refine (HPX.out _ HB.out).mono ?_
          rintro e w2 ⟨rfl, rfl⟩
          go_wp2_with fail
          refine (HPY.out _ HB.out).mono ?_
          rintro e w2 ⟨rfl, rfl⟩
          go_wp2
          go_ret
          exact ⟨rfl, HB1.out⟩
        · rw [decide_eq_false hka, Bool.not_false, Bool.true_and]
          have hkab : (ka == 0) = false := by simpa using hka
          clear hka
          by_cases hkb : kb = 0
          · rw [decide_eq_true hkb, Bool.not_true, Bool.false_and]
            have hkbb : (kb == 0) = true := by simpa using hkb
            clear hkb HW
            go_enter Try.func17, Try.ntmps17
            go_wp2_with fail
            generalize (w.alloc (.cells #[.slice (some ⟨b0, o0, none⟩) n c1, .slice a2 m c2] 33)) = W0 at *
            refine HF.out.mono ?_
            rintro e w1 ⟨rfl, hb1⟩
            have HB1 : Hid (Below w.heap.size w w1) := HB0.out.trans (hb1.mono HB0.out.size)
            have HB : Hid (Below W0.heap.size W0 w1) := hb1
            have x0 := cell_later hb1 HC0.out
            have k0 := cell_later hb1 HKI.out
            have k1 := cell_later hb1 HKT.out
            clear hb1
            go_wp2_with fail
            refine (HPX.out _ HB.out).mono ?_
            rintro e w2 ⟨rfl, rfl⟩
            go_wp2_with fail
            refine (HPY.out _ HB.out).mono ?_
            rintro e w2 ⟨rfl, rfl⟩
            go_wp2
            go_ret
            exact ⟨rfl, HB1.out⟩
          · rw [decide_eq_false hkb, Bool.not_false, Bool.true_and]
            have hkbb : (kb == 0) = false := by simpa using hkb
            clear hkb
            go_enter Try.func17, Try.ntmps17
            go_wp2_with fail
            generalize (w.alloc (.cells #[.slice (some ⟨b0, o0, none⟩) n c1, .slice a2 m c2] 33)) = W0 at *
            refine HF.out.mono ?_
            rintro e w1 ⟨rfl, hb1⟩
            have HB1 : Hid (Below w.heap.size w w1) := HB0.out.trans (hb1.mono HB0.out.size)
            have HB : Hid (Below W0.heap.size W0 w1) := hb1
            have x0 := cell_later hb1 HC0.out
            have k0 := cell_later hb1 HKI.out
            have k1 := cell_later hb1 HKT.out
            clear hb1
            go_wp2_with fail
            refine (HPX.out _ HB.out).mono ?_
            rintro e w2 ⟨rfl, rfl⟩
            go_wp2_with fail
            refine (HPY.out _ HB.out).mono ?_
            rintro e w2 ⟨rfl, rfl⟩
            go_wp2_with fail
            refine (HW.out _ HB.out).mono ?_
            rintro e w2 ⟨rfl, rfl⟩
            go_wp2
            go_ret
            exact ⟨rfl, HB1.out⟩
end Go.Proofs.Ytjabimfinanjoac

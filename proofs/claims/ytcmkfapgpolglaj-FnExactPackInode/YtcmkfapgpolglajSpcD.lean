
/- The specification's l4Dir and l4Fault. -/
import Derived.Test.YtcmkfapgpolglajSpcF
import Derived.Laws.Cover1
namespace Go.Proofs.Ytcmkfapgpolglaj
open Go.RowKit
set_option maxRecDepth 100000

theorem entF_name {es : List EN} {i : Nat} (h : ¬ nameF (es[i]?.getD en0).1 = 0) : entF es i = nameF (es[i]?.getD en0).1 := by unfold entF; rw [if_neg h]
theorem entF_rng {es : List EN} {i : Nat} (h : nameF (es[i]?.getD en0).1 = 0) (h2 : ¬ (0 ≤ (es[i]?.getD en0).2 ∧ (es[i]?.getD en0).2 ≤ 9)) : entF es i = 3 := by unfold entF; rw [if_pos h, if_neg h2]
theorem entF_form {es : List EN} {i : Nat} (h : nameF (es[i]?.getD en0).1 = 0) (h2 : 0 ≤ (es[i]?.getD en0).2 ∧ (es[i]?.getD en0).2 ≤ 9) (h3 : 0 < i) (h4 : strLe (es[i]?.getD en0).1 (es[i - 1]?.getD en0).1 = true) : entF es i = 1 := by unfold entF; rw [if_pos h, if_pos h2, if_pos ⟨h3, h4⟩]
theorem entF_ok {es : List EN} {i : Nat} (h : nameF (es[i]?.getD en0).1 = 0) (h2 : 0 ≤ (es[i]?.getD en0).2 ∧ (es[i]?.getD en0).2 ≤ 9) (h3 : ¬ (0 < i ∧ strLe (es[i]?.getD en0).1 (es[i - 1]?.getD en0).1 = true)) : entF es i = 0 := by unfold entF; rw [if_pos h, if_pos h2, if_neg h3]

set_option maxHeartbeats 6400000 in
theorem l4Dir_walk (w : World) (b : Nat) (k l s : Int) (vB : Value) (a : Option Addr) (n c : Nat) (es : List EN) (hx : Bx w b [.int .i64 k, .int .i64 l, .int .i64 s, vB, .slice a n c]) (hn : n ≤ 6) (hen : es.length = n) (hz : ∀ k : Nat, (es[k]?.getD en0).1.size ≤ maxLen) (hc : AtN w a n es) :
    Calls Try.prog 56 #[.pointer (some ⟨b, 0, none⟩)] w fun e w' => e = .returned (.int .i64 (fstNZ (entF es) es.length)) ∧ ∃ m, w' = w.drewN m := by
  have c4 := hx 4 _ rfl
  have HC : Hid (AtN w a n es) := hc
  have HZ : Hid (∀ k : Nat, (es[k]?.getD en0).1.size ≤ maxLen) := hz
  have HN : Hid (es.length = n) := hen
  have h6 : decide ((6 : Int) < (n : Int)) = false := by simp; omega
  clear hx hc hz hen
  go_enter Try.func56, Try.ntmps56
  go_wp2
  go_loopw [3] (fun i wr => ∃ j m : Nat, j ≤ n ∧ i = .int .i64 j ∧ wr = w.drewN m ∧ ∀ i : Nat, i < j → entF es i = 0) (fun i _ => n - (intOf i).toNat)
  case atStart => exact ⟨0, 0, Nat.zero_le _, rfl, rfl, fun i hi => by omega⟩
  case round =>
    obtain ⟨j, m, hj, rfl, rfl, hall⟩ := hrel
    have HA : Hid (∀ i : Nat, i < j → entF es i = 0) := hall
    clear hall
    by_cases hlt : j < n
    · obtain ⟨b1, off, rfl, e0, e1⟩ := HC.out j hlt
      have HSZ : Hid ((es[j]?.getD en0).1.size ≤ maxLen) := HZ.out j
      have HE : Hid (¬ entF es j = 0 → fstNZ (entF es) es.length = entF es j) := fun h => fstNZ_at HA.out h (by rw [HN.out]; exact hlt)
      by_cases hnm : nameF (es[j]?.getD en0).1 = 0
      rotate_left
      · have HF : Hid (fstNZ (entF es) es.length = nameF (es[j]?.getD en0).1) := by unfold Hid; rw [HE.out (by rw [entF_name hnm]; exact hnm), entF_name hnm]
        have HNM : Hid (¬ nameF (es[j]?.getD en0).1 = 0) := hnm
        clear hnm HE HA
        generalize (es[j]?.getD en0).1 = x at *
        generalize (es[j]?.getD en0).2 = y at *
        go_wp2_with fail
        refine (specName_any _ x HSZ.out).mono ?_
        generalize nameF x = q at *
        have hq : (q = 0) = False := by simpa using HNM.out
        have hq2 : (q == 0) = false := by simpa using HNM.out
        rintro e w1 ⟨rfl, rfl⟩
        go_wp2
        go_ret
        exact ⟨ret_int HF.out.symm, m, rfl⟩
      · have HNM : Hid (nameF (es[j]?.getD en0).1 = 0) := hnm
        by_cases hr : 0 ≤ (es[j]?.getD en0).2 ∧ (es[j]?.getD en0).2 ≤ 9
        rotate_left
        · have HF : Hid (fstNZ (entF es) es.length = 3) := by unfold Hid; rw [HE.out (by rw [entF_rng hnm hr]; decide), entF_rng hnm hr]
          have HQ : Hid (decide (0 ≤ (es[j]?.getD en0).2 ∧ (es[j]?.getD en0).2 ≤ 9) = false) := by unfold Hid; simpa using hr
          clear hnm HE HA hr
          generalize (es[j]?.getD en0).1 = x at *
          generalize (es[j]?.getD en0).2 = y at *
          go_wp2_with fail
          refine (specName_any _ x HSZ.out).mono ?_
          rw [HNM.out]
          rintro e w1 ⟨rfl, rfl⟩
          go_wp2_with fail
          refine (l1In_is HQ.out).mono ?_
          rintro e w2 ⟨rfl, rfl⟩
          go_wp2
          go_ret
          exact ⟨ret_int HF.out.symm, m, rfl⟩
        · have HQ : Hid (decide (0 ≤ (es[j]?.getD en0).2 ∧ (es[j]?.getD en0).2 ≤ 9) = true) := by unfold Hid; simpa using hr
          by_cases h0 : j = 0
          · have HNX : Hid (∀ i : Nat, i < j + 1 → entF es i = 0) := fun i hi => by
              have : i = j := by omega
              rw [this]; exact entF_ok hnm hr (by omega)
            clear hnm HE HA hr
            generalize (es[j]?.getD en0).1 = x at *
            generalize (es[j]?.getD en0).2 = y at *
            subst h0
            simp only [Nat.zero_mul, Nat.add_zero] at e0 e1
            go_wp2_with fail
            refine (specName_any _ x HSZ.out).mono ?_
            rw [HNM.out]
            rintro e w1 ⟨rfl, rfl⟩
            go_wp2_with fail
            refine (l1In_is HQ.out).mono ?_
            rintro e w2 ⟨rfl, rfl⟩
            go_wp2_with fail
            go_quiet (fail)
            go_wp2
            go_roundw
            case rel => exact ⟨1, m + nq, by omega, by go_num, by first | rfl | rw [World.drewN_drewN], HNX.out⟩
            case measure => simp [intOf]; omega
          · obtain ⟨i, hi⟩ : ∃ i, j = i + 1 := ⟨j - 1, by omega⟩
            obtain ⟨b2, off2, h12, e2, _⟩ := HC.out i (by omega)
            simp only [Option.some.injEq, Addr.mk.injEq, and_true] at h12
            obtain ⟨rfl, rfl⟩ := h12
            have hji : j - 1 = i := by omega
            by_cases hle : strLe (es[j]?.getD en0).1 (es[i]?.getD en0).1 = true
            · have HF : Hid (fstNZ (entF es) es.length = 1) := by unfold Hid; rw [HE.out (by rw [entF_form hnm hr (by omega) (by rw [hji]; exact hle)]; decide), entF_form hnm hr (by omega) (by rw [hji]; exact hle)]
              have hle2 := hle
              unfold strLe at hle2
              clear hnm HE HA hr hle
              subst hi
              generalize (es[i + 1]?.getD en0).1 = x at *
              generalize (es[i + 1]?.getD en0).2 = y at *
              generalize (es[i]?.getD en0).1 = x2 at *
              have hpos : (0 : Int) < ((i + 1 : Nat) : Int) := by omega
              go_wp2_with fail
              refine (specName_any _ x HSZ.out).mono ?_
              rw [HNM.out]
              rintro e w1 ⟨rfl, rfl⟩
              go_wp2_with fail
              refine (l1In_is HQ.out).mono ?_
              rintro e w2 ⟨rfl, rfl⟩
              go_wp2_with fail
              go_quiet (fail)
              go_wp2
              go_ret
              exact ⟨ret_int HF.out.symm, m + nq, by first | rfl | rw [World.drewN_drewN]⟩
            · have HNX : Hid (∀ q : Nat, q < j + 1 → entF es q = 0) := fun q hq => by
                by_cases e : q = j
                · rw [e]; exact entF_ok hnm hr (by rw [hji]; exact fun h => hle h.2)
                · exact HA.out q (by omega)
              have hle2 : strLe (es[j]?.getD en0).1 (es[i]?.getD en0).1 = false := by simpa using hle
              unfold strLe at hle2
              clear hnm HE HA hr hle
              subst hi
              generalize (es[i + 1]?.getD en0).1 = x at *
              generalize (es[i + 1]?.getD en0).2 = y at *
              generalize (es[i]?.getD en0).1 = x2 at *
              have hpos : (0 : Int) < ((i + 1 : Nat) : Int) := by omega
              go_wp2_with fail
              refine (specName_any _ x HSZ.out).mono ?_
              rw [HNM.out]
              rintro e w1 ⟨rfl, rfl⟩
              go_wp2_with fail
              refine (l1In_is HQ.out).mono ?_
              rintro e w2 ⟨rfl, rfl⟩
              go_wp2_with fail
              go_quiet (fail)
              go_wp2
              go_roundw
              case rel => exact ⟨i + 1 + 1, _, by omega, by go_num, by first | rfl | rw [World.drewN_drewN], HNX.out⟩
              case measure => simp [intOf]; omega
    · have HF : Hid (fstNZ (entF es) es.length = 0) := fstNZ_zero fun i hi => HA.out i (by rw [HN.out] at hi; omega)
      go_wp2
      go_ret
      exact ⟨ret_int HF.out.symm, m, rfl⟩
end Go.Proofs.Ytcmkfapgpolglaj

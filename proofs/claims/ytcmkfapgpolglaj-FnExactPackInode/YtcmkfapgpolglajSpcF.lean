
/- The specification's l4File. -/
import Derived.Test.YtcmkfapgpolglajSpcI
namespace Go.Proofs.Ytcmkfapgpolglaj
open Go.RowKit
set_option maxRecDepth 100000

set_option maxHeartbeats 3200000 in
theorem l4File_bad (w : World) (b : Nat) (k l s : Int) (a : Option Addr) (n c : Nat) (vE : Value) (hx : Bx w b [.int .i64 k, .int .i64 l, .int .i64 s, .slice a n c, vE]) (h : ¬ (linkB l = true ∧ sizeB s = true)) :
    Calls Try.prog 55 #[.pointer (some ⟨b, 0, none⟩)] w fun e w' => e = .returned (.int .i64 3) ∧ w' = w := by
  have c1 := hx 1 _ rfl
  have c2 := hx 2 _ rfl
  clear hx
  by_cases hl : linkB l = true
  · have HL : Hid (decide (1 ≤ l ∧ l ≤ 60) = true) := hl
    have HS : Hid (sizeB s = false) := by unfold Hid; simp [hl] at h; exact h
    clear h hl
    go_enter Try.func55, Try.ntmps55
    go_wp2_with fail
    refine (l1In_is HL.out).mono ?_
    rintro e w1 ⟨rfl, rfl⟩
    go_wp2_with fail
    refine (l4Size_any _ s).mono ?_
    rw [HS.out]
    rintro e w1 ⟨rfl, rfl⟩
    go_wp2
    go_ret
    exact ⟨rfl, rfl⟩
  · have HL : Hid (decide (1 ≤ l ∧ l ≤ 60) = false) := by unfold Hid; simpa [linkB] using hl
    clear h hl
    go_enter Try.func55, Try.ntmps55
    go_wp2_with fail
    refine (l1In_is HL.out).mono ?_
    rintro e w1 ⟨rfl, rfl⟩
    go_wp2
    go_ret
    exact ⟨rfl, rfl⟩

set_option maxHeartbeats 3200000 in
theorem l4File_len (w : World) (b : Nat) (k l s : Int) (a : Option Addr) (n c : Nat) (vE : Value) (hx : Bx w b [.int .i64 k, .int .i64 l, .int .i64 s, .slice a n c, vE]) (hl : linkB l = true) (hs : sizeB s = true) (_hn : n ≤ maxLen) (h : ¬ (n : Int) = (s + 7) / 8) :
    Calls Try.prog 55 #[.pointer (some ⟨b, 0, none⟩)] w fun e w' => e = .returned (.int .i64 1) ∧ ∃ m, w' = w.drewN m := by
  have c1 := hx 1 _ rfl
  have c2 := hx 2 _ rfl
  have c3 := hx 3 _ rfl
  have HL : Hid (decide (1 ≤ l ∧ l ≤ 60) = true) := hl
  have HS : Hid (sizeB s = true) := hs
  have h01 : 0 ≤ s ∧ s ≤ 32 := by simpa [sizeB] using hs
  have hne : ((n : Int) != (s + 7) / 8) = true := by simpa using h

  clear hx hl hs h
  go_enter Try.func55, Try.ntmps55
  go_wp2_with fail
  refine (l1In_is HL.out).mono ?_
  rintro e w1 ⟨rfl, rfl⟩
  go_wp2_with fail
  refine (l4Size_any _ s).mono ?_
  rw [HS.out]
  rintro e w1 ⟨rfl, rfl⟩
  have HFO : Hid (∀ W, Calls Try.prog 47 #[.int .i64 s] W fun e w' => e = .returned (.int .i64 ((s + 7) / 8)) ∧ w' = W) := fun W => l4For_any W s h01.1 h01.2
  generalize (s + 7) / 8 = q at *
  go_wp2_with fail
  go_quiet ((go_at_call 47; exact Calls.quiet_of_same (HFO.out _)))
  go_wp2
  go_ret
  exact ⟨rfl, nq, rfl⟩

set_option maxHeartbeats 6400000 in
theorem l4File_ok (w : World) (b : Nat) (k l s : Int) (a : Option Addr) (n c : Nat) (vE : Value) (bs : List Int) (hx : Bx w b [.int .i64 k, .int .i64 l, .int .i64 s, .slice a n c, vE]) (hl : linkB l = true) (hs : sizeB s = true) (h : (n : Int) = (s + 7) / 8) (hbn : bs.length = n) (hc : At1 w a n (fun k => .int .i64 (bs[k]?.getD 0))) :
    Calls Try.prog 55 #[.pointer (some ⟨b, 0, none⟩)] w fun e w' => e = .returned (.int .i64 (blkF bs)) ∧ ∃ m, w' = w.drewN m := by
  have c1 := hx 1 _ rfl
  have c2 := hx 2 _ rfl
  have c3 := hx 3 _ rfl
  have HL : Hid (decide (1 ≤ l ∧ l ≤ 60) = true) := hl
  have HS : Hid (sizeB s = true) := hs
  have h01 : 0 ≤ s ∧ s ≤ 32 := by simpa [sizeB] using hs
  have hn5 : n ≤ 5 := by omega
  have HF : Hid ((n : Int) = (s + 7) / 8) := h
  have HC : Hid (At1 w a n (fun k => .int .i64 (bs[k]?.getD 0))) := hc
  have HN : Hid (bs.length = n) := hbn
  have hnn : ((n : Int) != (n : Int)) = false := by simp
  clear hx hl hs h hc hbn
  go_enter Try.func55, Try.ntmps55
  go_wp2_with fail
  refine (l1In_is HL.out).mono ?_
  rintro e w1 ⟨rfl, rfl⟩
  go_wp2_with fail
  refine (l4Size_any _ s).mono ?_
  rw [HS.out]
  rintro e w1 ⟨rfl, rfl⟩
  have HFO : Hid (∀ W, Calls Try.prog 47 #[.int .i64 s] W fun e w' => e = .returned (.int .i64 (n : Int)) ∧ w' = W) := fun W => by rw [HF.out]; exact l4For_any W s h01.1 h01.2
  go_wp2_with fail
  go_quiet ((go_at_call 47; exact Calls.quiet_of_same (HFO.out _)))
  go_wp2
  go_loopw [3] (fun i wr => ∃ j m : Nat, j ≤ n ∧ i = .int .i64 j ∧ wr = w1.drewN m ∧ ∀ i : Nat, i < j → rngF bs i = 0) (fun i _ => n - (intOf i).toNat)
  case atStart => exact ⟨0, nq, Nat.zero_le _, rfl, rfl, fun i hi => by omega⟩
  case round =>
    obtain ⟨j, m, hj, rfl, rfl, hall⟩ := hrel
    have HA : Hid (∀ i : Nat, i < j → rngF bs i = 0) := hall
    clear hall
    by_cases hlt : j < n
    · obtain ⟨b1, off, rfl, e1⟩ := HC.out j hlt
      dsimp only at e1
      have HRF : Hid (rngF bs j = if 0 ≤ bs[j]?.getD 0 ∧ bs[j]?.getD 0 ≤ 19 then 0 else 3) := rfl
      generalize bs[j]?.getD 0 = x at *
      by_cases hr : 0 ≤ x ∧ x ≤ 19
      · have HQ : Hid (decide (0 ≤ x ∧ x ≤ 19) = true) := by unfold Hid; simpa using hr
        have HZ : Hid (rngF bs j = 0) := by unfold Hid; rw [HRF.out, if_pos hr]
        clear hr
        go_wp2_with fail
        refine (l1In_is HQ.out).mono ?_
        rintro e w2 ⟨rfl, rfl⟩
        go_wp2
        go_roundw
        case rel =>
          refine ⟨j + 1, m, by omega, by go_num, rfl, fun i hi => ?_⟩
          by_cases e : i = j
          · subst e; exact HZ.out
          · exact HA.out i (by omega)
        case measure => simp [intOf]; omega
      · have HQ : Hid (decide (0 ≤ x ∧ x ≤ 19) = false) := by unfold Hid; simpa using hr
        have HZ : Hid (rngF bs j = 3) := by unfold Hid; rw [HRF.out, if_neg hr]
        have HB : Hid (blkF bs = 3) := by
          have h3 : fstNZ (rngF bs) bs.length = 3 := by rw [fstNZ_at HA.out (by rw [HZ.out]; decide) (by rw [HN.out]; exact hlt), HZ.out]
          unfold Hid blkF; rw [h3]; rfl
        clear hr
        go_wp2_with fail
        refine (l1In_is HQ.out).mono ?_
        rintro e w2 ⟨rfl, rfl⟩
        go_wp2
        go_ret
        exact ⟨ret_int HB.out.symm, m, rfl⟩
    · have HB : Hid (blkF bs = fstNZ (dupF bs) bs.length) := by
        unfold Hid blkF; rw [if_pos (fstNZ_zero fun i hi => HA.out i (by rw [HN.out] at hi; omega))]
      clear HA
      go_wp2
      go_loopw [4] (fun i wr => ∃ j m : Nat, j ≤ n ∧ i = .int .i64 j ∧ wr = w1.drewN m ∧ ∀ i : Nat, i < j → dupF bs i = 0) (fun i _ => n - (intOf i).toNat)
      case atStart => exact ⟨0, m, Nat.zero_le _, rfl, rfl, fun i hi => by omega⟩
      case round =>
        obtain ⟨j2, m2, hj2, rfl, rfl, hall⟩ := hrel
        have HA : Hid (∀ i : Nat, i < j2 → dupF bs i = 0) := hall
        clear hall
        by_cases hlt2 : j2 < n
        · go_wp2
          go_loopw [5] (fun i wr => ∃ k2 m : Nat, k2 ≤ j2 ∧ i = .int .i64 k2 ∧ wr = w1.drewN m ∧ ∀ i : Nat, i < k2 → ¬ bs[i]?.getD 0 = bs[j2]?.getD 0) (fun i _ => j2 - (intOf i).toNat)
          case atStart => exact ⟨0, m2, Nat.zero_le _, rfl, rfl, fun i hi => by omega⟩
          case round =>
            obtain ⟨k2, m3, hk2, rfl, rfl, hall⟩ := hrel
            have HA2 : Hid (∀ i : Nat, i < k2 → ¬ bs[i]?.getD 0 = bs[j2]?.getD 0) := hall
            clear hall
            by_cases hlt3 : k2 < j2
            · obtain ⟨b1, off, rfl, e1⟩ := HC.out j2 hlt2
              obtain ⟨b2, off2, h12, e2⟩ := HC.out k2 (by omega)
              simp only [Option.some.injEq, Addr.mk.injEq, and_true] at h12
              obtain ⟨rfl, rfl⟩ := h12
              dsimp only at e1 e2
              have HX : Hid (bs[k2]?.getD 0 = bs[k2]?.getD 0) := rfl
              by_cases he : bs[k2]?.getD 0 = bs[j2]?.getD 0
              · have HD : Hid (dupF bs j2 = 7) := by unfold Hid dupF; rw [dupB_yes hlt3 he]; rfl
                have HR : Hid (blkF bs = 7) := by
                  unfold Hid; rw [HB.out, fstNZ_at HA.out (by rw [HD.out]; decide) (by rw [HN.out]; exact hlt2), HD.out]
                rw [he] at e2
                generalize bs[j2]?.getD 0 = x at *
                go_wp2_with fail
                go_quiet (fail)
                go_wp2
                go_ret
                exact ⟨ret_int HR.out.symm, m3 + nq, by first | rfl | rw [World.drewN_drewN]⟩
              · have HNE : Hid (∀ i : Nat, i < k2 + 1 → ¬ bs[i]?.getD 0 = bs[j2]?.getD 0) := fun i hi => by
                  by_cases e : i = k2
                  · rw [e]; exact he
                  · exact HA2.out i (by omega)
                have he' : (bs[k2]?.getD 0 == bs[j2]?.getD 0) = false := by simpa using he
                generalize bs[j2]?.getD 0 = x at *
                generalize bs[k2]?.getD 0 = y at *
                go_wp2_with fail
                go_quiet (fail)
                go_wp2
                go_roundw
                case rel => exact ⟨k2 + 1, m3 + nq, by omega, by go_num, by first | rfl | rw [World.drewN_drewN], HNE.out⟩
                case measure => simp [intOf]; omega
            · have HZ : Hid (∀ i : Nat, i < j2 + 1 → dupF bs i = 0) := fun i hi => by
                by_cases e : i = j2
                · subst e
                  unfold dupF
                  rw [dupB_no fun k hk => HA2.out k (by omega)]
                  rfl
                · exact HA.out i (by omega)
              go_wp2
              go_roundw
              case rel => exact ⟨j2 + 1, m3, by omega, by go_num, rfl, HZ.out⟩
              case measure => simp [intOf]; omega
        · have HZ : Hid (blkF bs = 0) := by unfold Hid; rw [HB.out, fstNZ_zero fun i hi => HA.out i (by rw [HN.out] at hi; omega)]
          go_wp2
          go_ret
          exact ⟨ret_int HZ.out.symm, m2, rfl⟩
theorem l4File_any (w : World) (b : Nat) (k l s : Int) (a : Option Addr) (n c : Nat) (vE : Value) (bs : List Int) (hx : Bx w b [.int .i64 k, .int .i64 l, .int .i64 s, .slice a n c, vE]) (hi : Ints w (.slice a n c) bs) :
    Calls Try.prog 55 #[.pointer (some ⟨b, 0, none⟩)] w fun e w' => e = .returned (.int .i64 (fileF l s bs)) ∧ ∃ m, w' = w.drewN m := by
  obtain ⟨a', cap, h1, hm, hc⟩ := hi.open'
  simp only [Value.slice.injEq] at h1
  obtain ⟨rfl, rfl, rfl⟩ := h1
  unfold fileF
  by_cases h : linkB l = true ∧ sizeB s = true
  · rw [if_pos h]
    by_cases hl : (bs.length : Int) = (s + 7) / 8
    · rw [if_pos hl]
      exact l4File_ok w b k l s _ _ _ vE bs hx h.1 h.2 hl rfl hc
    · rw [if_neg hl]
      exact l4File_len w b k l s _ _ _ vE hx h.1 h.2 hm hl
  · rw [if_neg h]
    exact (l4File_bad w b k l s _ _ _ vE hx h).mono fun e w' ⟨h1, h2⟩ => ⟨h1, 0, h2⟩
end Go.Proofs.Ytcmkfapgpolglaj

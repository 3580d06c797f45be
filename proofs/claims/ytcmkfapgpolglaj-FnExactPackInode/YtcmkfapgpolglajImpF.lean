
/- The program's InodeFault. -/
import Derived.Test.YtcmkfapgpolglajBFor
import Derived.Laws.Cover1
namespace Go.Proofs.Ytcmkfapgpolglaj
open Go.RowKit
set_option maxRecDepth 100000

set_option maxHeartbeats 1600000 in
theorem hasFile_any (w : World) (k l s : Int) (a : Option Addr) (n c : Nat) (vE : Value) (a' : Option Addr) (n' c' : Nat) (hv : vE = .slice a' n' c') :
    Calls Try.prog 58 #[.agg #[.int .i64 k, .int .i64 l, .int .i64 s, .slice a n c, vE]] w fun e w' => e = .returned (.bool (decide (l ≠ 0) || decide (s ≠ 0) || decide (0 < n))) ∧ Below w.heap.size w w' := by
  subst hv
  by_cases hl : l = 0
  · subst hl
    by_cases hs : s = 0
    · subst hs
      by_cases hn : 0 < n
      · have hn' : decide ((0 : Int) < (n : Int)) = true := by simp; omega
        rw [show (decide ((0 : Int) ≠ 0) || decide ((0 : Int) ≠ 0) || decide (0 < n)) = true by simp; omega]
        go_enter Try.func58, Try.ntmps58
        go_wp2
        go_ret
        exact ⟨rfl, later1 _ _⟩
      · have hn' : decide ((0 : Int) < (n : Int)) = false := by simp; omega
        rw [show (decide ((0 : Int) ≠ 0) || decide ((0 : Int) ≠ 0) || decide (0 < n)) = false by simp; omega]
        go_enter Try.func58, Try.ntmps58
        go_wp2
        go_ret
        exact ⟨rfl, later1 _ _⟩
    · have hs' : (s != 0) = true := by simpa using hs
      rw [show (decide ((0 : Int) ≠ 0) || decide (s ≠ 0) || decide (0 < n)) = true by simp [hs]]
      go_enter Try.func58, Try.ntmps58
      go_wp2
      go_ret
      exact ⟨rfl, later1 _ _⟩
  · have hl' : (l != 0) = true := by simpa using hl
    rw [show (decide (l ≠ 0) || decide (s ≠ 0) || decide (0 < n)) = true by simp [hl]]
    go_enter Try.func58, Try.ntmps58
    go_wp2
    go_ret
    exact ⟨rfl, later1 _ _⟩
theorem hasDir_any (w : World) (k l s : Int) (a : Option Addr) (n c : Nat) (a' : Option Addr) (n' c' : Nat) :
    Calls Try.prog 59 #[.agg #[.int .i64 k, .int .i64 l, .int .i64 s, .slice a n c, .slice a' n' c']] w fun e w' => e = .returned (.bool (decide (0 < n'))) ∧ Below w.heap.size w w' := by
  by_cases hn : 0 < n'
  · have hn' : decide ((0 : Int) < (n' : Int)) = true := by simp; omega
    rw [show decide (0 < n') = true by simpa using hn]
    go_enter Try.func59, Try.ntmps59
    go_wp2
    go_ret
    exact ⟨rfl, later1 _ _⟩
  · have hn' : decide ((0 : Int) < (n' : Int)) = false := by simp; omega
    rw [show decide (0 < n') = false by simpa using hn]
    go_enter Try.func59, Try.ntmps59
    go_wp2
    go_ret
    exact ⟨rfl, later1 _ _⟩

/-- Whether one of the first n is x. -/
def hasI (bs : List Int) (n : Nat) (x : Int) : Bool := (List.range n).any fun k => bs[k]?.getD 0 == x
theorem hasI_yes {bs : List Int} {n k : Nat} {x : Int} (hk : k < n) (e : bs[k]?.getD 0 = x) : hasI bs n x = true := by
  unfold hasI; rw [List.any_eq_true]; exact ⟨k, by simpa using hk, by simp [e]⟩
theorem hasI_no {bs : List Int} {n : Nat} {x : Int} (h : ∀ k, k < n → ¬ bs[k]?.getD 0 = x) : hasI bs n x = false := by
  unfold hasI; rw [List.any_eq_false]; intro k hk; simp at hk; simp [h k hk]

set_option maxHeartbeats 1600000 in
theorem indexI_any (w : World) (a : Option Addr) (n c : Nat) (bs : List Int) (x : Int) (hn : n ≤ 1048576) (hc : At1 w a n (fun k => .int .i64 (bs[k]?.getD 0))) :
    Calls Try.prog 77 #[.slice a n c, .int .i64 x] w fun e w' => ∃ r : Int, e = .returned (.int .i64 r) ∧ decide (0 ≤ r) = hasI bs n x ∧ ∃ m, w' = w.drewN m := by
  have HC : Hid (At1 w a n (fun k => .int .i64 (bs[k]?.getD 0))) := hc
  clear hc
  go_enter Try.func77, Try.ntmps77
  go_wp2
  go_loopw [8] (fun i wr => ∃ j m : Nat, j ≤ n ∧ i = .int .i64 j ∧ wr = w.drewN m ∧ ∀ i : Nat, i < j → ¬ bs[i]?.getD 0 = x) (fun i _ => n - (intOf i).toNat)
  case atStart => exact ⟨0, 0, Nat.zero_le _, rfl, rfl, fun i hi => by omega⟩
  case round =>
    obtain ⟨j, m, hj, rfl, rfl, hall⟩ := hrel
    have HA : Hid (∀ i : Nat, i < j → ¬ bs[i]?.getD 0 = x) := hall
    clear hall
    by_cases hlt : j < n
    · obtain ⟨b1, off, rfl, e1⟩ := HC.out j hlt
      dsimp only at e1
      by_cases he : bs[j]?.getD 0 = x
      · have HH : Hid (hasI bs n x = true) := hasI_yes hlt he
        rw [he] at e1
        clear he
        go_wp2
        go_ret
        exact ⟨(j : Int), rfl, by rw [HH.out]; simp, m, rfl⟩
      · have HNE : Hid (∀ i : Nat, i < j + 1 → ¬ bs[i]?.getD 0 = x) := fun i hi => by
          by_cases e : i = j
          · rw [e]; exact he
          · exact HA.out i (by omega)
        have he' : (x == bs[j]?.getD 0) = false := by simp; exact fun h => he h.symm
        have he2 : (x = bs[j]?.getD 0) = False := by simp; exact fun h => he h.symm
        clear he
        generalize bs[j]?.getD 0 = y at *
        go_wp2
        go_roundw
        case rel => exact ⟨j + 1, m, by omega, by go_num, rfl, HNE.out⟩
        case measure => simp [intOf]; omega
    · have HH : Hid (hasI bs n x = false) := hasI_no fun k hk => HA.out k (by omega)
      go_wp2
      go_ret
      exact ⟨-1, rfl, by rw [HH.out]; rfl, m, rfl⟩

set_option maxHeartbeats 1600000 in
theorem containsI_any (w : World) (a : Option Addr) (n c : Nat) (bs : List Int) (x : Int) (hn : n ≤ 1048576) (hc : At1 w a n (fun k => .int .i64 (bs[k]?.getD 0))) :
    Calls Try.prog 72 #[.slice a n c, .int .i64 x] w fun e w' => e = .returned (.bool (hasI bs n x)) ∧ ∃ m, w' = w.drewN m := by
  have HC : Hid (At1 w a n (fun k => .int .i64 (bs[k]?.getD 0))) := hc
  clear hc
  go_enter Try.func72, Try.ntmps72
  go_wp2_with fail
  refine (indexI_any _ a n c bs x hn HC.out).mono ?_
  rintro e w1 ⟨r, rfl, hr, m, rfl⟩
  have HR : Hid (decide (0 ≤ r) = hasI bs n x) := hr
  clear hr
  go_wp2
  go_ret
  exact ⟨by rw [← HR.out]; rfl, m, rfl⟩

set_option maxHeartbeats 3200000 in
theorem blocksFault_any (w : World) (a : Option Addr) (n c : Nat) (bs : List Int) (hn : n ≤ 1048576) (hcap : n ≤ c) (hbn : bs.length = n) (hc : At1 w a n (fun k => .int .i64 (bs[k]?.getD 0))) :
    Calls Try.prog 60 #[.slice a n c] w fun e w' => e = .returned (.int .i64 (blkF bs)) ∧ ∃ m, w' = w.drewN m := by
  have HC : Hid (At1 w a n (fun k => .int .i64 (bs[k]?.getD 0))) := hc
  have HN : Hid (bs.length = n) := hbn
  clear hc hbn
  go_enter Try.func60, Try.ntmps60
  go_wp2
  go_loopw [9] (fun i wr => ∃ j m : Nat, j ≤ n ∧ i = .int .i64 j ∧ wr = w.drewN m ∧ ∀ i : Nat, i < j → rngF bs i = 0) (fun i _ => n - (intOf i).toNat)
  case atStart => exact ⟨0, 0, Nat.zero_le _, rfl, rfl, fun i hi => by omega⟩
  case round =>
    obtain ⟨j, m, hj, rfl, rfl, hall⟩ := hrel
    have HA : Hid (∀ i : Nat, i < j → rngF bs i = 0) := hall
    clear hall
    by_cases hlt : j < n
    · obtain ⟨b1, off, rfl, e1⟩ := HC.out j hlt
      dsimp only at e1
      have HRF : Hid (rngF bs j = if 0 ≤ bs[j]?.getD 0 ∧ bs[j]?.getD 0 ≤ 19 then 0 else 3) := rfl
      generalize bs[j]?.getD 0 = x at *
      have HB3 : Hid (rngF bs j = 3 → blkF bs = 3) := fun h => by
        have h3 : fstNZ (rngF bs) bs.length = 3 := by rw [fstNZ_at HA.out (by rw [h]; decide) (by rw [HN.out]; exact hlt), h]
        unfold blkF; rw [h3]; rfl
      by_cases h0 : x < 0
      · have HZ : Hid (blkF bs = 3) := HB3.out (by rw [HRF.out, if_neg (by omega)])
        go_wp2
        go_ret
        exact ⟨ret_int HZ.out.symm, m, rfl⟩
      · by_cases h1 : 20 ≤ x
        · have HZ : Hid (blkF bs = 3) := HB3.out (by rw [HRF.out, if_neg (by omega)])
          go_wp2
          go_ret
          exact ⟨ret_int HZ.out.symm, m, rfl⟩
        · have HZ : Hid (rngF bs j = 0) := by unfold Hid; rw [HRF.out, if_pos (by omega)]
          go_wp2
          go_roundw
          case rel =>
            refine ⟨j + 1, m, by omega, by go_num, rfl, fun i hi => ?_⟩
            by_cases e : i = j
            · subst e; exact HZ.out
            · exact HA.out i (by omega)
          case measure => simp [intOf]; omega
    · have HB : Hid (blkF bs = fstNZ (dupF bs) bs.length) := by
        unfold Hid blkF; rw [if_pos (fstNZ_zero fun i hi => HA.out i (by rw [HN.out] at hi; omega))]
      clear HA
      go_wp2
      go_loopw [22] (fun i wr => ∃ j m : Nat, j ≤ n ∧ i = .int .i64 j ∧ wr = w.drewN m ∧ ∀ i : Nat, i < j → dupF bs i = 0) (fun i _ => n - (intOf i).toNat)
      case atStart => exact ⟨0, m, Nat.zero_le _, rfl, rfl, fun i hi => by omega⟩
      case round =>
        obtain ⟨j2, m2, hj2, rfl, rfl, hall⟩ := hrel
        have HA : Hid (∀ i : Nat, i < j2 → dupF bs i = 0) := hall
        clear hall
        by_cases hlt2 : j2 < n
        · obtain ⟨b1, off, rfl, e1⟩ := HC.out j2 hlt2
          dsimp only at e1
          have HD : Hid (dupF bs j2 = if hasI bs j2 (bs[j2]?.getD 0) then 7 else 0) := rfl
          have HCN : Hid (∀ W : World, At1 W (some ⟨b1, off, none⟩) j2 (fun k => .int .i64 (bs[k]?.getD 0)) → ∀ cc, Calls Try.prog 72 #[.slice (some ⟨b1, off, none⟩) j2 cc, .int .i64 (bs[j2]?.getD 0)] W fun e w' => e = .returned (.bool (hasI bs j2 (bs[j2]?.getD 0))) ∧ ∃ m, w' = W.drewN m) := fun W hW cc => containsI_any W _ j2 cc bs _ (by omega) hW
          have HAT : Hid (At1 w (some ⟨b1, off, none⟩) j2 (fun k => .int .i64 (bs[k]?.getD 0))) := fun k hk => HC.out k (by omega)
          generalize hasI bs j2 (bs[j2]?.getD 0) = hh at *
          generalize bs[j2]?.getD 0 = x at *
          have hj2c : j2 ≤ c := by omega
          cases hh
          · have HZ : Hid (∀ i : Nat, i < j2 + 1 → dupF bs i = 0) := fun i hi => by
              by_cases e : i = j2
              · rw [e, HD.out]; rfl
              · exact HA.out i (by omega)
            go_wp2_with fail
            refine (HCN.out (w.drewN m2) HAT.out _).mono ?_
            rintro e w2 ⟨rfl, m3, rfl⟩
            go_wp2
            go_roundw
            case rel => exact ⟨j2 + 1, _, by omega, by go_num, by first | rfl | rw [World.drewN_drewN], HZ.out⟩
            case measure => simp [intOf]; omega
          · have HZ : Hid (blkF bs = 7) := by
              have h7 : dupF bs j2 = 7 := by rw [HD.out]; rfl
              unfold Hid; rw [HB.out, fstNZ_at HA.out (by rw [h7]; decide) (by rw [HN.out]; exact hlt2), h7]
            go_wp2_with fail
            refine (HCN.out (w.drewN m2) HAT.out _).mono ?_
            rintro e w2 ⟨rfl, m3, rfl⟩
            go_wp2
            go_ret
            exact ⟨ret_int HZ.out.symm, _, by first | rfl | rw [World.drewN_drewN]⟩
        · have HZ : Hid (blkF bs = 0) := by unfold Hid; rw [HB.out, fstNZ_zero fun i hi => HA.out i (by rw [HN.out] at hi; omega)]
          go_wp2
          go_ret
          exact ⟨ret_int HZ.out.symm, m2, rfl⟩
end Go.Proofs.Ytcmkfapgpolglaj

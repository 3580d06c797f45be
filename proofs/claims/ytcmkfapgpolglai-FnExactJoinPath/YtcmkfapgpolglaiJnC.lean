
/- Lists of texts as arguments; the specification's JoinPath; the law of JoinPath. -/
import Derived.Test.YtcmkfapgpolglaiJnB
import Derived.Test.YtcmkfapgpolglaiMrkS
import Derived.Test.YtcmkfapgpolglaiLstB
import Derived.Test.YtcmkfapgpolglaiSz
import Derived.Test.YtcmkfapgpolglaiTo
namespace Go.Proofs.Ytcmkfapgpolglai
open Go.RowKit
set_option maxRecDepth 100000

/-- The slice v reads as the texts xs. -/
def Strs (w : World) (v : Value) (xs : List (List UInt8)) : Prop := ∃ a c, v = .slice a xs.length c ∧ xs.length ≤ maxLen ∧ (∀ k : Nat, (xs[k]?.getD []).length ≤ maxLen) ∧ AtT w a xs.length xs
def slens (xs : List (List UInt8)) : List Nat := xs.map List.length
theorem slens_length (xs : List (List UInt8)) : (slens xs).length = xs.length := by simp [slens]
theorem slens_get (xs : List (List UInt8)) (i : Nat) : (slens xs)[i]?.getD 0 = (xs[i]?.getD []).length := by
  unfold slens; rw [List.getElem?_map]; cases xs[i]? <;> rfl
def sizeT (xs : List (List UInt8)) : Nat := xs.length + (slens xs).sum
theorem slens_le (xs : List (List UInt8)) (k : Nat) : (xs[k]?.getD []).length ≤ (slens xs).sum := by
  by_cases h : k < xs.length
  · have h1 := upto_succ (slens xs) k (by rw [slens_length]; exact h)
    have h2 := upto_le (slens xs) (k + 1)
    rw [slens_get] at h1
    omega
  · rw [List.getElem?_eq_none (by omega)]; simp

set_option maxHeartbeats 800000 in
theorem szStr_walk (w : World) (a : Option Addr) (n cap : Nat) (xs : List (List UInt8)) (left : Int) (h0 : 0 ≤ left) (h1 : left ≤ 1048576) (hl : xs.length = n) (hn : n ≤ maxLen) (hz : ∀ k : Nat, (xs[k]?.getD []).length ≤ maxLen) (hc : AtT w a n xs) :
    Calls Try.prog 27 #[.slice a n cap, .int .i64 left] w fun e w' => e = .returned (.int .i64 (szf left (sizeT xs))) ∧ Below w.heap.size w w' := by
  have HC : Hid (AtT w a n xs) := hc
  have HZ : Hid (∀ k : Nat, (xs[k]?.getD []).length ≤ maxLen) := hz
  have HS : Hid (sizeT xs = n + (slens xs).sum) := by unfold Hid sizeT; rw [hl]
  have HL : Hid (xs.length = n) := hl
  unfold maxLen at hn
  clear hc hz hl
  by_cases h : left < (n : Int)
  · rw [szf_no (by rw [HS.out]; omega)]
    have h' : left - (n : Int) < 0 := by omega
    go_enter Try.func27, Try.ntmps27
    go_wp2
    go_ret
    exact ⟨rfl, Below.refl _ _⟩
  · have h' : ¬ left - (n : Int) < 0 := by omega
    go_enter Try.func27, Try.ntmps27
    go_wp2
    go_loopw [1, 5] (fun q i wr => ∃ j m : Nat, j ≤ n ∧ i = .int .i64 j ∧ q = .int .i64 (left - (n : Int) - (upto (slens xs) j : Nat)) ∧ 0 ≤ left - (n : Int) - (upto (slens xs) j : Nat) ∧ wr = w.drewN m) (fun _ i _ => n - (intOf i).toNat)
    case atStart => exact ⟨0, 0, Nat.zero_le _, rfl, by rw [upto_zero]; simp, by rw [upto_zero]; simp; omega, rfl⟩
    case round =>
      obtain ⟨j, m, hj, rfl, rfl, hge, rfl⟩ := hrel
      by_cases hlt : j < n
      · obtain ⟨b, off, rfl, c0⟩ := HC.out j hlt
        have HNX : Hid (upto (slens xs) (j + 1) = upto (slens xs) j + (xs[j]?.getD []).length) := by unfold Hid; rw [upto_succ _ _ (by rw [slens_length, HL.out]; exact hlt), slens_get]
        have hsz : (xs[j]?.getD []).length ≤ 9223372036854775807 := HZ.out j
        have HUP : Hid (upto (slens xs) (j + 1) ≤ (slens xs).sum) := upto_le _ _
        generalize hL : left - (n : Int) - ((upto (slens xs) j : Nat) : Int) = L at *
        have HLL : Hid (left - (n : Int) - ((upto (slens xs) j : Nat) : Int) = L) := hL
        have hL1 : L ≤ 1048576 := by omega
        clear hL
        generalize xs[j]?.getD [] = x at *
        have hms := mkB_size x
        by_cases hs : L < (x.length : Int)
        · have HM : Hid (szf left (sizeT xs) = -1) := szf_no (by rw [HS.out]; have := HNX.out; have := HUP.out; have := HLL.out; omega)
          have hs' : L - (x.length : Int) < 0 := by omega
          go_wp2
          go_ret
          exact ⟨ret_int HM.out.symm, below_drewN (Below.refl _ _) m⟩
        · have hs' : ¬ L - (x.length : Int) < 0 := by omega
          have HE : Hid (left - (n : Int) - ((upto (slens xs) (j + 1) : Nat) : Int) = L - (x.length : Int)) := by unfold Hid; rw [HNX.out]; have := HLL.out; omega
          go_wp2
          go_roundw
          case rel => exact ⟨j + 1, m, by omega, by go_num, by rw [HE.out], by rw [HE.out]; omega, rfl⟩
          case measure => simp [intOf]; omega
      · have e : j = n := by omega
        have HE : Hid (left - (n : Int) - ((upto (slens xs) j : Nat) : Int) = szf left (sizeT xs)) := by
          unfold Hid
          have h2 : upto (slens xs) j = (slens xs).sum := by rw [e, ← HL.out, ← slens_length]; exact upto_all _
          rw [szf_yes (by rw [HS.out]; omega), HS.out]; omega
        clear e
        go_wp2
        go_ret
        exact ⟨ret_int HE.out, below_drewN (Below.refl _ _) m⟩

set_option maxHeartbeats 800000 in
theorem toStr_walk (w : World) (a : Option Addr) (cap n : Nat) (xs : List (List UInt8)) (hn : n ≤ 1048576) (hc : AtT w a n xs) :
    Calls Try.prog 29 #[.slice a n cap] w fun e w' => ∃ A C, e = .returned (.slice A n C) ∧ Below w.heap.size w w' ∧ AtT w' A n xs := by
  have hmk := fun w => run_make_row' (P := Try.prog) 50 9 (.string ⟨#[]⟩) 16 Try.underlying50 Try.infoStr rfl .i64 .i64 n (by omega) (by omega) w
  have HC : Hid (AtT w a n xs) := hc
  clear hc
  go_enter Try.func29, Try.ntmps29
  go_wp2
  go_loopw [4] (fun i wr => ∃ j : Nat, j ≤ n ∧ i = .int .i64 j ∧ Below w.heap.size w wr ∧ OwnRow wr w.heap.size n (fun i => if i < j then .string (mkB (xs[i]?.getD [])) else .string ⟨#[]⟩)) (fun i _ => n - (intOf i).toNat)
  case atStart => exact ⟨0, Nat.zero_le _, rfl, later1 _ _, (OwnRow.made w (.string ⟨#[]⟩) n 9).congr fun i _ => by simp⟩
  case round =>
    obtain ⟨j, hj, rfl, hbl, hrow⟩ := hrel
    by_cases hlt : j < n
    · obtain ⟨b, off, rfl, c0⟩ := HC.out j hlt
      have c1 := cell_later hbl c0
      have d1 := hrow.cell hlt
      have d2 := hrow.frozen j
      simp only [Nat.lt_irrefl, if_false] at d1
      have HBL : Hid (Below w.heap.size w wr) := hbl
      have HROW : Hid (OwnRow wr w.heap.size n (fun i => if i < j then .string (mkB (xs[i]?.getD [])) else .string ⟨#[]⟩)) := hrow
      have HY : Hid (∀ y, mkB (xs[j]?.getD []) = y → ∀ i : Nat, i < n → (if i = j then Value.string y else if i < j then .string (mkB (xs[i]?.getD [])) else .string ⟨#[]⟩) = if i < j + 1 then .string (mkB (xs[i]?.getD [])) else .string ⟨#[]⟩) := fun y hy i hi => by
        by_cases e : i = j
        · subst e; rw [if_pos rfl, if_pos (by omega), hy]
        · rw [if_neg e]
          by_cases e2 : i < j
          · rw [if_pos e2, if_pos (by omega)]
          · rw [if_neg e2, if_neg (by omega)]
      generalize hy : mkB (xs[j]?.getD []) = y at c1
      have HYY : Hid (mkB (xs[j]?.getD []) = y) := hy
      clear hbl hrow c0 hy
      go_wp2
      go_roundw
      case rel => exact ⟨j + 1, by omega, by go_num, HBL.out.setCell (Nat.le_refl _) _, (HROW.out.set j _).congr fun i hi => HY.out y HYY.out i hi⟩
      case measure => simp [intOf]; omega
    · have HBL : Hid (Below w.heap.size w wr) := hbl
      have HAT : Hid (AtT wr (some ⟨w.heap.size, 0, none⟩) n xs) := fun k hk => ⟨w.heap.size, 0, rfl, by rw [Nat.zero_add, hrow.cell hk, if_pos (by omega)]⟩
      clear hbl hrow
      go_wp2
      go_ret
      exact ⟨_, _, rfl, HBL.out, HAT.out⟩

/-- The text that JoinPath answers. -/
def joinX (xs : List (List UInt8)) : List UInt8 := if namesC xs = 0 then joinT xs else []
theorem implJoin_any (w : World) (a : Option Addr) (n c : Nat) (xs : List (List UInt8)) (hl : xs.length = n) (hx : ∀ k : Nat, (xs[k]?.getD []).length ≤ 1048576) (hat : AtT w a n xs) :
    Calls Try.prog 30 #[.slice a n c] w fun e w' => e = .returned (.agg #[.int .i64 (namesC xs), .string (mkB (joinX xs))]) ∧ Below w.heap.size w w' := by
  by_cases h : 6 < n
  · have hc : namesC xs = 2 := by unfold namesC; rw [hl, if_pos h]
    have hj : joinX xs = [] := by unfold joinX; rw [hc]; rfl
    rw [hc, hj]
    exact implJoin_many w a n c h
  · have hc : namesC xs = namesF xs := by unfold namesC; rw [hl, if_neg h]
    have := implJoin_few w a n c xs hl (by omega) hx hat
    unfold joinX
    rw [hc]
    exact this

set_option maxHeartbeats 1600000 in
theorem specJoin_any (w : World) (a : Option Addr) (n c : Nat) (xs : List (List UInt8)) (hl : xs.length = n) (hn : n ≤ 1048577) (hx : ∀ k : Nat, (xs[k]?.getD []).length ≤ 1048576) (hat : AtT w a n xs) :
    Calls Try.prog 28 #[.slice a n c] w fun e w' => e = .returned (.agg #[.int .i64 (namesC xs), .string (mkB (joinX xs))]) ∧ Below w.heap.size w w' := by
  have HN : Hid (∀ W, Below w.heap.size w W → Calls Try.prog 68 #[.slice a n c] W fun e w' => e = .returned (.int .i64 (namesC xs)) ∧ w' = W) := fun W hW => l3Names_any W a n c xs hl hn hx (hat.later hW)
  have HJ : Hid (∀ W, Below w.heap.size w W → Calls Try.prog 69 #[.slice a n c] W fun e w' => e = .returned (.string (mkB (joinT xs))) ∧ w' = W) := fun W hW => by
    have := l3Join_any W a n c xs (by omega) hn hx (hat.later hW)
    rwa [List.take_of_length_le (by omega)] at this
  have HX : Hid (joinX xs = if namesC xs = 0 then joinT xs else []) := rfl
  rw [HX.out]
  clear hx hat hl
  by_cases hz : namesC xs = 0
  · rw [if_pos hz, hz]
    rw [hz] at HN
    generalize mkB (joinT xs) = y at *
    go_enter Try.func28, Try.ntmps28
    go_wp2_with fail
    refine (HN.out _ (later1 _ _)).mono ?_
    rintro e w1 ⟨rfl, rfl⟩
    go_wp2_with fail
    refine (HJ.out _ (later1 _ _)).mono ?_
    rintro e w1 ⟨rfl, rfl⟩
    go_wp2
    exact bodyPost_ret (v := .agg #[.int .i64 0, .string y]) (by simp [results, Try.results28, go_sem]) rfl ⟨rfl, by first | exact later1 _ _ | exact ((later1 _ _).setCell (by simp) _).setCell (by simp) _⟩
  · rw [if_neg hz]
    have HZ : Hid (¬ namesC xs = 0) := hz
    clear hz HX
    generalize namesC xs = z at *
    have hz : (z != 0) = true := by simpa using HZ.out
    go_enter Try.func28, Try.ntmps28
    go_wp2_with fail
    refine (HN.out _ (later1 _ _)).mono ?_
    rintro e w1 ⟨rfl, rfl⟩
    go_wp2
    exact bodyPost_ret (v := .agg #[.int .i64 z, .string ⟨#[]⟩]) (by simp [results, Try.results28, go_sem]) rfl ⟨rfl, by first | exact later1 _ _ | exact ((later1 _ _).setCell (by simp) _).setCell (by simp) _⟩
end Go.Proofs.Ytcmkfapgpolglai

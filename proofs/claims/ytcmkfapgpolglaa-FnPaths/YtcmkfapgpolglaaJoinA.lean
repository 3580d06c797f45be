
/- Joining names to a path: the specification's side. -/
import Derived.Test.YtcmkfapgpolglaaMrkT
import Derived.Test.YtcmkfapgpolglaaLstA
namespace Go.Proofs.Ytcmkfapgpolglaa
open Go.RowKit
set_option maxRecDepth 100000

def joinL (xs : List (List UInt8)) : List UInt8 := xs.flatMap (47 :: ·)
def joinT (xs : List (List UInt8)) : List UInt8 := if joinL xs = [] then [47] else joinL xs
theorem joinL_step {xs : List (List UInt8)} {j : Nat} (h : j < xs.length) : joinL (xs.take (j + 1)) = joinL (xs.take j) ++ (47 :: xs[j]?.getD []) := by
  unfold joinL
  rw [List.take_add_one, List.flatMap_append, List.getElem?_eq_getElem h]
  simp
theorem joinL_len {xs : List (List UInt8)} {j B : Nat} (h : ∀ k : Nat, (xs[k]?.getD []).length ≤ B) (hj : j ≤ xs.length) : (joinL (xs.take j)).length ≤ j * (B + 1) := by
  induction j with
  | zero => simp [joinL]
  | succ j ih =>
    rw [joinL_step (by omega), List.length_append, List.length_cons, Nat.succ_mul]
    have := ih (by omega)
    have := h j
    omega

set_option maxHeartbeats 3200000 in
theorem l3Join_any (w : World) (a : Option Addr) (n c : Nat) (xs : List (List UInt8)) (hl : n ≤ xs.length) (hn : n ≤ 1048577) (hx : ∀ k : Nat, (xs[k]?.getD []).length ≤ 1048576) (hat : AtT w a n xs) :
    Calls Try.prog 119 #[.slice a n c] w fun e w' => e = .returned (.string (mkB (joinT (xs.take n)))) ∧ w' = w := by
  have HAT : Hid (AtT w a n xs) := hat
  have HX : Hid (∀ k : Nat, (xs[k]?.getD []).length ≤ 1048576) := hx
  have HL : Hid (n ≤ xs.length) := hl
  clear hat hx hl
  have hs47 : (⟨#[47]⟩ : ByteArray) = mkB [47] := rfl
  go_enter Try.func119, Try.ntmps119
  go_wp2
  go_loop [3, 4] (fun o i => ∃ j : Nat, j ≤ n ∧ i = .int .i64 j ∧ o = .string (mkB (joinL (xs.take j)))) (fun _ i => n - (intOf i).toNat)
  case atStart => exact ⟨0, Nat.zero_le _, rfl, rfl⟩
  case round =>
    obtain ⟨j, hj, rfl, rfl⟩ := hrel
    by_cases hlt : j < n
    · obtain ⟨b1, o1, rfl, e1⟩ := HAT.out j hlt
      have HS : Hid (joinL (xs.take (j + 1)) = joinL (xs.take j) ++ (47 :: xs[j]?.getD [])) := joinL_step (by have := HL.out; omega)
      have l1 := joinL_len (xs := xs) (j := j) HX.out (by have := HL.out; omega)
      have l2 := HX.out j
      generalize xs[j]?.getD [] = y at e1 l2 HS
      generalize joinL (xs.take j) = o at l1 HS
      have l3 : o.length ≤ 1099513724928 := by
        have : j * (1048576 + 1) ≤ 1048577 * (1048576 + 1) := Nat.mul_le_mul_right _ (by omega)
        omega
      clear l1
      have z1 : (9223372036854775807 < (mkB o).size + (mkB [47]).size) = False := by rw [mkB_size, mkB_size]; simp; omega
      have z2 : (9223372036854775807 < (mkB o ++ mkB [47]).size + (mkB y).size) = False := by rw [mkB_app, mkB_size, mkB_size]; simp; omega
      have z3 : (9223372036854775807 < (mkB o).size + (mkB [47]).size + (mkB y).size) = False := by rw [mkB_size, mkB_size, mkB_size]; simp; omega
      have HE : Hid (mkB o ++ mkB [47] ++ mkB y = mkB (joinL (xs.take (j + 1)))) := by unfold Hid; rw [HS.out, mkB_app, mkB_app, List.append_assoc]; rfl
      go_wp2
      go_round
      case rel => exact ⟨j + 1, by omega, by go_num, by rw [HE.out]⟩
      case measure => simp [intOf]; omega
    · have hjn : j = n := by omega
      subst hjn
      have HT : Hid (joinT (xs.take j) = if joinL (xs.take j) = [] then [47] else joinL (xs.take j)) := rfl
      by_cases h0 : joinL (xs.take j) = []
      · have HR : Hid (joinT (xs.take j) = [47]) := by unfold Hid; rw [HT.out, if_pos h0]
        rw [h0]
        have ht : ((mkB []).toList == []) = true := by rw [mkB_toList]; rfl
        go_wp2
        go_ret
        exact ⟨by rw [HR.out]; rfl, rfl⟩
      · have HR : Hid (joinT (xs.take j) = joinL (xs.take j)) := by unfold Hid; rw [HT.out, if_neg h0]
        generalize hq : joinL (xs.take j) = o at h0 HR HT ⊢
        have ht : ((mkB o).toList == []) = false := by rw [mkB_toList]; simpa using h0
        clear HT h0
        go_wp2
        go_ret
        exact ⟨by rw [HR.out]; rfl, rfl⟩
end Go.Proofs.Ytcmkfapgpolglaa

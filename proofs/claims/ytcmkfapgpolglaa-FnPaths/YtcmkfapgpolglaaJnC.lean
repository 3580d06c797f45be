
/- Lists of texts as arguments; the specification's JoinPath; the law of JoinPath. -/
import Derived.Test.YtcmkfapgpolglaaJnB
import Derived.Test.YtcmkfapgpolglaaMrkS
import Derived.Test.YtcmkfapgpolglaaLstB
import Derived.Test.YtcmkfapgpolglaaSz
import Derived.Test.YtcmkfapgpolglaaTo
namespace Go.Proofs.Ytcmkfapgpolglaa
open Go.RowKit
set_option maxRecDepth 100000

/-- The slice v reads as the texts xs. -/
def Strs (w : World) (v : Value) (xs : List (List UInt8)) : Prop := ∃ a c, v = .slice a xs.length c ∧ xs.length ≤ maxLen ∧ (∀ k : Nat, (xs[k]?.getD []).length ≤ maxLen) ∧ AtT w a xs.length xs
def slens (xs : List (List UInt8)) : List Nat := xs.map List.length
theorem slens_length (xs : List (List UInt8)) : (slens xs).length = xs.length := by simp [slens]
theorem slens_get (xs : List (List UInt8)) (i : Nat) : (slens xs)[i]?.getD 0 = (xs[i]?.getD []).length := by
  unfold slens; rw [List.getElem?_map]; cases xs[i]? <;> rfl
def sizeT (xs : List (List UInt8)) : Nat := xs.length + (slens xs).sum
theorem slens_le (xs : List (List UInt8)) (k : Nat) : (xs[k]?.getD []).length ≤ (slens xs).sum := by
  by_cases h : k < xs.length
  · have h1 := upto_succ (slens xs) k (by rw [slens_length]; exact h)
    have h2 := upto_le (slens xs) (k + 1)
    rw [slens_get] at h1
    omega
  · rw [List.getElem?_eq_none (by omega)]; simp

/-- The text that JoinPath answers. -/
def joinX (xs : List (List UInt8)) : List UInt8 := if namesC xs = 0 then joinT xs else []
theorem implJoin_any (w : World) (a : Option Addr) (n c : Nat) (xs : List (List UInt8)) (hl : xs.length = n) (hx : ∀ k : Nat, (xs[k]?.getD []).length ≤ 1048576) (hat : AtT w a n xs) :
    Calls Try.prog 36 #[.slice a n c] w fun e w' => e = .returned (.agg #[.int .i64 (namesC xs), .string (mkB (joinX xs))]) ∧ Below w.heap.size w w' := by
  by_cases h : 6 < n
  · have hc : namesC xs = 2 := by unfold namesC; rw [hl, if_pos h]
    have hj : joinX xs = [] := by unfold joinX; rw [hc]; rfl
    rw [hc, hj]
    exact implJoin_many w a n c h
  · have hc : namesC xs = namesF xs := by unfold namesC; rw [hl, if_neg h]
    have := implJoin_few w a n c xs hl (by omega) hx hat
    unfold joinX
    rw [hc]
    exact this

end Go.Proofs.Ytcmkfapgpolglaa

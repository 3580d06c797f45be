
/- Whether a path lies below another one: the specification's side. -/
import Derived.Test.YtcmkfapgpolglaaLstA
namespace Go.Proofs.Ytcmkfapgpolglaa
open Go.RowKit
set_option maxRecDepth 100000

/-- What splitting answers of a path: its code and its names. -/
def Spl (w w' : World) (p : List UInt8) (a : Option Addr) (c : Nat) : Prop := Below w.heap.size w w' ∧ AtT w' a (splitL p).length (splitL p) ∧ (splitL p).length ≤ c
theorem splitL_len (p : List UInt8) (hp : p.length ≤ 1048576) : (splitL p).length ≤ 1048577 := by
  unfold splitL
  split
  · have := namesL_len p; omega
  · simp
theorem specSplit_any (w : World) (p : List UInt8) :
    Calls Try.prog 85 #[.string (mkB p)] w fun e w' => ∃ a c, e = .returned (.tuple #[.slice a (splitL p).length c, .int .i64 (pathF p)]) ∧ Spl w w' p a c := by
  by_cases h : pathF p = 0
  · refine (specSplit_ok w p h).mono ?_
    rintro e w' ⟨a, c, rfl, hb, hr⟩
    have hs : splitL p = namesL p := if_pos h
    unfold Spl
    rw [hs, h]
    exact ⟨a, c, rfl, hb, (ownsRow_at hr).2, ownsRow_cap hr⟩
  · refine (specSplit_bad w p h).mono ?_
    rintro e w' ⟨rfl, hb⟩
    have hs : splitL p = [] := if_neg h
    unfold Spl
    rw [hs]
    exact ⟨none, 0, rfl, hb, fun k hk => by simp at hk, Nat.le_refl _⟩
theorem implSplit_any (w : World) (p : List UInt8) (hp : p.length ≤ 1048576) :
    Calls Try.prog 31 #[.string (mkB p)] w fun e w' => ∃ a c, e = .returned (.agg #[.int .i64 (pathF p), .slice a (splitL p).length c]) ∧ Spl w w' p a c := by
  by_cases h : pathF p = 0
  · refine (implSplit_ok w p hp h).mono ?_
    rintro e w' ⟨a, c, rfl, hb, hr⟩
    have hs : splitL p = namesL p := if_pos h
    unfold Spl
    rw [hs, h]
    exact ⟨a, c, rfl, hb, (ownsRow_at hr).2, ownsRow_cap hr⟩
  · refine (implSplit_bad w p hp h).mono ?_
    rintro e w' ⟨rfl, hb⟩
    have hs : splitL p = [] := if_neg h
    unfold Spl
    rw [hs]
    exact ⟨none, 0, rfl, hb, fun k hk => by simp at hk, Nat.le_refl _⟩
def belowB (p t : List UInt8) : Bool := decide (pathF p = 0) && (decide (pathF t = 0) && (decide ((splitL t).length < (splitL p).length) && decide ((splitL p).take (splitL t).length = splitL t)))
theorem take_no {xs ys : List (List UInt8)} {j : Nat} (hj : j < ys.length) (h : ¬ xs[j]?.getD [] = ys[j]?.getD []) : ¬ xs.take ys.length = ys := fun e => h (by
  have := congrArg (fun l => l[j]?.getD []) e
  simpa [List.getElem?_take, hj] using this)
theorem take_yes {xs ys : List (List UInt8)} (hl : ys.length < xs.length) (h : ∀ j, j < ys.length → xs[j]?.getD [] = ys[j]?.getD []) : xs.take ys.length = ys := by
  refine List.ext_getElem (by simp; omega) fun i h1 h2 => ?_
  have := h i h2
  rw [List.getElem?_eq_getElem (by omega), List.getElem?_eq_getElem h2] at this
  simpa using this

end Go.Proofs.Ytcmkfapgpolglaa

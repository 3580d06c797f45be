
/- What an inode's fault is. No program is named here. -/
import Derived.Test.YtcmkfapgpolglajEntA
namespace Go.Proofs.Ytcmkfapgpolglaj
open Go.RowKit
set_option maxRecDepth 100000

/-- The first of f 0 .. f (n - 1) that is not 0, or 0. -/
def fstNZ (f : Nat → Int) : Nat → Int
  | 0 => 0
  | n + 1 => if fstNZ f n = 0 then f n else fstNZ f n
theorem fstNZ_zero {f : Nat → Int} : ∀ {n : Nat}, (∀ i, i < n → f i = 0) → fstNZ f n = 0
  | 0, _ => rfl
  | n + 1, h => by
    show (if fstNZ f n = 0 then f n else fstNZ f n) = 0
    rw [if_pos (fstNZ_zero fun i hi => h i (by omega))]
    exact h n (by omega)
theorem fstNZ_at {f : Nat → Int} {j : Nat} (h : ∀ i, i < j → f i = 0) (hj : ¬ f j = 0) : ∀ {n : Nat}, j < n → fstNZ f n = f j
  | 0, hn => by omega
  | n + 1, hn => by
    show (if fstNZ f n = 0 then f n else fstNZ f n) = f j
    by_cases e : j = n
    · subst e
      rw [if_pos (fstNZ_zero h)]
    · have := fstNZ_at h hj (n := n) (by omega)
      rw [this, if_neg hj]
theorem fstNZ_inv {f : Nat → Int} : ∀ {n : Nat}, fstNZ f n = 0 → ∀ i, i < n → f i = 0
  | 0, _, i, hi => by omega
  | n + 1, h, i, hi => by
    have h' : (if fstNZ f n = 0 then f n else fstNZ f n) = 0 := h
    by_cases e : fstNZ f n = 0
    · rw [if_pos e] at h'
      by_cases e2 : i = n
      · rw [e2]; exact h'
      · exact fstNZ_inv e i (by omega)
    · rw [if_neg e] at h'; exact absurd h' e

def rngF (bs : List Int) (i : Nat) : Int := if 0 ≤ bs[i]?.getD 0 ∧ bs[i]?.getD 0 ≤ 19 then 0 else 3
/-- Whether one ahead of i is the same. -/
def dupB (bs : List Int) (i : Nat) : Bool := (List.range i).any fun k => bs[k]?.getD 0 == bs[i]?.getD 0
def dupF (bs : List Int) (i : Nat) : Int := if dupB bs i then 7 else 0
theorem dupB_yes {bs : List Int} {i k : Nat} (hk : k < i) (e : bs[k]?.getD 0 = bs[i]?.getD 0) : dupB bs i = true := by
  unfold dupB; rw [List.any_eq_true]; exact ⟨k, by simpa using hk, by simp [e]⟩
theorem dupB_no {bs : List Int} {i : Nat} (h : ∀ k, k < i → ¬ bs[k]?.getD 0 = bs[i]?.getD 0) : dupB bs i = false := by
  unfold dupB; rw [List.any_eq_false]; intro k hk; simp at hk; simp [h k hk]
def blkF (bs : List Int) : Int := if fstNZ (rngF bs) bs.length = 0 then fstNZ (dupF bs) bs.length else fstNZ (rngF bs) bs.length
def linkB (x : Int) : Bool := decide (1 ≤ x ∧ x ≤ 60)
def sizeB (x : Int) : Bool := decide (0 ≤ x ∧ x ≤ 32)
/-- BlocksFor. -/
def bforR (x : Int) : Int × Int := if sizeB x then (0, (x + 7) / 8) else (3, 0)
def fileF (l s : Int) (bs : List Int) : Int := if linkB l = true ∧ sizeB s = true then (if (bs.length : Int) = (s + 7) / 8 then blkF bs else 1) else 3
/-- One text is not above another. -/
def strLe (a b : ByteArray) : Bool := Op.bytesLess a.toList b.toList || a.toList == b.toList
def entF (es : List EN) (i : Nat) : Int := if nameF (es[i]?.getD en0).1 = 0 then (if 0 ≤ (es[i]?.getD en0).2 ∧ (es[i]?.getD en0).2 ≤ 9 then (if 0 < i ∧ strLe (es[i]?.getD en0).1 (es[i - 1]?.getD en0).1 = true then 1 else 0) else 3) else nameF (es[i]?.getD en0).1
def dirF (es : List EN) : Int := if 6 < es.length then 2 else fstNZ (entF es) es.length
/-- What a file alone has, and what a directory alone has. -/
def fpB (d : ID) : Bool := decide (d.2.1 ≠ 0) || decide (d.2.2.1 ≠ 0) || decide (0 < d.2.2.2.1.length)
def dpB (d : ID) : Bool := decide (0 < d.2.2.2.2.length)
def inoF (d : ID) : Int := if d.1 = 0 then (if fpB d || dpB d then 1 else 0) else if d.1 = 1 then (if dpB d then 1 else fileF d.2.1 d.2.2.1 d.2.2.2.1) else if d.1 = 2 then (if fpB d then 1 else dirF d.2.2.2.2) else 1
end Go.Proofs.Ytcmkfapgpolglaj

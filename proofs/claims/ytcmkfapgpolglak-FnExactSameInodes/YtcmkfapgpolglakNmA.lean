
/- NameFault, the specification's and the program's: what both come to. -/
import Derived.Test.YtcmkfapgpolglakRows
import Derived.Test.YtcmkfapgpolglakBase
namespace Go.Proofs.Ytcmkfapgpolglak
open Go.RowKit

def byB (c : UInt8) : Bool := decide (97 ≤ (c.toNat : Int)) && decide ((c.toNat : Int) ≤ 122)
def nameF (s : ByteArray) : Int := if s.size = 0 then 5 else if s.data.toList.all byB = true then (if 4 < s.size then 2 else 0) else 5
theorem nameF_bad {s : ByteArray} {k : Nat} (h : k < s.size) (hb : byB s[k] = false) : nameF s = 5 := by
  unfold nameF
  split
  · rfl
  · rw [if_neg]
    intro ha
    rw [List.all_eq_true] at ha
    have := ha s[k] (by
      have : s[k] = s.data.toList[k]'(by simpa using h) := rfl
      rw [this]; exact List.getElem_mem _)
    rw [hb] at this
    exact absurd this (by simp)
theorem nameF_good {s : ByteArray} (ha : ∀ j (h : j < s.size), byB s[j] = true) : nameF s = if s.size = 0 then 5 else if 4 < s.size then 2 else 0 := by
  unfold nameF
  rw [if_pos (c := s.data.toList.all byB = true)]
  rw [List.all_eq_true]
  intro c hc
  obtain ⟨k, hk, rfl⟩ := List.mem_iff_getElem.1 hc
  exact ha k (by simpa using hk)

theorem toList_size (s : ByteArray) : s.toList.length = s.size := by rw [ByteArray.toList_eq]; rfl
theorem emp_no {s : ByteArray} (h : ¬ s.size = 0) : s.toList.isEmpty = false := by
  cases hs : s.toList with
  | nil => have := toList_size s; rw [hs] at this; exact absurd this.symm h
  | cons a t => rfl
theorem emp_yes {s : ByteArray} (h : s.size = 0) : s.toList.isEmpty = true := by
  cases hs : s.toList with
  | nil => rfl
  | cons a t => have := toList_size s; rw [hs, h] at this; simp at this

end Go.Proofs.Ytcmkfapgpolglak


/- The walks of the functions that tell how great an argument is. -/
import Derived.Test.YtcmkfapgpolglakRows
import Derived.Test.YtcmkfapgpolglakOwn
namespace Go.Proofs.Ytcmkfapgpolglak
open Go.RowKit

/-- What is left of 'left' behind n values: -1 if there are too many. -/
def szf (left : Int) (n : Nat) : Int := if left < (n : Int) then -1 else left - (n : Int)
theorem szf_no {left : Int} {n : Nat} (h : left < (n : Int)) : szf left n = -1 := by simp [szf, h]
theorem szf_yes {left : Int} {n : Nat} (h : ¬ left < (n : Int)) : szf left n = left - (n : Int) := by simp [szf, h]

theorem szInts_walk (w : World) (a : Option Addr) (n cap : Nat) (left : Int) (h0 : 0 ≤ left) (h1 : left ≤ 1048576) (hn : n ≤ maxLen) :
    Calls Try.prog 9 #[.slice a n cap, .int .i64 left] w fun e w' => e = .returned (.int .i64 (szf left n)) ∧ w' = w := by
  unfold maxLen at hn
  by_cases h : left < (n : Int)
  · rw [szf_no h]
    have h' : left - (n : Int) < 0 := by omega
    go_enter Try.func9, Try.ntmps9
    go_wp2
    go_ret
    exact ⟨rfl, rfl⟩
  · rw [szf_yes h]
    have h' : ¬ left - (n : Int) < 0 := by omega
    go_enter Try.func9, Try.ntmps9
    go_wp2
    go_ret
    exact ⟨rfl, rfl⟩

theorem szInts_any {w : World} {v : Value} {zs : List Int} (h : Ints w v zs) (left : Int) (h0 : 0 ≤ left) (h1 : left ≤ 1048576) :
    Calls Try.prog 9 #[v, .int .i64 left] w fun e w' => e = .returned (.int .i64 (szf left zs.length)) ∧ w' = w := by
  obtain ⟨a, cap, rfl, hn⟩ := h.shape
  exact szInts_walk w a _ cap left h0 h1 hn

/-- How many values a disk holds. -/
def dsize (bs : List (List Int)) (ps : List (Int × List Int)) : Nat := bs.length + (bs.map List.length).sum + (ps.length + (wlens ps).sum)

end Go.Proofs.Ytcmkfapgpolglak

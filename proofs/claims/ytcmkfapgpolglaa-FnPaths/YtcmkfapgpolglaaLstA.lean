
/- The last name of a path: the specification's side. -/
import Derived.Test.YtcmkfapgpolglaaCutD
namespace Go.Proofs.Ytcmkfapgpolglaa
open Go.RowKit
set_option maxRecDepth 100000

def lastC (p : List UInt8) : Int := if pathF p = 0 then (if (namesL p).length = 0 then 4 else 0) else pathF p
def lastT (p : List UInt8) : List UInt8 := if pathF p = 0 then (namesL p)[(namesL p).length - 1]?.getD [] else []

theorem ownsRow_cap {w : World} {B : Nat} {e : TypeId} {a : Option Addr} {n m c : Nat} {xs : List Value} (h : w.ownsRow B e 1 (.slice a n c) m xs) : n ≤ c := by
  rcases h.2 with ⟨h1, _⟩ | ⟨g, cap, cur, h1, _, _, h2, _⟩ <;> simp only [Value.slice.injEq] at h1 <;> omega
theorem slice_takeT (a : Option Addr) (n c j : Nat) (hj : j ≤ c) :
    ∃ A C, (∀ W : World, (Instr.slice 64 (.slice a n c) none (some (.int .i64 (j : Int))) none).run Try.prog W = .ok (.slice A j C) W) ∧ ∀ (W : World) (xs : List (List UInt8)), j ≤ n → AtT W a n xs → AtT W A j xs := by
  obtain ⟨i, hi, _⟩ := info_parts Try.infoStr
  refine ⟨if c = 0 then a else a.map (·.add (0 * 1)), c - 0, fun W => ?_, fun W xs hjn h => ?_⟩
  · simp [Instr.slice, Instr.sliceBounds, Instr.sliceBound, asIntOf, run_underlying Try.underlying64, sizeOf, typeInfo, hi, hj]
  · by_cases hc : c = 0
    · intro k hk; omega
    · rw [if_neg hc]
      intro k hk
      obtain ⟨b, off, e, r⟩ := h k (by omega)
      subst e
      exact ⟨b, off, by simp [Addr.add], r⟩

end Go.Proofs.Ytcmkfapgpolglaa

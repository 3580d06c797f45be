
/- How bytes that came in are opened. -/
import Derived.Test.YtcmkfapgpolglaaFrame
import Derived.Test.YtcmkfapgpolglaaDrA
namespace Go.Proofs.Ytcmkfapgpolglaa
open Go.ChangeShapes Go.WideShapes Go.ChangeAt Go.RowKit Go.Joins Go.Deep
set_option maxRecDepth 100000

theorem Try.cellsByte' : Try.prog.cellsOf 5 = 1 := by kernel_rfl
theorem open_Bytes {H : Type} {enc : TypeId × Value → H} {P : Program} {w : World} {base : Nat} {held : Bool} {t e : TypeId} {fuel : Nat} {a : Option Addr} {len cap : Nat} {x : DataW H × List MemPlace} (ht : P.underlying t = some (.slice e)) (he : P.underlying e = some (.int .u8)) (ce : P.cellsOf e = 1) (h : DataW.trod enc P w base (fun _ => true) held fuel t [.slice a len cap] = some x) :
    len ≤ maxLen ∧ AtB w a len := by
  rcases open_slice1 ht ce h with ⟨hcs, _⟩ | ⟨a', len', cap', m, n, V, D, Pl, hcs, _, hl, hm, hmm, _, hx⟩
  · simp only [List.cons.injEq, and_true, Value.slice.injEq] at hcs
    obtain ⟨_, rfl, _⟩ := hcs
    exact ⟨by simp, fun k hk => by omega⟩
  · simp only [List.cons.injEq, and_true, Value.slice.injEq] at hcs
    obtain ⟨rfl, rfl, rfl⟩ := hcs
    simp only [if_true] at hmm
    refine ⟨by omega, fun k hk => ?_⟩
    have ha := addr_of (hx 0 (by omega)).1
    obtain ⟨z, h1, _, hw⟩ := DataW.trod_int he (hx k (by omega)).2
    have hz0 : IntKind.u8.min ≤ z ∧ z ≤ IntKind.u8.max := by simpa [Lit.wf] using hw
    have hz : 0 ≤ z ∧ z ≤ 255 := hz0
    have h2 := (hx k (by omega)).1
    rw [ha, add_plain] at h2
    refine ⟨a'.block, a'.off, by rw [← ha], z.toNat, by omega, ?_⟩
    rw [h2]
    simp only [List.cons.injEq, and_true] at h1
    rw [h1]
    congr 2
    omega
end Go.Proofs.Ytcmkfapgpolglaa

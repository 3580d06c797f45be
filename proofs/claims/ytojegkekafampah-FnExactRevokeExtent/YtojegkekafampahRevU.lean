
/- RevokeExtent in the one form of the laws. -/
import Derived.Test.YtojegkekafampahRevC
import Derived.Test.YtojegkekafampahWrkU
namespace Go.Proofs.Ytojegkekafampah
open Go.RowKit
set_option maxRecDepth 100000

theorem revSpan (d : KD) (x key : Int) : spanKRes (revR d x key).2 ≤ 3 * sizeKern d := by
  unfold revR
  split
  · split
    · rw [bad_span]; omega
    · split
      · have h1 : (d.2.filter fun e => e != fromE d.2 x).length ≤ d.2.length := List.length_filter_le _ _
        have h2 := spanDisk_le d.1
        show 0 + (spanDisk d.1 + 3 * (d.2.filter fun e => e != fromE d.2 x).length) ≤ _
        unfold sizeKern
        omega
      · rw [bad_span]; omega
  · rw [bad_span]; omega
theorem specRevokeU (w : World) (aB : Option Addr) (nB cB : Nat) (aC : Option Addr) (nC cC : Nat) (aE : Option Addr) (nE cE : Nat) (d : KD) (x key : Int) (h : KernR w (.slice aB nB cB) (.slice aC nC cC) (.slice aE nE cE) d) (s : sizeKern d ≤ 1048576) :
    Calls Try.prog 22 #[.agg #[.slice aB nB cB, .slice aC nC cC, .slice aE nE cE], .int .i64 x, .int .i64 key] w (AnsKR w (revR d x key)) :=
  specRevoke_any l1Copy_said w _ _ _ d x key h (small_blocks (small_kern s)) (small_puts (small_kern s))
theorem implRevokeU (w : World) (aB : Option Addr) (nB cB : Nat) (aC : Option Addr) (nC cC : Nat) (aE : Option Addr) (nE cE : Nat) (d : KD) (x key : Int) (h : KernR w (.slice aB nB cB) (.slice aC nC cC) (.slice aE nE cE) d) (s : sizeKern d ≤ 1048576) :
    Calls Try.prog 23 #[.agg #[.slice aB nB cB, .slice aC nC cC, .slice aE nE cE], .int .i64 x, .int .i64 key] w (AnsKR w (revR d x key)) :=
  implRevoke_any w _ _ _ d x key h (small_blocks (small_kern s)) (small_puts (small_kern s))
end Go.Proofs.Ytojegkekafampah

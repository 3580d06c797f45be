
/- GrantExtent in the one form of the laws. -/
import Derived.Test.YtojegkekafampahGrE
import Derived.Test.YtojegkekafampahWrkU
namespace Go.Proofs.Ytojegkekafampah
open Go.RowKit
set_option maxRecDepth 100000

theorem grantSpan (d : KD) (x y z : Int) : spanKRes (grantR d x y z).2 ≤ 3 * sizeKern d + 3 := by
  unfold grantR
  split
  · split
    · split
      · rw [bad_span]; omega
      · split
        · rw [bad_span]; omega
        · have h2 := spanDisk_le d.1
          have h1 : (d.2.take (insAt d.2 x) ++ (x, y, z) :: d.2.drop (insAt d.2 x)).length ≤ d.2.length + 1 := by
            simp only [List.length_append, List.length_cons, List.length_take, List.length_drop]
            omega
          show 0 + (spanDisk d.1 + 3 * (d.2.take (insAt d.2 x) ++ (x, y, z) :: d.2.drop (insAt d.2 x)).length) ≤ _
          unfold sizeKern
          omega
    · rw [bad_span]; omega
  · rw [bad_span]; omega
theorem specGrantU (w : World) (aB : Option Addr) (nB cB : Nat) (aC : Option Addr) (nC cC : Nat) (aE : Option Addr) (nE cE : Nat) (d : KD) (x y z : Int) (h : KernR w (.slice aB nB cB) (.slice aC nC cC) (.slice aE nE cE) d) (s : sizeKern d ≤ 1048576) :
    Calls Try.prog 19 #[.agg #[.slice aB nB cB, .slice aC nC cC, .slice aE nE cE], .int .i64 x, .int .i64 y, .int .i64 z] w (AnsKR w (grantR d x y z)) :=
  specGrant_any l1Copy_said w _ _ _ d x y z h (small_blocks (small_kern s)) (small_puts (small_kern s))
theorem implGrantU (w : World) (aB : Option Addr) (nB cB : Nat) (aC : Option Addr) (nC cC : Nat) (aE : Option Addr) (nE cE : Nat) (d : KD) (x y z : Int) (h : KernR w (.slice aB nB cB) (.slice aC nC cC) (.slice aE nE cE) d) (s : sizeKern d ≤ 1048576) :
    Calls Try.prog 20 #[.agg #[.slice aB nB cB, .slice aC nC cC, .slice aE nE cE], .int .i64 x, .int .i64 y, .int .i64 z] w (AnsKR w (grantR d x y z)) :=
  implGrant_any w _ _ _ d x y z h (small_blocks (small_kern s)) (small_puts (small_kern s))
end Go.Proofs.Ytojegkekafampah

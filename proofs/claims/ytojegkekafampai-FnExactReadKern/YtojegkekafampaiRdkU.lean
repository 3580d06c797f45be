
/- ReadKern in the one form of the laws. -/
import Derived.Test.YtojegkekafampaiRdkB
import Derived.Test.YtojegkekafampaiWrkU
namespace Go.Proofs.Ytojegkekafampai
open Go.RowKit
set_option maxRecDepth 100000

theorem readSpan (d : KD) (key x : Int) (s : sizeKern d ≤ 1048576) : spanKRes (readR d key x).2 ≤ 3 * sizeKern d + 1048576 := by
  unfold readR
  split
  · have h1 := atF_len (x := x) (small_blocks (small_kern s)) (small_puts (small_kern s))
    have h2 := spanKern_le d
    show (atF d.1.1 d.1.2 x).length + spanKern d ≤ _
    omega
  · rw [bad_span]; omega
theorem specReadU (w : World) (aB : Option Addr) (nB cB : Nat) (aC : Option Addr) (nC cC : Nat) (aE : Option Addr) (nE cE : Nat) (d : KD) (key x : Int) (h : KernR w (.slice aB nB cB) (.slice aC nC cC) (.slice aE nE cE) d) (s : sizeKern d ≤ 1048576) :
    Calls Try.prog 10 #[.agg #[.slice aB nB cB, .slice aC nC cC, .slice aE nE cE], .int .i64 key, .int .i64 x] w (AnsKR w (readR d key x)) :=
  specRead_any l1Copy_said w _ _ _ d key x h (small_blocks (small_kern s)) (small_puts (small_kern s))
theorem implReadU (w : World) (aB : Option Addr) (nB cB : Nat) (aC : Option Addr) (nC cC : Nat) (aE : Option Addr) (nE cE : Nat) (d : KD) (key x : Int) (h : KernR w (.slice aB nB cB) (.slice aC nC cC) (.slice aE nE cE) d) (s : sizeKern d ≤ 1048576) :
    Calls Try.prog 12 #[.agg #[.slice aB nB cB, .slice aC nC cC, .slice aE nE cE], .int .i64 key, .int .i64 x] w (AnsKR w (readR d key x)) :=
  implRead_any w _ _ _ d key x h (small_blocks (small_kern s)) (small_puts (small_kern s))
end Go.Proofs.Ytojegkekafampai


/- FlushKern in the one form of the laws. -/
import Derived.Test.YtojegkekafampaiFlkB
namespace Go.Proofs.Ytojegkekafampai
open Go.RowKit
set_option maxRecDepth 100000

theorem flushSpan (d : KD) (key : Int) (s : sizeKern d ≤ 1048576) : spanKRes (flushK d key).2 ≤ 3 * sizeKern d + 70000000 := by
  unfold flushK
  split
  · split
    · have h1 := keepSpan (fun _ => true) d.1 (small_kern s)
      show 0 + (spanDisk (keepBlocks (fun _ => true) d.1.1 d.1.2, []) + 3 * d.2.length) ≤ _
      unfold sizeKern
      omega
    · rw [bad_span]; omega
  · rw [bad_span]; omega
theorem specFlushKU (w : World) (aB : Option Addr) (nB cB : Nat) (aC : Option Addr) (nC cC : Nat) (aE : Option Addr) (nE cE : Nat) (d : KD) (key : Int) (h : KernR w (.slice aB nB cB) (.slice aC nC cC) (.slice aE nE cE) d) (s : sizeKern d ≤ 1048576) :
    Calls Try.prog 18 #[.agg #[.slice aB nB cB, .slice aC nC cC, .slice aE nE cE], .int .i64 key] w (AnsKR w (flushK d key)) :=
  specFlushK_any l1Copy_said w _ _ _ d key h (small_blocks (small_kern s)) (small_puts (small_kern s))
theorem implFlushKU (w : World) (aB : Option Addr) (nB cB : Nat) (aC : Option Addr) (nC cC : Nat) (aE : Option Addr) (nE cE : Nat) (d : KD) (key : Int) (h : KernR w (.slice aB nB cB) (.slice aC nC cC) (.slice aE nE cE) d) (s : sizeKern d ≤ 1048576) :
    Calls Try.prog 19 #[.agg #[.slice aB nB cB, .slice aC nC cC, .slice aE nE cE], .int .i64 key] w (AnsKR w (flushK d key)) :=
  implFlushK_any w _ _ _ d key h (small_blocks (small_kern s)) (small_puts (small_kern s))
end Go.Proofs.Ytojegkekafampai


/- WriteKern in the one form of the laws. -/
import Derived.Test.YtojegkekafampahWrkD
import Derived.Test.YtojegkekafampahFluU
namespace Go.Proofs.Ytojegkekafampah
open Go.RowKit
set_option maxRecDepth 100000

theorem small_kern {d : KD} (h : sizeKern d ≤ 1048576) : sizeDisk d.1 ≤ 1048576 := by unfold sizeKern at h; omega
theorem bad_span (c : Int) : spanKRes ((c, [], ([], []), []) : Int × KResD).2 = 0 := rfl
theorem writeSpan (d : KD) (key x : Int) (ws : List Int) : spanKRes (writeR d key x ws).2 ≤ 3 * sizeKern d + 1 + ws.length := by
  unfold writeR
  split
  · split
    · simp only [spanKRes, spanKern, spanDisk, dspan, sizeKern, sizeDisk, dsize, wlens, List.map_append, List.sum_append, List.length_append, List.map_cons, List.map_nil, List.sum_cons, List.sum_nil, List.length_cons, List.length_nil]
      omega
    · rw [bad_span]; omega
  · rw [bad_span]; omega
theorem specWriteU (w : World) (aB : Option Addr) (nB cB : Nat) (aC : Option Addr) (nC cC : Nat) (aE : Option Addr) (nE cE : Nat) (d : KD) (key x : Int) (a : Option Addr) (n c : Nat) (ws : List Int) (h : KernR w (.slice aB nB cB) (.slice aC nC cC) (.slice aE nE cE) d) (hv : Ints w (.slice a n c) ws) (s : sizeKern d ≤ 1048576) (s' : ws.length ≤ 1048576) :
    Calls Try.prog 27 #[.agg #[.slice aB nB cB, .slice aC nC cC, .slice aE nE cE], .int .i64 key, .int .i64 x, .slice a n c] w (AnsKR w (writeR d key x ws)) :=
  specWrite_any l1Copy_said w _ _ _ _ d key x ws h hv (small_blocks (small_kern s)) (small_puts (small_kern s)) s'
theorem implWriteU (w : World) (aB : Option Addr) (nB cB : Nat) (aC : Option Addr) (nC cC : Nat) (aE : Option Addr) (nE cE : Nat) (d : KD) (key x : Int) (a : Option Addr) (n c : Nat) (ws : List Int) (h : KernR w (.slice aB nB cB) (.slice aC nC cC) (.slice aE nE cE) d) (hv : Ints w (.slice a n c) ws) (s : sizeKern d ≤ 1048576) (s' : ws.length ≤ 1048576) :
    Calls Try.prog 29 #[.agg #[.slice aB nB cB, .slice aC nC cC, .slice aE nE cE], .int .i64 key, .int .i64 x, .slice a n c] w (AnsKR w (writeR d key x ws)) :=
  implWrite_any w _ _ _ _ d key x ws h hv (small_blocks (small_kern s)) (small_puts (small_kern s)) s'
end Go.Proofs.Ytojegkekafampah

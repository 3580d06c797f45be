
/- WriteKern in the one form of the laws. -/
import Derived.Test.YtojegkekafampaiWrkD
import Derived.Test.YtojegkekafampaiFluU
namespace Go.Proofs.Ytojegkekafampai
open Go.RowKit
set_option maxRecDepth 100000

theorem small_kern {d : KD} (h : sizeKern d ≤ 1048576) : sizeDisk d.1 ≤ 1048576 := by unfold sizeKern at h; omega
theorem bad_span (c : Int) : spanKRes ((c, [], ([], []), []) : Int × KResD).2 = 0 := rfl
theorem writeSpan (d : KD) (key x : Int) (ws : List Int) : spanKRes (writeR d key x ws).2 ≤ 3 * sizeKern d + 1 + ws.length := by
  unfold writeR
  split
  · split
    · simp only [spanKRes, spanKern, spanDisk, dspan, sizeKern, sizeDisk, dsize, wlens, List.map_append, List.sum_append, List.length_append, List.map_cons, List.map_nil, List.sum_cons, List.sum_nil, List.length_cons, List.length_nil]
      omega
    · rw [bad_span]; omega
  · rw [bad_span]; omega
end Go.Proofs.Ytojegkekafampai

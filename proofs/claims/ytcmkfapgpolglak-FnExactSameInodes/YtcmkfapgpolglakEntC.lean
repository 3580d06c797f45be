
/- Marks of lists of entries. -/
import Derived.Test.YtcmkfapgpolglakEntB
namespace Go.Proofs.Ytcmkfapgpolglak
open Go.RowKit

theorem markCell_0 (k j : Nat) : markCell k (j * 2) = mkT (k + 2 * j) := by unfold markCell; rw [if_pos (by omega), show k + j * 2 = k + 2 * j by omega]
theorem markCell_1 (k j : Nat) : markCell k (j * 2 + 1) = .int .i64 ((k + 2 * j : Nat) + 1 : Int) := by unfold markCell; rw [if_neg (by omega)]; congr 1; omega

end Go.Proofs.Ytcmkfapgpolglak

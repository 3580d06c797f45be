
/- The library's IndexByte, laid from the shelf. -/
import Derived.Shelf.Small.Strs
import Derived.Shelf.Strings.Search1
import Derived.Test.YtcmkfapgpolglaaStrP
namespace Go.Proofs.Ytcmkfapgpolglaa
open Go.RowKit Go.Shelf
set_option maxRecDepth 100000
def idx_ren : Go.Shelf.Ren := ⟨fun | 137 => 112 | 217 => 122 | 266 => 124 | n => n, fun | 9 => 9 | 5 => 5 | 3 => 3 | n => n, fun | n => n⟩
theorem idx_lays : Go.Proofs.Lays.n137 Try.prog idx_ren := {
  mixed := by kernel_rfl
  f137 := Try.func112.trans (congrArg some (by kernel_rfl))
  f217 := Try.func122.trans (congrArg some (by kernel_rfl))
  f266 := Try.func124.trans (congrArg some (by kernel_rfl))
  t3 := Try.underlying3
  a3 := Try.isAgg3
  z3 := Try.sizeOf3
  v3 := Try.zeroValue3
  t5 := Try.underlying5
  a5 := Try.isAgg5
  z5 := Try.sizeOf5
  v5 := Try.zeroValue5
  t9 := Try.underlying9
  a9 := Try.isAgg9
  z9 := Try.sizeOf9
  v9 := Try.zeroValue9 }
theorem indexSlash (l : List UInt8) (w : World) :
    Calls Try.prog 112 #[.string (mkB l), .int .u8 47] w fun e w' => e = .returned (.int .i64 (Lib.indexByte l 47)) ∧ w' = w := by
  have h := Go.Proofs.Any.strings_IndexByte idx_lays (mkB l) 47 w
  rw [mkB_list] at h
  exact h
end Go.Proofs.Ytcmkfapgpolglaa

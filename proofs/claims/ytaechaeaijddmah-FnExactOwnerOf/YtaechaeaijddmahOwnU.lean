
/- OwnerOf and NewKern in the one form of the laws. -/
import Derived.Test.YtaechaeaijddmahOwnA
import Derived.Test.YtaechaeaijddmahOwnB
import Derived.Test.YtaechaeaijddmahNewK
namespace Go.Proofs.Ytaechaeaijddmah
open Go.RowKit
set_option maxRecDepth 100000

theorem specOwnU (w : World) (aB : Option Addr) (nB cB : Nat) (aC : Option Addr) (nC cC : Nat) (aE : Option Addr) (nE cE : Nat) (d : KD) (x : Int) (h : KernR w (.slice aB nB cB) (.slice aC nC cC) (.slice aE nE cE) d) (_s : sizeKern d ≤ 1048576) :
    Calls Try.prog 24 #[.agg #[.slice aB nB cB, .slice aC nC cC, .slice aE nE cE], .int .i64 x] w fun e w' => e = .returned (.agg #[.int .i64 (ownR d x).1, .int .i64 (ownR d x).2]) ∧ Below w.heap.size w w' := specOwner_any w _ _ _ d x h
theorem implOwnU (w : World) (aB : Option Addr) (nB cB : Nat) (aC : Option Addr) (nC cC : Nat) (aE : Option Addr) (nE cE : Nat) (d : KD) (x : Int) (h : KernR w (.slice aB nB cB) (.slice aC nC cC) (.slice aE nE cE) d) (_s : sizeKern d ≤ 1048576) :
    Calls Try.prog 25 #[.agg #[.slice aB nB cB, .slice aC nC cC, .slice aE nE cE], .int .i64 x] w fun e w' => e = .returned (.agg #[.int .i64 (ownR d x).1, .int .i64 (ownR d x).2]) ∧ Below w.heap.size w w' := implOwner_any w _ _ _ d x h
end Go.Proofs.Ytaechaeaijddmah

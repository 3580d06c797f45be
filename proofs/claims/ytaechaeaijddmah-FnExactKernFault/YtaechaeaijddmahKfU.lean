
/- KernFault in the one form of the laws. -/
import Derived.Test.YtaechaeaijddmahKfA
import Derived.Test.YtaechaeaijddmahKfB
namespace Go.Proofs.Ytaechaeaijddmah
open Go.RowKit
set_option maxRecDepth 100000

theorem specKFU (w : World) (aB : Option Addr) (nB cB : Nat) (aC : Option Addr) (nC cC : Nat) (aE : Option Addr) (nE cE : Nat) (d : KD) (h : KernR w (.slice aB nB cB) (.slice aC nC cC) (.slice aE nE cE) d) (_s : sizeKern d ≤ 1048576) :
    Calls Try.prog 10 #[.agg #[.slice aB nB cB, .slice aC nC cC, .slice aE nE cE]] w fun e w' => e = .returned (.int .i64 (kernF d)) ∧ Below w.heap.size w w' := specKernFault_any w _ _ _ d h
theorem implKFU (w : World) (aB : Option Addr) (nB cB : Nat) (aC : Option Addr) (nC cC : Nat) (aE : Option Addr) (nE cE : Nat) (d : KD) (h : KernR w (.slice aB nB cB) (.slice aC nC cC) (.slice aE nE cE) d) (_s : sizeKern d ≤ 1048576) :
    Calls Try.prog 12 #[.agg #[.slice aB nB cB, .slice aC nC cC, .slice aE nE cE]] w fun e w' => e = .returned (.int .i64 (kernF d)) ∧ Below w.heap.size w w' := implKernFault_any w _ _ _ d h
end Go.Proofs.Ytaechaeaijddmah

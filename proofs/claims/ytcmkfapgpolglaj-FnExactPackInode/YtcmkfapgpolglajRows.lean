/-
  No cell of these rows narrows 'for every input' (looked for: loops, veiled, ifaces, maps, wideKeys, modest, calm, conditions, laid).
  DERIVED. THE GIVEN ROWS OF THIS SEAT. 5 by the template 'for every input the law returns true; each argument reads behind the call as it read before'; 0 by the template 'total and deterministic' (their statements: YtcmkfapgpolglajTotals.lean).
  GIVEN WITH THE SEED: the statements are not yours to turn. If you find one false, say at which input.
  Laid BY PROGRAM, IN A SANDBOX (cutbox-rows.mjs): the forced cells as the released guide's own fill.sh prints them over the translation bea58915a75c4258… (all of the seat's roots in one cut). By AI agents, Wed Nov 11 2026. No macro, syntax, notation, axiom, sorry.
-/
import Derived.Test.YtcmkfapgpolglajChecked
import GoSem.Claim
import GoSem.ClaimJoined
import GoSem.ClaimMapViews
import Derived.JoinedTies
import Derived.KernelRfl
namespace Go.Proofs.Ytcmkfapgpolglaj
/- THE CELL 'sum', in the pinned program and in every row, IS THE sha256 OF THE DUMP (.gsa) THAT YtcmkfapgpolglajProg.lean LOADS. Nothing in Lean hashes anything: it is a label: what it is worth is what the hold of that sum in a sandbox is worth. -/
noncomputable def Try.pinned : Pinned := { name := "ytcmkfapgpolglaj", sum := "bea58915a75c4258853417bbc6629aaf7b3f6a5af2532f23a4bb3544b07d5bfe", checked := Try.checked }
namespace Rows
def none {H : Type} : Left H := { results := [], args := [] }

/-- 'laws.FnExactLastOf': WHATEVER THE INPUT: true; the input reads as it did. -/
def fnExactLastOfSpec : ChangeSpec := { name := "fnExactLastOf", fn := fun _ => fun
  | [d] => { results := [.lit (.bool true)], args := [d] }
  | _ => none }
def fnExactLastOfRow : OpenClaim := { program := "ytcmkfapgpolglaj", sum := "bea58915a75c4258853417bbc6629aaf7b3f6a5af2532f23a4bb3544b07d5bfe", func := "loop.example/g00295/laws.FnExactLastOf", spec := "fnExactLastOf", inPlace := ["internal/bytealg.IndexByteString"], unfollowed := true, recurses := true, apart := false }
def FnExactLastOfSaid : Prop := fnExactLastOfRow.holds Try.pinned (OpenSpec.ofChange fnExactLastOfSpec)

/-- ITS FALSE NEIGHBOUR: 'it returns false'. Refute it at one input. -/
def fnExactLastOfWrong : ChangeSpec := { name := "fnExactLastOf", fn := fun _ => fun
  | [d] => { results := [.lit (.bool false)], args := [d] }
  | _ => none }
def FnExactLastOfWrongFalsely : Prop := fnExactLastOfRow.holds Try.pinned (OpenSpec.ofChange fnExactLastOfWrong)

/-- 'laws.FnExactIsBelow': WHATEVER THE INPUT: true; the input reads as it did. -/
def fnExactIsBelowSpec : ChangeSpec := { name := "fnExactIsBelow", fn := fun _ => fun
  | [d1, d2] => { results := [.lit (.bool true)], args := [d1, d2] }
  | _ => none }
def fnExactIsBelowRow : OpenClaim := { program := "ytcmkfapgpolglaj", sum := "bea58915a75c4258853417bbc6629aaf7b3f6a5af2532f23a4bb3544b07d5bfe", func := "loop.example/g00295/laws.FnExactIsBelow", spec := "fnExactIsBelow", inPlace := ["internal/bytealg.IndexByteString"], unfollowed := true, recurses := true, apart := false }
def FnExactIsBelowSaid : Prop := fnExactIsBelowRow.holds Try.pinned (OpenSpec.ofChange fnExactIsBelowSpec)

/-- ITS FALSE NEIGHBOUR: 'it returns false'. Refute it at one input. -/
def fnExactIsBelowWrong : ChangeSpec := { name := "fnExactIsBelow", fn := fun _ => fun
  | [d1, d2] => { results := [.lit (.bool false)], args := [d1, d2] }
  | _ => none }
def FnExactIsBelowWrongFalsely : Prop := fnExactIsBelowRow.holds Try.pinned (OpenSpec.ofChange fnExactIsBelowWrong)

/-- 'laws.FnExactInodeFault': WHATEVER THE INPUT: true; the input reads as it did. -/
def fnExactInodeFaultSpec : ChangeSpec := { name := "fnExactInodeFault", fn := fun _ => fun
  | [d] => { results := [.lit (.bool true)], args := [d] }
  | _ => none }
def fnExactInodeFaultRow : OpenClaim := { program := "ytcmkfapgpolglaj", sum := "bea58915a75c4258853417bbc6629aaf7b3f6a5af2532f23a4bb3544b07d5bfe", func := "loop.example/g00295/laws.FnExactInodeFault", spec := "fnExactInodeFault", apart := false }
def FnExactInodeFaultSaid : Prop := fnExactInodeFaultRow.holds Try.pinned (OpenSpec.ofChange fnExactInodeFaultSpec)

/-- ITS FALSE NEIGHBOUR: 'it returns false'. Refute it at one input. -/
def fnExactInodeFaultWrong : ChangeSpec := { name := "fnExactInodeFault", fn := fun _ => fun
  | [d] => { results := [.lit (.bool false)], args := [d] }
  | _ => none }
def FnExactInodeFaultWrongFalsely : Prop := fnExactInodeFaultRow.holds Try.pinned (OpenSpec.ofChange fnExactInodeFaultWrong)

/-- 'laws.FnExactPackInode': WHATEVER THE INPUT: true; the input reads as it did. -/
def fnExactPackInodeSpec : ChangeSpec := { name := "fnExactPackInode", fn := fun _ => fun
  | [d] => { results := [.lit (.bool true)], args := [d] }
  | _ => none }
def fnExactPackInodeRow : OpenClaim := { program := "ytcmkfapgpolglaj", sum := "bea58915a75c4258853417bbc6629aaf7b3f6a5af2532f23a4bb3544b07d5bfe", func := "loop.example/g00295/laws.FnExactPackInode", spec := "fnExactPackInode", apart := false }
def FnExactPackInodeSaid : Prop := fnExactPackInodeRow.holds Try.pinned (OpenSpec.ofChange fnExactPackInodeSpec)

/-- ITS FALSE NEIGHBOUR: 'it returns false'. Refute it at one input. -/
def fnExactPackInodeWrong : ChangeSpec := { name := "fnExactPackInode", fn := fun _ => fun
  | [d] => { results := [.lit (.bool false)], args := [d] }
  | _ => none }
def FnExactPackInodeWrongFalsely : Prop := fnExactPackInodeRow.holds Try.pinned (OpenSpec.ofChange fnExactPackInodeWrong)

/-- 'laws.FnExactBlocksFor': WHATEVER THE INPUT: true; the input reads as it did. -/
def fnExactBlocksForSpec : ChangeSpec := { name := "fnExactBlocksFor", fn := fun _ => fun
  | [d] => { results := [.lit (.bool true)], args := [d] }
  | _ => none }
def fnExactBlocksForRow : OpenClaim := { program := "ytcmkfapgpolglaj", sum := "bea58915a75c4258853417bbc6629aaf7b3f6a5af2532f23a4bb3544b07d5bfe", func := "loop.example/g00295/laws.FnExactBlocksFor", spec := "fnExactBlocksFor", apart := false }
def FnExactBlocksForSaid : Prop := fnExactBlocksForRow.holds Try.pinned (OpenSpec.ofChange fnExactBlocksForSpec)

/-- ITS FALSE NEIGHBOUR: 'it returns false'. Refute it at one input. -/
def fnExactBlocksForWrong : ChangeSpec := { name := "fnExactBlocksFor", fn := fun _ => fun
  | [d] => { results := [.lit (.bool false)], args := [d] }
  | _ => none }
def FnExactBlocksForWrongFalsely : Prop := fnExactBlocksForRow.holds Try.pinned (OpenSpec.ofChange fnExactBlocksForWrong)

/- THE SECOND FORM. 'bulk': how many values and letters a reading holds, each counted each time it is reached (what is shared counts as often as it is met; a slice's spare places count too). A statement '..UptoSaid' is the law's where the arguments, and the package variables that the reading takes, are together of bulk at most 1048576: NARROWER than '..Said'. Prove '..Said' where nothing that the law and all that it calls make is longer than what came in: it says more and counts as full. Else prove '..UptoSaid'. A law counts once. -/
mutual
def uptoBulk {H : Type} : DataW H → Nat
  | .lit (.string bytes) => bytes.length + 1
  | .lit _ => 1
  | .nil => 1
  | .ptr d => uptoBulk d + 1
  | .slice elems spare => uptoBulkAll elems + uptoBulkAll spare + 1
  | .agg parts => uptoBulkAll parts + 1
  | .iface _ d => uptoBulk d + 1
  | .map entries => uptoBulkEntries entries + 1
  | .held _ => 1
def uptoBulkAll {H : Type} : List (DataW H) → Nat
  | [] => 0
  | d :: r => uptoBulk d + uptoBulkAll r
def uptoBulkEntries {H : Type} : List (Lit × DataW H) → Nat
  | [] => 0
  | x :: r => uptoBulkEntry x + uptoBulkEntries r
def uptoBulkEntry {H : Type} : Lit × DataW H → Nat
  | (.string bytes, d) => bytes.length + uptoBulk d + 1
  | (_, d) => uptoBulk d + 1
 end
def uptoSmall : (H : Type) → List (DataW H) → Bool := fun _ ds => decide (uptoBulkAll ds ≤ 1048576)
def OpenSpec.upto (s : _root_.Go.ChangeSpec) : _root_.Go.OpenSpec := { _root_.Go.OpenSpec.ofChange s with cond := some uptoSmall }

/-- 'laws.FnExactLastOf', WHERE WHAT IT READS IS OF BULK AT MOST 1048576: true; the input reads as it did. -/
def fnExactLastOfUptoRow : OpenClaim := { program := "ytcmkfapgpolglaj", sum := "bea58915a75c4258853417bbc6629aaf7b3f6a5af2532f23a4bb3544b07d5bfe", func := "loop.example/g00295/laws.FnExactLastOf", spec := "fnExactLastOf", inPlace := ["internal/bytealg.IndexByteString"], unfollowed := true, recurses := true, apart := false, narrowed := true }
def FnExactLastOfUptoSaid : Prop := fnExactLastOfUptoRow.holds Try.pinned (OpenSpec.upto fnExactLastOfSpec)

/-- 'laws.FnExactIsBelow', WHERE WHAT IT READS IS OF BULK AT MOST 1048576: true; the input reads as it did. -/
def fnExactIsBelowUptoRow : OpenClaim := { program := "ytcmkfapgpolglaj", sum := "bea58915a75c4258853417bbc6629aaf7b3f6a5af2532f23a4bb3544b07d5bfe", func := "loop.example/g00295/laws.FnExactIsBelow", spec := "fnExactIsBelow", inPlace := ["internal/bytealg.IndexByteString"], unfollowed := true, recurses := true, apart := false, narrowed := true }
def FnExactIsBelowUptoSaid : Prop := fnExactIsBelowUptoRow.holds Try.pinned (OpenSpec.upto fnExactIsBelowSpec)

/-- 'laws.FnExactInodeFault', WHERE WHAT IT READS IS OF BULK AT MOST 1048576: true; the input reads as it did. -/
def fnExactInodeFaultUptoRow : OpenClaim := { program := "ytcmkfapgpolglaj", sum := "bea58915a75c4258853417bbc6629aaf7b3f6a5af2532f23a4bb3544b07d5bfe", func := "loop.example/g00295/laws.FnExactInodeFault", spec := "fnExactInodeFault", apart := false, narrowed := true }
def FnExactInodeFaultUptoSaid : Prop := fnExactInodeFaultUptoRow.holds Try.pinned (OpenSpec.upto fnExactInodeFaultSpec)

/-- 'laws.FnExactPackInode', WHERE WHAT IT READS IS OF BULK AT MOST 1048576: true; the input reads as it did. -/
def fnExactPackInodeUptoRow : OpenClaim := { program := "ytcmkfapgpolglaj", sum := "bea58915a75c4258853417bbc6629aaf7b3f6a5af2532f23a4bb3544b07d5bfe", func := "loop.example/g00295/laws.FnExactPackInode", spec := "fnExactPackInode", apart := false, narrowed := true }
def FnExactPackInodeUptoSaid : Prop := fnExactPackInodeUptoRow.holds Try.pinned (OpenSpec.upto fnExactPackInodeSpec)

/-- 'laws.FnExactBlocksFor', WHERE WHAT IT READS IS OF BULK AT MOST 1048576: true; the input reads as it did. -/
def fnExactBlocksForUptoRow : OpenClaim := { program := "ytcmkfapgpolglaj", sum := "bea58915a75c4258853417bbc6629aaf7b3f6a5af2532f23a4bb3544b07d5bfe", func := "loop.example/g00295/laws.FnExactBlocksFor", spec := "fnExactBlocksFor", apart := false, narrowed := true }
def FnExactBlocksForUptoSaid : Prop := fnExactBlocksForUptoRow.holds Try.pinned (OpenSpec.upto fnExactBlocksForSpec)

end Rows
end Go.Proofs.Ytcmkfapgpolglaj

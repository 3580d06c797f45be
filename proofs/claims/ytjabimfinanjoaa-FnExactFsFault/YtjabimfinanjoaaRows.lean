/-
  No cell of these rows narrows 'for every input' (looked for: loops, veiled, ifaces, maps, wideKeys, modest, calm, conditions, laid).
  DERIVED. THE GIVEN ROWS OF THIS SEAT. 5 by the template 'for every input the law returns true; each argument reads behind the call as it read before'; 0 by the template 'total and deterministic' (their statements: YtjabimfinanjoaaTotals.lean).
  GIVEN WITH THE SEED: the statements are not yours to turn. If you find one false, say at which input.
  Laid BY PROGRAM, IN A SANDBOX (cutbox-rows.mjs): the forced cells as the released guide's own fill.sh prints them over the translation 43595b2aca1db3b5… (all of the seat's roots in one cut). By AI agents, Wed Nov 11 2026. No macro, syntax, notation, axiom, sorry.
-/
import Derived.Test.YtjabimfinanjoaaChecked
import GoSem.Claim
import GoSem.ClaimJoined
import GoSem.ClaimMapViews
import Derived.JoinedTies
import Derived.KernelRfl
namespace Go.Proofs.Ytjabimfinanjoaa
/- THE CELL 'sum', in the pinned program and in every row, IS THE sha256 OF THE DUMP (.gsa) THAT YtjabimfinanjoaaProg.lean LOADS. Nothing in Lean hashes anything: it is a label: what it is worth is what the hold of that sum in a sandbox is worth. -/
noncomputable def Try.pinned : Pinned := { name := "ytjabimfinanjoaa", sum := "43595b2aca1db3b58c28a9b5493ffb69035d8b1ce97ebebc5e70c6cd0f926468", checked := Try.checked }
namespace Rows
def none {H : Type} : Left H := { results := [], args := [] }

/-- 'laws.FnExactFsFault': WHATEVER THE INPUT: true; the input reads as it did. -/
def fnExactFsFaultSpec : ChangeSpec := { name := "fnExactFsFault", fn := fun _ => fun
  | [d] => { results := [.lit (.bool true)], args := [d] }
  | _ => none }
def fnExactFsFaultRow : OpenClaim := { program := "ytjabimfinanjoaa", sum := "43595b2aca1db3b58c28a9b5493ffb69035d8b1ce97ebebc5e70c6cd0f926468", func := "loop.example/g00295/laws.FnExactFsFault", spec := "fnExactFsFault", apart := false }
def FnExactFsFaultSaid : Prop := fnExactFsFaultRow.holds Try.pinned (OpenSpec.ofChange fnExactFsFaultSpec)

/-- ITS FALSE NEIGHBOUR: 'it returns false'. Refute it at one input. -/
def fnExactFsFaultWrong : ChangeSpec := { name := "fnExactFsFault", fn := fun _ => fun
  | [d] => { results := [.lit (.bool false)], args := [d] }
  | _ => none }
def FnExactFsFaultWrongFalsely : Prop := fnExactFsFaultRow.holds Try.pinned (OpenSpec.ofChange fnExactFsFaultWrong)

/-- 'laws.FnExactNewFs': WHATEVER THE INPUT: true; the input reads as it did. -/
def fnExactNewFsSpec : ChangeSpec := { name := "fnExactNewFs", fn := fun _ => fun
  | [d] => { results := [.lit (.bool true)], args := [d] }
  | _ => none }
def fnExactNewFsRow : OpenClaim := { program := "ytjabimfinanjoaa", sum := "43595b2aca1db3b58c28a9b5493ffb69035d8b1ce97ebebc5e70c6cd0f926468", func := "loop.example/g00295/laws.FnExactNewFs", spec := "fnExactNewFs", apart := false }
def FnExactNewFsSaid : Prop := fnExactNewFsRow.holds Try.pinned (OpenSpec.ofChange fnExactNewFsSpec)

/-- ITS FALSE NEIGHBOUR: 'it returns false'. Refute it at one input. -/
def fnExactNewFsWrong : ChangeSpec := { name := "fnExactNewFs", fn := fun _ => fun
  | [d] => { results := [.lit (.bool false)], args := [d] }
  | _ => none }
def FnExactNewFsWrongFalsely : Prop := fnExactNewFsRow.holds Try.pinned (OpenSpec.ofChange fnExactNewFsWrong)

/-- 'laws.FnExactBytesIn': WHATEVER THE INPUT: true; the input reads as it did. -/
def fnExactBytesInSpec : ChangeSpec := { name := "fnExactBytesIn", fn := fun _ => fun
  | [d1, d2] => { results := [.lit (.bool true)], args := [d1, d2] }
  | _ => none }
def fnExactBytesInRow : OpenClaim := { program := "ytjabimfinanjoaa", sum := "43595b2aca1db3b58c28a9b5493ffb69035d8b1ce97ebebc5e70c6cd0f926468", func := "loop.example/g00295/laws.FnExactBytesIn", spec := "fnExactBytesIn", apart := false }
def FnExactBytesInSaid : Prop := fnExactBytesInRow.holds Try.pinned (OpenSpec.ofChange fnExactBytesInSpec)

/-- ITS FALSE NEIGHBOUR: 'it returns false'. Refute it at one input. -/
def fnExactBytesInWrong : ChangeSpec := { name := "fnExactBytesIn", fn := fun _ => fun
  | [d1, d2] => { results := [.lit (.bool false)], args := [d1, d2] }
  | _ => none }
def FnExactBytesInWrongFalsely : Prop := fnExactBytesInRow.holds Try.pinned (OpenSpec.ofChange fnExactBytesInWrong)

/-- 'laws.FnExactReachOf': WHATEVER THE INPUT: true; the input reads as it did. -/
def fnExactReachOfSpec : ChangeSpec := { name := "fnExactReachOf", fn := fun _ => fun
  | [d] => { results := [.lit (.bool true)], args := [d] }
  | _ => none }
def fnExactReachOfRow : OpenClaim := { program := "ytjabimfinanjoaa", sum := "43595b2aca1db3b58c28a9b5493ffb69035d8b1ce97ebebc5e70c6cd0f926468", func := "loop.example/g00295/laws.FnExactReachOf", spec := "fnExactReachOf", unfollowed := true, recurses := true, apart := false }
def FnExactReachOfSaid : Prop := fnExactReachOfRow.holds Try.pinned (OpenSpec.ofChange fnExactReachOfSpec)

/-- ITS FALSE NEIGHBOUR: 'it returns false'. Refute it at one input. -/
def fnExactReachOfWrong : ChangeSpec := { name := "fnExactReachOf", fn := fun _ => fun
  | [d] => { results := [.lit (.bool false)], args := [d] }
  | _ => none }
def FnExactReachOfWrongFalsely : Prop := fnExactReachOfRow.holds Try.pinned (OpenSpec.ofChange fnExactReachOfWrong)

/-- 'laws.FnExactReadFile': WHATEVER THE INPUT: true; the input reads as it did. -/
def fnExactReadFileSpec : ChangeSpec := { name := "fnExactReadFile", fn := fun _ => fun
  | [d1, d2, d3, d4] => { results := [.lit (.bool true)], args := [d1, d2, d3, d4] }
  | _ => none }
def fnExactReadFileRow : OpenClaim := { program := "ytjabimfinanjoaa", sum := "43595b2aca1db3b58c28a9b5493ffb69035d8b1ce97ebebc5e70c6cd0f926468", func := "loop.example/g00295/laws.FnExactReadFile", spec := "fnExactReadFile", apart := false }
def FnExactReadFileSaid : Prop := fnExactReadFileRow.holds Try.pinned (OpenSpec.ofChange fnExactReadFileSpec)

/-- ITS FALSE NEIGHBOUR: 'it returns false'. Refute it at one input. -/
def fnExactReadFileWrong : ChangeSpec := { name := "fnExactReadFile", fn := fun _ => fun
  | [d1, d2, d3, d4] => { results := [.lit (.bool false)], args := [d1, d2, d3, d4] }
  | _ => none }
def FnExactReadFileWrongFalsely : Prop := fnExactReadFileRow.holds Try.pinned (OpenSpec.ofChange fnExactReadFileWrong)

/- THE SECOND FORM. 'bulk': how many values and letters a reading holds, each counted each time it is reached (what is shared counts as often as it is met; a slice's spare places count too). A statement '..UptoSaid' is the law's where the arguments, and the package variables that the reading takes, are together of bulk at most 1048576: NARROWER than '..Said'. Prove '..Said' where nothing that the law and all that it calls make is longer than what came in: it says more and counts as full. Else prove '..UptoSaid'. A law counts once. -/
mutual
def uptoBulk {H : Type} : DataW H → Nat
  | .lit (.string bytes) => bytes.length + 1
  | .lit _ => 1
  | .nil => 1
  | .ptr d => uptoBulk d + 1
  | .slice elems spare => uptoBulkAll elems + uptoBulkAll spare + 1
  | .agg parts => uptoBulkAll parts + 1
  | .iface _ d => uptoBulk d + 1
  | .map entries => uptoBulkEntries entries + 1
  | .held _ => 1
def uptoBulkAll {H : Type} : List (DataW H) → Nat
  | [] => 0
  | d :: r => uptoBulk d + uptoBulkAll r
def uptoBulkEntries {H : Type} : List (Lit × DataW H) → Nat
  | [] => 0
  | x :: r => uptoBulkEntry x + uptoBulkEntries r
def uptoBulkEntry {H : Type} : Lit × DataW H → Nat
  | (.string bytes, d) => bytes.length + uptoBulk d + 1
  | (_, d) => uptoBulk d + 1
 end
def uptoSmall : (H : Type) → List (DataW H) → Bool := fun _ ds => decide (uptoBulkAll ds ≤ 1048576)
def OpenSpec.upto (s : _root_.Go.ChangeSpec) : _root_.Go.OpenSpec := { _root_.Go.OpenSpec.ofChange s with cond := some uptoSmall }

/-- 'laws.FnExactFsFault', WHERE WHAT IT READS IS OF BULK AT MOST 1048576: true; the input reads as it did. -/
def fnExactFsFaultUptoRow : OpenClaim := { program := "ytjabimfinanjoaa", sum := "43595b2aca1db3b58c28a9b5493ffb69035d8b1ce97ebebc5e70c6cd0f926468", func := "loop.example/g00295/laws.FnExactFsFault", spec := "fnExactFsFault", apart := false, narrowed := true }
def FnExactFsFaultUptoSaid : Prop := fnExactFsFaultUptoRow.holds Try.pinned (OpenSpec.upto fnExactFsFaultSpec)

/-- 'laws.FnExactNewFs', WHERE WHAT IT READS IS OF BULK AT MOST 1048576: true; the input reads as it did. -/
def fnExactNewFsUptoRow : OpenClaim := { program := "ytjabimfinanjoaa", sum := "43595b2aca1db3b58c28a9b5493ffb69035d8b1ce97ebebc5e70c6cd0f926468", func := "loop.example/g00295/laws.FnExactNewFs", spec := "fnExactNewFs", apart := false, narrowed := true }
def FnExactNewFsUptoSaid : Prop := fnExactNewFsUptoRow.holds Try.pinned (OpenSpec.upto fnExactNewFsSpec)

/-- 'laws.FnExactBytesIn', WHERE WHAT IT READS IS OF BULK AT MOST 1048576: true; the input reads as it did. -/
def fnExactBytesInUptoRow : OpenClaim := { program := "ytjabimfinanjoaa", sum := "43595b2aca1db3b58c28a9b5493ffb69035d8b1ce97ebebc5e70c6cd0f926468", func := "loop.example/g00295/laws.FnExactBytesIn", spec := "fnExactBytesIn", apart := false, narrowed := true }
def FnExactBytesInUptoSaid : Prop := fnExactBytesInUptoRow.holds Try.pinned (OpenSpec.upto fnExactBytesInSpec)

/-- 'laws.FnExactReachOf', WHERE WHAT IT READS IS OF BULK AT MOST 1048576: true; the input reads as it did. -/
def fnExactReachOfUptoRow : OpenClaim := { program := "ytjabimfinanjoaa", sum := "43595b2aca1db3b58c28a9b5493ffb69035d8b1ce97ebebc5e70c6cd0f926468", func := "loop.example/g00295/laws.FnExactReachOf", spec := "fnExactReachOf", unfollowed := true, recurses := true, apart := false, narrowed := true }
def FnExactReachOfUptoSaid : Prop := fnExactReachOfUptoRow.holds Try.pinned (OpenSpec.upto fnExactReachOfSpec)

/-- 'laws.FnExactReadFile', WHERE WHAT IT READS IS OF BULK AT MOST 1048576: true; the input reads as it did. -/
def fnExactReadFileUptoRow : OpenClaim := { program := "ytjabimfinanjoaa", sum := "43595b2aca1db3b58c28a9b5493ffb69035d8b1ce97ebebc5e70c6cd0f926468", func := "loop.example/g00295/laws.FnExactReadFile", spec := "fnExactReadFile", apart := false, narrowed := true }
def FnExactReadFileUptoSaid : Prop := fnExactReadFileUptoRow.holds Try.pinned (OpenSpec.upto fnExactReadFileSpec)

end Rows
end Go.Proofs.Ytjabimfinanjoaa

/-
  No cell of these rows narrows 'for every input' (looked for: loops, veiled, ifaces, maps, wideKeys, modest, calm, conditions, laid).
  DERIVED. THE GIVEN ROWS OF THIS SEAT. 6 by the template 'for every input the law returns true; each argument reads behind the call as it read before'; 0 by the template 'total and deterministic' (their statements: YtojegkekafampahTotals.lean).
  GIVEN WITH THE SEED: the statements are not yours to turn. If you find one false, say at which input.
  Laid BY PROGRAM, IN A SANDBOX (cutbox-rows.mjs): the forced cells as the released guide's own fill.sh prints them over the translation da650d09e8a6bbf8… (all of the seat's roots in one cut). By AI agents, Wed Nov 11 2026. No macro, syntax, notation, axiom, sorry.
-/
import Derived.Test.YtojegkekafampahChecked
import GoSem.Claim
import GoSem.ClaimJoined
import GoSem.ClaimMapViews
import Derived.JoinedTies
import Derived.KernelRfl
namespace Go.Proofs.Ytojegkekafampah
/- THE CELL 'sum', in the pinned program and in every row, IS THE sha256 OF THE DUMP (.gsa) THAT YtojegkekafampahProg.lean LOADS. Nothing in Lean hashes anything: it is a label: what it is worth is what the hold of that sum in a sandbox is worth. -/
noncomputable def Try.pinned : Pinned := { name := "ytojegkekafampah", sum := "da650d09e8a6bbf8ecdbc42b971cf81ca458d9c4095b2fb87b1676c412b0d719", checked := Try.checked }
namespace Rows
def none {H : Type} : Left H := { results := [], args := [] }

/-- 'laws.FnExactKernFault': WHATEVER THE INPUT: true; the input reads as it did. -/
def fnExactKernFaultSpec : ChangeSpec := { name := "fnExactKernFault", fn := fun _ => fun
  | [d] => { results := [.lit (.bool true)], args := [d] }
  | _ => none }
def fnExactKernFaultRow : OpenClaim := { program := "ytojegkekafampah", sum := "da650d09e8a6bbf8ecdbc42b971cf81ca458d9c4095b2fb87b1676c412b0d719", func := "loop.example/g00295/laws.FnExactKernFault", spec := "fnExactKernFault", apart := false }
def FnExactKernFaultSaid : Prop := fnExactKernFaultRow.holds Try.pinned (OpenSpec.ofChange fnExactKernFaultSpec)

/-- ITS FALSE NEIGHBOUR: 'it returns false'. Refute it at one input. -/
def fnExactKernFaultWrong : ChangeSpec := { name := "fnExactKernFault", fn := fun _ => fun
  | [d] => { results := [.lit (.bool false)], args := [d] }
  | _ => none }
def FnExactKernFaultWrongFalsely : Prop := fnExactKernFaultRow.holds Try.pinned (OpenSpec.ofChange fnExactKernFaultWrong)

/-- 'laws.FnExactNewKern': WHATEVER THE INPUT: true; the input reads as it did. -/
def fnExactNewKernSpec : ChangeSpec := { name := "fnExactNewKern", fn := fun _ => fun
  | [d] => { results := [.lit (.bool true)], args := [d] }
  | _ => none }
def fnExactNewKernRow : OpenClaim := { program := "ytojegkekafampah", sum := "da650d09e8a6bbf8ecdbc42b971cf81ca458d9c4095b2fb87b1676c412b0d719", func := "loop.example/g00295/laws.FnExactNewKern", spec := "fnExactNewKern", apart := false }
def FnExactNewKernSaid : Prop := fnExactNewKernRow.holds Try.pinned (OpenSpec.ofChange fnExactNewKernSpec)

/-- ITS FALSE NEIGHBOUR: 'it returns false'. Refute it at one input. -/
def fnExactNewKernWrong : ChangeSpec := { name := "fnExactNewKern", fn := fun _ => fun
  | [d] => { results := [.lit (.bool false)], args := [d] }
  | _ => none }
def FnExactNewKernWrongFalsely : Prop := fnExactNewKernRow.holds Try.pinned (OpenSpec.ofChange fnExactNewKernWrong)

/-- 'laws.FnExactGrantExtent': WHATEVER THE INPUT: true; the input reads as it did. -/
def fnExactGrantExtentSpec : ChangeSpec := { name := "fnExactGrantExtent", fn := fun _ => fun
  | [d1, d2, d3, d4] => { results := [.lit (.bool true)], args := [d1, d2, d3, d4] }
  | _ => none }
def fnExactGrantExtentRow : OpenClaim := { program := "ytojegkekafampah", sum := "da650d09e8a6bbf8ecdbc42b971cf81ca458d9c4095b2fb87b1676c412b0d719", func := "loop.example/g00295/laws.FnExactGrantExtent", spec := "fnExactGrantExtent", apart := false }
def FnExactGrantExtentSaid : Prop := fnExactGrantExtentRow.holds Try.pinned (OpenSpec.ofChange fnExactGrantExtentSpec)

/-- ITS FALSE NEIGHBOUR: 'it returns false'. Refute it at one input. -/
def fnExactGrantExtentWrong : ChangeSpec := { name := "fnExactGrantExtent", fn := fun _ => fun
  | [d1, d2, d3, d4] => { results := [.lit (.bool false)], args := [d1, d2, d3, d4] }
  | _ => none }
def FnExactGrantExtentWrongFalsely : Prop := fnExactGrantExtentRow.holds Try.pinned (OpenSpec.ofChange fnExactGrantExtentWrong)

/-- 'laws.FnExactRevokeExtent': WHATEVER THE INPUT: true; the input reads as it did. -/
def fnExactRevokeExtentSpec : ChangeSpec := { name := "fnExactRevokeExtent", fn := fun _ => fun
  | [d1, d2, d3] => { results := [.lit (.bool true)], args := [d1, d2, d3] }
  | _ => none }
def fnExactRevokeExtentRow : OpenClaim := { program := "ytojegkekafampah", sum := "da650d09e8a6bbf8ecdbc42b971cf81ca458d9c4095b2fb87b1676c412b0d719", func := "loop.example/g00295/laws.FnExactRevokeExtent", spec := "fnExactRevokeExtent", apart := false }
def FnExactRevokeExtentSaid : Prop := fnExactRevokeExtentRow.holds Try.pinned (OpenSpec.ofChange fnExactRevokeExtentSpec)

/-- ITS FALSE NEIGHBOUR: 'it returns false'. Refute it at one input. -/
def fnExactRevokeExtentWrong : ChangeSpec := { name := "fnExactRevokeExtent", fn := fun _ => fun
  | [d1, d2, d3] => { results := [.lit (.bool false)], args := [d1, d2, d3] }
  | _ => none }
def FnExactRevokeExtentWrongFalsely : Prop := fnExactRevokeExtentRow.holds Try.pinned (OpenSpec.ofChange fnExactRevokeExtentWrong)

/-- 'laws.FnExactOwnerOf': WHATEVER THE INPUT: true; the input reads as it did. -/
def fnExactOwnerOfSpec : ChangeSpec := { name := "fnExactOwnerOf", fn := fun _ => fun
  | [d1, d2] => { results := [.lit (.bool true)], args := [d1, d2] }
  | _ => none }
def fnExactOwnerOfRow : OpenClaim := { program := "ytojegkekafampah", sum := "da650d09e8a6bbf8ecdbc42b971cf81ca458d9c4095b2fb87b1676c412b0d719", func := "loop.example/g00295/laws.FnExactOwnerOf", spec := "fnExactOwnerOf", apart := false }
def FnExactOwnerOfSaid : Prop := fnExactOwnerOfRow.holds Try.pinned (OpenSpec.ofChange fnExactOwnerOfSpec)

/-- ITS FALSE NEIGHBOUR: 'it returns false'. Refute it at one input. -/
def fnExactOwnerOfWrong : ChangeSpec := { name := "fnExactOwnerOf", fn := fun _ => fun
  | [d1, d2] => { results := [.lit (.bool false)], args := [d1, d2] }
  | _ => none }
def FnExactOwnerOfWrongFalsely : Prop := fnExactOwnerOfRow.holds Try.pinned (OpenSpec.ofChange fnExactOwnerOfWrong)

/-- 'laws.FnExactWriteKern': WHATEVER THE INPUT: true; the input reads as it did. -/
def fnExactWriteKernSpec : ChangeSpec := { name := "fnExactWriteKern", fn := fun _ => fun
  | [d1, d2, d3, d4] => { results := [.lit (.bool true)], args := [d1, d2, d3, d4] }
  | _ => none }
def fnExactWriteKernRow : OpenClaim := { program := "ytojegkekafampah", sum := "da650d09e8a6bbf8ecdbc42b971cf81ca458d9c4095b2fb87b1676c412b0d719", func := "loop.example/g00295/laws.FnExactWriteKern", spec := "fnExactWriteKern", apart := false }
def FnExactWriteKernSaid : Prop := fnExactWriteKernRow.holds Try.pinned (OpenSpec.ofChange fnExactWriteKernSpec)

/-- ITS FALSE NEIGHBOUR: 'it returns false'. Refute it at one input. -/
def fnExactWriteKernWrong : ChangeSpec := { name := "fnExactWriteKern", fn := fun _ => fun
  | [d1, d2, d3, d4] => { results := [.lit (.bool false)], args := [d1, d2, d3, d4] }
  | _ => none }
def FnExactWriteKernWrongFalsely : Prop := fnExactWriteKernRow.holds Try.pinned (OpenSpec.ofChange fnExactWriteKernWrong)

/- THE SECOND FORM. 'bulk': how many values and letters a reading holds, each counted each time it is reached (what is shared counts as often as it is met; a slice's spare places count too). A statement '..UptoSaid' is the law's where the arguments, and the package variables that the reading takes, are together of bulk at most 1048576: NARROWER than '..Said'. Prove '..Said' where nothing that the law and all that it calls make is longer than what came in: it says more and counts as full. Else prove '..UptoSaid'. A law counts once. -/
mutual
def uptoBulk {H : Type} : DataW H → Nat
  | .lit (.string bytes) => bytes.length + 1
  | .lit _ => 1
  | .nil => 1
  | .ptr d => uptoBulk d + 1
  | .slice elems spare => uptoBulkAll elems + uptoBulkAll spare + 1
  | .agg parts => uptoBulkAll parts + 1
  | .iface _ d => uptoBulk d + 1
  | .map entries => uptoBulkEntries entries + 1
  | .held _ => 1
def uptoBulkAll {H : Type} : List (DataW H) → Nat
  | [] => 0
  | d :: r => uptoBulk d + uptoBulkAll r
def uptoBulkEntries {H : Type} : List (Lit × DataW H) → Nat
  | [] => 0
  | x :: r => uptoBulkEntry x + uptoBulkEntries r
def uptoBulkEntry {H : Type} : Lit × DataW H → Nat
  | (.string bytes, d) => bytes.length + uptoBulk d + 1
  | (_, d) => uptoBulk d + 1
 end
def uptoSmall : (H : Type) → List (DataW H) → Bool := fun _ ds => decide (uptoBulkAll ds ≤ 1048576)
def OpenSpec.upto (s : _root_.Go.ChangeSpec) : _root_.Go.OpenSpec := { _root_.Go.OpenSpec.ofChange s with cond := some uptoSmall }

/-- 'laws.FnExactKernFault', WHERE WHAT IT READS IS OF BULK AT MOST 1048576: true; the input reads as it did. -/
def fnExactKernFaultUptoRow : OpenClaim := { program := "ytojegkekafampah", sum := "da650d09e8a6bbf8ecdbc42b971cf81ca458d9c4095b2fb87b1676c412b0d719", func := "loop.example/g00295/laws.FnExactKernFault", spec := "fnExactKernFault", apart := false, narrowed := true }
def FnExactKernFaultUptoSaid : Prop := fnExactKernFaultUptoRow.holds Try.pinned (OpenSpec.upto fnExactKernFaultSpec)

/-- 'laws.FnExactNewKern', WHERE WHAT IT READS IS OF BULK AT MOST 1048576: true; the input reads as it did. -/
def fnExactNewKernUptoRow : OpenClaim := { program := "ytojegkekafampah", sum := "da650d09e8a6bbf8ecdbc42b971cf81ca458d9c4095b2fb87b1676c412b0d719", func := "loop.example/g00295/laws.FnExactNewKern", spec := "fnExactNewKern", apart := false, narrowed := true }
def FnExactNewKernUptoSaid : Prop := fnExactNewKernUptoRow.holds Try.pinned (OpenSpec.upto fnExactNewKernSpec)

/-- 'laws.FnExactGrantExtent', WHERE WHAT IT READS IS OF BULK AT MOST 1048576: true; the input reads as it did. -/
def fnExactGrantExtentUptoRow : OpenClaim := { program := "ytojegkekafampah", sum := "da650d09e8a6bbf8ecdbc42b971cf81ca458d9c4095b2fb87b1676c412b0d719", func := "loop.example/g00295/laws.FnExactGrantExtent", spec := "fnExactGrantExtent", apart := false, narrowed := true }
def FnExactGrantExtentUptoSaid : Prop := fnExactGrantExtentUptoRow.holds Try.pinned (OpenSpec.upto fnExactGrantExtentSpec)

/-- 'laws.FnExactRevokeExtent', WHERE WHAT IT READS IS OF BULK AT MOST 1048576: true; the input reads as it did. -/
def fnExactRevokeExtentUptoRow : OpenClaim := { program := "ytojegkekafampah", sum := "da650d09e8a6bbf8ecdbc42b971cf81ca458d9c4095b2fb87b1676c412b0d719", func := "loop.example/g00295/laws.FnExactRevokeExtent", spec := "fnExactRevokeExtent", apart := false, narrowed := true }
def FnExactRevokeExtentUptoSaid : Prop := fnExactRevokeExtentUptoRow.holds Try.pinned (OpenSpec.upto fnExactRevokeExtentSpec)

/-- 'laws.FnExactOwnerOf', WHERE WHAT IT READS IS OF BULK AT MOST 1048576: true; the input reads as it did. -/
def fnExactOwnerOfUptoRow : OpenClaim := { program := "ytojegkekafampah", sum := "da650d09e8a6bbf8ecdbc42b971cf81ca458d9c4095b2fb87b1676c412b0d719", func := "loop.example/g00295/laws.FnExactOwnerOf", spec := "fnExactOwnerOf", apart := false, narrowed := true }
def FnExactOwnerOfUptoSaid : Prop := fnExactOwnerOfUptoRow.holds Try.pinned (OpenSpec.upto fnExactOwnerOfSpec)

/-- 'laws.FnExactWriteKern', WHERE WHAT IT READS IS OF BULK AT MOST 1048576: true; the input reads as it did. -/
def fnExactWriteKernUptoRow : OpenClaim := { program := "ytojegkekafampah", sum := "da650d09e8a6bbf8ecdbc42b971cf81ca458d9c4095b2fb87b1676c412b0d719", func := "loop.example/g00295/laws.FnExactWriteKern", spec := "fnExactWriteKern", apart := false, narrowed := true }
def FnExactWriteKernUptoSaid : Prop := fnExactWriteKernUptoRow.holds Try.pinned (OpenSpec.upto fnExactWriteKernSpec)

end Rows
end Go.Proofs.Ytojegkekafampah

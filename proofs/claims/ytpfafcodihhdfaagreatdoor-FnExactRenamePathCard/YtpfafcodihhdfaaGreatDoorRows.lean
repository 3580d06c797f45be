/-
  NARROWER THAN 'FOR EVERY INPUT', by the rows' own cells (each row's printed sentence says how): FnExactStatOf: laid · FnExactDoCall: laid · FnExactRenamePath: laid · FnExactLinkPath: laid.
  DERIVED. THE GIVEN ROWS OF THIS SEAT. 4 by the template 'for every input the law returns true; each argument reads behind the call as it read before'; 0 by the template 'total and deterministic' (their statements: YtpfafcodihhdfaaGreatDoorTotals.lean).
  GIVEN WITH THE SEED: the statements are not yours to turn. If you find one false, say at which input.
  Laid BY PROGRAM, IN A SANDBOX (cutbox-rows.mjs): the forced cells as the released guide's own fill.sh prints them over the translation f39baadcd3b8b514… (all of the seat's roots in one cut). By AI agents, Wed Nov 11 2026. No macro, syntax, notation, axiom, sorry.
-/
import Derived.Test.YtpfafcodihhdfaaGreatDoorChecked
import GoSem.Claim
import GoSem.ClaimJoined
import GoSem.ClaimMapViews
import Derived.JoinedTies
import Derived.KernelRfl
namespace Go.Proofs.YtpfafcodihhdfaaGreatDoor
/- THE CELL 'sum', in the pinned program and in every row, IS THE sha256 OF THE DUMP (.gsa) THAT YtpfafcodihhdfaaGreatDoorProg.lean LOADS. Nothing in Lean hashes anything: it is a label: what it is worth is what the hold of that sum in a sandbox is worth. -/
noncomputable def Tryz.pinned : Pinned := { name := "ytpfafcodihhdfaagreatdoor", sum := "f39baadcd3b8b514c6ec342ae229d50ea168e25f1901a5914da32579b5b3ba1e", checked := Tryz.checked }
namespace Rows
def none {H : Type} : Left H := { results := [], args := [] }

/- WHAT THE LISTED PACKAGE-LEVEL VARIABLES READ AS WHEN THE CALL BEGINS. Each datum BY PROGRAM (the guide's laid-datum.mjs) off the statement by which the dump's own 'gosem.cut.vars' lays the variable. In a bare row this is a premise. The card (YtpfafcodihhdfaaGreatDoorCards.lean) ties it to the program's text. -/
def laid_errors_errorType {H : Type} : DataW H := .iface "internal/reflectlite.rtype" (.agg [.ptr (.lit (.string [101, 114, 114, 111, 114]))])

/-- 'laws.FnExactStatOf': WHATEVER THE INPUT: true; the input reads as it did. -/
def fnExactStatOfSpec : ChangeSpec := { name := "fnExactStatOf", fn := fun _ => fun
  | [d1, d2] => { results := [.lit (.bool true)], args := [d1, d2] }
  | _ => none }
def fnExactStatOfRow : OpenClaim := { program := "ytpfafcodihhdfaagreatdoor", sum := "f39baadcd3b8b514c6ec342ae229d50ea168e25f1901a5914da32579b5b3ba1e", func := "loop.example/g00295/laws.FnExactStatOf", spec := "fnExactStatOf", inPlace := ["internal/bytealg.IndexByteString", "internal/reflectlite.ValueOf", "(internal/reflectlite.Value).Type", "(internal/reflectlite.Value).IsNil", "internal/reflectlite.TypeOf", "(internal/reflectlite.Value).Elem", "(internal/reflectlite.Value).Set"], unfollowed := true, recurses := true, named := ["errors.errorType"], apart := false, laid := [("errors.errorType", laid_errors_errorType)] }
def FnExactStatOfSaid : Prop := fnExactStatOfRow.holds Tryz.pinned (OpenSpec.ofChange fnExactStatOfSpec)

/-- ITS FALSE NEIGHBOUR: 'it returns false'. Refute it at one input. -/
def fnExactStatOfWrong : ChangeSpec := { name := "fnExactStatOf", fn := fun _ => fun
  | [d1, d2] => { results := [.lit (.bool false)], args := [d1, d2] }
  | _ => none }
def FnExactStatOfWrongFalsely : Prop := fnExactStatOfRow.holds Tryz.pinned (OpenSpec.ofChange fnExactStatOfWrong)

/-- 'laws.FnExactDoCall': WHATEVER THE INPUT: true; the input reads as it did. -/
def fnExactDoCallSpec : ChangeSpec := { name := "fnExactDoCall", fn := fun _ => fun
  | [d1, d2, d3] => { results := [.lit (.bool true)], args := [d1, d2, d3] }
  | _ => none }
def fnExactDoCallRow : OpenClaim := { program := "ytpfafcodihhdfaagreatdoor", sum := "f39baadcd3b8b514c6ec342ae229d50ea168e25f1901a5914da32579b5b3ba1e", func := "loop.example/g00295/laws.FnExactDoCall", spec := "fnExactDoCall", inPlace := ["internal/bytealg.IndexByteString", "internal/reflectlite.ValueOf", "(internal/reflectlite.Value).Type", "(internal/reflectlite.Value).IsNil", "internal/reflectlite.TypeOf", "(internal/reflectlite.Value).Elem", "(internal/reflectlite.Value).Set"], unfollowed := true, recurses := true, named := ["errors.errorType"], apart := false, laid := [("errors.errorType", laid_errors_errorType)] }
def FnExactDoCallSaid : Prop := fnExactDoCallRow.holds Tryz.pinned (OpenSpec.ofChange fnExactDoCallSpec)

/-- ITS FALSE NEIGHBOUR: 'it returns false'. Refute it at one input. -/
def fnExactDoCallWrong : ChangeSpec := { name := "fnExactDoCall", fn := fun _ => fun
  | [d1, d2, d3] => { results := [.lit (.bool false)], args := [d1, d2, d3] }
  | _ => none }
def FnExactDoCallWrongFalsely : Prop := fnExactDoCallRow.holds Tryz.pinned (OpenSpec.ofChange fnExactDoCallWrong)

/-- 'laws.FnExactRenamePath': WHATEVER THE INPUT: true; the input reads as it did. -/
def fnExactRenamePathSpec : ChangeSpec := { name := "fnExactRenamePath", fn := fun _ => fun
  | [d1, d2, d3] => { results := [.lit (.bool true)], args := [d1, d2, d3] }
  | _ => none }
def fnExactRenamePathRow : OpenClaim := { program := "ytpfafcodihhdfaagreatdoor", sum := "f39baadcd3b8b514c6ec342ae229d50ea168e25f1901a5914da32579b5b3ba1e", func := "loop.example/g00295/laws.FnExactRenamePath", spec := "fnExactRenamePath", inPlace := ["internal/bytealg.IndexByteString", "internal/reflectlite.ValueOf", "(internal/reflectlite.Value).Type", "(internal/reflectlite.Value).IsNil", "internal/reflectlite.TypeOf", "(internal/reflectlite.Value).Elem", "(internal/reflectlite.Value).Set"], unfollowed := true, recurses := true, named := ["errors.errorType"], apart := false, laid := [("errors.errorType", laid_errors_errorType)] }
def FnExactRenamePathSaid : Prop := fnExactRenamePathRow.holds Tryz.pinned (OpenSpec.ofChange fnExactRenamePathSpec)

/-- ITS FALSE NEIGHBOUR: 'it returns false'. Refute it at one input. -/
def fnExactRenamePathWrong : ChangeSpec := { name := "fnExactRenamePath", fn := fun _ => fun
  | [d1, d2, d3] => { results := [.lit (.bool false)], args := [d1, d2, d3] }
  | _ => none }
def FnExactRenamePathWrongFalsely : Prop := fnExactRenamePathRow.holds Tryz.pinned (OpenSpec.ofChange fnExactRenamePathWrong)

/-- 'laws.FnExactLinkPath': WHATEVER THE INPUT: true; the input reads as it did. -/
def fnExactLinkPathSpec : ChangeSpec := { name := "fnExactLinkPath", fn := fun _ => fun
  | [d1, d2, d3] => { results := [.lit (.bool true)], args := [d1, d2, d3] }
  | _ => none }
def fnExactLinkPathRow : OpenClaim := { program := "ytpfafcodihhdfaagreatdoor", sum := "f39baadcd3b8b514c6ec342ae229d50ea168e25f1901a5914da32579b5b3ba1e", func := "loop.example/g00295/laws.FnExactLinkPath", spec := "fnExactLinkPath", inPlace := ["internal/bytealg.IndexByteString", "internal/reflectlite.ValueOf", "(internal/reflectlite.Value).Type", "(internal/reflectlite.Value).IsNil", "internal/reflectlite.TypeOf", "(internal/reflectlite.Value).Elem", "(internal/reflectlite.Value).Set"], unfollowed := true, recurses := true, named := ["errors.errorType"], apart := false, laid := [("errors.errorType", laid_errors_errorType)] }
def FnExactLinkPathSaid : Prop := fnExactLinkPathRow.holds Tryz.pinned (OpenSpec.ofChange fnExactLinkPathSpec)

/-- ITS FALSE NEIGHBOUR: 'it returns false'. Refute it at one input. -/
def fnExactLinkPathWrong : ChangeSpec := { name := "fnExactLinkPath", fn := fun _ => fun
  | [d1, d2, d3] => { results := [.lit (.bool false)], args := [d1, d2, d3] }
  | _ => none }
def FnExactLinkPathWrongFalsely : Prop := fnExactLinkPathRow.holds Tryz.pinned (OpenSpec.ofChange fnExactLinkPathWrong)

/- THE SECOND FORM. 'bulk': how many values and letters a reading holds, each counted each time it is reached (what is shared counts as often as it is met; a slice's spare places count too). A statement '..UptoSaid' is the law's where the arguments, and the package variables that the reading takes, are together of bulk at most 1048576: NARROWER than '..Said'. Prove '..Said' where nothing that the law and all that it calls make is longer than what came in: it says more and counts as full. Else prove '..UptoSaid'. A law counts once. -/
mutual
def uptoBulk {H : Type} : DataW H → Nat
  | .lit (.string bytes) => bytes.length + 1
  | .lit _ => 1
  | .nil => 1
  | .ptr d => uptoBulk d + 1
  | .slice elems spare => uptoBulkAll elems + uptoBulkAll spare + 1
  | .agg parts => uptoBulkAll parts + 1
  | .iface _ d => uptoBulk d + 1
  | .map entries => uptoBulkEntries entries + 1
  | .held _ => 1
def uptoBulkAll {H : Type} : List (DataW H) → Nat
  | [] => 0
  | d :: r => uptoBulk d + uptoBulkAll r
def uptoBulkEntries {H : Type} : List (Lit × DataW H) → Nat
  | [] => 0
  | x :: r => uptoBulkEntry x + uptoBulkEntries r
def uptoBulkEntry {H : Type} : Lit × DataW H → Nat
  | (.string bytes, d) => bytes.length + uptoBulk d + 1
  | (_, d) => uptoBulk d + 1
 end
def uptoSmall : (H : Type) → List (DataW H) → Bool := fun _ ds => decide (uptoBulkAll ds ≤ 1048576)
def OpenSpec.upto (s : _root_.Go.ChangeSpec) : _root_.Go.OpenSpec := { _root_.Go.OpenSpec.ofChange s with cond := some uptoSmall }

/-- 'laws.FnExactStatOf', WHERE WHAT IT READS IS OF BULK AT MOST 1048576: true; the input reads as it did. -/
def fnExactStatOfUptoRow : OpenClaim := { program := "ytpfafcodihhdfaagreatdoor", sum := "f39baadcd3b8b514c6ec342ae229d50ea168e25f1901a5914da32579b5b3ba1e", func := "loop.example/g00295/laws.FnExactStatOf", spec := "fnExactStatOf", inPlace := ["internal/bytealg.IndexByteString", "internal/reflectlite.ValueOf", "(internal/reflectlite.Value).Type", "(internal/reflectlite.Value).IsNil", "internal/reflectlite.TypeOf", "(internal/reflectlite.Value).Elem", "(internal/reflectlite.Value).Set"], unfollowed := true, recurses := true, named := ["errors.errorType"], apart := false, laid := [("errors.errorType", laid_errors_errorType)], narrowed := true }
def FnExactStatOfUptoSaid : Prop := fnExactStatOfUptoRow.holds Tryz.pinned (OpenSpec.upto fnExactStatOfSpec)

/-- 'laws.FnExactDoCall', WHERE WHAT IT READS IS OF BULK AT MOST 1048576: true; the input reads as it did. -/
def fnExactDoCallUptoRow : OpenClaim := { program := "ytpfafcodihhdfaagreatdoor", sum := "f39baadcd3b8b514c6ec342ae229d50ea168e25f1901a5914da32579b5b3ba1e", func := "loop.example/g00295/laws.FnExactDoCall", spec := "fnExactDoCall", inPlace := ["internal/bytealg.IndexByteString", "internal/reflectlite.ValueOf", "(internal/reflectlite.Value).Type", "(internal/reflectlite.Value).IsNil", "internal/reflectlite.TypeOf", "(internal/reflectlite.Value).Elem", "(internal/reflectlite.Value).Set"], unfollowed := true, recurses := true, named := ["errors.errorType"], apart := false, laid := [("errors.errorType", laid_errors_errorType)], narrowed := true }
def FnExactDoCallUptoSaid : Prop := fnExactDoCallUptoRow.holds Tryz.pinned (OpenSpec.upto fnExactDoCallSpec)

/-- 'laws.FnExactRenamePath', WHERE WHAT IT READS IS OF BULK AT MOST 1048576: true; the input reads as it did. -/
def fnExactRenamePathUptoRow : OpenClaim := { program := "ytpfafcodihhdfaagreatdoor", sum := "f39baadcd3b8b514c6ec342ae229d50ea168e25f1901a5914da32579b5b3ba1e", func := "loop.example/g00295/laws.FnExactRenamePath", spec := "fnExactRenamePath", inPlace := ["internal/bytealg.IndexByteString", "internal/reflectlite.ValueOf", "(internal/reflectlite.Value).Type", "(internal/reflectlite.Value).IsNil", "internal/reflectlite.TypeOf", "(internal/reflectlite.Value).Elem", "(internal/reflectlite.Value).Set"], unfollowed := true, recurses := true, named := ["errors.errorType"], apart := false, laid := [("errors.errorType", laid_errors_errorType)], narrowed := true }
def FnExactRenamePathUptoSaid : Prop := fnExactRenamePathUptoRow.holds Tryz.pinned (OpenSpec.upto fnExactRenamePathSpec)

/-- 'laws.FnExactLinkPath', WHERE WHAT IT READS IS OF BULK AT MOST 1048576: true; the input reads as it did. -/
def fnExactLinkPathUptoRow : OpenClaim := { program := "ytpfafcodihhdfaagreatdoor", sum := "f39baadcd3b8b514c6ec342ae229d50ea168e25f1901a5914da32579b5b3ba1e", func := "loop.example/g00295/laws.FnExactLinkPath", spec := "fnExactLinkPath", inPlace := ["internal/bytealg.IndexByteString", "internal/reflectlite.ValueOf", "(internal/reflectlite.Value).Type", "(internal/reflectlite.Value).IsNil", "internal/reflectlite.TypeOf", "(internal/reflectlite.Value).Elem", "(internal/reflectlite.Value).Set"], unfollowed := true, recurses := true, named := ["errors.errorType"], apart := false, laid := [("errors.errorType", laid_errors_errorType)], narrowed := true }
def FnExactLinkPathUptoSaid : Prop := fnExactLinkPathUptoRow.holds Tryz.pinned (OpenSpec.upto fnExactLinkPathSpec)

end Rows
end Go.Proofs.YtpfafcodihhdfaaGreatDoor

/-
  DERIVED. GIVEN WITH THE SEED: THE CARDS: each row of YthnmlipnoajmkaaGreatDoorRows.lean that lists a variable, with what it lists TIED to the program's text (the seventh form; the later family's looks); each row that meets fmt, with fmt's text TOLD by the authors' own Lean function (tested against real Go, not proved from fmt's source: count such statements apart). THE CARD IS WHAT COUNTS. Prove the row's statement (the work); the ties are given (YthnmlipnoajmkaaGreatDoorTie.lean); close each card by the builder's one call (the guide's Derived/Test/ToyasCard.lean, 'card_holds'). Laid BY PROGRAM, IN A SANDBOX (cutbox-door.mjs). By AI agents, Wed Nov 11 2026. No macro, syntax, notation, axiom, sorry.
-/
import Derived.Test.YthnmlipnoajmkaaGreatDoorRows
import GoSem.ClaimSeven
namespace Go.Proofs.YthnmlipnoajmkaaGreatDoor
namespace Rows

/-- THE TIED CARD OF 'laws.FnExactRenamePath'. -/
def fnExactRenamePathCard : Claim7 := { stood := { row := fnExactRenamePathRow, standIns := [], harness := (true, "c27220b356ba21ca3ff0f1caddf08b2dacc82ee1640ea60be8e278ceea22a13c"), looks := true }, kinds := [], alts := [], laidByText := true, laidKinds := [.handle], laidTests := true, laidLooks := .later }
def FnExactRenamePathCardSaid : Prop := Claim7.holds Tryz.pinned (.plain (OpenSpec.ofChange fnExactRenamePathSpec)) fnExactRenamePathCard

/-- THE SECOND FORM's CARD OF 'laws.FnExactRenamePath'. -/
def fnExactRenamePathUptoCard : Claim7 := { stood := { row := fnExactRenamePathUptoRow, standIns := [], harness := (true, "c27220b356ba21ca3ff0f1caddf08b2dacc82ee1640ea60be8e278ceea22a13c"), looks := true }, kinds := [], alts := [], laidByText := true, laidKinds := [.handle], laidTests := true, laidLooks := .later }
def FnExactRenamePathUptoCardSaid : Prop := Claim7.holds Tryz.pinned (.plain (OpenSpec.upto fnExactRenamePathSpec)) fnExactRenamePathUptoCard
end Rows
end Go.Proofs.YthnmlipnoajmkaaGreatDoor

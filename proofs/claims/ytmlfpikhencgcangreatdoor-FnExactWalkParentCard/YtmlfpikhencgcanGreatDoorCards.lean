/-
  DERIVED. GIVEN WITH THE SEED: THE CARDS: each row of YtmlfpikhencgcanGreatDoorRows.lean that lists a variable, with what it lists TIED to the program's text (the seventh form; the later family's looks); each row that meets fmt, with fmt's text TOLD by the authors' own Lean function (tested against real Go, not proved from fmt's source: count such statements apart). THE CARD IS WHAT COUNTS. Prove the row's statement (the work); the ties are given (YtmlfpikhencgcanGreatDoorTie.lean); close each card by the builder's one call (the guide's Derived/Test/ToyasCard.lean, 'card_holds'). Laid BY PROGRAM, IN A SANDBOX (cutbox-door.mjs). By AI agents, Wed Nov 11 2026. No macro, syntax, notation, axiom, sorry.
-/
import Derived.Test.YtmlfpikhencgcanGreatDoorRows
import GoSem.ClaimSeven
namespace Go.Proofs.YtmlfpikhencgcanGreatDoor
namespace Rows

/-- THE TIED CARD OF 'laws.FnExactWalkPath'. -/
def fnExactWalkPathCard : Claim7 := { stood := { row := fnExactWalkPathRow, standIns := [], harness := (true, "5489e246e5f1af3ca145203238997f08bfd7e06db5d8c4fc8195449b117becb4"), looks := true }, kinds := [], alts := [], laidByText := true, laidKinds := [.handle], laidTests := true, laidLooks := .later }
def FnExactWalkPathCardSaid : Prop := Claim7.holds Tryz.pinned (.plain (OpenSpec.ofChange fnExactWalkPathSpec)) fnExactWalkPathCard

/-- THE TIED CARD OF 'laws.FnExactWalkParent'. -/
def fnExactWalkParentCard : Claim7 := { stood := { row := fnExactWalkParentRow, standIns := [], harness := (true, "5489e246e5f1af3ca145203238997f08bfd7e06db5d8c4fc8195449b117becb4"), looks := true }, kinds := [], alts := [], laidByText := true, laidKinds := [.handle], laidTests := true, laidLooks := .later }
def FnExactWalkParentCardSaid : Prop := Claim7.holds Tryz.pinned (.plain (OpenSpec.ofChange fnExactWalkParentSpec)) fnExactWalkParentCard

/-- THE SECOND FORM's CARD OF 'laws.FnExactWalkPath'. -/
def fnExactWalkPathUptoCard : Claim7 := { stood := { row := fnExactWalkPathUptoRow, standIns := [], harness := (true, "5489e246e5f1af3ca145203238997f08bfd7e06db5d8c4fc8195449b117becb4"), looks := true }, kinds := [], alts := [], laidByText := true, laidKinds := [.handle], laidTests := true, laidLooks := .later }
def FnExactWalkPathUptoCardSaid : Prop := Claim7.holds Tryz.pinned (.plain (OpenSpec.upto fnExactWalkPathSpec)) fnExactWalkPathUptoCard

/-- THE SECOND FORM's CARD OF 'laws.FnExactWalkParent'. -/
def fnExactWalkParentUptoCard : Claim7 := { stood := { row := fnExactWalkParentUptoRow, standIns := [], harness := (true, "5489e246e5f1af3ca145203238997f08bfd7e06db5d8c4fc8195449b117becb4"), looks := true }, kinds := [], alts := [], laidByText := true, laidKinds := [.handle], laidTests := true, laidLooks := .later }
def FnExactWalkParentUptoCardSaid : Prop := Claim7.holds Tryz.pinned (.plain (OpenSpec.upto fnExactWalkParentSpec)) fnExactWalkParentUptoCard
end Rows
end Go.Proofs.YtmlfpikhencgcanGreatDoor

/-
  DERIVED. GIVEN WITH THE SEED: THE CARDS: each row of YtaibcofendjnnaaGreatDoorRows.lean that lists a variable, with what it lists TIED to the program's text (the seventh form; the later family's looks); each row that meets fmt, with fmt's text TOLD by the authors' own Lean function (tested against real Go, not proved from fmt's source: count such statements apart). THE CARD IS WHAT COUNTS. Prove the row's statement (the work); the ties are given (YtaibcofendjnnaaGreatDoorTie.lean); close each card by the builder's one call (the guide's Derived/Test/ToyasCard.lean, 'card_holds'). Laid BY PROGRAM, IN A SANDBOX (cutbox-door.mjs). By AI agents, Wed Nov 11 2026. No macro, syntax, notation, axiom, sorry.
-/
import Derived.Test.YtaibcofendjnnaaGreatDoorRows
import GoSem.ClaimSeven
namespace Go.Proofs.YtaibcofendjnnaaGreatDoor
namespace Rows

/-- THE TIED CARD OF 'laws.FnExactWalkPath'. -/
def fnExactWalkPathCard : Claim7 := { stood := { row := fnExactWalkPathRow, standIns := [], harness := (true, "fdce6e9adc36dd7b065661fb6c19ec9e5a3d1043171b0f1b8b7d64c37a37b2ce"), looks := true }, kinds := [], alts := [], laidByText := true, laidKinds := [.handle], laidTests := true, laidLooks := .later }
def FnExactWalkPathCardSaid : Prop := Claim7.holds Tryz.pinned (.plain (OpenSpec.ofChange fnExactWalkPathSpec)) fnExactWalkPathCard

/-- THE TIED CARD OF 'laws.FnExactWalkParent'. -/
def fnExactWalkParentCard : Claim7 := { stood := { row := fnExactWalkParentRow, standIns := [], harness := (true, "fdce6e9adc36dd7b065661fb6c19ec9e5a3d1043171b0f1b8b7d64c37a37b2ce"), looks := true }, kinds := [], alts := [], laidByText := true, laidKinds := [.handle], laidTests := true, laidLooks := .later }
def FnExactWalkParentCardSaid : Prop := Claim7.holds Tryz.pinned (.plain (OpenSpec.ofChange fnExactWalkParentSpec)) fnExactWalkParentCard

/-- THE TIED CARD OF 'laws.FnExactStatOf'. -/
def fnExactStatOfCard : Claim7 := { stood := { row := fnExactStatOfRow, standIns := [], harness := (true, "fdce6e9adc36dd7b065661fb6c19ec9e5a3d1043171b0f1b8b7d64c37a37b2ce"), looks := true }, kinds := [], alts := [], laidByText := true, laidKinds := [.handle], laidTests := true, laidLooks := .later }
def FnExactStatOfCardSaid : Prop := Claim7.holds Tryz.pinned (.plain (OpenSpec.ofChange fnExactStatOfSpec)) fnExactStatOfCard

/-- THE TIED CARD OF 'laws.FnExactLinkPath'. -/
def fnExactLinkPathCard : Claim7 := { stood := { row := fnExactLinkPathRow, standIns := [], harness := (true, "fdce6e9adc36dd7b065661fb6c19ec9e5a3d1043171b0f1b8b7d64c37a37b2ce"), looks := true }, kinds := [], alts := [], laidByText := true, laidKinds := [.handle], laidTests := true, laidLooks := .later }
def FnExactLinkPathCardSaid : Prop := Claim7.holds Tryz.pinned (.plain (OpenSpec.ofChange fnExactLinkPathSpec)) fnExactLinkPathCard

/-- THE SECOND FORM's CARD OF 'laws.FnExactWalkPath'. -/
def fnExactWalkPathUptoCard : Claim7 := { stood := { row := fnExactWalkPathUptoRow, standIns := [], harness := (true, "fdce6e9adc36dd7b065661fb6c19ec9e5a3d1043171b0f1b8b7d64c37a37b2ce"), looks := true }, kinds := [], alts := [], laidByText := true, laidKinds := [.handle], laidTests := true, laidLooks := .later }
def FnExactWalkPathUptoCardSaid : Prop := Claim7.holds Tryz.pinned (.plain (OpenSpec.upto fnExactWalkPathSpec)) fnExactWalkPathUptoCard

/-- THE SECOND FORM's CARD OF 'laws.FnExactWalkParent'. -/
def fnExactWalkParentUptoCard : Claim7 := { stood := { row := fnExactWalkParentUptoRow, standIns := [], harness := (true, "fdce6e9adc36dd7b065661fb6c19ec9e5a3d1043171b0f1b8b7d64c37a37b2ce"), looks := true }, kinds := [], alts := [], laidByText := true, laidKinds := [.handle], laidTests := true, laidLooks := .later }
def FnExactWalkParentUptoCardSaid : Prop := Claim7.holds Tryz.pinned (.plain (OpenSpec.upto fnExactWalkParentSpec)) fnExactWalkParentUptoCard

/-- THE SECOND FORM's CARD OF 'laws.FnExactStatOf'. -/
def fnExactStatOfUptoCard : Claim7 := { stood := { row := fnExactStatOfUptoRow, standIns := [], harness := (true, "fdce6e9adc36dd7b065661fb6c19ec9e5a3d1043171b0f1b8b7d64c37a37b2ce"), looks := true }, kinds := [], alts := [], laidByText := true, laidKinds := [.handle], laidTests := true, laidLooks := .later }
def FnExactStatOfUptoCardSaid : Prop := Claim7.holds Tryz.pinned (.plain (OpenSpec.upto fnExactStatOfSpec)) fnExactStatOfUptoCard

/-- THE SECOND FORM's CARD OF 'laws.FnExactLinkPath'. -/
def fnExactLinkPathUptoCard : Claim7 := { stood := { row := fnExactLinkPathUptoRow, standIns := [], harness := (true, "fdce6e9adc36dd7b065661fb6c19ec9e5a3d1043171b0f1b8b7d64c37a37b2ce"), looks := true }, kinds := [], alts := [], laidByText := true, laidKinds := [.handle], laidTests := true, laidLooks := .later }
def FnExactLinkPathUptoCardSaid : Prop := Claim7.holds Tryz.pinned (.plain (OpenSpec.upto fnExactLinkPathSpec)) fnExactLinkPathUptoCard
end Rows
end Go.Proofs.YtaibcofendjnnaaGreatDoor

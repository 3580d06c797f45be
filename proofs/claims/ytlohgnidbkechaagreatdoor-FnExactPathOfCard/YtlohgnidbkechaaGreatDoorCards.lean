/-
  DERIVED. GIVEN WITH THE SEED: THE CARDS: each row of YtlohgnidbkechaaGreatDoorRows.lean that lists a variable, with what it lists TIED to the program's text (the seventh form; the later family's looks); each row that meets fmt, with fmt's text TOLD by the authors' own Lean function (tested against real Go, not proved from fmt's source: count such statements apart). THE CARD IS WHAT COUNTS. Prove the row's statement (the work); the ties are given (YtlohgnidbkechaaGreatDoorTie.lean); close each card by the builder's one call (the guide's Derived/Test/ToyasCard.lean, 'card_holds'). Laid BY PROGRAM, IN A SANDBOX (cutbox-door.mjs). By AI agents, Wed Nov 11 2026. No macro, syntax, notation, axiom, sorry.
-/
import Derived.Test.YtlohgnidbkechaaGreatDoorRows
import GoSem.ClaimSeven
namespace Go.Proofs.YtlohgnidbkechaaGreatDoor
namespace Rows

/-- THE TIED CARD OF 'laws.FnExactHeldBy'. -/
def fnExactHeldByCard : Claim7 := { stood := { row := fnExactHeldByRow, standIns := [], harness := (true, "edae18ed74ccee875d7972ea2d295b8e7be6b7e1267c5aeda70d924150e5d1c7"), looks := true }, kinds := [], alts := [], laidByText := true, laidKinds := [.handle], laidTests := true, laidLooks := .later }
def FnExactHeldByCardSaid : Prop := Claim7.holds Tryz.pinned (.plain (OpenSpec.ofChange fnExactHeldBySpec)) fnExactHeldByCard

/-- THE TIED CARD OF 'laws.FnExactPathOf'. -/
def fnExactPathOfCard : Claim7 := { stood := { row := fnExactPathOfRow, standIns := [], harness := (true, "edae18ed74ccee875d7972ea2d295b8e7be6b7e1267c5aeda70d924150e5d1c7"), looks := true }, kinds := [], alts := [], laidByText := true, laidKinds := [.handle], laidTests := true, laidLooks := .later }
def FnExactPathOfCardSaid : Prop := Claim7.holds Tryz.pinned (.plain (OpenSpec.ofChange fnExactPathOfSpec)) fnExactPathOfCard

/-- THE TIED CARD OF 'laws.FnExactItemsOf'. -/
def fnExactItemsOfCard : Claim7 := { stood := { row := fnExactItemsOfRow, standIns := [], harness := (true, "edae18ed74ccee875d7972ea2d295b8e7be6b7e1267c5aeda70d924150e5d1c7"), looks := true }, kinds := [], alts := [], laidByText := true, laidKinds := [.handle], laidTests := true, laidLooks := .later }
def FnExactItemsOfCardSaid : Prop := Claim7.holds Tryz.pinned (.plain (OpenSpec.ofChange fnExactItemsOfSpec)) fnExactItemsOfCard

/-- THE TIED CARD OF 'laws.FnExactSameTrees'. -/
def fnExactSameTreesCard : Claim7 := { stood := { row := fnExactSameTreesRow, standIns := [], harness := (true, "edae18ed74ccee875d7972ea2d295b8e7be6b7e1267c5aeda70d924150e5d1c7"), looks := true }, kinds := [], alts := [], laidByText := true, laidKinds := [.handle], laidTests := true, laidLooks := .later }
def FnExactSameTreesCardSaid : Prop := Claim7.holds Tryz.pinned (.plain (OpenSpec.ofChange fnExactSameTreesSpec)) fnExactSameTreesCard

/-- THE SECOND FORM's CARD OF 'laws.FnExactHeldBy'. -/
def fnExactHeldByUptoCard : Claim7 := { stood := { row := fnExactHeldByUptoRow, standIns := [], harness := (true, "edae18ed74ccee875d7972ea2d295b8e7be6b7e1267c5aeda70d924150e5d1c7"), looks := true }, kinds := [], alts := [], laidByText := true, laidKinds := [.handle], laidTests := true, laidLooks := .later }
def FnExactHeldByUptoCardSaid : Prop := Claim7.holds Tryz.pinned (.plain (OpenSpec.upto fnExactHeldBySpec)) fnExactHeldByUptoCard

/-- THE SECOND FORM's CARD OF 'laws.FnExactPathOf'. -/
def fnExactPathOfUptoCard : Claim7 := { stood := { row := fnExactPathOfUptoRow, standIns := [], harness := (true, "edae18ed74ccee875d7972ea2d295b8e7be6b7e1267c5aeda70d924150e5d1c7"), looks := true }, kinds := [], alts := [], laidByText := true, laidKinds := [.handle], laidTests := true, laidLooks := .later }
def FnExactPathOfUptoCardSaid : Prop := Claim7.holds Tryz.pinned (.plain (OpenSpec.upto fnExactPathOfSpec)) fnExactPathOfUptoCard

/-- THE SECOND FORM's CARD OF 'laws.FnExactItemsOf'. -/
def fnExactItemsOfUptoCard : Claim7 := { stood := { row := fnExactItemsOfUptoRow, standIns := [], harness := (true, "edae18ed74ccee875d7972ea2d295b8e7be6b7e1267c5aeda70d924150e5d1c7"), looks := true }, kinds := [], alts := [], laidByText := true, laidKinds := [.handle], laidTests := true, laidLooks := .later }
def FnExactItemsOfUptoCardSaid : Prop := Claim7.holds Tryz.pinned (.plain (OpenSpec.upto fnExactItemsOfSpec)) fnExactItemsOfUptoCard

/-- THE SECOND FORM's CARD OF 'laws.FnExactSameTrees'. -/
def fnExactSameTreesUptoCard : Claim7 := { stood := { row := fnExactSameTreesUptoRow, standIns := [], harness := (true, "edae18ed74ccee875d7972ea2d295b8e7be6b7e1267c5aeda70d924150e5d1c7"), looks := true }, kinds := [], alts := [], laidByText := true, laidKinds := [.handle], laidTests := true, laidLooks := .later }
def FnExactSameTreesUptoCardSaid : Prop := Claim7.holds Tryz.pinned (.plain (OpenSpec.upto fnExactSameTreesSpec)) fnExactSameTreesUptoCard
end Rows
end Go.Proofs.YtlohgnidbkechaaGreatDoor

/-
  DERIVED. GIVEN WITH THE SEED: THE CARDS: each row of YtpfafcodihhdfaaGreatDoorRows.lean that lists a variable, with what it lists TIED to the program's text (the seventh form; the later family's looks); each row that meets fmt, with fmt's text TOLD by the authors' own Lean function (tested against real Go, not proved from fmt's source: count such statements apart). THE CARD IS WHAT COUNTS. Prove the row's statement (the work); the ties are given (YtpfafcodihhdfaaGreatDoorTie.lean); close each card by the builder's one call (the guide's Derived/Test/ToyasCard.lean, 'card_holds'). Laid BY PROGRAM, IN A SANDBOX (cutbox-door.mjs). By AI agents, Wed Nov 11 2026. No macro, syntax, notation, axiom, sorry.
-/
import Derived.Test.YtpfafcodihhdfaaGreatDoorRows
import GoSem.ClaimSeven
namespace Go.Proofs.YtpfafcodihhdfaaGreatDoor
namespace Rows

/-- THE TIED CARD OF 'laws.FnExactStatOf'. -/
def fnExactStatOfCard : Claim7 := { stood := { row := fnExactStatOfRow, standIns := [], harness := (true, "9a5e3bdc5fe170b573f0594fbf8a181ae058d0f42b6c7fddcba57d7308c0fa06"), looks := true }, kinds := [], alts := [], laidByText := true, laidKinds := [.handle], laidTests := true, laidLooks := .later }
def FnExactStatOfCardSaid : Prop := Claim7.holds Tryz.pinned (.plain (OpenSpec.ofChange fnExactStatOfSpec)) fnExactStatOfCard

/-- THE TIED CARD OF 'laws.FnExactDoCall'. -/
def fnExactDoCallCard : Claim7 := { stood := { row := fnExactDoCallRow, standIns := [], harness := (true, "9a5e3bdc5fe170b573f0594fbf8a181ae058d0f42b6c7fddcba57d7308c0fa06"), looks := true }, kinds := [], alts := [], laidByText := true, laidKinds := [.handle], laidTests := true, laidLooks := .later }
def FnExactDoCallCardSaid : Prop := Claim7.holds Tryz.pinned (.plain (OpenSpec.ofChange fnExactDoCallSpec)) fnExactDoCallCard

/-- THE TIED CARD OF 'laws.FnExactRenamePath'. -/
def fnExactRenamePathCard : Claim7 := { stood := { row := fnExactRenamePathRow, standIns := [], harness := (true, "9a5e3bdc5fe170b573f0594fbf8a181ae058d0f42b6c7fddcba57d7308c0fa06"), looks := true }, kinds := [], alts := [], laidByText := true, laidKinds := [.handle], laidTests := true, laidLooks := .later }
def FnExactRenamePathCardSaid : Prop := Claim7.holds Tryz.pinned (.plain (OpenSpec.ofChange fnExactRenamePathSpec)) fnExactRenamePathCard

/-- THE TIED CARD OF 'laws.FnExactLinkPath'. -/
def fnExactLinkPathCard : Claim7 := { stood := { row := fnExactLinkPathRow, standIns := [], harness := (true, "9a5e3bdc5fe170b573f0594fbf8a181ae058d0f42b6c7fddcba57d7308c0fa06"), looks := true }, kinds := [], alts := [], laidByText := true, laidKinds := [.handle], laidTests := true, laidLooks := .later }
def FnExactLinkPathCardSaid : Prop := Claim7.holds Tryz.pinned (.plain (OpenSpec.ofChange fnExactLinkPathSpec)) fnExactLinkPathCard

/-- THE SECOND FORM's CARD OF 'laws.FnExactStatOf'. -/
def fnExactStatOfUptoCard : Claim7 := { stood := { row := fnExactStatOfUptoRow, standIns := [], harness := (true, "9a5e3bdc5fe170b573f0594fbf8a181ae058d0f42b6c7fddcba57d7308c0fa06"), looks := true }, kinds := [], alts := [], laidByText := true, laidKinds := [.handle], laidTests := true, laidLooks := .later }
def FnExactStatOfUptoCardSaid : Prop := Claim7.holds Tryz.pinned (.plain (OpenSpec.upto fnExactStatOfSpec)) fnExactStatOfUptoCard

/-- THE SECOND FORM's CARD OF 'laws.FnExactDoCall'. -/
def fnExactDoCallUptoCard : Claim7 := { stood := { row := fnExactDoCallUptoRow, standIns := [], harness := (true, "9a5e3bdc5fe170b573f0594fbf8a181ae058d0f42b6c7fddcba57d7308c0fa06"), looks := true }, kinds := [], alts := [], laidByText := true, laidKinds := [.handle], laidTests := true, laidLooks := .later }
def FnExactDoCallUptoCardSaid : Prop := Claim7.holds Tryz.pinned (.plain (OpenSpec.upto fnExactDoCallSpec)) fnExactDoCallUptoCard

/-- THE SECOND FORM's CARD OF 'laws.FnExactRenamePath'. -/
def fnExactRenamePathUptoCard : Claim7 := { stood := { row := fnExactRenamePathUptoRow, standIns := [], harness := (true, "9a5e3bdc5fe170b573f0594fbf8a181ae058d0f42b6c7fddcba57d7308c0fa06"), looks := true }, kinds := [], alts := [], laidByText := true, laidKinds := [.handle], laidTests := true, laidLooks := .later }
def FnExactRenamePathUptoCardSaid : Prop := Claim7.holds Tryz.pinned (.plain (OpenSpec.upto fnExactRenamePathSpec)) fnExactRenamePathUptoCard

/-- THE SECOND FORM's CARD OF 'laws.FnExactLinkPath'. -/
def fnExactLinkPathUptoCard : Claim7 := { stood := { row := fnExactLinkPathUptoRow, standIns := [], harness := (true, "9a5e3bdc5fe170b573f0594fbf8a181ae058d0f42b6c7fddcba57d7308c0fa06"), looks := true }, kinds := [], alts := [], laidByText := true, laidKinds := [.handle], laidTests := true, laidLooks := .later }
def FnExactLinkPathUptoCardSaid : Prop := Claim7.holds Tryz.pinned (.plain (OpenSpec.upto fnExactLinkPathSpec)) fnExactLinkPathUptoCard
end Rows
end Go.Proofs.YtpfafcodihhdfaaGreatDoor

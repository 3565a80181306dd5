/-
  DERIVED. GIVEN WITH THE SEED: THE CARDS: each row of YtbecnjfdolagcadDoorRows.lean that lists a variable, with what it lists TIED to the program's text (the seventh form; the later family's looks); each row that meets fmt, with fmt's text TOLD by the authors' own Lean function (tested against real Go, not proved from fmt's source: count such statements apart). THE CARD IS WHAT COUNTS. Prove the row's statement (the work); the ties are given (YtbecnjfdolagcadDoorTie.lean); close each card by the builder's one call (the guide's Derived/Test/ToyasCard.lean, 'card_holds'). Laid BY PROGRAM, IN A SANDBOX (cutbox-door.mjs). By AI agents, Wed Nov 11 2026. No macro, syntax, notation, axiom, sorry.
-/
import Derived.Test.YtbecnjfdolagcadDoorRows
import GoSem.ClaimSeven
namespace Go.Proofs.YtbecnjfdolagcadDoor
namespace Rows

/-- THE TIED CARD OF 'laws.FnHolesOfOneColour'. -/
def fnHolesOfOneColourCard : Claim7 := { stood := { row := fnHolesOfOneColourRow, standIns := [], harness := (true, "4f71b11a6210415aaa25a99ec23df82d428d093b6db0dd5fea661b55a64fc6c3"), looks := false }, kinds := [], alts := [], laidByText := true, laidKinds := [.data, .data], laidTests := true, laidLooks := .later }
def FnHolesOfOneColourCardSaid : Prop := Claim7.holds Tryd.pinned (.plain (OpenSpec.ofChange fnHolesOfOneColourSpec)) fnHolesOfOneColourCard

/-- THE TIED CARD OF 'laws.FnTilesAreEven'. -/
def fnTilesAreEvenCard : Claim7 := { stood := { row := fnTilesAreEvenRow, standIns := [], harness := (true, "4f71b11a6210415aaa25a99ec23df82d428d093b6db0dd5fea661b55a64fc6c3"), looks := false }, kinds := [], alts := [], laidByText := true, laidKinds := [.data, .data], laidTests := true, laidLooks := .later }
def FnTilesAreEvenCardSaid : Prop := Claim7.holds Tryd.pinned (.plain (OpenSpec.ofChange fnTilesAreEvenSpec)) fnTilesAreEvenCard

/-- THE SECOND FORM's CARD OF 'laws.FnHolesOfOneColour'. -/
def fnHolesOfOneColourUptoCard : Claim7 := { stood := { row := fnHolesOfOneColourUptoRow, standIns := [], harness := (true, "4f71b11a6210415aaa25a99ec23df82d428d093b6db0dd5fea661b55a64fc6c3"), looks := false }, kinds := [], alts := [], laidByText := true, laidKinds := [.data, .data], laidTests := true, laidLooks := .later }
def FnHolesOfOneColourUptoCardSaid : Prop := Claim7.holds Tryd.pinned (.plain (OpenSpec.upto fnHolesOfOneColourSpec)) fnHolesOfOneColourUptoCard

/-- THE SECOND FORM's CARD OF 'laws.FnTilesAreEven'. -/
def fnTilesAreEvenUptoCard : Claim7 := { stood := { row := fnTilesAreEvenUptoRow, standIns := [], harness := (true, "4f71b11a6210415aaa25a99ec23df82d428d093b6db0dd5fea661b55a64fc6c3"), looks := false }, kinds := [], alts := [], laidByText := true, laidKinds := [.data, .data], laidTests := true, laidLooks := .later }
def FnTilesAreEvenUptoCardSaid : Prop := Claim7.holds Tryd.pinned (.plain (OpenSpec.upto fnTilesAreEvenSpec)) fnTilesAreEvenUptoCard
end Rows
end Go.Proofs.YtbecnjfdolagcadDoor

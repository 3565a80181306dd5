/-
  DERIVED. GIVEN WITH THE SEED: THE CARDS: each row of YtnikgnicjbcbmaaDoorRows.lean that lists a variable, with what it lists TIED to the program's text (the seventh form; the later family's looks); each row that meets fmt, with fmt's text TOLD by the authors' own Lean function (tested against real Go, not proved from fmt's source: count such statements apart). THE CARD IS WHAT COUNTS. Prove the row's statement (the work); the ties are given (YtnikgnicjbcbmaaDoorTie.lean); close each card by the builder's one call (the guide's Derived/Test/ToyasCard.lean, 'card_holds'). Laid BY PROGRAM, IN A SANDBOX (cutbox-door.mjs). By AI agents, Wed Nov 11 2026. No macro, syntax, notation, axiom, sorry.
-/
import Derived.Test.YtnikgnicjbcbmaaDoorRows
import GoSem.ClaimSeven
namespace Go.Proofs.YtnikgnicjbcbmaaDoor
namespace Rows

/-- THE TIED CARD OF 'laws.FnTileCount'. -/
def fnTileCountCard : Claim7 := { stood := { row := fnTileCountRow, standIns := [], harness := (true, "7745f6204716250fc901b20f536067a04cda6829b15e79c8dbe940f559394d45"), looks := false }, kinds := [], alts := [], laidByText := true, laidKinds := [.data, .data], laidTests := true, laidLooks := .later }
def FnTileCountCardSaid : Prop := Claim7.holds Tryd.pinned (.plain (OpenSpec.ofChange fnTileCountSpec)) fnTileCountCard

/-- THE TIED CARD OF 'laws.FnHolesOfOneColour'. -/
def fnHolesOfOneColourCard : Claim7 := { stood := { row := fnHolesOfOneColourRow, standIns := [], harness := (true, "7745f6204716250fc901b20f536067a04cda6829b15e79c8dbe940f559394d45"), looks := false }, kinds := [], alts := [], laidByText := true, laidKinds := [.data, .data], laidTests := true, laidLooks := .later }
def FnHolesOfOneColourCardSaid : Prop := Claim7.holds Tryd.pinned (.plain (OpenSpec.ofChange fnHolesOfOneColourSpec)) fnHolesOfOneColourCard

/-- THE TIED CARD OF 'laws.FnExactTileBySigns'. -/
def fnExactTileBySignsCard : Claim7 := { stood := { row := fnExactTileBySignsRow, standIns := [], harness := (true, "7745f6204716250fc901b20f536067a04cda6829b15e79c8dbe940f559394d45"), looks := false }, kinds := [], alts := [], laidByText := true, laidKinds := [.data, .data], laidTests := true, laidLooks := .later }
def FnExactTileBySignsCardSaid : Prop := Claim7.holds Tryd.pinned (.plain (OpenSpec.ofChange fnExactTileBySignsSpec)) fnExactTileBySignsCard

/-- THE SECOND FORM's CARD OF 'laws.FnTileCount'. -/
def fnTileCountUptoCard : Claim7 := { stood := { row := fnTileCountUptoRow, standIns := [], harness := (true, "7745f6204716250fc901b20f536067a04cda6829b15e79c8dbe940f559394d45"), looks := false }, kinds := [], alts := [], laidByText := true, laidKinds := [.data, .data], laidTests := true, laidLooks := .later }
def FnTileCountUptoCardSaid : Prop := Claim7.holds Tryd.pinned (.plain (OpenSpec.upto fnTileCountSpec)) fnTileCountUptoCard

/-- THE SECOND FORM's CARD OF 'laws.FnHolesOfOneColour'. -/
def fnHolesOfOneColourUptoCard : Claim7 := { stood := { row := fnHolesOfOneColourUptoRow, standIns := [], harness := (true, "7745f6204716250fc901b20f536067a04cda6829b15e79c8dbe940f559394d45"), looks := false }, kinds := [], alts := [], laidByText := true, laidKinds := [.data, .data], laidTests := true, laidLooks := .later }
def FnHolesOfOneColourUptoCardSaid : Prop := Claim7.holds Tryd.pinned (.plain (OpenSpec.upto fnHolesOfOneColourSpec)) fnHolesOfOneColourUptoCard

/-- THE SECOND FORM's CARD OF 'laws.FnExactTileBySigns'. -/
def fnExactTileBySignsUptoCard : Claim7 := { stood := { row := fnExactTileBySignsUptoRow, standIns := [], harness := (true, "7745f6204716250fc901b20f536067a04cda6829b15e79c8dbe940f559394d45"), looks := false }, kinds := [], alts := [], laidByText := true, laidKinds := [.data, .data], laidTests := true, laidLooks := .later }
def FnExactTileBySignsUptoCardSaid : Prop := Claim7.holds Tryd.pinned (.plain (OpenSpec.upto fnExactTileBySignsSpec)) fnExactTileBySignsUptoCard
end Rows
end Go.Proofs.YtnikgnicjbcbmaaDoor

/-
  DERIVED. GIVEN WITH THE SEED: THE CARDS: each row of YtnikgnicjbcbmabDoorRows.lean that lists a variable, with what it lists TIED to the program's text (the seventh form; the later family's looks); each row that meets fmt, with fmt's text TOLD by the authors' own Lean function (tested against real Go, not proved from fmt's source: count such statements apart). THE CARD IS WHAT COUNTS. Prove the row's statement (the work); the ties are given (YtnikgnicjbcbmabDoorTie.lean); close each card by the builder's one call (the guide's Derived/Test/ToyasCard.lean, 'card_holds'). Laid BY PROGRAM, IN A SANDBOX (cutbox-door.mjs). By AI agents, Wed Nov 11 2026. No macro, syntax, notation, axiom, sorry.
-/
import Derived.Test.YtnikgnicjbcbmabDoorRows
import GoSem.ClaimSeven
namespace Go.Proofs.YtnikgnicjbcbmabDoor
namespace Rows

/-- THE TIED CARD OF 'laws.FnTileBySigns'. -/
def fnTileBySignsCard : Claim7 := { stood := { row := fnTileBySignsRow, standIns := [], harness := (true, "3761da996d3bae28e0e858b69741ef6c346afefa797b98657c9c479630c61b0b"), looks := false }, kinds := [], alts := [], laidByText := true, laidKinds := [.data, .data], laidTests := true, laidLooks := .later }
def FnTileBySignsCardSaid : Prop := Claim7.holds Tryd.pinned (.plain (OpenSpec.ofChange fnTileBySignsSpec)) fnTileBySignsCard

/-- THE TIED CARD OF 'laws.FnDominoRows'. -/
def fnDominoRowsCard : Claim7 := { stood := { row := fnDominoRowsRow, standIns := [], harness := (true, "3761da996d3bae28e0e858b69741ef6c346afefa797b98657c9c479630c61b0b"), looks := false }, kinds := [], alts := [], laidByText := true, laidKinds := [.data, .data], laidTests := true, laidLooks := .later }
def FnDominoRowsCardSaid : Prop := Claim7.holds Tryd.pinned (.plain (OpenSpec.ofChange fnDominoRowsSpec)) fnDominoRowsCard

/-- THE SECOND FORM's CARD OF 'laws.FnTileBySigns'. -/
def fnTileBySignsUptoCard : Claim7 := { stood := { row := fnTileBySignsUptoRow, standIns := [], harness := (true, "3761da996d3bae28e0e858b69741ef6c346afefa797b98657c9c479630c61b0b"), looks := false }, kinds := [], alts := [], laidByText := true, laidKinds := [.data, .data], laidTests := true, laidLooks := .later }
def FnTileBySignsUptoCardSaid : Prop := Claim7.holds Tryd.pinned (.plain (OpenSpec.upto fnTileBySignsSpec)) fnTileBySignsUptoCard

/-- THE SECOND FORM's CARD OF 'laws.FnDominoRows'. -/
def fnDominoRowsUptoCard : Claim7 := { stood := { row := fnDominoRowsUptoRow, standIns := [], harness := (true, "3761da996d3bae28e0e858b69741ef6c346afefa797b98657c9c479630c61b0b"), looks := false }, kinds := [], alts := [], laidByText := true, laidKinds := [.data, .data], laidTests := true, laidLooks := .later }
def FnDominoRowsUptoCardSaid : Prop := Claim7.holds Tryd.pinned (.plain (OpenSpec.upto fnDominoRowsSpec)) fnDominoRowsUptoCard
end Rows
end Go.Proofs.YtnikgnicjbcbmabDoor

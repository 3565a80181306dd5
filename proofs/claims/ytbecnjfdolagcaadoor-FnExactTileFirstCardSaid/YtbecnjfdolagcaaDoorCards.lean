/-
  DERIVED. GIVEN WITH THE SEED: THE CARDS: each row of YtbecnjfdolagcaaDoorRows.lean that lists a variable, with what it lists TIED to the program's text (the seventh form; the later family's looks); each row that meets fmt, with fmt's text TOLD by the authors' own Lean function (tested against real Go, not proved from fmt's source: count such statements apart). THE CARD IS WHAT COUNTS. Prove the row's statement (the work); the ties are given (YtbecnjfdolagcaaDoorTie.lean); close each card by the builder's one call (the guide's Derived/Test/ToyasCard.lean, 'card_holds'). Laid BY PROGRAM, IN A SANDBOX (cutbox-door.mjs). By AI agents, Wed Nov 11 2026. No macro, syntax, notation, axiom, sorry.
-/
import Derived.Test.YtbecnjfdolagcaaDoorRows
import GoSem.ClaimSeven
namespace Go.Proofs.YtbecnjfdolagcaaDoor
namespace Rows

/-- THE TIED CARD OF 'laws.FnExactTileCount'. -/
def fnExactTileCountCard : Claim7 := { stood := { row := fnExactTileCountRow, standIns := [], harness := (true, "8775426cb526b283e7a71ddc67a7e5e40a436e48c8b2dc86fa4e2375a1026bad"), looks := false }, kinds := [], alts := [], laidByText := true, laidKinds := [.data, .data], laidTests := true, laidLooks := .later }
def FnExactTileCountCardSaid : Prop := Claim7.holds Tryd.pinned (.plain (OpenSpec.ofChange fnExactTileCountSpec)) fnExactTileCountCard

/-- THE TIED CARD OF 'laws.FnExactTileFirst'. -/
def fnExactTileFirstCard : Claim7 := { stood := { row := fnExactTileFirstRow, standIns := [], harness := (true, "8775426cb526b283e7a71ddc67a7e5e40a436e48c8b2dc86fa4e2375a1026bad"), looks := false }, kinds := [], alts := [], laidByText := true, laidKinds := [.data, .data], laidTests := true, laidLooks := .later }
def FnExactTileFirstCardSaid : Prop := Claim7.holds Tryd.pinned (.plain (OpenSpec.ofChange fnExactTileFirstSpec)) fnExactTileFirstCard

/-- THE SECOND FORM's CARD OF 'laws.FnExactTileCount'. -/
def fnExactTileCountUptoCard : Claim7 := { stood := { row := fnExactTileCountUptoRow, standIns := [], harness := (true, "8775426cb526b283e7a71ddc67a7e5e40a436e48c8b2dc86fa4e2375a1026bad"), looks := false }, kinds := [], alts := [], laidByText := true, laidKinds := [.data, .data], laidTests := true, laidLooks := .later }
def FnExactTileCountUptoCardSaid : Prop := Claim7.holds Tryd.pinned (.plain (OpenSpec.upto fnExactTileCountSpec)) fnExactTileCountUptoCard

/-- THE SECOND FORM's CARD OF 'laws.FnExactTileFirst'. -/
def fnExactTileFirstUptoCard : Claim7 := { stood := { row := fnExactTileFirstUptoRow, standIns := [], harness := (true, "8775426cb526b283e7a71ddc67a7e5e40a436e48c8b2dc86fa4e2375a1026bad"), looks := false }, kinds := [], alts := [], laidByText := true, laidKinds := [.data, .data], laidTests := true, laidLooks := .later }
def FnExactTileFirstUptoCardSaid : Prop := Claim7.holds Tryd.pinned (.plain (OpenSpec.upto fnExactTileFirstSpec)) fnExactTileFirstUptoCard
end Rows
end Go.Proofs.YtbecnjfdolagcaaDoor

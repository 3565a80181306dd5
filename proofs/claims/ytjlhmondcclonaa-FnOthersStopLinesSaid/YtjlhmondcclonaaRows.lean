/-
  No cell of these rows narrows 'for every input' (looked for: loops, veiled, ifaces, maps, wideKeys, modest, calm, conditions, laid).
  DERIVED. THE GIVEN ROWS OF THIS SEAT. 11 by the template 'for every input the law returns true; each argument reads behind the call as it read before'; 0 by the template 'total and deterministic' (their statements: YtjlhmondcclonaaTotals.lean).
  GIVEN WITH THE SEED: the statements are not yours to turn. If you find one false, say at which input.
  Laid BY PROGRAM, IN A SANDBOX (cutbox-rows.mjs): the forced cells as the released guide's own fill.sh prints them over the translation 13ae7681d03abfd4… (all of the seat's roots in one cut). By AI agents, Wed Nov 11 2026. No macro, syntax, notation, axiom, sorry.
-/
import Derived.Test.YtjlhmondcclonaaChecked
import GoSem.Claim
import GoSem.ClaimJoined
import GoSem.ClaimMapViews
import Derived.JoinedTies
import Derived.KernelRfl
namespace Go.Proofs.Ytjlhmondcclonaa
/- THE CELL 'sum', in the pinned program and in every row, IS THE sha256 OF THE DUMP (.gsa) THAT YtjlhmondcclonaaProg.lean LOADS. Nothing in Lean hashes anything: it is a label: what it is worth is what the hold of that sum in a sandbox is worth. -/
noncomputable def Try.pinned : Pinned := { name := "ytjlhmondcclonaa", sum := "13ae7681d03abfd4510452b093bac4ebeda7075f9f1ea8a52ce3b38b27c1063c", checked := Try.checked }
namespace Rows
def none {H : Type} : Left H := { results := [], args := [] }

/-- 'laws.FnValidKind': WHATEVER THE INPUT: true; the input reads as it did. -/
def fnValidKindSpec : ChangeSpec := { name := "fnValidKind", fn := fun _ => fun
  | [d] => { results := [.lit (.bool true)], args := [d] }
  | _ => none }
def fnValidKindRow : OpenClaim := { program := "ytjlhmondcclonaa", sum := "13ae7681d03abfd4510452b093bac4ebeda7075f9f1ea8a52ce3b38b27c1063c", func := "loop.example/piecesonboards/laws.FnValidKind", spec := "fnValidKind", unfollowed := true, recurses := true, apart := false }
def FnValidKindSaid : Prop := fnValidKindRow.holds Try.pinned (OpenSpec.ofChange fnValidKindSpec)

/-- ITS FALSE NEIGHBOUR: 'it returns false'. Refute it at one input. -/
def fnValidKindWrong : ChangeSpec := { name := "fnValidKind", fn := fun _ => fun
  | [d] => { results := [.lit (.bool false)], args := [d] }
  | _ => none }
def FnValidKindWrongFalsely : Prop := fnValidKindRow.holds Try.pinned (OpenSpec.ofChange fnValidKindWrong)

/-- 'laws.FnReachOf': WHATEVER THE INPUT: true; the input reads as it did. -/
def fnReachOfSpec : ChangeSpec := { name := "fnReachOf", fn := fun _ => fun
  | [d] => { results := [.lit (.bool true)], args := [d] }
  | _ => none }
def fnReachOfRow : OpenClaim := { program := "ytjlhmondcclonaa", sum := "13ae7681d03abfd4510452b093bac4ebeda7075f9f1ea8a52ce3b38b27c1063c", func := "loop.example/piecesonboards/laws.FnReachOf", spec := "fnReachOf", unfollowed := true, recurses := true, apart := false }
def FnReachOfSaid : Prop := fnReachOfRow.holds Try.pinned (OpenSpec.ofChange fnReachOfSpec)

/-- ITS FALSE NEIGHBOUR: 'it returns false'. Refute it at one input. -/
def fnReachOfWrong : ChangeSpec := { name := "fnReachOf", fn := fun _ => fun
  | [d] => { results := [.lit (.bool false)], args := [d] }
  | _ => none }
def FnReachOfWrongFalsely : Prop := fnReachOfRow.holds Try.pinned (OpenSpec.ofChange fnReachOfWrong)

/-- 'laws.FnMovesFrom': WHATEVER THE INPUT: true; the input reads as it did. -/
def fnMovesFromSpec : ChangeSpec := { name := "fnMovesFrom", fn := fun _ => fun
  | [d] => { results := [.lit (.bool true)], args := [d] }
  | _ => none }
def fnMovesFromRow : OpenClaim := { program := "ytjlhmondcclonaa", sum := "13ae7681d03abfd4510452b093bac4ebeda7075f9f1ea8a52ce3b38b27c1063c", func := "loop.example/piecesonboards/laws.FnMovesFrom", spec := "fnMovesFrom", unfollowed := true, recurses := true, apart := false }
def FnMovesFromSaid : Prop := fnMovesFromRow.holds Try.pinned (OpenSpec.ofChange fnMovesFromSpec)

/-- ITS FALSE NEIGHBOUR: 'it returns false'. Refute it at one input. -/
def fnMovesFromWrong : ChangeSpec := { name := "fnMovesFrom", fn := fun _ => fun
  | [d] => { results := [.lit (.bool false)], args := [d] }
  | _ => none }
def FnMovesFromWrongFalsely : Prop := fnMovesFromRow.holds Try.pinned (OpenSpec.ofChange fnMovesFromWrong)

/-- 'laws.FnAllMoves': WHATEVER THE INPUT: true; the input reads as it did. -/
def fnAllMovesSpec : ChangeSpec := { name := "fnAllMoves", fn := fun _ => fun
  | [d] => { results := [.lit (.bool true)], args := [d] }
  | _ => none }
def fnAllMovesRow : OpenClaim := { program := "ytjlhmondcclonaa", sum := "13ae7681d03abfd4510452b093bac4ebeda7075f9f1ea8a52ce3b38b27c1063c", func := "loop.example/piecesonboards/laws.FnAllMoves", spec := "fnAllMoves", unfollowed := true, recurses := true, apart := false }
def FnAllMovesSaid : Prop := fnAllMovesRow.holds Try.pinned (OpenSpec.ofChange fnAllMovesSpec)

/-- ITS FALSE NEIGHBOUR: 'it returns false'. Refute it at one input. -/
def fnAllMovesWrong : ChangeSpec := { name := "fnAllMoves", fn := fun _ => fun
  | [d] => { results := [.lit (.bool false)], args := [d] }
  | _ => none }
def FnAllMovesWrongFalsely : Prop := fnAllMovesRow.holds Try.pinned (OpenSpec.ofChange fnAllMovesWrong)

/-- 'laws.FnPiecesOf': WHATEVER THE INPUT: true; the input reads as it did. -/
def fnPiecesOfSpec : ChangeSpec := { name := "fnPiecesOf", fn := fun _ => fun
  | [d] => { results := [.lit (.bool true)], args := [d] }
  | _ => none }
def fnPiecesOfRow : OpenClaim := { program := "ytjlhmondcclonaa", sum := "13ae7681d03abfd4510452b093bac4ebeda7075f9f1ea8a52ce3b38b27c1063c", func := "loop.example/piecesonboards/laws.FnPiecesOf", spec := "fnPiecesOf", unfollowed := true, recurses := true, apart := false }
def FnPiecesOfSaid : Prop := fnPiecesOfRow.holds Try.pinned (OpenSpec.ofChange fnPiecesOfSpec)

/-- ITS FALSE NEIGHBOUR: 'it returns false'. Refute it at one input. -/
def fnPiecesOfWrong : ChangeSpec := { name := "fnPiecesOf", fn := fun _ => fun
  | [d] => { results := [.lit (.bool false)], args := [d] }
  | _ => none }
def FnPiecesOfWrongFalsely : Prop := fnPiecesOfRow.holds Try.pinned (OpenSpec.ofChange fnPiecesOfWrong)

/-- 'laws.FnOthersStopLines': WHATEVER THE INPUT: true; the input reads as it did. -/
def fnOthersStopLinesSpec : ChangeSpec := { name := "fnOthersStopLines", fn := fun _ => fun
  | [d] => { results := [.lit (.bool true)], args := [d] }
  | _ => none }
def fnOthersStopLinesRow : OpenClaim := { program := "ytjlhmondcclonaa", sum := "13ae7681d03abfd4510452b093bac4ebeda7075f9f1ea8a52ce3b38b27c1063c", func := "loop.example/piecesonboards/laws.FnOthersStopLines", spec := "fnOthersStopLines", unfollowed := true, recurses := true, apart := false }
def FnOthersStopLinesSaid : Prop := fnOthersStopLinesRow.holds Try.pinned (OpenSpec.ofChange fnOthersStopLinesSpec)

/-- ITS FALSE NEIGHBOUR: 'it returns false'. Refute it at one input. -/
def fnOthersStopLinesWrong : ChangeSpec := { name := "fnOthersStopLines", fn := fun _ => fun
  | [d] => { results := [.lit (.bool false)], args := [d] }
  | _ => none }
def FnOthersStopLinesWrongFalsely : Prop := fnOthersStopLinesRow.holds Try.pinned (OpenSpec.ofChange fnOthersStopLinesWrong)

/-- 'laws.FnExactValidKind': WHATEVER THE INPUT: true; the input reads as it did. -/
def fnExactValidKindSpec : ChangeSpec := { name := "fnExactValidKind", fn := fun _ => fun
  | [d] => { results := [.lit (.bool true)], args := [d] }
  | _ => none }
def fnExactValidKindRow : OpenClaim := { program := "ytjlhmondcclonaa", sum := "13ae7681d03abfd4510452b093bac4ebeda7075f9f1ea8a52ce3b38b27c1063c", func := "loop.example/piecesonboards/laws.FnExactValidKind", spec := "fnExactValidKind", apart := false }
def FnExactValidKindSaid : Prop := fnExactValidKindRow.holds Try.pinned (OpenSpec.ofChange fnExactValidKindSpec)

/-- ITS FALSE NEIGHBOUR: 'it returns false'. Refute it at one input. -/
def fnExactValidKindWrong : ChangeSpec := { name := "fnExactValidKind", fn := fun _ => fun
  | [d] => { results := [.lit (.bool false)], args := [d] }
  | _ => none }
def FnExactValidKindWrongFalsely : Prop := fnExactValidKindRow.holds Try.pinned (OpenSpec.ofChange fnExactValidKindWrong)

/-- 'laws.FnExactReachOf': WHATEVER THE INPUT: true; the input reads as it did. -/
def fnExactReachOfSpec : ChangeSpec := { name := "fnExactReachOf", fn := fun _ => fun
  | [d1, d2, d3, d4, d5] => { results := [.lit (.bool true)], args := [d1, d2, d3, d4, d5] }
  | _ => none }
def fnExactReachOfRow : OpenClaim := { program := "ytjlhmondcclonaa", sum := "13ae7681d03abfd4510452b093bac4ebeda7075f9f1ea8a52ce3b38b27c1063c", func := "loop.example/piecesonboards/laws.FnExactReachOf", spec := "fnExactReachOf", unfollowed := true, recurses := true, apart := false }
def FnExactReachOfSaid : Prop := fnExactReachOfRow.holds Try.pinned (OpenSpec.ofChange fnExactReachOfSpec)

/-- ITS FALSE NEIGHBOUR: 'it returns false'. Refute it at one input. -/
def fnExactReachOfWrong : ChangeSpec := { name := "fnExactReachOf", fn := fun _ => fun
  | [d1, d2, d3, d4, d5] => { results := [.lit (.bool false)], args := [d1, d2, d3, d4, d5] }
  | _ => none }
def FnExactReachOfWrongFalsely : Prop := fnExactReachOfRow.holds Try.pinned (OpenSpec.ofChange fnExactReachOfWrong)

/-- 'laws.FnExactMovesFrom': WHATEVER THE INPUT: true; the input reads as it did. -/
def fnExactMovesFromSpec : ChangeSpec := { name := "fnExactMovesFrom", fn := fun _ => fun
  | [d1, d2, d3, d4] => { results := [.lit (.bool true)], args := [d1, d2, d3, d4] }
  | _ => none }
def fnExactMovesFromRow : OpenClaim := { program := "ytjlhmondcclonaa", sum := "13ae7681d03abfd4510452b093bac4ebeda7075f9f1ea8a52ce3b38b27c1063c", func := "loop.example/piecesonboards/laws.FnExactMovesFrom", spec := "fnExactMovesFrom", unfollowed := true, recurses := true, apart := false }
def FnExactMovesFromSaid : Prop := fnExactMovesFromRow.holds Try.pinned (OpenSpec.ofChange fnExactMovesFromSpec)

/-- ITS FALSE NEIGHBOUR: 'it returns false'. Refute it at one input. -/
def fnExactMovesFromWrong : ChangeSpec := { name := "fnExactMovesFrom", fn := fun _ => fun
  | [d1, d2, d3, d4] => { results := [.lit (.bool false)], args := [d1, d2, d3, d4] }
  | _ => none }
def FnExactMovesFromWrongFalsely : Prop := fnExactMovesFromRow.holds Try.pinned (OpenSpec.ofChange fnExactMovesFromWrong)

/-- 'laws.FnExactAllMoves': WHATEVER THE INPUT: true; the input reads as it did. -/
def fnExactAllMovesSpec : ChangeSpec := { name := "fnExactAllMoves", fn := fun _ => fun
  | [d1, d2, d3] => { results := [.lit (.bool true)], args := [d1, d2, d3] }
  | _ => none }
def fnExactAllMovesRow : OpenClaim := { program := "ytjlhmondcclonaa", sum := "13ae7681d03abfd4510452b093bac4ebeda7075f9f1ea8a52ce3b38b27c1063c", func := "loop.example/piecesonboards/laws.FnExactAllMoves", spec := "fnExactAllMoves", unfollowed := true, recurses := true, apart := false }
def FnExactAllMovesSaid : Prop := fnExactAllMovesRow.holds Try.pinned (OpenSpec.ofChange fnExactAllMovesSpec)

/-- ITS FALSE NEIGHBOUR: 'it returns false'. Refute it at one input. -/
def fnExactAllMovesWrong : ChangeSpec := { name := "fnExactAllMoves", fn := fun _ => fun
  | [d1, d2, d3] => { results := [.lit (.bool false)], args := [d1, d2, d3] }
  | _ => none }
def FnExactAllMovesWrongFalsely : Prop := fnExactAllMovesRow.holds Try.pinned (OpenSpec.ofChange fnExactAllMovesWrong)

/-- 'laws.FnExactPiecesOf': WHATEVER THE INPUT: true; the input reads as it did. -/
def fnExactPiecesOfSpec : ChangeSpec := { name := "fnExactPiecesOf", fn := fun _ => fun
  | [d1, d2, d3] => { results := [.lit (.bool true)], args := [d1, d2, d3] }
  | _ => none }
def fnExactPiecesOfRow : OpenClaim := { program := "ytjlhmondcclonaa", sum := "13ae7681d03abfd4510452b093bac4ebeda7075f9f1ea8a52ce3b38b27c1063c", func := "loop.example/piecesonboards/laws.FnExactPiecesOf", spec := "fnExactPiecesOf", unfollowed := true, recurses := true, apart := false }
def FnExactPiecesOfSaid : Prop := fnExactPiecesOfRow.holds Try.pinned (OpenSpec.ofChange fnExactPiecesOfSpec)

/-- ITS FALSE NEIGHBOUR: 'it returns false'. Refute it at one input. -/
def fnExactPiecesOfWrong : ChangeSpec := { name := "fnExactPiecesOf", fn := fun _ => fun
  | [d1, d2, d3] => { results := [.lit (.bool false)], args := [d1, d2, d3] }
  | _ => none }
def FnExactPiecesOfWrongFalsely : Prop := fnExactPiecesOfRow.holds Try.pinned (OpenSpec.ofChange fnExactPiecesOfWrong)

/- THE SECOND FORM. 'bulk': how many values and letters a reading holds, each counted each time it is reached (what is shared counts as often as it is met; a slice's spare places count too). A statement '..UptoSaid' is the law's where the arguments, and the package variables that the reading takes, are together of bulk at most 1048576: NARROWER than '..Said'. Prove '..Said' where nothing that the law and all that it calls make is longer than what came in: it says more and counts as full. Else prove '..UptoSaid'. A law counts once. -/
mutual
def uptoBulk {H : Type} : DataW H → Nat
  | .lit (.string bytes) => bytes.length + 1
  | .lit _ => 1
  | .nil => 1
  | .ptr d => uptoBulk d + 1
  | .slice elems spare => uptoBulkAll elems + uptoBulkAll spare + 1
  | .agg parts => uptoBulkAll parts + 1
  | .iface _ d => uptoBulk d + 1
  | .map entries => uptoBulkEntries entries + 1
  | .held _ => 1
def uptoBulkAll {H : Type} : List (DataW H) → Nat
  | [] => 0
  | d :: r => uptoBulk d + uptoBulkAll r
def uptoBulkEntries {H : Type} : List (Lit × DataW H) → Nat
  | [] => 0
  | x :: r => uptoBulkEntry x + uptoBulkEntries r
def uptoBulkEntry {H : Type} : Lit × DataW H → Nat
  | (.string bytes, d) => bytes.length + uptoBulk d + 1
  | (_, d) => uptoBulk d + 1
 end
def uptoSmall : (H : Type) → List (DataW H) → Bool := fun _ ds => decide (uptoBulkAll ds ≤ 1048576)
def OpenSpec.upto (s : _root_.Go.ChangeSpec) : _root_.Go.OpenSpec := { _root_.Go.OpenSpec.ofChange s with cond := some uptoSmall }

/-- 'laws.FnValidKind', WHERE WHAT IT READS IS OF BULK AT MOST 1048576: true; the input reads as it did. -/
def fnValidKindUptoRow : OpenClaim := { program := "ytjlhmondcclonaa", sum := "13ae7681d03abfd4510452b093bac4ebeda7075f9f1ea8a52ce3b38b27c1063c", func := "loop.example/piecesonboards/laws.FnValidKind", spec := "fnValidKind", unfollowed := true, recurses := true, apart := false, narrowed := true }
def FnValidKindUptoSaid : Prop := fnValidKindUptoRow.holds Try.pinned (OpenSpec.upto fnValidKindSpec)

/-- 'laws.FnReachOf', WHERE WHAT IT READS IS OF BULK AT MOST 1048576: true; the input reads as it did. -/
def fnReachOfUptoRow : OpenClaim := { program := "ytjlhmondcclonaa", sum := "13ae7681d03abfd4510452b093bac4ebeda7075f9f1ea8a52ce3b38b27c1063c", func := "loop.example/piecesonboards/laws.FnReachOf", spec := "fnReachOf", unfollowed := true, recurses := true, apart := false, narrowed := true }
def FnReachOfUptoSaid : Prop := fnReachOfUptoRow.holds Try.pinned (OpenSpec.upto fnReachOfSpec)

/-- 'laws.FnMovesFrom', WHERE WHAT IT READS IS OF BULK AT MOST 1048576: true; the input reads as it did. -/
def fnMovesFromUptoRow : OpenClaim := { program := "ytjlhmondcclonaa", sum := "13ae7681d03abfd4510452b093bac4ebeda7075f9f1ea8a52ce3b38b27c1063c", func := "loop.example/piecesonboards/laws.FnMovesFrom", spec := "fnMovesFrom", unfollowed := true, recurses := true, apart := false, narrowed := true }
def FnMovesFromUptoSaid : Prop := fnMovesFromUptoRow.holds Try.pinned (OpenSpec.upto fnMovesFromSpec)

/-- 'laws.FnAllMoves', WHERE WHAT IT READS IS OF BULK AT MOST 1048576: true; the input reads as it did. -/
def fnAllMovesUptoRow : OpenClaim := { program := "ytjlhmondcclonaa", sum := "13ae7681d03abfd4510452b093bac4ebeda7075f9f1ea8a52ce3b38b27c1063c", func := "loop.example/piecesonboards/laws.FnAllMoves", spec := "fnAllMoves", unfollowed := true, recurses := true, apart := false, narrowed := true }
def FnAllMovesUptoSaid : Prop := fnAllMovesUptoRow.holds Try.pinned (OpenSpec.upto fnAllMovesSpec)

/-- 'laws.FnPiecesOf', WHERE WHAT IT READS IS OF BULK AT MOST 1048576: true; the input reads as it did. -/
def fnPiecesOfUptoRow : OpenClaim := { program := "ytjlhmondcclonaa", sum := "13ae7681d03abfd4510452b093bac4ebeda7075f9f1ea8a52ce3b38b27c1063c", func := "loop.example/piecesonboards/laws.FnPiecesOf", spec := "fnPiecesOf", unfollowed := true, recurses := true, apart := false, narrowed := true }
def FnPiecesOfUptoSaid : Prop := fnPiecesOfUptoRow.holds Try.pinned (OpenSpec.upto fnPiecesOfSpec)

/-- 'laws.FnOthersStopLines', WHERE WHAT IT READS IS OF BULK AT MOST 1048576: true; the input reads as it did. -/
def fnOthersStopLinesUptoRow : OpenClaim := { program := "ytjlhmondcclonaa", sum := "13ae7681d03abfd4510452b093bac4ebeda7075f9f1ea8a52ce3b38b27c1063c", func := "loop.example/piecesonboards/laws.FnOthersStopLines", spec := "fnOthersStopLines", unfollowed := true, recurses := true, apart := false, narrowed := true }
def FnOthersStopLinesUptoSaid : Prop := fnOthersStopLinesUptoRow.holds Try.pinned (OpenSpec.upto fnOthersStopLinesSpec)

/-- 'laws.FnExactValidKind', WHERE WHAT IT READS IS OF BULK AT MOST 1048576: true; the input reads as it did. -/
def fnExactValidKindUptoRow : OpenClaim := { program := "ytjlhmondcclonaa", sum := "13ae7681d03abfd4510452b093bac4ebeda7075f9f1ea8a52ce3b38b27c1063c", func := "loop.example/piecesonboards/laws.FnExactValidKind", spec := "fnExactValidKind", apart := false, narrowed := true }
def FnExactValidKindUptoSaid : Prop := fnExactValidKindUptoRow.holds Try.pinned (OpenSpec.upto fnExactValidKindSpec)

/-- 'laws.FnExactReachOf', WHERE WHAT IT READS IS OF BULK AT MOST 1048576: true; the input reads as it did. -/
def fnExactReachOfUptoRow : OpenClaim := { program := "ytjlhmondcclonaa", sum := "13ae7681d03abfd4510452b093bac4ebeda7075f9f1ea8a52ce3b38b27c1063c", func := "loop.example/piecesonboards/laws.FnExactReachOf", spec := "fnExactReachOf", unfollowed := true, recurses := true, apart := false, narrowed := true }
def FnExactReachOfUptoSaid : Prop := fnExactReachOfUptoRow.holds Try.pinned (OpenSpec.upto fnExactReachOfSpec)

/-- 'laws.FnExactMovesFrom', WHERE WHAT IT READS IS OF BULK AT MOST 1048576: true; the input reads as it did. -/
def fnExactMovesFromUptoRow : OpenClaim := { program := "ytjlhmondcclonaa", sum := "13ae7681d03abfd4510452b093bac4ebeda7075f9f1ea8a52ce3b38b27c1063c", func := "loop.example/piecesonboards/laws.FnExactMovesFrom", spec := "fnExactMovesFrom", unfollowed := true, recurses := true, apart := false, narrowed := true }
def FnExactMovesFromUptoSaid : Prop := fnExactMovesFromUptoRow.holds Try.pinned (OpenSpec.upto fnExactMovesFromSpec)

/-- 'laws.FnExactAllMoves', WHERE WHAT IT READS IS OF BULK AT MOST 1048576: true; the input reads as it did. -/
def fnExactAllMovesUptoRow : OpenClaim := { program := "ytjlhmondcclonaa", sum := "13ae7681d03abfd4510452b093bac4ebeda7075f9f1ea8a52ce3b38b27c1063c", func := "loop.example/piecesonboards/laws.FnExactAllMoves", spec := "fnExactAllMoves", unfollowed := true, recurses := true, apart := false, narrowed := true }
def FnExactAllMovesUptoSaid : Prop := fnExactAllMovesUptoRow.holds Try.pinned (OpenSpec.upto fnExactAllMovesSpec)

/-- 'laws.FnExactPiecesOf', WHERE WHAT IT READS IS OF BULK AT MOST 1048576: true; the input reads as it did. -/
def fnExactPiecesOfUptoRow : OpenClaim := { program := "ytjlhmondcclonaa", sum := "13ae7681d03abfd4510452b093bac4ebeda7075f9f1ea8a52ce3b38b27c1063c", func := "loop.example/piecesonboards/laws.FnExactPiecesOf", spec := "fnExactPiecesOf", unfollowed := true, recurses := true, apart := false, narrowed := true }
def FnExactPiecesOfUptoSaid : Prop := fnExactPiecesOfUptoRow.holds Try.pinned (OpenSpec.upto fnExactPiecesOfSpec)

end Rows
end Go.Proofs.Ytjlhmondcclonaa

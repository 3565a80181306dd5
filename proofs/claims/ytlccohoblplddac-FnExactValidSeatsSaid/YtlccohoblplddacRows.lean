/-
  No cell of these rows narrows 'for every input' (looked for: loops, veiled, ifaces, maps, wideKeys, modest, calm, conditions, laid).
  DERIVED. THE GIVEN ROWS OF THIS SEAT. 4 by the template 'for every input the law returns true; each argument reads behind the call as it read before'; 0 by the template 'total and deterministic' (their statements: YtlccohoblplddacTotals.lean).
  GIVEN WITH THE SEED: the statements are not yours to turn. If you find one false, say at which input.
  Laid BY PROGRAM, IN A SANDBOX (cutbox-rows.mjs): the forced cells as the released guide's own fill.sh prints them over the translation 1bd3b3a1643da669… (all of the seat's roots in one cut). By AI agents, Wed Nov 11 2026. No macro, syntax, notation, axiom, sorry.
-/
import Derived.Test.YtlccohoblplddacChecked
import GoSem.Claim
import GoSem.ClaimJoined
import GoSem.ClaimMapViews
import Derived.JoinedTies
import Derived.KernelRfl
namespace Go.Proofs.Ytlccohoblplddac
/- THE CELL 'sum', in the pinned program and in every row, IS THE sha256 OF THE DUMP (.gsa) THAT YtlccohoblplddacProg.lean LOADS. Nothing in Lean hashes anything: it is a label: what it is worth is what the hold of that sum in a sandbox is worth. -/
noncomputable def Try.pinned : Pinned := { name := "ytlccohoblplddac", sum := "1bd3b3a1643da6695ac644e5304b754eb0bae85c4da6cf00be5b5eda86051fa6", checked := Try.checked }
namespace Rows
def none {H : Type} : Left H := { results := [], args := [] }

/-- 'laws.FnExactOtherSeats': WHATEVER THE INPUT: true; the input reads as it did. -/
def fnExactOtherSeatsSpec : ChangeSpec := { name := "fnExactOtherSeats", fn := fun _ => fun
  | [d] => { results := [.lit (.bool true)], args := [d] }
  | _ => none }
def fnExactOtherSeatsRow : OpenClaim := { program := "ytlccohoblplddac", sum := "1bd3b3a1643da6695ac644e5304b754eb0bae85c4da6cf00be5b5eda86051fa6", func := "loop.example/piecesonboards/laws.FnExactOtherSeats", spec := "fnExactOtherSeats", apart := false }
def FnExactOtherSeatsSaid : Prop := fnExactOtherSeatsRow.holds Try.pinned (OpenSpec.ofChange fnExactOtherSeatsSpec)

/-- ITS FALSE NEIGHBOUR: 'it returns false'. Refute it at one input. -/
def fnExactOtherSeatsWrong : ChangeSpec := { name := "fnExactOtherSeats", fn := fun _ => fun
  | [d] => { results := [.lit (.bool false)], args := [d] }
  | _ => none }
def FnExactOtherSeatsWrongFalsely : Prop := fnExactOtherSeatsRow.holds Try.pinned (OpenSpec.ofChange fnExactOtherSeatsWrong)

/-- 'laws.FnExactValidSeats': WHATEVER THE INPUT: true; the input reads as it did. -/
def fnExactValidSeatsSpec : ChangeSpec := { name := "fnExactValidSeats", fn := fun _ => fun
  | [d] => { results := [.lit (.bool true)], args := [d] }
  | _ => none }
def fnExactValidSeatsRow : OpenClaim := { program := "ytlccohoblplddac", sum := "1bd3b3a1643da6695ac644e5304b754eb0bae85c4da6cf00be5b5eda86051fa6", func := "loop.example/piecesonboards/laws.FnExactValidSeats", spec := "fnExactValidSeats", apart := false }
def FnExactValidSeatsSaid : Prop := fnExactValidSeatsRow.holds Try.pinned (OpenSpec.ofChange fnExactValidSeatsSpec)

/-- ITS FALSE NEIGHBOUR: 'it returns false'. Refute it at one input. -/
def fnExactValidSeatsWrong : ChangeSpec := { name := "fnExactValidSeats", fn := fun _ => fun
  | [d] => { results := [.lit (.bool false)], args := [d] }
  | _ => none }
def FnExactValidSeatsWrongFalsely : Prop := fnExactValidSeatsRow.holds Try.pinned (OpenSpec.ofChange fnExactValidSeatsWrong)

/-- 'laws.FnValidSeats': WHATEVER THE INPUT: true; the input reads as it did. -/
def fnValidSeatsSpec : ChangeSpec := { name := "fnValidSeats", fn := fun _ => fun
  | [d] => { results := [.lit (.bool true)], args := [d] }
  | _ => none }
def fnValidSeatsRow : OpenClaim := { program := "ytlccohoblplddac", sum := "1bd3b3a1643da6695ac644e5304b754eb0bae85c4da6cf00be5b5eda86051fa6", func := "loop.example/piecesonboards/laws.FnValidSeats", spec := "fnValidSeats", apart := false }
def FnValidSeatsSaid : Prop := fnValidSeatsRow.holds Try.pinned (OpenSpec.ofChange fnValidSeatsSpec)

/-- ITS FALSE NEIGHBOUR: 'it returns false'. Refute it at one input. -/
def fnValidSeatsWrong : ChangeSpec := { name := "fnValidSeats", fn := fun _ => fun
  | [d] => { results := [.lit (.bool false)], args := [d] }
  | _ => none }
def FnValidSeatsWrongFalsely : Prop := fnValidSeatsRow.holds Try.pinned (OpenSpec.ofChange fnValidSeatsWrong)

/-- 'laws.FnExactCountQueens': WHATEVER THE INPUT: true; the input reads as it did. -/
def fnExactCountQueensSpec : ChangeSpec := { name := "fnExactCountQueens", fn := fun _ => fun
  | [d] => { results := [.lit (.bool true)], args := [d] }
  | _ => none }
def fnExactCountQueensRow : OpenClaim := { program := "ytlccohoblplddac", sum := "1bd3b3a1643da6695ac644e5304b754eb0bae85c4da6cf00be5b5eda86051fa6", func := "loop.example/piecesonboards/laws.FnExactCountQueens", spec := "fnExactCountQueens", recurses := true, apart := false }
def FnExactCountQueensSaid : Prop := fnExactCountQueensRow.holds Try.pinned (OpenSpec.ofChange fnExactCountQueensSpec)

/-- ITS FALSE NEIGHBOUR: 'it returns false'. Refute it at one input. -/
def fnExactCountQueensWrong : ChangeSpec := { name := "fnExactCountQueens", fn := fun _ => fun
  | [d] => { results := [.lit (.bool false)], args := [d] }
  | _ => none }
def FnExactCountQueensWrongFalsely : Prop := fnExactCountQueensRow.holds Try.pinned (OpenSpec.ofChange fnExactCountQueensWrong)

/- THE SECOND FORM. 'bulk': how many values and letters a reading holds, each counted each time it is reached (what is shared counts as often as it is met; a slice's spare places count too). A statement '..UptoSaid' is the law's where the arguments, and the package variables that the reading takes, are together of bulk at most 1048576: NARROWER than '..Said'. Prove '..Said' where nothing that the law and all that it calls make is longer than what came in: it says more and counts as full. Else prove '..UptoSaid'. A law counts once. -/
mutual
def uptoBulk {H : Type} : DataW H → Nat
  | .lit (.string bytes) => bytes.length + 1
  | .lit _ => 1
  | .nil => 1
  | .ptr d => uptoBulk d + 1
  | .slice elems spare => uptoBulkAll elems + uptoBulkAll spare + 1
  | .agg parts => uptoBulkAll parts + 1
  | .iface _ d => uptoBulk d + 1
  | .map entries => uptoBulkEntries entries + 1
  | .held _ => 1
def uptoBulkAll {H : Type} : List (DataW H) → Nat
  | [] => 0
  | d :: r => uptoBulk d + uptoBulkAll r
def uptoBulkEntries {H : Type} : List (Lit × DataW H) → Nat
  | [] => 0
  | x :: r => uptoBulkEntry x + uptoBulkEntries r
def uptoBulkEntry {H : Type} : Lit × DataW H → Nat
  | (.string bytes, d) => bytes.length + uptoBulk d + 1
  | (_, d) => uptoBulk d + 1
 end
def uptoSmall : (H : Type) → List (DataW H) → Bool := fun _ ds => decide (uptoBulkAll ds ≤ 1048576)
def OpenSpec.upto (s : _root_.Go.ChangeSpec) : _root_.Go.OpenSpec := { _root_.Go.OpenSpec.ofChange s with cond := some uptoSmall }

/-- 'laws.FnExactOtherSeats', WHERE WHAT IT READS IS OF BULK AT MOST 1048576: true; the input reads as it did. -/
def fnExactOtherSeatsUptoRow : OpenClaim := { program := "ytlccohoblplddac", sum := "1bd3b3a1643da6695ac644e5304b754eb0bae85c4da6cf00be5b5eda86051fa6", func := "loop.example/piecesonboards/laws.FnExactOtherSeats", spec := "fnExactOtherSeats", apart := false, narrowed := true }
def FnExactOtherSeatsUptoSaid : Prop := fnExactOtherSeatsUptoRow.holds Try.pinned (OpenSpec.upto fnExactOtherSeatsSpec)

/-- 'laws.FnExactValidSeats', WHERE WHAT IT READS IS OF BULK AT MOST 1048576: true; the input reads as it did. -/
def fnExactValidSeatsUptoRow : OpenClaim := { program := "ytlccohoblplddac", sum := "1bd3b3a1643da6695ac644e5304b754eb0bae85c4da6cf00be5b5eda86051fa6", func := "loop.example/piecesonboards/laws.FnExactValidSeats", spec := "fnExactValidSeats", apart := false, narrowed := true }
def FnExactValidSeatsUptoSaid : Prop := fnExactValidSeatsUptoRow.holds Try.pinned (OpenSpec.upto fnExactValidSeatsSpec)

/-- 'laws.FnValidSeats', WHERE WHAT IT READS IS OF BULK AT MOST 1048576: true; the input reads as it did. -/
def fnValidSeatsUptoRow : OpenClaim := { program := "ytlccohoblplddac", sum := "1bd3b3a1643da6695ac644e5304b754eb0bae85c4da6cf00be5b5eda86051fa6", func := "loop.example/piecesonboards/laws.FnValidSeats", spec := "fnValidSeats", apart := false, narrowed := true }
def FnValidSeatsUptoSaid : Prop := fnValidSeatsUptoRow.holds Try.pinned (OpenSpec.upto fnValidSeatsSpec)

/-- 'laws.FnExactCountQueens', WHERE WHAT IT READS IS OF BULK AT MOST 1048576: true; the input reads as it did. -/
def fnExactCountQueensUptoRow : OpenClaim := { program := "ytlccohoblplddac", sum := "1bd3b3a1643da6695ac644e5304b754eb0bae85c4da6cf00be5b5eda86051fa6", func := "loop.example/piecesonboards/laws.FnExactCountQueens", spec := "fnExactCountQueens", recurses := true, apart := false, narrowed := true }
def FnExactCountQueensUptoSaid : Prop := fnExactCountQueensUptoRow.holds Try.pinned (OpenSpec.upto fnExactCountQueensSpec)

end Rows
end Go.Proofs.Ytlccohoblplddac

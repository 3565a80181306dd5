/-
  No cell of these rows narrows 'for every input' (looked for: loops, veiled, ifaces, maps, wideKeys, modest, calm, conditions, laid).
  DERIVED. THE GIVEN ROWS OF THIS SEAT. 4 by the template 'for every input the law returns true; each argument reads behind the call as it read before'; 0 by the template 'total and deterministic' (their statements: YtlccohoblplddaaTotals.lean).
  GIVEN WITH THE SEED: the statements are not yours to turn. If you find one false, say at which input.
  Laid BY PROGRAM, IN A SANDBOX (cutbox-rows.mjs): the forced cells as the released guide's own fill.sh prints them over the translation a8ea41ba6dcf6e45… (all of the seat's roots in one cut). By AI agents, Wed Nov 11 2026. No macro, syntax, notation, axiom, sorry.
-/
import Derived.Test.YtlccohoblplddaaChecked
import GoSem.Claim
import GoSem.ClaimJoined
import GoSem.ClaimMapViews
import Derived.JoinedTies
import Derived.KernelRfl
namespace Go.Proofs.Ytlccohoblplddaa
/- THE CELL 'sum', in the pinned program and in every row, IS THE sha256 OF THE DUMP (.gsa) THAT YtlccohoblplddaaProg.lean LOADS. Nothing in Lean hashes anything: it is a label: what it is worth is what the hold of that sum in a sandbox is worth. -/
noncomputable def Try.pinned : Pinned := { name := "ytlccohoblplddaa", sum := "a8ea41ba6dcf6e457a9598de7594b805c46bdaa0d65e0ec7db1387f577d925ac", checked := Try.checked }
namespace Rows
def none {H : Type} : Left H := { results := [], args := [] }

/-- 'laws.FnExactRookCounts': WHATEVER THE INPUT: true; the input reads as it did. -/
def fnExactRookCountsSpec : ChangeSpec := { name := "fnExactRookCounts", fn := fun _ => fun
  | [d] => { results := [.lit (.bool true)], args := [d] }
  | _ => none }
def fnExactRookCountsRow : OpenClaim := { program := "ytlccohoblplddaa", sum := "a8ea41ba6dcf6e457a9598de7594b805c46bdaa0d65e0ec7db1387f577d925ac", func := "loop.example/piecesonboards/laws.FnExactRookCounts", spec := "fnExactRookCounts", recurses := true, apart := false }
def FnExactRookCountsSaid : Prop := fnExactRookCountsRow.holds Try.pinned (OpenSpec.ofChange fnExactRookCountsSpec)

/-- ITS FALSE NEIGHBOUR: 'it returns false'. Refute it at one input. -/
def fnExactRookCountsWrong : ChangeSpec := { name := "fnExactRookCounts", fn := fun _ => fun
  | [d] => { results := [.lit (.bool false)], args := [d] }
  | _ => none }
def FnExactRookCountsWrongFalsely : Prop := fnExactRookCountsRow.holds Try.pinned (OpenSpec.ofChange fnExactRookCountsWrong)

/-- 'laws.FnExactRookByCell': WHATEVER THE INPUT: true; the input reads as it did. -/
def fnExactRookByCellSpec : ChangeSpec := { name := "fnExactRookByCell", fn := fun _ => fun
  | [d] => { results := [.lit (.bool true)], args := [d] }
  | _ => none }
def fnExactRookByCellRow : OpenClaim := { program := "ytlccohoblplddaa", sum := "a8ea41ba6dcf6e457a9598de7594b805c46bdaa0d65e0ec7db1387f577d925ac", func := "loop.example/piecesonboards/laws.FnExactRookByCell", spec := "fnExactRookByCell", unfollowed := true, recurses := true, apart := false }
def FnExactRookByCellSaid : Prop := fnExactRookByCellRow.holds Try.pinned (OpenSpec.ofChange fnExactRookByCellSpec)

/-- ITS FALSE NEIGHBOUR: 'it returns false'. Refute it at one input. -/
def fnExactRookByCellWrong : ChangeSpec := { name := "fnExactRookByCell", fn := fun _ => fun
  | [d] => { results := [.lit (.bool false)], args := [d] }
  | _ => none }
def FnExactRookByCellWrongFalsely : Prop := fnExactRookByCellRow.holds Try.pinned (OpenSpec.ofChange fnExactRookByCellWrong)

/-- 'laws.FnRookCounts': WHATEVER THE INPUT: true; the input reads as it did. -/
def fnRookCountsSpec : ChangeSpec := { name := "fnRookCounts", fn := fun _ => fun
  | [d] => { results := [.lit (.bool true)], args := [d] }
  | _ => none }
def fnRookCountsRow : OpenClaim := { program := "ytlccohoblplddaa", sum := "a8ea41ba6dcf6e457a9598de7594b805c46bdaa0d65e0ec7db1387f577d925ac", func := "loop.example/piecesonboards/laws.FnRookCounts", spec := "fnRookCounts", unfollowed := true, recurses := true, apart := false }
def FnRookCountsSaid : Prop := fnRookCountsRow.holds Try.pinned (OpenSpec.ofChange fnRookCountsSpec)

/-- ITS FALSE NEIGHBOUR: 'it returns false'. Refute it at one input. -/
def fnRookCountsWrong : ChangeSpec := { name := "fnRookCounts", fn := fun _ => fun
  | [d] => { results := [.lit (.bool false)], args := [d] }
  | _ => none }
def FnRookCountsWrongFalsely : Prop := fnRookCountsRow.holds Try.pinned (OpenSpec.ofChange fnRookCountsWrong)

/-- 'laws.FnRookByCell': WHATEVER THE INPUT: true; the input reads as it did. -/
def fnRookByCellSpec : ChangeSpec := { name := "fnRookByCell", fn := fun _ => fun
  | [d] => { results := [.lit (.bool true)], args := [d] }
  | _ => none }
def fnRookByCellRow : OpenClaim := { program := "ytlccohoblplddaa", sum := "a8ea41ba6dcf6e457a9598de7594b805c46bdaa0d65e0ec7db1387f577d925ac", func := "loop.example/piecesonboards/laws.FnRookByCell", spec := "fnRookByCell", unfollowed := true, recurses := true, apart := false }
def FnRookByCellSaid : Prop := fnRookByCellRow.holds Try.pinned (OpenSpec.ofChange fnRookByCellSpec)

/-- ITS FALSE NEIGHBOUR: 'it returns false'. Refute it at one input. -/
def fnRookByCellWrong : ChangeSpec := { name := "fnRookByCell", fn := fun _ => fun
  | [d] => { results := [.lit (.bool false)], args := [d] }
  | _ => none }
def FnRookByCellWrongFalsely : Prop := fnRookByCellRow.holds Try.pinned (OpenSpec.ofChange fnRookByCellWrong)

/- THE SECOND FORM. 'bulk': how many values and letters a reading holds, each counted each time it is reached (what is shared counts as often as it is met; a slice's spare places count too). A statement '..UptoSaid' is the law's where the arguments, and the package variables that the reading takes, are together of bulk at most 1048576: NARROWER than '..Said'. Prove '..Said' where nothing that the law and all that it calls make is longer than what came in: it says more and counts as full. Else prove '..UptoSaid'. A law counts once. -/
mutual
def uptoBulk {H : Type} : DataW H → Nat
  | .lit (.string bytes) => bytes.length + 1
  | .lit _ => 1
  | .nil => 1
  | .ptr d => uptoBulk d + 1
  | .slice elems spare => uptoBulkAll elems + uptoBulkAll spare + 1
  | .agg parts => uptoBulkAll parts + 1
  | .iface _ d => uptoBulk d + 1
  | .map entries => uptoBulkEntries entries + 1
  | .held _ => 1
def uptoBulkAll {H : Type} : List (DataW H) → Nat
  | [] => 0
  | d :: r => uptoBulk d + uptoBulkAll r
def uptoBulkEntries {H : Type} : List (Lit × DataW H) → Nat
  | [] => 0
  | x :: r => uptoBulkEntry x + uptoBulkEntries r
def uptoBulkEntry {H : Type} : Lit × DataW H → Nat
  | (.string bytes, d) => bytes.length + uptoBulk d + 1
  | (_, d) => uptoBulk d + 1
 end
def uptoSmall : (H : Type) → List (DataW H) → Bool := fun _ ds => decide (uptoBulkAll ds ≤ 1048576)
def OpenSpec.upto (s : _root_.Go.ChangeSpec) : _root_.Go.OpenSpec := { _root_.Go.OpenSpec.ofChange s with cond := some uptoSmall }

/-- 'laws.FnExactRookCounts', WHERE WHAT IT READS IS OF BULK AT MOST 1048576: true; the input reads as it did. -/
def fnExactRookCountsUptoRow : OpenClaim := { program := "ytlccohoblplddaa", sum := "a8ea41ba6dcf6e457a9598de7594b805c46bdaa0d65e0ec7db1387f577d925ac", func := "loop.example/piecesonboards/laws.FnExactRookCounts", spec := "fnExactRookCounts", recurses := true, apart := false, narrowed := true }
def FnExactRookCountsUptoSaid : Prop := fnExactRookCountsUptoRow.holds Try.pinned (OpenSpec.upto fnExactRookCountsSpec)

/-- 'laws.FnExactRookByCell', WHERE WHAT IT READS IS OF BULK AT MOST 1048576: true; the input reads as it did. -/
def fnExactRookByCellUptoRow : OpenClaim := { program := "ytlccohoblplddaa", sum := "a8ea41ba6dcf6e457a9598de7594b805c46bdaa0d65e0ec7db1387f577d925ac", func := "loop.example/piecesonboards/laws.FnExactRookByCell", spec := "fnExactRookByCell", unfollowed := true, recurses := true, apart := false, narrowed := true }
def FnExactRookByCellUptoSaid : Prop := fnExactRookByCellUptoRow.holds Try.pinned (OpenSpec.upto fnExactRookByCellSpec)

/-- 'laws.FnRookCounts', WHERE WHAT IT READS IS OF BULK AT MOST 1048576: true; the input reads as it did. -/
def fnRookCountsUptoRow : OpenClaim := { program := "ytlccohoblplddaa", sum := "a8ea41ba6dcf6e457a9598de7594b805c46bdaa0d65e0ec7db1387f577d925ac", func := "loop.example/piecesonboards/laws.FnRookCounts", spec := "fnRookCounts", unfollowed := true, recurses := true, apart := false, narrowed := true }
def FnRookCountsUptoSaid : Prop := fnRookCountsUptoRow.holds Try.pinned (OpenSpec.upto fnRookCountsSpec)

/-- 'laws.FnRookByCell', WHERE WHAT IT READS IS OF BULK AT MOST 1048576: true; the input reads as it did. -/
def fnRookByCellUptoRow : OpenClaim := { program := "ytlccohoblplddaa", sum := "a8ea41ba6dcf6e457a9598de7594b805c46bdaa0d65e0ec7db1387f577d925ac", func := "loop.example/piecesonboards/laws.FnRookByCell", spec := "fnRookByCell", unfollowed := true, recurses := true, apart := false, narrowed := true }
def FnRookByCellUptoSaid : Prop := fnRookByCellUptoRow.holds Try.pinned (OpenSpec.upto fnRookByCellSpec)

end Rows
end Go.Proofs.Ytlccohoblplddaa

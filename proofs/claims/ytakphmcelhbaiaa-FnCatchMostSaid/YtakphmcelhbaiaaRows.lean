/-
  No cell of these rows narrows 'for every input' (looked for: loops, veiled, ifaces, maps, wideKeys, modest, calm, conditions, laid).
  DERIVED. THE GIVEN ROWS OF THIS SEAT. 4 by the template 'for every input the law returns true; each argument reads behind the call as it read before'; 0 by the template 'total and deterministic' (their statements: YtakphmcelhbaiaaTotals.lean).
  GIVEN WITH THE SEED: the statements are not yours to turn. If you find one false, say at which input.
  Laid BY PROGRAM, IN A SANDBOX (cutbox-rows.mjs): the forced cells as the released guide's own fill.sh prints them over the translation 3b63fdfe4e155991… (all of the seat's roots in one cut). By AI agents, Wed Nov 11 2026. No macro, syntax, notation, axiom, sorry.
-/
import Derived.Test.YtakphmcelhbaiaaChecked
import GoSem.Claim
import GoSem.ClaimJoined
import GoSem.ClaimMapViews
import Derived.JoinedTies
import Derived.KernelRfl
namespace Go.Proofs.Ytakphmcelhbaiaa
/- THE CELL 'sum', in the pinned program and in every row, IS THE sha256 OF THE DUMP (.gsa) THAT YtakphmcelhbaiaaProg.lean LOADS. Nothing in Lean hashes anything: it is a label: what it is worth is what the hold of that sum in a sandbox is worth. -/
noncomputable def Try.pinned : Pinned := { name := "ytakphmcelhbaiaa", sum := "3b63fdfe4e1559918e0949af23eb42e5a0ff78ede04084c3cec1dc1554c8cbc2", checked := Try.checked }
namespace Rows
def none {H : Type} : Left H := { results := [], args := [] }

/-- 'laws.FnExactCatchMoves': WHATEVER THE INPUT: true; the input reads as it did. -/
def fnExactCatchMovesSpec : ChangeSpec := { name := "fnExactCatchMoves", fn := fun _ => fun
  | [d1, d2, d3, d4, d5] => { results := [.lit (.bool true)], args := [d1, d2, d3, d4, d5] }
  | _ => none }
def fnExactCatchMovesRow : OpenClaim := { program := "ytakphmcelhbaiaa", sum := "3b63fdfe4e1559918e0949af23eb42e5a0ff78ede04084c3cec1dc1554c8cbc2", func := "loop.example/piecesonboards/laws.FnExactCatchMoves", spec := "fnExactCatchMoves", unfollowed := true, recurses := true, plainKeys := false, apart := false }
def FnExactCatchMovesSaid : Prop := fnExactCatchMovesRow.holds Try.pinned (OpenSpec.ofChange fnExactCatchMovesSpec)

/-- ITS FALSE NEIGHBOUR: 'it returns false'. Refute it at one input. -/
def fnExactCatchMovesWrong : ChangeSpec := { name := "fnExactCatchMoves", fn := fun _ => fun
  | [d1, d2, d3, d4, d5] => { results := [.lit (.bool false)], args := [d1, d2, d3, d4, d5] }
  | _ => none }
def FnExactCatchMovesWrongFalsely : Prop := fnExactCatchMovesRow.holds Try.pinned (OpenSpec.ofChange fnExactCatchMovesWrong)

/-- 'laws.FnExactAlwaysCaught': WHATEVER THE INPUT: true; the input reads as it did. -/
def fnExactAlwaysCaughtSpec : ChangeSpec := { name := "fnExactAlwaysCaught", fn := fun _ => fun
  | [d1, d2, d3] => { results := [.lit (.bool true)], args := [d1, d2, d3] }
  | _ => none }
def fnExactAlwaysCaughtRow : OpenClaim := { program := "ytakphmcelhbaiaa", sum := "3b63fdfe4e1559918e0949af23eb42e5a0ff78ede04084c3cec1dc1554c8cbc2", func := "loop.example/piecesonboards/laws.FnExactAlwaysCaught", spec := "fnExactAlwaysCaught", unfollowed := true, recurses := true, plainKeys := false, apart := false }
def FnExactAlwaysCaughtSaid : Prop := fnExactAlwaysCaughtRow.holds Try.pinned (OpenSpec.ofChange fnExactAlwaysCaughtSpec)

/-- ITS FALSE NEIGHBOUR: 'it returns false'. Refute it at one input. -/
def fnExactAlwaysCaughtWrong : ChangeSpec := { name := "fnExactAlwaysCaught", fn := fun _ => fun
  | [d1, d2, d3] => { results := [.lit (.bool false)], args := [d1, d2, d3] }
  | _ => none }
def FnExactAlwaysCaughtWrongFalsely : Prop := fnExactAlwaysCaughtRow.holds Try.pinned (OpenSpec.ofChange fnExactAlwaysCaughtWrong)

/-- 'laws.FnExactCatchMost': WHATEVER THE INPUT: true; the input reads as it did. -/
def fnExactCatchMostSpec : ChangeSpec := { name := "fnExactCatchMost", fn := fun _ => fun
  | [d1, d2, d3] => { results := [.lit (.bool true)], args := [d1, d2, d3] }
  | _ => none }
def fnExactCatchMostRow : OpenClaim := { program := "ytakphmcelhbaiaa", sum := "3b63fdfe4e1559918e0949af23eb42e5a0ff78ede04084c3cec1dc1554c8cbc2", func := "loop.example/piecesonboards/laws.FnExactCatchMost", spec := "fnExactCatchMost", unfollowed := true, recurses := true, plainKeys := false, apart := false }
def FnExactCatchMostSaid : Prop := fnExactCatchMostRow.holds Try.pinned (OpenSpec.ofChange fnExactCatchMostSpec)

/-- ITS FALSE NEIGHBOUR: 'it returns false'. Refute it at one input. -/
def fnExactCatchMostWrong : ChangeSpec := { name := "fnExactCatchMost", fn := fun _ => fun
  | [d1, d2, d3] => { results := [.lit (.bool false)], args := [d1, d2, d3] }
  | _ => none }
def FnExactCatchMostWrongFalsely : Prop := fnExactCatchMostRow.holds Try.pinned (OpenSpec.ofChange fnExactCatchMostWrong)

/-- 'laws.FnCatchMost': WHATEVER THE INPUT: true; the input reads as it did. -/
def fnCatchMostSpec : ChangeSpec := { name := "fnCatchMost", fn := fun _ => fun
  | [d] => { results := [.lit (.bool true)], args := [d] }
  | _ => none }
def fnCatchMostRow : OpenClaim := { program := "ytakphmcelhbaiaa", sum := "3b63fdfe4e1559918e0949af23eb42e5a0ff78ede04084c3cec1dc1554c8cbc2", func := "loop.example/piecesonboards/laws.FnCatchMost", spec := "fnCatchMost", unfollowed := true, recurses := true, plainKeys := false, apart := false }
def FnCatchMostSaid : Prop := fnCatchMostRow.holds Try.pinned (OpenSpec.ofChange fnCatchMostSpec)

/-- ITS FALSE NEIGHBOUR: 'it returns false'. Refute it at one input. -/
def fnCatchMostWrong : ChangeSpec := { name := "fnCatchMost", fn := fun _ => fun
  | [d] => { results := [.lit (.bool false)], args := [d] }
  | _ => none }
def FnCatchMostWrongFalsely : Prop := fnCatchMostRow.holds Try.pinned (OpenSpec.ofChange fnCatchMostWrong)

/- THE SECOND FORM. 'bulk': how many values and letters a reading holds, each counted each time it is reached (what is shared counts as often as it is met; a slice's spare places count too). A statement '..UptoSaid' is the law's where the arguments, and the package variables that the reading takes, are together of bulk at most 1048576: NARROWER than '..Said'. Prove '..Said' where nothing that the law and all that it calls make is longer than what came in: it says more and counts as full. Else prove '..UptoSaid'. A law counts once. -/
mutual
def uptoBulk {H : Type} : DataW H → Nat
  | .lit (.string bytes) => bytes.length + 1
  | .lit _ => 1
  | .nil => 1
  | .ptr d => uptoBulk d + 1
  | .slice elems spare => uptoBulkAll elems + uptoBulkAll spare + 1
  | .agg parts => uptoBulkAll parts + 1
  | .iface _ d => uptoBulk d + 1
  | .map entries => uptoBulkEntries entries + 1
  | .held _ => 1
def uptoBulkAll {H : Type} : List (DataW H) → Nat
  | [] => 0
  | d :: r => uptoBulk d + uptoBulkAll r
def uptoBulkEntries {H : Type} : List (Lit × DataW H) → Nat
  | [] => 0
  | x :: r => uptoBulkEntry x + uptoBulkEntries r
def uptoBulkEntry {H : Type} : Lit × DataW H → Nat
  | (.string bytes, d) => bytes.length + uptoBulk d + 1
  | (_, d) => uptoBulk d + 1
 end
def uptoSmall : (H : Type) → List (DataW H) → Bool := fun _ ds => decide (uptoBulkAll ds ≤ 1048576)
def OpenSpec.upto (s : _root_.Go.ChangeSpec) : _root_.Go.OpenSpec := { _root_.Go.OpenSpec.ofChange s with cond := some uptoSmall }

/-- 'laws.FnExactCatchMoves', WHERE WHAT IT READS IS OF BULK AT MOST 1048576: true; the input reads as it did. -/
def fnExactCatchMovesUptoRow : OpenClaim := { program := "ytakphmcelhbaiaa", sum := "3b63fdfe4e1559918e0949af23eb42e5a0ff78ede04084c3cec1dc1554c8cbc2", func := "loop.example/piecesonboards/laws.FnExactCatchMoves", spec := "fnExactCatchMoves", unfollowed := true, recurses := true, plainKeys := false, apart := false, narrowed := true }
def FnExactCatchMovesUptoSaid : Prop := fnExactCatchMovesUptoRow.holds Try.pinned (OpenSpec.upto fnExactCatchMovesSpec)

/-- 'laws.FnExactAlwaysCaught', WHERE WHAT IT READS IS OF BULK AT MOST 1048576: true; the input reads as it did. -/
def fnExactAlwaysCaughtUptoRow : OpenClaim := { program := "ytakphmcelhbaiaa", sum := "3b63fdfe4e1559918e0949af23eb42e5a0ff78ede04084c3cec1dc1554c8cbc2", func := "loop.example/piecesonboards/laws.FnExactAlwaysCaught", spec := "fnExactAlwaysCaught", unfollowed := true, recurses := true, plainKeys := false, apart := false, narrowed := true }
def FnExactAlwaysCaughtUptoSaid : Prop := fnExactAlwaysCaughtUptoRow.holds Try.pinned (OpenSpec.upto fnExactAlwaysCaughtSpec)

/-- 'laws.FnExactCatchMost', WHERE WHAT IT READS IS OF BULK AT MOST 1048576: true; the input reads as it did. -/
def fnExactCatchMostUptoRow : OpenClaim := { program := "ytakphmcelhbaiaa", sum := "3b63fdfe4e1559918e0949af23eb42e5a0ff78ede04084c3cec1dc1554c8cbc2", func := "loop.example/piecesonboards/laws.FnExactCatchMost", spec := "fnExactCatchMost", unfollowed := true, recurses := true, plainKeys := false, apart := false, narrowed := true }
def FnExactCatchMostUptoSaid : Prop := fnExactCatchMostUptoRow.holds Try.pinned (OpenSpec.upto fnExactCatchMostSpec)

/-- 'laws.FnCatchMost', WHERE WHAT IT READS IS OF BULK AT MOST 1048576: true; the input reads as it did. -/
def fnCatchMostUptoRow : OpenClaim := { program := "ytakphmcelhbaiaa", sum := "3b63fdfe4e1559918e0949af23eb42e5a0ff78ede04084c3cec1dc1554c8cbc2", func := "loop.example/piecesonboards/laws.FnCatchMost", spec := "fnCatchMost", unfollowed := true, recurses := true, plainKeys := false, apart := false, narrowed := true }
def FnCatchMostUptoSaid : Prop := fnCatchMostUptoRow.holds Try.pinned (OpenSpec.upto fnCatchMostSpec)

end Rows
end Go.Proofs.Ytakphmcelhbaiaa

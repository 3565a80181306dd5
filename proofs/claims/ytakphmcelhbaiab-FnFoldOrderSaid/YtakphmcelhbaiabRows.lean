/-
  No cell of these rows narrows 'for every input' (looked for: loops, veiled, ifaces, maps, wideKeys, modest, calm, conditions, laid).
  DERIVED. THE GIVEN ROWS OF THIS SEAT. 4 by the template 'for every input the law returns true; each argument reads behind the call as it read before'; 0 by the template 'total and deterministic' (their statements: YtakphmcelhbaiabTotals.lean).
  GIVEN WITH THE SEED: the statements are not yours to turn. If you find one false, say at which input.
  Laid BY PROGRAM, IN A SANDBOX (cutbox-rows.mjs): the forced cells as the released guide's own fill.sh prints them over the translation c45e75def77a32d3… (all of the seat's roots in one cut). By AI agents, Wed Nov 11 2026. No macro, syntax, notation, axiom, sorry.
-/
import Derived.Test.YtakphmcelhbaiabChecked
import GoSem.Claim
import GoSem.ClaimJoined
import GoSem.ClaimMapViews
import Derived.JoinedTies
import Derived.KernelRfl
namespace Go.Proofs.Ytakphmcelhbaiab
/- THE CELL 'sum', in the pinned program and in every row, IS THE sha256 OF THE DUMP (.gsa) THAT YtakphmcelhbaiabProg.lean LOADS. Nothing in Lean hashes anything: it is a label: what it is worth is what the hold of that sum in a sandbox is worth. -/
noncomputable def Try.pinned : Pinned := { name := "ytakphmcelhbaiab", sum := "c45e75def77a32d3d7ca7d444abf774eab8d811726c834b67db96f43aa7d4bf7", checked := Try.checked }
namespace Rows
def none {H : Type} : Left H := { results := [], args := [] }

/-- 'laws.FnExactFoldOrder': WHATEVER THE INPUT: true; the input reads as it did. -/
def fnExactFoldOrderSpec : ChangeSpec := { name := "fnExactFoldOrder", fn := fun _ => fun
  | [d1, d2, d3] => { results := [.lit (.bool true)], args := [d1, d2, d3] }
  | _ => none }
def fnExactFoldOrderRow : OpenClaim := { program := "ytakphmcelhbaiab", sum := "c45e75def77a32d3d7ca7d444abf774eab8d811726c834b67db96f43aa7d4bf7", func := "loop.example/piecesonboards/laws.FnExactFoldOrder", spec := "fnExactFoldOrder", unfollowed := true, recurses := true, plainKeys := false, apart := false }
def FnExactFoldOrderSaid : Prop := fnExactFoldOrderRow.holds Try.pinned (OpenSpec.ofChange fnExactFoldOrderSpec)

/-- ITS FALSE NEIGHBOUR: 'it returns false'. Refute it at one input. -/
def fnExactFoldOrderWrong : ChangeSpec := { name := "fnExactFoldOrder", fn := fun _ => fun
  | [d1, d2, d3] => { results := [.lit (.bool false)], args := [d1, d2, d3] }
  | _ => none }
def FnExactFoldOrderWrongFalsely : Prop := fnExactFoldOrderRow.holds Try.pinned (OpenSpec.ofChange fnExactFoldOrderWrong)

/-- 'laws.FnFoldOrder': WHATEVER THE INPUT: true; the input reads as it did. -/
def fnFoldOrderSpec : ChangeSpec := { name := "fnFoldOrder", fn := fun _ => fun
  | [d] => { results := [.lit (.bool true)], args := [d] }
  | _ => none }
def fnFoldOrderRow : OpenClaim := { program := "ytakphmcelhbaiab", sum := "c45e75def77a32d3d7ca7d444abf774eab8d811726c834b67db96f43aa7d4bf7", func := "loop.example/piecesonboards/laws.FnFoldOrder", spec := "fnFoldOrder", unfollowed := true, recurses := true, plainKeys := false, apart := false }
def FnFoldOrderSaid : Prop := fnFoldOrderRow.holds Try.pinned (OpenSpec.ofChange fnFoldOrderSpec)

/-- ITS FALSE NEIGHBOUR: 'it returns false'. Refute it at one input. -/
def fnFoldOrderWrong : ChangeSpec := { name := "fnFoldOrder", fn := fun _ => fun
  | [d] => { results := [.lit (.bool false)], args := [d] }
  | _ => none }
def FnFoldOrderWrongFalsely : Prop := fnFoldOrderRow.holds Try.pinned (OpenSpec.ofChange fnFoldOrderWrong)

/-- 'laws.FnAlwaysCaught': WHATEVER THE INPUT: true; the input reads as it did. -/
def fnAlwaysCaughtSpec : ChangeSpec := { name := "fnAlwaysCaught", fn := fun _ => fun
  | [d] => { results := [.lit (.bool true)], args := [d] }
  | _ => none }
def fnAlwaysCaughtRow : OpenClaim := { program := "ytakphmcelhbaiab", sum := "c45e75def77a32d3d7ca7d444abf774eab8d811726c834b67db96f43aa7d4bf7", func := "loop.example/piecesonboards/laws.FnAlwaysCaught", spec := "fnAlwaysCaught", unfollowed := true, recurses := true, plainKeys := false, apart := false }
def FnAlwaysCaughtSaid : Prop := fnAlwaysCaughtRow.holds Try.pinned (OpenSpec.ofChange fnAlwaysCaughtSpec)

/-- ITS FALSE NEIGHBOUR: 'it returns false'. Refute it at one input. -/
def fnAlwaysCaughtWrong : ChangeSpec := { name := "fnAlwaysCaught", fn := fun _ => fun
  | [d] => { results := [.lit (.bool false)], args := [d] }
  | _ => none }
def FnAlwaysCaughtWrongFalsely : Prop := fnAlwaysCaughtRow.holds Try.pinned (OpenSpec.ofChange fnAlwaysCaughtWrong)

/-- 'laws.FnKingsAreCaught': WHATEVER THE INPUT: true; the input reads as it did. -/
def fnKingsAreCaughtSpec : ChangeSpec := { name := "fnKingsAreCaught", fn := fun _ => fun
  | [d] => { results := [.lit (.bool true)], args := [d] }
  | _ => none }
def fnKingsAreCaughtRow : OpenClaim := { program := "ytakphmcelhbaiab", sum := "c45e75def77a32d3d7ca7d444abf774eab8d811726c834b67db96f43aa7d4bf7", func := "loop.example/piecesonboards/laws.FnKingsAreCaught", spec := "fnKingsAreCaught", unfollowed := true, recurses := true, plainKeys := false, apart := false }
def FnKingsAreCaughtSaid : Prop := fnKingsAreCaughtRow.holds Try.pinned (OpenSpec.ofChange fnKingsAreCaughtSpec)

/-- ITS FALSE NEIGHBOUR: 'it returns false'. Refute it at one input. -/
def fnKingsAreCaughtWrong : ChangeSpec := { name := "fnKingsAreCaught", fn := fun _ => fun
  | [d] => { results := [.lit (.bool false)], args := [d] }
  | _ => none }
def FnKingsAreCaughtWrongFalsely : Prop := fnKingsAreCaughtRow.holds Try.pinned (OpenSpec.ofChange fnKingsAreCaughtWrong)

/- THE SECOND FORM. 'bulk': how many values and letters a reading holds, each counted each time it is reached (what is shared counts as often as it is met; a slice's spare places count too). A statement '..UptoSaid' is the law's where the arguments, and the package variables that the reading takes, are together of bulk at most 1048576: NARROWER than '..Said'. Prove '..Said' where nothing that the law and all that it calls make is longer than what came in: it says more and counts as full. Else prove '..UptoSaid'. A law counts once. -/
mutual
def uptoBulk {H : Type} : DataW H → Nat
  | .lit (.string bytes) => bytes.length + 1
  | .lit _ => 1
  | .nil => 1
  | .ptr d => uptoBulk d + 1
  | .slice elems spare => uptoBulkAll elems + uptoBulkAll spare + 1
  | .agg parts => uptoBulkAll parts + 1
  | .iface _ d => uptoBulk d + 1
  | .map entries => uptoBulkEntries entries + 1
  | .held _ => 1
def uptoBulkAll {H : Type} : List (DataW H) → Nat
  | [] => 0
  | d :: r => uptoBulk d + uptoBulkAll r
def uptoBulkEntries {H : Type} : List (Lit × DataW H) → Nat
  | [] => 0
  | x :: r => uptoBulkEntry x + uptoBulkEntries r
def uptoBulkEntry {H : Type} : Lit × DataW H → Nat
  | (.string bytes, d) => bytes.length + uptoBulk d + 1
  | (_, d) => uptoBulk d + 1
 end
def uptoSmall : (H : Type) → List (DataW H) → Bool := fun _ ds => decide (uptoBulkAll ds ≤ 1048576)
def OpenSpec.upto (s : _root_.Go.ChangeSpec) : _root_.Go.OpenSpec := { _root_.Go.OpenSpec.ofChange s with cond := some uptoSmall }

/-- 'laws.FnExactFoldOrder', WHERE WHAT IT READS IS OF BULK AT MOST 1048576: true; the input reads as it did. -/
def fnExactFoldOrderUptoRow : OpenClaim := { program := "ytakphmcelhbaiab", sum := "c45e75def77a32d3d7ca7d444abf774eab8d811726c834b67db96f43aa7d4bf7", func := "loop.example/piecesonboards/laws.FnExactFoldOrder", spec := "fnExactFoldOrder", unfollowed := true, recurses := true, plainKeys := false, apart := false, narrowed := true }
def FnExactFoldOrderUptoSaid : Prop := fnExactFoldOrderUptoRow.holds Try.pinned (OpenSpec.upto fnExactFoldOrderSpec)

/-- 'laws.FnFoldOrder', WHERE WHAT IT READS IS OF BULK AT MOST 1048576: true; the input reads as it did. -/
def fnFoldOrderUptoRow : OpenClaim := { program := "ytakphmcelhbaiab", sum := "c45e75def77a32d3d7ca7d444abf774eab8d811726c834b67db96f43aa7d4bf7", func := "loop.example/piecesonboards/laws.FnFoldOrder", spec := "fnFoldOrder", unfollowed := true, recurses := true, plainKeys := false, apart := false, narrowed := true }
def FnFoldOrderUptoSaid : Prop := fnFoldOrderUptoRow.holds Try.pinned (OpenSpec.upto fnFoldOrderSpec)

/-- 'laws.FnAlwaysCaught', WHERE WHAT IT READS IS OF BULK AT MOST 1048576: true; the input reads as it did. -/
def fnAlwaysCaughtUptoRow : OpenClaim := { program := "ytakphmcelhbaiab", sum := "c45e75def77a32d3d7ca7d444abf774eab8d811726c834b67db96f43aa7d4bf7", func := "loop.example/piecesonboards/laws.FnAlwaysCaught", spec := "fnAlwaysCaught", unfollowed := true, recurses := true, plainKeys := false, apart := false, narrowed := true }
def FnAlwaysCaughtUptoSaid : Prop := fnAlwaysCaughtUptoRow.holds Try.pinned (OpenSpec.upto fnAlwaysCaughtSpec)

/-- 'laws.FnKingsAreCaught', WHERE WHAT IT READS IS OF BULK AT MOST 1048576: true; the input reads as it did. -/
def fnKingsAreCaughtUptoRow : OpenClaim := { program := "ytakphmcelhbaiab", sum := "c45e75def77a32d3d7ca7d444abf774eab8d811726c834b67db96f43aa7d4bf7", func := "loop.example/piecesonboards/laws.FnKingsAreCaught", spec := "fnKingsAreCaught", unfollowed := true, recurses := true, plainKeys := false, apart := false, narrowed := true }
def FnKingsAreCaughtUptoSaid : Prop := fnKingsAreCaughtUptoRow.holds Try.pinned (OpenSpec.upto fnKingsAreCaughtSpec)

end Rows
end Go.Proofs.Ytakphmcelhbaiab

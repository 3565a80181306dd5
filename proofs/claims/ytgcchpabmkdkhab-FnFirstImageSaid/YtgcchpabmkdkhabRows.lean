/-
  No cell of these rows narrows 'for every input' (looked for: loops, veiled, ifaces, maps, wideKeys, modest, calm, conditions, laid).
  DERIVED. THE GIVEN ROWS OF THIS SEAT. 3 by the template 'for every input the law returns true; each argument reads behind the call as it read before'; 0 by the template 'total and deterministic' (their statements: YtgcchpabmkdkhabTotals.lean).
  GIVEN WITH THE SEED: the statements are not yours to turn. If you find one false, say at which input.
  Laid BY PROGRAM, IN A SANDBOX (cutbox-rows.mjs): the forced cells as the released guide's own fill.sh prints them over the translation a438545d12f701ed… (all of the seat's roots in one cut). By AI agents, Wed Nov 11 2026. No macro, syntax, notation, axiom, sorry.
-/
import Derived.Test.YtgcchpabmkdkhabChecked
import GoSem.Claim
import GoSem.ClaimJoined
import GoSem.ClaimMapViews
import Derived.JoinedTies
import Derived.KernelRfl
namespace Go.Proofs.Ytgcchpabmkdkhab
/- THE CELL 'sum', in the pinned program and in every row, IS THE sha256 OF THE DUMP (.gsa) THAT YtgcchpabmkdkhabProg.lean LOADS. Nothing in Lean hashes anything: it is a label: what it is worth is what the hold of that sum in a sandbox is worth. -/
noncomputable def Try.pinned : Pinned := { name := "ytgcchpabmkdkhab", sum := "a438545d12f701ed6468b8246fff678c9f2b671f2d91368bc9266d8019ae530f", checked := Try.checked }
namespace Rows
def none {H : Type} : Left H := { results := [], args := [] }

/-- 'laws.FnFirstImage': WHATEVER THE INPUT: true; the input reads as it did. -/
def fnFirstImageSpec : ChangeSpec := { name := "fnFirstImage", fn := fun _ => fun
  | [d] => { results := [.lit (.bool true)], args := [d] }
  | _ => none }
def fnFirstImageRow : OpenClaim := { program := "ytgcchpabmkdkhab", sum := "a438545d12f701ed6468b8246fff678c9f2b671f2d91368bc9266d8019ae530f", func := "loop.example/piecesonboards/laws.FnFirstImage", spec := "fnFirstImage", unfollowed := true, recurses := true, apart := false }
def FnFirstImageSaid : Prop := fnFirstImageRow.holds Try.pinned (OpenSpec.ofChange fnFirstImageSpec)

/-- ITS FALSE NEIGHBOUR: 'it returns false'. Refute it at one input. -/
def fnFirstImageWrong : ChangeSpec := { name := "fnFirstImage", fn := fun _ => fun
  | [d] => { results := [.lit (.bool false)], args := [d] }
  | _ => none }
def FnFirstImageWrongFalsely : Prop := fnFirstImageRow.holds Try.pinned (OpenSpec.ofChange fnFirstImageWrong)

/-- 'laws.FnExactFirstImage': WHATEVER THE INPUT: true; the input reads as it did. -/
def fnExactFirstImageSpec : ChangeSpec := { name := "fnExactFirstImage", fn := fun _ => fun
  | [d] => { results := [.lit (.bool true)], args := [d] }
  | _ => none }
def fnExactFirstImageRow : OpenClaim := { program := "ytgcchpabmkdkhab", sum := "a438545d12f701ed6468b8246fff678c9f2b671f2d91368bc9266d8019ae530f", func := "loop.example/piecesonboards/laws.FnExactFirstImage", spec := "fnExactFirstImage", unfollowed := true, recurses := true, apart := false }
def FnExactFirstImageSaid : Prop := fnExactFirstImageRow.holds Try.pinned (OpenSpec.ofChange fnExactFirstImageSpec)

/-- ITS FALSE NEIGHBOUR: 'it returns false'. Refute it at one input. -/
def fnExactFirstImageWrong : ChangeSpec := { name := "fnExactFirstImage", fn := fun _ => fun
  | [d] => { results := [.lit (.bool false)], args := [d] }
  | _ => none }
def FnExactFirstImageWrongFalsely : Prop := fnExactFirstImageRow.holds Try.pinned (OpenSpec.ofChange fnExactFirstImageWrong)

/-- 'laws.FnExactKindsOfQueens': WHATEVER THE INPUT: true; the input reads as it did. -/
def fnExactKindsOfQueensSpec : ChangeSpec := { name := "fnExactKindsOfQueens", fn := fun _ => fun
  | [d] => { results := [.lit (.bool true)], args := [d] }
  | _ => none }
def fnExactKindsOfQueensRow : OpenClaim := { program := "ytgcchpabmkdkhab", sum := "a438545d12f701ed6468b8246fff678c9f2b671f2d91368bc9266d8019ae530f", func := "loop.example/piecesonboards/laws.FnExactKindsOfQueens", spec := "fnExactKindsOfQueens", unfollowed := true, recurses := true, apart := false }
def FnExactKindsOfQueensSaid : Prop := fnExactKindsOfQueensRow.holds Try.pinned (OpenSpec.ofChange fnExactKindsOfQueensSpec)

/-- ITS FALSE NEIGHBOUR: 'it returns false'. Refute it at one input. -/
def fnExactKindsOfQueensWrong : ChangeSpec := { name := "fnExactKindsOfQueens", fn := fun _ => fun
  | [d] => { results := [.lit (.bool false)], args := [d] }
  | _ => none }
def FnExactKindsOfQueensWrongFalsely : Prop := fnExactKindsOfQueensRow.holds Try.pinned (OpenSpec.ofChange fnExactKindsOfQueensWrong)

/- THE SECOND FORM. 'bulk': how many values and letters a reading holds, each counted each time it is reached (what is shared counts as often as it is met; a slice's spare places count too). A statement '..UptoSaid' is the law's where the arguments, and the package variables that the reading takes, are together of bulk at most 1048576: NARROWER than '..Said'. Prove '..Said' where nothing that the law and all that it calls make is longer than what came in: it says more and counts as full. Else prove '..UptoSaid'. A law counts once. -/
mutual
def uptoBulk {H : Type} : DataW H → Nat
  | .lit (.string bytes) => bytes.length + 1
  | .lit _ => 1
  | .nil => 1
  | .ptr d => uptoBulk d + 1
  | .slice elems spare => uptoBulkAll elems + uptoBulkAll spare + 1
  | .agg parts => uptoBulkAll parts + 1
  | .iface _ d => uptoBulk d + 1
  | .map entries => uptoBulkEntries entries + 1
  | .held _ => 1
def uptoBulkAll {H : Type} : List (DataW H) → Nat
  | [] => 0
  | d :: r => uptoBulk d + uptoBulkAll r
def uptoBulkEntries {H : Type} : List (Lit × DataW H) → Nat
  | [] => 0
  | x :: r => uptoBulkEntry x + uptoBulkEntries r
def uptoBulkEntry {H : Type} : Lit × DataW H → Nat
  | (.string bytes, d) => bytes.length + uptoBulk d + 1
  | (_, d) => uptoBulk d + 1
 end
def uptoSmall : (H : Type) → List (DataW H) → Bool := fun _ ds => decide (uptoBulkAll ds ≤ 1048576)
def OpenSpec.upto (s : _root_.Go.ChangeSpec) : _root_.Go.OpenSpec := { _root_.Go.OpenSpec.ofChange s with cond := some uptoSmall }

/-- 'laws.FnFirstImage', WHERE WHAT IT READS IS OF BULK AT MOST 1048576: true; the input reads as it did. -/
def fnFirstImageUptoRow : OpenClaim := { program := "ytgcchpabmkdkhab", sum := "a438545d12f701ed6468b8246fff678c9f2b671f2d91368bc9266d8019ae530f", func := "loop.example/piecesonboards/laws.FnFirstImage", spec := "fnFirstImage", unfollowed := true, recurses := true, apart := false, narrowed := true }
def FnFirstImageUptoSaid : Prop := fnFirstImageUptoRow.holds Try.pinned (OpenSpec.upto fnFirstImageSpec)

/-- 'laws.FnExactFirstImage', WHERE WHAT IT READS IS OF BULK AT MOST 1048576: true; the input reads as it did. -/
def fnExactFirstImageUptoRow : OpenClaim := { program := "ytgcchpabmkdkhab", sum := "a438545d12f701ed6468b8246fff678c9f2b671f2d91368bc9266d8019ae530f", func := "loop.example/piecesonboards/laws.FnExactFirstImage", spec := "fnExactFirstImage", unfollowed := true, recurses := true, apart := false, narrowed := true }
def FnExactFirstImageUptoSaid : Prop := fnExactFirstImageUptoRow.holds Try.pinned (OpenSpec.upto fnExactFirstImageSpec)

/-- 'laws.FnExactKindsOfQueens', WHERE WHAT IT READS IS OF BULK AT MOST 1048576: true; the input reads as it did. -/
def fnExactKindsOfQueensUptoRow : OpenClaim := { program := "ytgcchpabmkdkhab", sum := "a438545d12f701ed6468b8246fff678c9f2b671f2d91368bc9266d8019ae530f", func := "loop.example/piecesonboards/laws.FnExactKindsOfQueens", spec := "fnExactKindsOfQueens", unfollowed := true, recurses := true, apart := false, narrowed := true }
def FnExactKindsOfQueensUptoSaid : Prop := fnExactKindsOfQueensUptoRow.holds Try.pinned (OpenSpec.upto fnExactKindsOfQueensSpec)

end Rows
end Go.Proofs.Ytgcchpabmkdkhab

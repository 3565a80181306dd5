/-
  No cell of these rows narrows 'for every input' (looked for: loops, veiled, ifaces, maps, wideKeys, modest, calm, conditions, laid).
  DERIVED. THE GIVEN ROWS OF THIS SEAT. 3 by the template 'for every input the law returns true; each argument reads behind the call as it read before'; 0 by the template 'total and deterministic' (their statements: YtgcchpabmkdkhadTotals.lean).
  GIVEN WITH THE SEED: the statements are not yours to turn. If you find one false, say at which input.
  Laid BY PROGRAM, IN A SANDBOX (cutbox-rows.mjs): the forced cells as the released guide's own fill.sh prints them over the translation b6fc495747d9e3fb… (all of the seat's roots in one cut). By AI agents, Wed Nov 11 2026. No macro, syntax, notation, axiom, sorry.
-/
import Derived.Test.YtgcchpabmkdkhadChecked
import GoSem.Claim
import GoSem.ClaimJoined
import GoSem.ClaimMapViews
import Derived.JoinedTies
import Derived.KernelRfl
namespace Go.Proofs.Ytgcchpabmkdkhad
/- THE CELL 'sum', in the pinned program and in every row, IS THE sha256 OF THE DUMP (.gsa) THAT YtgcchpabmkdkhadProg.lean LOADS. Nothing in Lean hashes anything: it is a label: what it is worth is what the hold of that sum in a sandbox is worth. -/
noncomputable def Try.pinned : Pinned := { name := "ytgcchpabmkdkhad", sum := "b6fc495747d9e3fb79e46f0fdeb4b89c29bd4d53acbf02b2e731a7a7c61f415a", checked := Try.checked }
namespace Rows
def none {H : Type} : Left H := { results := [], args := [] }

/-- 'laws.FnEndsOf': WHATEVER THE INPUT: true; the input reads as it did. -/
def fnEndsOfSpec : ChangeSpec := { name := "fnEndsOf", fn := fun _ => fun
  | [d] => { results := [.lit (.bool true)], args := [d] }
  | _ => none }
def fnEndsOfRow : OpenClaim := { program := "ytgcchpabmkdkhad", sum := "b6fc495747d9e3fb79e46f0fdeb4b89c29bd4d53acbf02b2e731a7a7c61f415a", func := "loop.example/piecesonboards/laws.FnEndsOf", spec := "fnEndsOf", unfollowed := true, recurses := true, apart := false }
def FnEndsOfSaid : Prop := fnEndsOfRow.holds Try.pinned (OpenSpec.ofChange fnEndsOfSpec)

/-- ITS FALSE NEIGHBOUR: 'it returns false'. Refute it at one input. -/
def fnEndsOfWrong : ChangeSpec := { name := "fnEndsOf", fn := fun _ => fun
  | [d] => { results := [.lit (.bool false)], args := [d] }
  | _ => none }
def FnEndsOfWrongFalsely : Prop := fnEndsOfRow.holds Try.pinned (OpenSpec.ofChange fnEndsOfWrong)

/-- 'laws.FnCountQueens': WHATEVER THE INPUT: true; the input reads as it did. -/
def fnCountQueensSpec : ChangeSpec := { name := "fnCountQueens", fn := fun _ => fun
  | [d] => { results := [.lit (.bool true)], args := [d] }
  | _ => none }
def fnCountQueensRow : OpenClaim := { program := "ytgcchpabmkdkhad", sum := "b6fc495747d9e3fb79e46f0fdeb4b89c29bd4d53acbf02b2e731a7a7c61f415a", func := "loop.example/piecesonboards/laws.FnCountQueens", spec := "fnCountQueens", unfollowed := true, recurses := true, apart := false }
def FnCountQueensSaid : Prop := fnCountQueensRow.holds Try.pinned (OpenSpec.ofChange fnCountQueensSpec)

/-- ITS FALSE NEIGHBOUR: 'it returns false'. Refute it at one input. -/
def fnCountQueensWrong : ChangeSpec := { name := "fnCountQueens", fn := fun _ => fun
  | [d] => { results := [.lit (.bool false)], args := [d] }
  | _ => none }
def FnCountQueensWrongFalsely : Prop := fnCountQueensRow.holds Try.pinned (OpenSpec.ofChange fnCountQueensWrong)

/-- 'laws.FnQueensAreRooks': WHATEVER THE INPUT: true; the input reads as it did. -/
def fnQueensAreRooksSpec : ChangeSpec := { name := "fnQueensAreRooks", fn := fun _ => fun
  | [d] => { results := [.lit (.bool true)], args := [d] }
  | _ => none }
def fnQueensAreRooksRow : OpenClaim := { program := "ytgcchpabmkdkhad", sum := "b6fc495747d9e3fb79e46f0fdeb4b89c29bd4d53acbf02b2e731a7a7c61f415a", func := "loop.example/piecesonboards/laws.FnQueensAreRooks", spec := "fnQueensAreRooks", unfollowed := true, recurses := true, apart := false }
def FnQueensAreRooksSaid : Prop := fnQueensAreRooksRow.holds Try.pinned (OpenSpec.ofChange fnQueensAreRooksSpec)

/-- ITS FALSE NEIGHBOUR: 'it returns false'. Refute it at one input. -/
def fnQueensAreRooksWrong : ChangeSpec := { name := "fnQueensAreRooks", fn := fun _ => fun
  | [d] => { results := [.lit (.bool false)], args := [d] }
  | _ => none }
def FnQueensAreRooksWrongFalsely : Prop := fnQueensAreRooksRow.holds Try.pinned (OpenSpec.ofChange fnQueensAreRooksWrong)

/- THE SECOND FORM. 'bulk': how many values and letters a reading holds, each counted each time it is reached (what is shared counts as often as it is met; a slice's spare places count too). A statement '..UptoSaid' is the law's where the arguments, and the package variables that the reading takes, are together of bulk at most 1048576: NARROWER than '..Said'. Prove '..Said' where nothing that the law and all that it calls make is longer than what came in: it says more and counts as full. Else prove '..UptoSaid'. A law counts once. -/
mutual
def uptoBulk {H : Type} : DataW H → Nat
  | .lit (.string bytes) => bytes.length + 1
  | .lit _ => 1
  | .nil => 1
  | .ptr d => uptoBulk d + 1
  | .slice elems spare => uptoBulkAll elems + uptoBulkAll spare + 1
  | .agg parts => uptoBulkAll parts + 1
  | .iface _ d => uptoBulk d + 1
  | .map entries => uptoBulkEntries entries + 1
  | .held _ => 1
def uptoBulkAll {H : Type} : List (DataW H) → Nat
  | [] => 0
  | d :: r => uptoBulk d + uptoBulkAll r
def uptoBulkEntries {H : Type} : List (Lit × DataW H) → Nat
  | [] => 0
  | x :: r => uptoBulkEntry x + uptoBulkEntries r
def uptoBulkEntry {H : Type} : Lit × DataW H → Nat
  | (.string bytes, d) => bytes.length + uptoBulk d + 1
  | (_, d) => uptoBulk d + 1
 end
def uptoSmall : (H : Type) → List (DataW H) → Bool := fun _ ds => decide (uptoBulkAll ds ≤ 1048576)
def OpenSpec.upto (s : _root_.Go.ChangeSpec) : _root_.Go.OpenSpec := { _root_.Go.OpenSpec.ofChange s with cond := some uptoSmall }

/-- 'laws.FnEndsOf', WHERE WHAT IT READS IS OF BULK AT MOST 1048576: true; the input reads as it did. -/
def fnEndsOfUptoRow : OpenClaim := { program := "ytgcchpabmkdkhad", sum := "b6fc495747d9e3fb79e46f0fdeb4b89c29bd4d53acbf02b2e731a7a7c61f415a", func := "loop.example/piecesonboards/laws.FnEndsOf", spec := "fnEndsOf", unfollowed := true, recurses := true, apart := false, narrowed := true }
def FnEndsOfUptoSaid : Prop := fnEndsOfUptoRow.holds Try.pinned (OpenSpec.upto fnEndsOfSpec)

/-- 'laws.FnCountQueens', WHERE WHAT IT READS IS OF BULK AT MOST 1048576: true; the input reads as it did. -/
def fnCountQueensUptoRow : OpenClaim := { program := "ytgcchpabmkdkhad", sum := "b6fc495747d9e3fb79e46f0fdeb4b89c29bd4d53acbf02b2e731a7a7c61f415a", func := "loop.example/piecesonboards/laws.FnCountQueens", spec := "fnCountQueens", unfollowed := true, recurses := true, apart := false, narrowed := true }
def FnCountQueensUptoSaid : Prop := fnCountQueensUptoRow.holds Try.pinned (OpenSpec.upto fnCountQueensSpec)

/-- 'laws.FnQueensAreRooks', WHERE WHAT IT READS IS OF BULK AT MOST 1048576: true; the input reads as it did. -/
def fnQueensAreRooksUptoRow : OpenClaim := { program := "ytgcchpabmkdkhad", sum := "b6fc495747d9e3fb79e46f0fdeb4b89c29bd4d53acbf02b2e731a7a7c61f415a", func := "loop.example/piecesonboards/laws.FnQueensAreRooks", spec := "fnQueensAreRooks", unfollowed := true, recurses := true, apart := false, narrowed := true }
def FnQueensAreRooksUptoSaid : Prop := fnQueensAreRooksUptoRow.holds Try.pinned (OpenSpec.upto fnQueensAreRooksSpec)

end Rows
end Go.Proofs.Ytgcchpabmkdkhad

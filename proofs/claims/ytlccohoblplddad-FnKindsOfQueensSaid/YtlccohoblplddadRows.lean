/-
  No cell of these rows narrows 'for every input' (looked for: loops, veiled, ifaces, maps, wideKeys, modest, calm, conditions, laid).
  DERIVED. THE GIVEN ROWS OF THIS SEAT. 4 by the template 'for every input the law returns true; each argument reads behind the call as it read before'; 0 by the template 'total and deterministic' (their statements: YtlccohoblplddadTotals.lean).
  GIVEN WITH THE SEED: the statements are not yours to turn. If you find one false, say at which input.
  Laid BY PROGRAM, IN A SANDBOX (cutbox-rows.mjs): the forced cells as the released guide's own fill.sh prints them over the translation 086856b803164aca… (all of the seat's roots in one cut). By AI agents, Wed Nov 11 2026. No macro, syntax, notation, axiom, sorry.
-/
import Derived.Test.YtlccohoblplddadChecked
import GoSem.Claim
import GoSem.ClaimJoined
import GoSem.ClaimMapViews
import Derived.JoinedTies
import Derived.KernelRfl
namespace Go.Proofs.Ytlccohoblplddad
/- THE CELL 'sum', in the pinned program and in every row, IS THE sha256 OF THE DUMP (.gsa) THAT YtlccohoblplddadProg.lean LOADS. Nothing in Lean hashes anything: it is a label: what it is worth is what the hold of that sum in a sandbox is worth. -/
noncomputable def Try.pinned : Pinned := { name := "ytlccohoblplddad", sum := "086856b803164acadeb4949049246c7fef8a4f404b9655c919a28eabd26ea158", checked := Try.checked }
namespace Rows
def none {H : Type} : Left H := { results := [], args := [] }

/-- 'laws.FnQueensOf': WHATEVER THE INPUT: true; the input reads as it did. -/
def fnQueensOfSpec : ChangeSpec := { name := "fnQueensOf", fn := fun _ => fun
  | [d] => { results := [.lit (.bool true)], args := [d] }
  | _ => none }
def fnQueensOfRow : OpenClaim := { program := "ytlccohoblplddad", sum := "086856b803164acadeb4949049246c7fef8a4f404b9655c919a28eabd26ea158", func := "loop.example/piecesonboards/laws.FnQueensOf", spec := "fnQueensOf", unfollowed := true, recurses := true, apart := false }
def FnQueensOfSaid : Prop := fnQueensOfRow.holds Try.pinned (OpenSpec.ofChange fnQueensOfSpec)

/-- ITS FALSE NEIGHBOUR: 'it returns false'. Refute it at one input. -/
def fnQueensOfWrong : ChangeSpec := { name := "fnQueensOf", fn := fun _ => fun
  | [d] => { results := [.lit (.bool false)], args := [d] }
  | _ => none }
def FnQueensOfWrongFalsely : Prop := fnQueensOfRow.holds Try.pinned (OpenSpec.ofChange fnQueensOfWrong)

/-- 'laws.FnCountQueens': WHATEVER THE INPUT: true; the input reads as it did. -/
def fnCountQueensSpec : ChangeSpec := { name := "fnCountQueens", fn := fun _ => fun
  | [d] => { results := [.lit (.bool true)], args := [d] }
  | _ => none }
def fnCountQueensRow : OpenClaim := { program := "ytlccohoblplddad", sum := "086856b803164acadeb4949049246c7fef8a4f404b9655c919a28eabd26ea158", func := "loop.example/piecesonboards/laws.FnCountQueens", spec := "fnCountQueens", unfollowed := true, recurses := true, apart := false }
def FnCountQueensSaid : Prop := fnCountQueensRow.holds Try.pinned (OpenSpec.ofChange fnCountQueensSpec)

/-- ITS FALSE NEIGHBOUR: 'it returns false'. Refute it at one input. -/
def fnCountQueensWrong : ChangeSpec := { name := "fnCountQueens", fn := fun _ => fun
  | [d] => { results := [.lit (.bool false)], args := [d] }
  | _ => none }
def FnCountQueensWrongFalsely : Prop := fnCountQueensRow.holds Try.pinned (OpenSpec.ofChange fnCountQueensWrong)

/-- 'laws.FnKindsOfQueens': WHATEVER THE INPUT: true; the input reads as it did. -/
def fnKindsOfQueensSpec : ChangeSpec := { name := "fnKindsOfQueens", fn := fun _ => fun
  | [d] => { results := [.lit (.bool true)], args := [d] }
  | _ => none }
def fnKindsOfQueensRow : OpenClaim := { program := "ytlccohoblplddad", sum := "086856b803164acadeb4949049246c7fef8a4f404b9655c919a28eabd26ea158", func := "loop.example/piecesonboards/laws.FnKindsOfQueens", spec := "fnKindsOfQueens", unfollowed := true, recurses := true, apart := false }
def FnKindsOfQueensSaid : Prop := fnKindsOfQueensRow.holds Try.pinned (OpenSpec.ofChange fnKindsOfQueensSpec)

/-- ITS FALSE NEIGHBOUR: 'it returns false'. Refute it at one input. -/
def fnKindsOfQueensWrong : ChangeSpec := { name := "fnKindsOfQueens", fn := fun _ => fun
  | [d] => { results := [.lit (.bool false)], args := [d] }
  | _ => none }
def FnKindsOfQueensWrongFalsely : Prop := fnKindsOfQueensRow.holds Try.pinned (OpenSpec.ofChange fnKindsOfQueensWrong)

/-- 'laws.FnQueensAreRooks': WHATEVER THE INPUT: true; the input reads as it did. -/
def fnQueensAreRooksSpec : ChangeSpec := { name := "fnQueensAreRooks", fn := fun _ => fun
  | [d] => { results := [.lit (.bool true)], args := [d] }
  | _ => none }
def fnQueensAreRooksRow : OpenClaim := { program := "ytlccohoblplddad", sum := "086856b803164acadeb4949049246c7fef8a4f404b9655c919a28eabd26ea158", func := "loop.example/piecesonboards/laws.FnQueensAreRooks", spec := "fnQueensAreRooks", unfollowed := true, recurses := true, apart := false }
def FnQueensAreRooksSaid : Prop := fnQueensAreRooksRow.holds Try.pinned (OpenSpec.ofChange fnQueensAreRooksSpec)

/-- ITS FALSE NEIGHBOUR: 'it returns false'. Refute it at one input. -/
def fnQueensAreRooksWrong : ChangeSpec := { name := "fnQueensAreRooks", fn := fun _ => fun
  | [d] => { results := [.lit (.bool false)], args := [d] }
  | _ => none }
def FnQueensAreRooksWrongFalsely : Prop := fnQueensAreRooksRow.holds Try.pinned (OpenSpec.ofChange fnQueensAreRooksWrong)

/- THE SECOND FORM. 'bulk': how many values and letters a reading holds, each counted each time it is reached (what is shared counts as often as it is met; a slice's spare places count too). A statement '..UptoSaid' is the law's where the arguments, and the package variables that the reading takes, are together of bulk at most 1048576: NARROWER than '..Said'. Prove '..Said' where nothing that the law and all that it calls make is longer than what came in: it says more and counts as full. Else prove '..UptoSaid'. A law counts once. -/
mutual
def uptoBulk {H : Type} : DataW H → Nat
  | .lit (.string bytes) => bytes.length + 1
  | .lit _ => 1
  | .nil => 1
  | .ptr d => uptoBulk d + 1
  | .slice elems spare => uptoBulkAll elems + uptoBulkAll spare + 1
  | .agg parts => uptoBulkAll parts + 1
  | .iface _ d => uptoBulk d + 1
  | .map entries => uptoBulkEntries entries + 1
  | .held _ => 1
def uptoBulkAll {H : Type} : List (DataW H) → Nat
  | [] => 0
  | d :: r => uptoBulk d + uptoBulkAll r
def uptoBulkEntries {H : Type} : List (Lit × DataW H) → Nat
  | [] => 0
  | x :: r => uptoBulkEntry x + uptoBulkEntries r
def uptoBulkEntry {H : Type} : Lit × DataW H → Nat
  | (.string bytes, d) => bytes.length + uptoBulk d + 1
  | (_, d) => uptoBulk d + 1
 end
def uptoSmall : (H : Type) → List (DataW H) → Bool := fun _ ds => decide (uptoBulkAll ds ≤ 1048576)
def OpenSpec.upto (s : _root_.Go.ChangeSpec) : _root_.Go.OpenSpec := { _root_.Go.OpenSpec.ofChange s with cond := some uptoSmall }

/-- 'laws.FnQueensOf', WHERE WHAT IT READS IS OF BULK AT MOST 1048576: true; the input reads as it did. -/
def fnQueensOfUptoRow : OpenClaim := { program := "ytlccohoblplddad", sum := "086856b803164acadeb4949049246c7fef8a4f404b9655c919a28eabd26ea158", func := "loop.example/piecesonboards/laws.FnQueensOf", spec := "fnQueensOf", unfollowed := true, recurses := true, apart := false, narrowed := true }
def FnQueensOfUptoSaid : Prop := fnQueensOfUptoRow.holds Try.pinned (OpenSpec.upto fnQueensOfSpec)

/-- 'laws.FnCountQueens', WHERE WHAT IT READS IS OF BULK AT MOST 1048576: true; the input reads as it did. -/
def fnCountQueensUptoRow : OpenClaim := { program := "ytlccohoblplddad", sum := "086856b803164acadeb4949049246c7fef8a4f404b9655c919a28eabd26ea158", func := "loop.example/piecesonboards/laws.FnCountQueens", spec := "fnCountQueens", unfollowed := true, recurses := true, apart := false, narrowed := true }
def FnCountQueensUptoSaid : Prop := fnCountQueensUptoRow.holds Try.pinned (OpenSpec.upto fnCountQueensSpec)

/-- 'laws.FnKindsOfQueens', WHERE WHAT IT READS IS OF BULK AT MOST 1048576: true; the input reads as it did. -/
def fnKindsOfQueensUptoRow : OpenClaim := { program := "ytlccohoblplddad", sum := "086856b803164acadeb4949049246c7fef8a4f404b9655c919a28eabd26ea158", func := "loop.example/piecesonboards/laws.FnKindsOfQueens", spec := "fnKindsOfQueens", unfollowed := true, recurses := true, apart := false, narrowed := true }
def FnKindsOfQueensUptoSaid : Prop := fnKindsOfQueensUptoRow.holds Try.pinned (OpenSpec.upto fnKindsOfQueensSpec)

/-- 'laws.FnQueensAreRooks', WHERE WHAT IT READS IS OF BULK AT MOST 1048576: true; the input reads as it did. -/
def fnQueensAreRooksUptoRow : OpenClaim := { program := "ytlccohoblplddad", sum := "086856b803164acadeb4949049246c7fef8a4f404b9655c919a28eabd26ea158", func := "loop.example/piecesonboards/laws.FnQueensAreRooks", spec := "fnQueensAreRooks", unfollowed := true, recurses := true, apart := false, narrowed := true }
def FnQueensAreRooksUptoSaid : Prop := fnQueensAreRooksUptoRow.holds Try.pinned (OpenSpec.upto fnQueensAreRooksSpec)

end Rows
end Go.Proofs.Ytlccohoblplddad

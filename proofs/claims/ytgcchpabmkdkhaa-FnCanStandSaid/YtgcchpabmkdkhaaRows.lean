/-
  No cell of these rows narrows 'for every input' (looked for: loops, veiled, ifaces, maps, wideKeys, modest, calm, conditions, laid).
  DERIVED. THE GIVEN ROWS OF THIS SEAT. 3 by the template 'for every input the law returns true; each argument reads behind the call as it read before'; 0 by the template 'total and deterministic' (their statements: YtgcchpabmkdkhaaTotals.lean).
  GIVEN WITH THE SEED: the statements are not yours to turn. If you find one false, say at which input.
  Laid BY PROGRAM, IN A SANDBOX (cutbox-rows.mjs): the forced cells as the released guide's own fill.sh prints them over the translation e1edefba8e532b6b… (all of the seat's roots in one cut). By AI agents, Wed Nov 11 2026. No macro, syntax, notation, axiom, sorry.
-/
import Derived.Test.YtgcchpabmkdkhaaChecked
import GoSem.Claim
import GoSem.ClaimJoined
import GoSem.ClaimMapViews
import Derived.JoinedTies
import Derived.KernelRfl
namespace Go.Proofs.Ytgcchpabmkdkhaa
/- THE CELL 'sum', in the pinned program and in every row, IS THE sha256 OF THE DUMP (.gsa) THAT YtgcchpabmkdkhaaProg.lean LOADS. Nothing in Lean hashes anything: it is a label: what it is worth is what the hold of that sum in a sandbox is worth. -/
noncomputable def Try.pinned : Pinned := { name := "ytgcchpabmkdkhaa", sum := "e1edefba8e532b6b27389ed6e6b660455576f05ce7daa15091460515b52d834b", checked := Try.checked }
namespace Rows
def none {H : Type} : Left H := { results := [], args := [] }

/-- 'laws.FnCanStand': WHATEVER THE INPUT: true; the input reads as it did. -/
def fnCanStandSpec : ChangeSpec := { name := "fnCanStand", fn := fun _ => fun
  | [d] => { results := [.lit (.bool true)], args := [d] }
  | _ => none }
def fnCanStandRow : OpenClaim := { program := "ytgcchpabmkdkhaa", sum := "e1edefba8e532b6b27389ed6e6b660455576f05ce7daa15091460515b52d834b", func := "loop.example/piecesonboards/laws.FnCanStand", spec := "fnCanStand", apart := false }
def FnCanStandSaid : Prop := fnCanStandRow.holds Try.pinned (OpenSpec.ofChange fnCanStandSpec)

/-- ITS FALSE NEIGHBOUR: 'it returns false'. Refute it at one input. -/
def fnCanStandWrong : ChangeSpec := { name := "fnCanStand", fn := fun _ => fun
  | [d] => { results := [.lit (.bool false)], args := [d] }
  | _ => none }
def FnCanStandWrongFalsely : Prop := fnCanStandRow.holds Try.pinned (OpenSpec.ofChange fnCanStandWrong)

/-- 'laws.FnExactCanStand': WHATEVER THE INPUT: true; the input reads as it did. -/
def fnExactCanStandSpec : ChangeSpec := { name := "fnExactCanStand", fn := fun _ => fun
  | [d1, d2] => { results := [.lit (.bool true)], args := [d1, d2] }
  | _ => none }
def fnExactCanStandRow : OpenClaim := { program := "ytgcchpabmkdkhaa", sum := "e1edefba8e532b6b27389ed6e6b660455576f05ce7daa15091460515b52d834b", func := "loop.example/piecesonboards/laws.FnExactCanStand", spec := "fnExactCanStand", apart := false }
def FnExactCanStandSaid : Prop := fnExactCanStandRow.holds Try.pinned (OpenSpec.ofChange fnExactCanStandSpec)

/-- ITS FALSE NEIGHBOUR: 'it returns false'. Refute it at one input. -/
def fnExactCanStandWrong : ChangeSpec := { name := "fnExactCanStand", fn := fun _ => fun
  | [d1, d2] => { results := [.lit (.bool false)], args := [d1, d2] }
  | _ => none }
def FnExactCanStandWrongFalsely : Prop := fnExactCanStandRow.holds Try.pinned (OpenSpec.ofChange fnExactCanStandWrong)

/-- 'laws.FnExactCountQueens': WHATEVER THE INPUT: true; the input reads as it did. -/
def fnExactCountQueensSpec : ChangeSpec := { name := "fnExactCountQueens", fn := fun _ => fun
  | [d] => { results := [.lit (.bool true)], args := [d] }
  | _ => none }
def fnExactCountQueensRow : OpenClaim := { program := "ytgcchpabmkdkhaa", sum := "e1edefba8e532b6b27389ed6e6b660455576f05ce7daa15091460515b52d834b", func := "loop.example/piecesonboards/laws.FnExactCountQueens", spec := "fnExactCountQueens", recurses := true, apart := false }
def FnExactCountQueensSaid : Prop := fnExactCountQueensRow.holds Try.pinned (OpenSpec.ofChange fnExactCountQueensSpec)

/-- ITS FALSE NEIGHBOUR: 'it returns false'. Refute it at one input. -/
def fnExactCountQueensWrong : ChangeSpec := { name := "fnExactCountQueens", fn := fun _ => fun
  | [d] => { results := [.lit (.bool false)], args := [d] }
  | _ => none }
def FnExactCountQueensWrongFalsely : Prop := fnExactCountQueensRow.holds Try.pinned (OpenSpec.ofChange fnExactCountQueensWrong)

/- THE SECOND FORM. 'bulk': how many values and letters a reading holds, each counted each time it is reached (what is shared counts as often as it is met; a slice's spare places count too). A statement '..UptoSaid' is the law's where the arguments, and the package variables that the reading takes, are together of bulk at most 1048576: NARROWER than '..Said'. Prove '..Said' where nothing that the law and all that it calls make is longer than what came in: it says more and counts as full. Else prove '..UptoSaid'. A law counts once. -/
mutual
def uptoBulk {H : Type} : DataW H → Nat
  | .lit (.string bytes) => bytes.length + 1
  | .lit _ => 1
  | .nil => 1
  | .ptr d => uptoBulk d + 1
  | .slice elems spare => uptoBulkAll elems + uptoBulkAll spare + 1
  | .agg parts => uptoBulkAll parts + 1
  | .iface _ d => uptoBulk d + 1
  | .map entries => uptoBulkEntries entries + 1
  | .held _ => 1
def uptoBulkAll {H : Type} : List (DataW H) → Nat
  | [] => 0
  | d :: r => uptoBulk d + uptoBulkAll r
def uptoBulkEntries {H : Type} : List (Lit × DataW H) → Nat
  | [] => 0
  | x :: r => uptoBulkEntry x + uptoBulkEntries r
def uptoBulkEntry {H : Type} : Lit × DataW H → Nat
  | (.string bytes, d) => bytes.length + uptoBulk d + 1
  | (_, d) => uptoBulk d + 1
 end
def uptoSmall : (H : Type) → List (DataW H) → Bool := fun _ ds => decide (uptoBulkAll ds ≤ 1048576)
def OpenSpec.upto (s : _root_.Go.ChangeSpec) : _root_.Go.OpenSpec := { _root_.Go.OpenSpec.ofChange s with cond := some uptoSmall }

/-- 'laws.FnCanStand', WHERE WHAT IT READS IS OF BULK AT MOST 1048576: true; the input reads as it did. -/
def fnCanStandUptoRow : OpenClaim := { program := "ytgcchpabmkdkhaa", sum := "e1edefba8e532b6b27389ed6e6b660455576f05ce7daa15091460515b52d834b", func := "loop.example/piecesonboards/laws.FnCanStand", spec := "fnCanStand", apart := false, narrowed := true }
def FnCanStandUptoSaid : Prop := fnCanStandUptoRow.holds Try.pinned (OpenSpec.upto fnCanStandSpec)

/-- 'laws.FnExactCanStand', WHERE WHAT IT READS IS OF BULK AT MOST 1048576: true; the input reads as it did. -/
def fnExactCanStandUptoRow : OpenClaim := { program := "ytgcchpabmkdkhaa", sum := "e1edefba8e532b6b27389ed6e6b660455576f05ce7daa15091460515b52d834b", func := "loop.example/piecesonboards/laws.FnExactCanStand", spec := "fnExactCanStand", apart := false, narrowed := true }
def FnExactCanStandUptoSaid : Prop := fnExactCanStandUptoRow.holds Try.pinned (OpenSpec.upto fnExactCanStandSpec)

/-- 'laws.FnExactCountQueens', WHERE WHAT IT READS IS OF BULK AT MOST 1048576: true; the input reads as it did. -/
def fnExactCountQueensUptoRow : OpenClaim := { program := "ytgcchpabmkdkhaa", sum := "e1edefba8e532b6b27389ed6e6b660455576f05ce7daa15091460515b52d834b", func := "loop.example/piecesonboards/laws.FnExactCountQueens", spec := "fnExactCountQueens", recurses := true, apart := false, narrowed := true }
def FnExactCountQueensUptoSaid : Prop := fnExactCountQueensUptoRow.holds Try.pinned (OpenSpec.upto fnExactCountQueensSpec)

end Rows
end Go.Proofs.Ytgcchpabmkdkhaa

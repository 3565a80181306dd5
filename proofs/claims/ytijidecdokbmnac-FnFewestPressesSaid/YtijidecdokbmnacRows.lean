/-
  No cell of these rows narrows 'for every input' (looked for: loops, veiled, ifaces, maps, wideKeys, modest, calm, conditions, laid).
  DERIVED. THE GIVEN ROWS OF THIS SEAT. 4 by the template 'for every input the law returns true; each argument reads behind the call as it read before'; 0 by the template 'total and deterministic' (their statements: YtijidecdokbmnacTotals.lean).
  GIVEN WITH THE SEED: the statements are not yours to turn. If you find one false, say at which input.
  Laid BY PROGRAM, IN A SANDBOX (cutbox-rows.mjs): the forced cells as the released guide's own fill.sh prints them over the translation 8d2bb8ccd4a1b2fa… (all of the seat's roots in one cut). By AI agents, Wed Nov 11 2026. No macro, syntax, notation, axiom, sorry.
-/
import Derived.Test.YtijidecdokbmnacChecked
import GoSem.Claim
import GoSem.ClaimJoined
import GoSem.ClaimMapViews
import Derived.JoinedTies
import Derived.KernelRfl
namespace Go.Proofs.Ytijidecdokbmnac
/- THE CELL 'sum', in the pinned program and in every row, IS THE sha256 OF THE DUMP (.gsa) THAT YtijidecdokbmnacProg.lean LOADS. Nothing in Lean hashes anything: it is a label: what it is worth is what the hold of that sum in a sandbox is worth. -/
noncomputable def Try.pinned : Pinned := { name := "ytijidecdokbmnac", sum := "8d2bb8ccd4a1b2fa47b0222cf58c1b41a108a9f16935227bec25be5ef8f0dfe1", checked := Try.checked }
namespace Rows
def none {H : Type} : Left H := { results := [], args := [] }

/-- 'laws.FnExactCanDarken': WHATEVER THE INPUT: true; the input reads as it did. -/
def fnExactCanDarkenSpec : ChangeSpec := { name := "fnExactCanDarken", fn := fun _ => fun
  | [d1, d2, d3] => { results := [.lit (.bool true)], args := [d1, d2, d3] }
  | _ => none }
def fnExactCanDarkenRow : OpenClaim := { program := "ytijidecdokbmnac", sum := "8d2bb8ccd4a1b2fa47b0222cf58c1b41a108a9f16935227bec25be5ef8f0dfe1", func := "loop.example/piecesonboards/laws.FnExactCanDarken", spec := "fnExactCanDarken", unfollowed := true, recurses := true, apart := false }
def FnExactCanDarkenSaid : Prop := fnExactCanDarkenRow.holds Try.pinned (OpenSpec.ofChange fnExactCanDarkenSpec)

/-- ITS FALSE NEIGHBOUR: 'it returns false'. Refute it at one input. -/
def fnExactCanDarkenWrong : ChangeSpec := { name := "fnExactCanDarken", fn := fun _ => fun
  | [d1, d2, d3] => { results := [.lit (.bool false)], args := [d1, d2, d3] }
  | _ => none }
def FnExactCanDarkenWrongFalsely : Prop := fnExactCanDarkenRow.holds Try.pinned (OpenSpec.ofChange fnExactCanDarkenWrong)

/-- 'laws.FnExactFewestPresses': WHATEVER THE INPUT: true; the input reads as it did. -/
def fnExactFewestPressesSpec : ChangeSpec := { name := "fnExactFewestPresses", fn := fun _ => fun
  | [d1, d2, d3] => { results := [.lit (.bool true)], args := [d1, d2, d3] }
  | _ => none }
def fnExactFewestPressesRow : OpenClaim := { program := "ytijidecdokbmnac", sum := "8d2bb8ccd4a1b2fa47b0222cf58c1b41a108a9f16935227bec25be5ef8f0dfe1", func := "loop.example/piecesonboards/laws.FnExactFewestPresses", spec := "fnExactFewestPresses", unfollowed := true, recurses := true, apart := false }
def FnExactFewestPressesSaid : Prop := fnExactFewestPressesRow.holds Try.pinned (OpenSpec.ofChange fnExactFewestPressesSpec)

/-- ITS FALSE NEIGHBOUR: 'it returns false'. Refute it at one input. -/
def fnExactFewestPressesWrong : ChangeSpec := { name := "fnExactFewestPresses", fn := fun _ => fun
  | [d1, d2, d3] => { results := [.lit (.bool false)], args := [d1, d2, d3] }
  | _ => none }
def FnExactFewestPressesWrongFalsely : Prop := fnExactFewestPressesRow.holds Try.pinned (OpenSpec.ofChange fnExactFewestPressesWrong)

/-- 'laws.FnCanDarken': WHATEVER THE INPUT: true; the input reads as it did. -/
def fnCanDarkenSpec : ChangeSpec := { name := "fnCanDarken", fn := fun _ => fun
  | [d] => { results := [.lit (.bool true)], args := [d] }
  | _ => none }
def fnCanDarkenRow : OpenClaim := { program := "ytijidecdokbmnac", sum := "8d2bb8ccd4a1b2fa47b0222cf58c1b41a108a9f16935227bec25be5ef8f0dfe1", func := "loop.example/piecesonboards/laws.FnCanDarken", spec := "fnCanDarken", unfollowed := true, recurses := true, apart := false }
def FnCanDarkenSaid : Prop := fnCanDarkenRow.holds Try.pinned (OpenSpec.ofChange fnCanDarkenSpec)

/-- ITS FALSE NEIGHBOUR: 'it returns false'. Refute it at one input. -/
def fnCanDarkenWrong : ChangeSpec := { name := "fnCanDarken", fn := fun _ => fun
  | [d] => { results := [.lit (.bool false)], args := [d] }
  | _ => none }
def FnCanDarkenWrongFalsely : Prop := fnCanDarkenRow.holds Try.pinned (OpenSpec.ofChange fnCanDarkenWrong)

/-- 'laws.FnFewestPresses': WHATEVER THE INPUT: true; the input reads as it did. -/
def fnFewestPressesSpec : ChangeSpec := { name := "fnFewestPresses", fn := fun _ => fun
  | [d] => { results := [.lit (.bool true)], args := [d] }
  | _ => none }
def fnFewestPressesRow : OpenClaim := { program := "ytijidecdokbmnac", sum := "8d2bb8ccd4a1b2fa47b0222cf58c1b41a108a9f16935227bec25be5ef8f0dfe1", func := "loop.example/piecesonboards/laws.FnFewestPresses", spec := "fnFewestPresses", unfollowed := true, recurses := true, apart := false }
def FnFewestPressesSaid : Prop := fnFewestPressesRow.holds Try.pinned (OpenSpec.ofChange fnFewestPressesSpec)

/-- ITS FALSE NEIGHBOUR: 'it returns false'. Refute it at one input. -/
def fnFewestPressesWrong : ChangeSpec := { name := "fnFewestPresses", fn := fun _ => fun
  | [d] => { results := [.lit (.bool false)], args := [d] }
  | _ => none }
def FnFewestPressesWrongFalsely : Prop := fnFewestPressesRow.holds Try.pinned (OpenSpec.ofChange fnFewestPressesWrong)

/- THE SECOND FORM. 'bulk': how many values and letters a reading holds, each counted each time it is reached (what is shared counts as often as it is met; a slice's spare places count too). A statement '..UptoSaid' is the law's where the arguments, and the package variables that the reading takes, are together of bulk at most 1048576: NARROWER than '..Said'. Prove '..Said' where nothing that the law and all that it calls make is longer than what came in: it says more and counts as full. Else prove '..UptoSaid'. A law counts once. -/
mutual
def uptoBulk {H : Type} : DataW H → Nat
  | .lit (.string bytes) => bytes.length + 1
  | .lit _ => 1
  | .nil => 1
  | .ptr d => uptoBulk d + 1
  | .slice elems spare => uptoBulkAll elems + uptoBulkAll spare + 1
  | .agg parts => uptoBulkAll parts + 1
  | .iface _ d => uptoBulk d + 1
  | .map entries => uptoBulkEntries entries + 1
  | .held _ => 1
def uptoBulkAll {H : Type} : List (DataW H) → Nat
  | [] => 0
  | d :: r => uptoBulk d + uptoBulkAll r
def uptoBulkEntries {H : Type} : List (Lit × DataW H) → Nat
  | [] => 0
  | x :: r => uptoBulkEntry x + uptoBulkEntries r
def uptoBulkEntry {H : Type} : Lit × DataW H → Nat
  | (.string bytes, d) => bytes.length + uptoBulk d + 1
  | (_, d) => uptoBulk d + 1
 end
def uptoSmall : (H : Type) → List (DataW H) → Bool := fun _ ds => decide (uptoBulkAll ds ≤ 1048576)
def OpenSpec.upto (s : _root_.Go.ChangeSpec) : _root_.Go.OpenSpec := { _root_.Go.OpenSpec.ofChange s with cond := some uptoSmall }

/-- 'laws.FnExactCanDarken', WHERE WHAT IT READS IS OF BULK AT MOST 1048576: true; the input reads as it did. -/
def fnExactCanDarkenUptoRow : OpenClaim := { program := "ytijidecdokbmnac", sum := "8d2bb8ccd4a1b2fa47b0222cf58c1b41a108a9f16935227bec25be5ef8f0dfe1", func := "loop.example/piecesonboards/laws.FnExactCanDarken", spec := "fnExactCanDarken", unfollowed := true, recurses := true, apart := false, narrowed := true }
def FnExactCanDarkenUptoSaid : Prop := fnExactCanDarkenUptoRow.holds Try.pinned (OpenSpec.upto fnExactCanDarkenSpec)

/-- 'laws.FnExactFewestPresses', WHERE WHAT IT READS IS OF BULK AT MOST 1048576: true; the input reads as it did. -/
def fnExactFewestPressesUptoRow : OpenClaim := { program := "ytijidecdokbmnac", sum := "8d2bb8ccd4a1b2fa47b0222cf58c1b41a108a9f16935227bec25be5ef8f0dfe1", func := "loop.example/piecesonboards/laws.FnExactFewestPresses", spec := "fnExactFewestPresses", unfollowed := true, recurses := true, apart := false, narrowed := true }
def FnExactFewestPressesUptoSaid : Prop := fnExactFewestPressesUptoRow.holds Try.pinned (OpenSpec.upto fnExactFewestPressesSpec)

/-- 'laws.FnCanDarken', WHERE WHAT IT READS IS OF BULK AT MOST 1048576: true; the input reads as it did. -/
def fnCanDarkenUptoRow : OpenClaim := { program := "ytijidecdokbmnac", sum := "8d2bb8ccd4a1b2fa47b0222cf58c1b41a108a9f16935227bec25be5ef8f0dfe1", func := "loop.example/piecesonboards/laws.FnCanDarken", spec := "fnCanDarken", unfollowed := true, recurses := true, apart := false, narrowed := true }
def FnCanDarkenUptoSaid : Prop := fnCanDarkenUptoRow.holds Try.pinned (OpenSpec.upto fnCanDarkenSpec)

/-- 'laws.FnFewestPresses', WHERE WHAT IT READS IS OF BULK AT MOST 1048576: true; the input reads as it did. -/
def fnFewestPressesUptoRow : OpenClaim := { program := "ytijidecdokbmnac", sum := "8d2bb8ccd4a1b2fa47b0222cf58c1b41a108a9f16935227bec25be5ef8f0dfe1", func := "loop.example/piecesonboards/laws.FnFewestPresses", spec := "fnFewestPresses", unfollowed := true, recurses := true, apart := false, narrowed := true }
def FnFewestPressesUptoSaid : Prop := fnFewestPressesUptoRow.holds Try.pinned (OpenSpec.upto fnFewestPressesSpec)

end Rows
end Go.Proofs.Ytijidecdokbmnac

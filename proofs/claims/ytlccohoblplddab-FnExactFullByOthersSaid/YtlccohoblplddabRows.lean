/-
  No cell of these rows narrows 'for every input' (looked for: loops, veiled, ifaces, maps, wideKeys, modest, calm, conditions, laid).
  DERIVED. THE GIVEN ROWS OF THIS SEAT. 4 by the template 'for every input the law returns true; each argument reads behind the call as it read before'; 0 by the template 'total and deterministic' (their statements: YtlccohoblplddabTotals.lean).
  GIVEN WITH THE SEED: the statements are not yours to turn. If you find one false, say at which input.
  Laid BY PROGRAM, IN A SANDBOX (cutbox-rows.mjs): the forced cells as the released guide's own fill.sh prints them over the translation 3121189a22193fdf… (all of the seat's roots in one cut). By AI agents, Wed Nov 11 2026. No macro, syntax, notation, axiom, sorry.
-/
import Derived.Test.YtlccohoblplddabChecked
import GoSem.Claim
import GoSem.ClaimJoined
import GoSem.ClaimMapViews
import Derived.JoinedTies
import Derived.KernelRfl
namespace Go.Proofs.Ytlccohoblplddab
/- THE CELL 'sum', in the pinned program and in every row, IS THE sha256 OF THE DUMP (.gsa) THAT YtlccohoblplddabProg.lean LOADS. Nothing in Lean hashes anything: it is a label: what it is worth is what the hold of that sum in a sandbox is worth. -/
noncomputable def Try.pinned : Pinned := { name := "ytlccohoblplddab", sum := "3121189a22193fdf6096dd262588efe7c9867075ee2232f96bd3c6af042f233a", checked := Try.checked }
namespace Rows
def none {H : Type} : Left H := { results := [], args := [] }

/-- 'laws.FnExactFullByOthers': WHATEVER THE INPUT: true; the input reads as it did. -/
def fnExactFullByOthersSpec : ChangeSpec := { name := "fnExactFullByOthers", fn := fun _ => fun
  | [d] => { results := [.lit (.bool true)], args := [d] }
  | _ => none }
def fnExactFullByOthersRow : OpenClaim := { program := "ytlccohoblplddab", sum := "3121189a22193fdf6096dd262588efe7c9867075ee2232f96bd3c6af042f233a", func := "loop.example/piecesonboards/laws.FnExactFullByOthers", spec := "fnExactFullByOthers", recurses := true, apart := false }
def FnExactFullByOthersSaid : Prop := fnExactFullByOthersRow.holds Try.pinned (OpenSpec.ofChange fnExactFullByOthersSpec)

/-- ITS FALSE NEIGHBOUR: 'it returns false'. Refute it at one input. -/
def fnExactFullByOthersWrong : ChangeSpec := { name := "fnExactFullByOthers", fn := fun _ => fun
  | [d] => { results := [.lit (.bool false)], args := [d] }
  | _ => none }
def FnExactFullByOthersWrongFalsely : Prop := fnExactFullByOthersRow.holds Try.pinned (OpenSpec.ofChange fnExactFullByOthersWrong)

/-- 'laws.FnFullByOthers': WHATEVER THE INPUT: true; the input reads as it did. -/
def fnFullByOthersSpec : ChangeSpec := { name := "fnFullByOthers", fn := fun _ => fun
  | [d] => { results := [.lit (.bool true)], args := [d] }
  | _ => none }
def fnFullByOthersRow : OpenClaim := { program := "ytlccohoblplddab", sum := "3121189a22193fdf6096dd262588efe7c9867075ee2232f96bd3c6af042f233a", func := "loop.example/piecesonboards/laws.FnFullByOthers", spec := "fnFullByOthers", recurses := true, apart := false }
def FnFullByOthersSaid : Prop := fnFullByOthersRow.holds Try.pinned (OpenSpec.ofChange fnFullByOthersSpec)

/-- ITS FALSE NEIGHBOUR: 'it returns false'. Refute it at one input. -/
def fnFullByOthersWrong : ChangeSpec := { name := "fnFullByOthers", fn := fun _ => fun
  | [d] => { results := [.lit (.bool false)], args := [d] }
  | _ => none }
def FnFullByOthersWrongFalsely : Prop := fnFullByOthersRow.holds Try.pinned (OpenSpec.ofChange fnFullByOthersWrong)

/-- 'laws.FnOtherSeats': WHATEVER THE INPUT: true; the input reads as it did. -/
def fnOtherSeatsSpec : ChangeSpec := { name := "fnOtherSeats", fn := fun _ => fun
  | [d] => { results := [.lit (.bool true)], args := [d] }
  | _ => none }
def fnOtherSeatsRow : OpenClaim := { program := "ytlccohoblplddab", sum := "3121189a22193fdf6096dd262588efe7c9867075ee2232f96bd3c6af042f233a", func := "loop.example/piecesonboards/laws.FnOtherSeats", spec := "fnOtherSeats", apart := false }
def FnOtherSeatsSaid : Prop := fnOtherSeatsRow.holds Try.pinned (OpenSpec.ofChange fnOtherSeatsSpec)

/-- ITS FALSE NEIGHBOUR: 'it returns false'. Refute it at one input. -/
def fnOtherSeatsWrong : ChangeSpec := { name := "fnOtherSeats", fn := fun _ => fun
  | [d] => { results := [.lit (.bool false)], args := [d] }
  | _ => none }
def FnOtherSeatsWrongFalsely : Prop := fnOtherSeatsRow.holds Try.pinned (OpenSpec.ofChange fnOtherSeatsWrong)

/-- 'laws.FnSeatsFilled': WHATEVER THE INPUT: true; the input reads as it did. -/
def fnSeatsFilledSpec : ChangeSpec := { name := "fnSeatsFilled", fn := fun _ => fun
  | [d] => { results := [.lit (.bool true)], args := [d] }
  | _ => none }
def fnSeatsFilledRow : OpenClaim := { program := "ytlccohoblplddab", sum := "3121189a22193fdf6096dd262588efe7c9867075ee2232f96bd3c6af042f233a", func := "loop.example/piecesonboards/laws.FnSeatsFilled", spec := "fnSeatsFilled", recurses := true, apart := false }
def FnSeatsFilledSaid : Prop := fnSeatsFilledRow.holds Try.pinned (OpenSpec.ofChange fnSeatsFilledSpec)

/-- ITS FALSE NEIGHBOUR: 'it returns false'. Refute it at one input. -/
def fnSeatsFilledWrong : ChangeSpec := { name := "fnSeatsFilled", fn := fun _ => fun
  | [d] => { results := [.lit (.bool false)], args := [d] }
  | _ => none }
def FnSeatsFilledWrongFalsely : Prop := fnSeatsFilledRow.holds Try.pinned (OpenSpec.ofChange fnSeatsFilledWrong)

/- THE SECOND FORM. 'bulk': how many values and letters a reading holds, each counted each time it is reached (what is shared counts as often as it is met; a slice's spare places count too). A statement '..UptoSaid' is the law's where the arguments, and the package variables that the reading takes, are together of bulk at most 1048576: NARROWER than '..Said'. Prove '..Said' where nothing that the law and all that it calls make is longer than what came in: it says more and counts as full. Else prove '..UptoSaid'. A law counts once. -/
mutual
def uptoBulk {H : Type} : DataW H → Nat
  | .lit (.string bytes) => bytes.length + 1
  | .lit _ => 1
  | .nil => 1
  | .ptr d => uptoBulk d + 1
  | .slice elems spare => uptoBulkAll elems + uptoBulkAll spare + 1
  | .agg parts => uptoBulkAll parts + 1
  | .iface _ d => uptoBulk d + 1
  | .map entries => uptoBulkEntries entries + 1
  | .held _ => 1
def uptoBulkAll {H : Type} : List (DataW H) → Nat
  | [] => 0
  | d :: r => uptoBulk d + uptoBulkAll r
def uptoBulkEntries {H : Type} : List (Lit × DataW H) → Nat
  | [] => 0
  | x :: r => uptoBulkEntry x + uptoBulkEntries r
def uptoBulkEntry {H : Type} : Lit × DataW H → Nat
  | (.string bytes, d) => bytes.length + uptoBulk d + 1
  | (_, d) => uptoBulk d + 1
 end
def uptoSmall : (H : Type) → List (DataW H) → Bool := fun _ ds => decide (uptoBulkAll ds ≤ 1048576)
def OpenSpec.upto (s : _root_.Go.ChangeSpec) : _root_.Go.OpenSpec := { _root_.Go.OpenSpec.ofChange s with cond := some uptoSmall }

/-- 'laws.FnExactFullByOthers', WHERE WHAT IT READS IS OF BULK AT MOST 1048576: true; the input reads as it did. -/
def fnExactFullByOthersUptoRow : OpenClaim := { program := "ytlccohoblplddab", sum := "3121189a22193fdf6096dd262588efe7c9867075ee2232f96bd3c6af042f233a", func := "loop.example/piecesonboards/laws.FnExactFullByOthers", spec := "fnExactFullByOthers", recurses := true, apart := false, narrowed := true }
def FnExactFullByOthersUptoSaid : Prop := fnExactFullByOthersUptoRow.holds Try.pinned (OpenSpec.upto fnExactFullByOthersSpec)

/-- 'laws.FnFullByOthers', WHERE WHAT IT READS IS OF BULK AT MOST 1048576: true; the input reads as it did. -/
def fnFullByOthersUptoRow : OpenClaim := { program := "ytlccohoblplddab", sum := "3121189a22193fdf6096dd262588efe7c9867075ee2232f96bd3c6af042f233a", func := "loop.example/piecesonboards/laws.FnFullByOthers", spec := "fnFullByOthers", recurses := true, apart := false, narrowed := true }
def FnFullByOthersUptoSaid : Prop := fnFullByOthersUptoRow.holds Try.pinned (OpenSpec.upto fnFullByOthersSpec)

/-- 'laws.FnOtherSeats', WHERE WHAT IT READS IS OF BULK AT MOST 1048576: true; the input reads as it did. -/
def fnOtherSeatsUptoRow : OpenClaim := { program := "ytlccohoblplddab", sum := "3121189a22193fdf6096dd262588efe7c9867075ee2232f96bd3c6af042f233a", func := "loop.example/piecesonboards/laws.FnOtherSeats", spec := "fnOtherSeats", apart := false, narrowed := true }
def FnOtherSeatsUptoSaid : Prop := fnOtherSeatsUptoRow.holds Try.pinned (OpenSpec.upto fnOtherSeatsSpec)

/-- 'laws.FnSeatsFilled', WHERE WHAT IT READS IS OF BULK AT MOST 1048576: true; the input reads as it did. -/
def fnSeatsFilledUptoRow : OpenClaim := { program := "ytlccohoblplddab", sum := "3121189a22193fdf6096dd262588efe7c9867075ee2232f96bd3c6af042f233a", func := "loop.example/piecesonboards/laws.FnSeatsFilled", spec := "fnSeatsFilled", recurses := true, apart := false, narrowed := true }
def FnSeatsFilledUptoSaid : Prop := fnSeatsFilledUptoRow.holds Try.pinned (OpenSpec.upto fnSeatsFilledSpec)

end Rows
end Go.Proofs.Ytlccohoblplddab

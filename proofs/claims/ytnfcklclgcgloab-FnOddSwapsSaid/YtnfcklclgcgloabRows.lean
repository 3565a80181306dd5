/-
  No cell of these rows narrows 'for every input' (looked for: loops, veiled, ifaces, maps, wideKeys, modest, calm, conditions, laid).
  DERIVED. THE GIVEN ROWS OF THIS SEAT. 3 by the template 'for every input the law returns true; each argument reads behind the call as it read before'; 0 by the template 'total and deterministic' (their statements: YtnfcklclgcgloabTotals.lean).
  GIVEN WITH THE SEED: the statements are not yours to turn. If you find one false, say at which input.
  Laid BY PROGRAM, IN A SANDBOX (cutbox-rows.mjs): the forced cells as the released guide's own fill.sh prints them over the translation 54a5f4ed111fcd84… (all of the seat's roots in one cut). By AI agents, Wed Nov 11 2026. No macro, syntax, notation, axiom, sorry.
-/
import Derived.Test.YtnfcklclgcgloabChecked
import GoSem.Claim
import GoSem.ClaimJoined
import GoSem.ClaimMapViews
import Derived.JoinedTies
import Derived.KernelRfl
namespace Go.Proofs.Ytnfcklclgcgloab
/- THE CELL 'sum', in the pinned program and in every row, IS THE sha256 OF THE DUMP (.gsa) THAT YtnfcklclgcgloabProg.lean LOADS. Nothing in Lean hashes anything: it is a label: what it is worth is what the hold of that sum in a sandbox is worth. -/
noncomputable def Try.pinned : Pinned := { name := "ytnfcklclgcgloab", sum := "54a5f4ed111fcd84e6b6ff42f65add847a2f91ca15e622d517e7439770fcdbcb", checked := Try.checked }
namespace Rows
def none {H : Type} : Left H := { results := [], args := [] }

/-- 'laws.FnValidSlide': WHATEVER THE INPUT: true; the input reads as it did. -/
def fnValidSlideSpec : ChangeSpec := { name := "fnValidSlide", fn := fun _ => fun
  | [d] => { results := [.lit (.bool true)], args := [d] }
  | _ => none }
def fnValidSlideRow : OpenClaim := { program := "ytnfcklclgcgloab", sum := "54a5f4ed111fcd84e6b6ff42f65add847a2f91ca15e622d517e7439770fcdbcb", func := "loop.example/piecesonboards/laws.FnValidSlide", spec := "fnValidSlide", apart := false }
def FnValidSlideSaid : Prop := fnValidSlideRow.holds Try.pinned (OpenSpec.ofChange fnValidSlideSpec)

/-- ITS FALSE NEIGHBOUR: 'it returns false'. Refute it at one input. -/
def fnValidSlideWrong : ChangeSpec := { name := "fnValidSlide", fn := fun _ => fun
  | [d] => { results := [.lit (.bool false)], args := [d] }
  | _ => none }
def FnValidSlideWrongFalsely : Prop := fnValidSlideRow.holds Try.pinned (OpenSpec.ofChange fnValidSlideWrong)

/-- 'laws.FnOddSwaps': WHATEVER THE INPUT: true; the input reads as it did. -/
def fnOddSwapsSpec : ChangeSpec := { name := "fnOddSwaps", fn := fun _ => fun
  | [d] => { results := [.lit (.bool true)], args := [d] }
  | _ => none }
def fnOddSwapsRow : OpenClaim := { program := "ytnfcklclgcgloab", sum := "54a5f4ed111fcd84e6b6ff42f65add847a2f91ca15e622d517e7439770fcdbcb", func := "loop.example/piecesonboards/laws.FnOddSwaps", spec := "fnOddSwaps", apart := false }
def FnOddSwapsSaid : Prop := fnOddSwapsRow.holds Try.pinned (OpenSpec.ofChange fnOddSwapsSpec)

/-- ITS FALSE NEIGHBOUR: 'it returns false'. Refute it at one input. -/
def fnOddSwapsWrong : ChangeSpec := { name := "fnOddSwaps", fn := fun _ => fun
  | [d] => { results := [.lit (.bool false)], args := [d] }
  | _ => none }
def FnOddSwapsWrongFalsely : Prop := fnOddSwapsRow.holds Try.pinned (OpenSpec.ofChange fnOddSwapsWrong)

/-- 'laws.FnCanSlide': WHATEVER THE INPUT: true; the input reads as it did. -/
def fnCanSlideSpec : ChangeSpec := { name := "fnCanSlide", fn := fun _ => fun
  | [d] => { results := [.lit (.bool true)], args := [d] }
  | _ => none }
def fnCanSlideRow : OpenClaim := { program := "ytnfcklclgcgloab", sum := "54a5f4ed111fcd84e6b6ff42f65add847a2f91ca15e622d517e7439770fcdbcb", func := "loop.example/piecesonboards/laws.FnCanSlide", spec := "fnCanSlide", apart := false }
def FnCanSlideSaid : Prop := fnCanSlideRow.holds Try.pinned (OpenSpec.ofChange fnCanSlideSpec)

/-- ITS FALSE NEIGHBOUR: 'it returns false'. Refute it at one input. -/
def fnCanSlideWrong : ChangeSpec := { name := "fnCanSlide", fn := fun _ => fun
  | [d] => { results := [.lit (.bool false)], args := [d] }
  | _ => none }
def FnCanSlideWrongFalsely : Prop := fnCanSlideRow.holds Try.pinned (OpenSpec.ofChange fnCanSlideWrong)

/- THE SECOND FORM. 'bulk': how many values and letters a reading holds, each counted each time it is reached (what is shared counts as often as it is met; a slice's spare places count too). A statement '..UptoSaid' is the law's where the arguments, and the package variables that the reading takes, are together of bulk at most 1048576: NARROWER than '..Said'. Prove '..Said' where nothing that the law and all that it calls make is longer than what came in: it says more and counts as full. Else prove '..UptoSaid'. A law counts once. -/
mutual
def uptoBulk {H : Type} : DataW H → Nat
  | .lit (.string bytes) => bytes.length + 1
  | .lit _ => 1
  | .nil => 1
  | .ptr d => uptoBulk d + 1
  | .slice elems spare => uptoBulkAll elems + uptoBulkAll spare + 1
  | .agg parts => uptoBulkAll parts + 1
  | .iface _ d => uptoBulk d + 1
  | .map entries => uptoBulkEntries entries + 1
  | .held _ => 1
def uptoBulkAll {H : Type} : List (DataW H) → Nat
  | [] => 0
  | d :: r => uptoBulk d + uptoBulkAll r
def uptoBulkEntries {H : Type} : List (Lit × DataW H) → Nat
  | [] => 0
  | x :: r => uptoBulkEntry x + uptoBulkEntries r
def uptoBulkEntry {H : Type} : Lit × DataW H → Nat
  | (.string bytes, d) => bytes.length + uptoBulk d + 1
  | (_, d) => uptoBulk d + 1
 end
def uptoSmall : (H : Type) → List (DataW H) → Bool := fun _ ds => decide (uptoBulkAll ds ≤ 1048576)
def OpenSpec.upto (s : _root_.Go.ChangeSpec) : _root_.Go.OpenSpec := { _root_.Go.OpenSpec.ofChange s with cond := some uptoSmall }

/-- 'laws.FnValidSlide', WHERE WHAT IT READS IS OF BULK AT MOST 1048576: true; the input reads as it did. -/
def fnValidSlideUptoRow : OpenClaim := { program := "ytnfcklclgcgloab", sum := "54a5f4ed111fcd84e6b6ff42f65add847a2f91ca15e622d517e7439770fcdbcb", func := "loop.example/piecesonboards/laws.FnValidSlide", spec := "fnValidSlide", apart := false, narrowed := true }
def FnValidSlideUptoSaid : Prop := fnValidSlideUptoRow.holds Try.pinned (OpenSpec.upto fnValidSlideSpec)

/-- 'laws.FnOddSwaps', WHERE WHAT IT READS IS OF BULK AT MOST 1048576: true; the input reads as it did. -/
def fnOddSwapsUptoRow : OpenClaim := { program := "ytnfcklclgcgloab", sum := "54a5f4ed111fcd84e6b6ff42f65add847a2f91ca15e622d517e7439770fcdbcb", func := "loop.example/piecesonboards/laws.FnOddSwaps", spec := "fnOddSwaps", apart := false, narrowed := true }
def FnOddSwapsUptoSaid : Prop := fnOddSwapsUptoRow.holds Try.pinned (OpenSpec.upto fnOddSwapsSpec)

/-- 'laws.FnCanSlide', WHERE WHAT IT READS IS OF BULK AT MOST 1048576: true; the input reads as it did. -/
def fnCanSlideUptoRow : OpenClaim := { program := "ytnfcklclgcgloab", sum := "54a5f4ed111fcd84e6b6ff42f65add847a2f91ca15e622d517e7439770fcdbcb", func := "loop.example/piecesonboards/laws.FnCanSlide", spec := "fnCanSlide", apart := false, narrowed := true }
def FnCanSlideUptoSaid : Prop := fnCanSlideUptoRow.holds Try.pinned (OpenSpec.upto fnCanSlideSpec)

end Rows
end Go.Proofs.Ytnfcklclgcgloab

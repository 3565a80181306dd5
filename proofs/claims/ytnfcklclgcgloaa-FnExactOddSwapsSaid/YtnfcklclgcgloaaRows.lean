/-
  No cell of these rows narrows 'for every input' (looked for: loops, veiled, ifaces, maps, wideKeys, modest, calm, conditions, laid).
  DERIVED. THE GIVEN ROWS OF THIS SEAT. 4 by the template 'for every input the law returns true; each argument reads behind the call as it read before'; 0 by the template 'total and deterministic' (their statements: YtnfcklclgcgloaaTotals.lean).
  GIVEN WITH THE SEED: the statements are not yours to turn. If you find one false, say at which input.
  Laid BY PROGRAM, IN A SANDBOX (cutbox-rows.mjs): the forced cells as the released guide's own fill.sh prints them over the translation 3166bc31e72f01ee… (all of the seat's roots in one cut). By AI agents, Wed Nov 11 2026. No macro, syntax, notation, axiom, sorry.
-/
import Derived.Test.YtnfcklclgcgloaaChecked
import GoSem.Claim
import GoSem.ClaimJoined
import GoSem.ClaimMapViews
import Derived.JoinedTies
import Derived.KernelRfl
namespace Go.Proofs.Ytnfcklclgcgloaa
/- THE CELL 'sum', in the pinned program and in every row, IS THE sha256 OF THE DUMP (.gsa) THAT YtnfcklclgcgloaaProg.lean LOADS. Nothing in Lean hashes anything: it is a label: what it is worth is what the hold of that sum in a sandbox is worth. -/
noncomputable def Try.pinned : Pinned := { name := "ytnfcklclgcgloaa", sum := "3166bc31e72f01ee8fe198763ff322a82e972cfa3c52128ea766747855931196", checked := Try.checked }
namespace Rows
def none {H : Type} : Left H := { results := [], args := [] }

/-- 'laws.FnExactValidSlide': WHATEVER THE INPUT: true; the input reads as it did. -/
def fnExactValidSlideSpec : ChangeSpec := { name := "fnExactValidSlide", fn := fun _ => fun
  | [d1, d2, d3] => { results := [.lit (.bool true)], args := [d1, d2, d3] }
  | _ => none }
def fnExactValidSlideRow : OpenClaim := { program := "ytnfcklclgcgloaa", sum := "3166bc31e72f01ee8fe198763ff322a82e972cfa3c52128ea766747855931196", func := "loop.example/piecesonboards/laws.FnExactValidSlide", spec := "fnExactValidSlide", apart := false }
def FnExactValidSlideSaid : Prop := fnExactValidSlideRow.holds Try.pinned (OpenSpec.ofChange fnExactValidSlideSpec)

/-- ITS FALSE NEIGHBOUR: 'it returns false'. Refute it at one input. -/
def fnExactValidSlideWrong : ChangeSpec := { name := "fnExactValidSlide", fn := fun _ => fun
  | [d1, d2, d3] => { results := [.lit (.bool false)], args := [d1, d2, d3] }
  | _ => none }
def FnExactValidSlideWrongFalsely : Prop := fnExactValidSlideRow.holds Try.pinned (OpenSpec.ofChange fnExactValidSlideWrong)

/-- 'laws.FnExactSlideOn': WHATEVER THE INPUT: true; the input reads as it did. -/
def fnExactSlideOnSpec : ChangeSpec := { name := "fnExactSlideOn", fn := fun _ => fun
  | [d1, d2, d3, d4] => { results := [.lit (.bool true)], args := [d1, d2, d3, d4] }
  | _ => none }
def fnExactSlideOnRow : OpenClaim := { program := "ytnfcklclgcgloaa", sum := "3166bc31e72f01ee8fe198763ff322a82e972cfa3c52128ea766747855931196", func := "loop.example/piecesonboards/laws.FnExactSlideOn", spec := "fnExactSlideOn", apart := false }
def FnExactSlideOnSaid : Prop := fnExactSlideOnRow.holds Try.pinned (OpenSpec.ofChange fnExactSlideOnSpec)

/-- ITS FALSE NEIGHBOUR: 'it returns false'. Refute it at one input. -/
def fnExactSlideOnWrong : ChangeSpec := { name := "fnExactSlideOn", fn := fun _ => fun
  | [d1, d2, d3, d4] => { results := [.lit (.bool false)], args := [d1, d2, d3, d4] }
  | _ => none }
def FnExactSlideOnWrongFalsely : Prop := fnExactSlideOnRow.holds Try.pinned (OpenSpec.ofChange fnExactSlideOnWrong)

/-- 'laws.FnExactOddSwaps': WHATEVER THE INPUT: true; the input reads as it did. -/
def fnExactOddSwapsSpec : ChangeSpec := { name := "fnExactOddSwaps", fn := fun _ => fun
  | [d1, d2, d3, d4] => { results := [.lit (.bool true)], args := [d1, d2, d3, d4] }
  | _ => none }
def fnExactOddSwapsRow : OpenClaim := { program := "ytnfcklclgcgloaa", sum := "3166bc31e72f01ee8fe198763ff322a82e972cfa3c52128ea766747855931196", func := "loop.example/piecesonboards/laws.FnExactOddSwaps", spec := "fnExactOddSwaps", apart := false }
def FnExactOddSwapsSaid : Prop := fnExactOddSwapsRow.holds Try.pinned (OpenSpec.ofChange fnExactOddSwapsSpec)

/-- ITS FALSE NEIGHBOUR: 'it returns false'. Refute it at one input. -/
def fnExactOddSwapsWrong : ChangeSpec := { name := "fnExactOddSwaps", fn := fun _ => fun
  | [d1, d2, d3, d4] => { results := [.lit (.bool false)], args := [d1, d2, d3, d4] }
  | _ => none }
def FnExactOddSwapsWrongFalsely : Prop := fnExactOddSwapsRow.holds Try.pinned (OpenSpec.ofChange fnExactOddSwapsWrong)

/-- 'laws.FnExactCanSlide': WHATEVER THE INPUT: true; the input reads as it did. -/
def fnExactCanSlideSpec : ChangeSpec := { name := "fnExactCanSlide", fn := fun _ => fun
  | [d1, d2, d3, d4] => { results := [.lit (.bool true)], args := [d1, d2, d3, d4] }
  | _ => none }
def fnExactCanSlideRow : OpenClaim := { program := "ytnfcklclgcgloaa", sum := "3166bc31e72f01ee8fe198763ff322a82e972cfa3c52128ea766747855931196", func := "loop.example/piecesonboards/laws.FnExactCanSlide", spec := "fnExactCanSlide", apart := false }
def FnExactCanSlideSaid : Prop := fnExactCanSlideRow.holds Try.pinned (OpenSpec.ofChange fnExactCanSlideSpec)

/-- ITS FALSE NEIGHBOUR: 'it returns false'. Refute it at one input. -/
def fnExactCanSlideWrong : ChangeSpec := { name := "fnExactCanSlide", fn := fun _ => fun
  | [d1, d2, d3, d4] => { results := [.lit (.bool false)], args := [d1, d2, d3, d4] }
  | _ => none }
def FnExactCanSlideWrongFalsely : Prop := fnExactCanSlideRow.holds Try.pinned (OpenSpec.ofChange fnExactCanSlideWrong)

/- THE SECOND FORM. 'bulk': how many values and letters a reading holds, each counted each time it is reached (what is shared counts as often as it is met; a slice's spare places count too). A statement '..UptoSaid' is the law's where the arguments, and the package variables that the reading takes, are together of bulk at most 1048576: NARROWER than '..Said'. Prove '..Said' where nothing that the law and all that it calls make is longer than what came in: it says more and counts as full. Else prove '..UptoSaid'. A law counts once. -/
mutual
def uptoBulk {H : Type} : DataW H → Nat
  | .lit (.string bytes) => bytes.length + 1
  | .lit _ => 1
  | .nil => 1
  | .ptr d => uptoBulk d + 1
  | .slice elems spare => uptoBulkAll elems + uptoBulkAll spare + 1
  | .agg parts => uptoBulkAll parts + 1
  | .iface _ d => uptoBulk d + 1
  | .map entries => uptoBulkEntries entries + 1
  | .held _ => 1
def uptoBulkAll {H : Type} : List (DataW H) → Nat
  | [] => 0
  | d :: r => uptoBulk d + uptoBulkAll r
def uptoBulkEntries {H : Type} : List (Lit × DataW H) → Nat
  | [] => 0
  | x :: r => uptoBulkEntry x + uptoBulkEntries r
def uptoBulkEntry {H : Type} : Lit × DataW H → Nat
  | (.string bytes, d) => bytes.length + uptoBulk d + 1
  | (_, d) => uptoBulk d + 1
 end
def uptoSmall : (H : Type) → List (DataW H) → Bool := fun _ ds => decide (uptoBulkAll ds ≤ 1048576)
def OpenSpec.upto (s : _root_.Go.ChangeSpec) : _root_.Go.OpenSpec := { _root_.Go.OpenSpec.ofChange s with cond := some uptoSmall }

/-- 'laws.FnExactValidSlide', WHERE WHAT IT READS IS OF BULK AT MOST 1048576: true; the input reads as it did. -/
def fnExactValidSlideUptoRow : OpenClaim := { program := "ytnfcklclgcgloaa", sum := "3166bc31e72f01ee8fe198763ff322a82e972cfa3c52128ea766747855931196", func := "loop.example/piecesonboards/laws.FnExactValidSlide", spec := "fnExactValidSlide", apart := false, narrowed := true }
def FnExactValidSlideUptoSaid : Prop := fnExactValidSlideUptoRow.holds Try.pinned (OpenSpec.upto fnExactValidSlideSpec)

/-- 'laws.FnExactSlideOn', WHERE WHAT IT READS IS OF BULK AT MOST 1048576: true; the input reads as it did. -/
def fnExactSlideOnUptoRow : OpenClaim := { program := "ytnfcklclgcgloaa", sum := "3166bc31e72f01ee8fe198763ff322a82e972cfa3c52128ea766747855931196", func := "loop.example/piecesonboards/laws.FnExactSlideOn", spec := "fnExactSlideOn", apart := false, narrowed := true }
def FnExactSlideOnUptoSaid : Prop := fnExactSlideOnUptoRow.holds Try.pinned (OpenSpec.upto fnExactSlideOnSpec)

/-- 'laws.FnExactOddSwaps', WHERE WHAT IT READS IS OF BULK AT MOST 1048576: true; the input reads as it did. -/
def fnExactOddSwapsUptoRow : OpenClaim := { program := "ytnfcklclgcgloaa", sum := "3166bc31e72f01ee8fe198763ff322a82e972cfa3c52128ea766747855931196", func := "loop.example/piecesonboards/laws.FnExactOddSwaps", spec := "fnExactOddSwaps", apart := false, narrowed := true }
def FnExactOddSwapsUptoSaid : Prop := fnExactOddSwapsUptoRow.holds Try.pinned (OpenSpec.upto fnExactOddSwapsSpec)

/-- 'laws.FnExactCanSlide', WHERE WHAT IT READS IS OF BULK AT MOST 1048576: true; the input reads as it did. -/
def fnExactCanSlideUptoRow : OpenClaim := { program := "ytnfcklclgcgloaa", sum := "3166bc31e72f01ee8fe198763ff322a82e972cfa3c52128ea766747855931196", func := "loop.example/piecesonboards/laws.FnExactCanSlide", spec := "fnExactCanSlide", apart := false, narrowed := true }
def FnExactCanSlideUptoSaid : Prop := fnExactCanSlideUptoRow.holds Try.pinned (OpenSpec.upto fnExactCanSlideSpec)

end Rows
end Go.Proofs.Ytnfcklclgcgloaa

/-
  No cell of these rows narrows 'for every input' (looked for: loops, veiled, ifaces, maps, wideKeys, modest, calm, conditions, laid).
  DERIVED. THE GIVEN ROWS OF THIS SEAT. 4 by the template 'for every input the law returns true; each argument reads behind the call as it read before'; 0 by the template 'total and deterministic' (their statements: YtdjkdjnbmhpokacTotals.lean).
  GIVEN WITH THE SEED: the statements are not yours to turn. If you find one false, say at which input.
  Laid BY PROGRAM, IN A SANDBOX (cutbox-rows.mjs): the forced cells as the released guide's own fill.sh prints them over the translation c4ea473df4d8537f… (all of the seat's roots in one cut). By AI agents, Wed Nov 11 2026. No macro, syntax, notation, axiom, sorry.
-/
import Derived.Test.YtdjkdjnbmhpokacChecked
import GoSem.Claim
import GoSem.ClaimJoined
import GoSem.ClaimMapViews
import Derived.JoinedTies
import Derived.KernelRfl
namespace Go.Proofs.Ytdjkdjnbmhpokac
/- THE CELL 'sum', in the pinned program and in every row, IS THE sha256 OF THE DUMP (.gsa) THAT YtdjkdjnbmhpokacProg.lean LOADS. Nothing in Lean hashes anything: it is a label: what it is worth is what the hold of that sum in a sandbox is worth. -/
noncomputable def Try.pinned : Pinned := { name := "ytdjkdjnbmhpokac", sum := "c4ea473df4d8537f724bddfde48852d80df20e6e8b6af1abfbdcced4867cff11", checked := Try.checked }
namespace Rows
def none {H : Type} : Left H := { results := [], args := [] }

/-- 'laws.FnFewestColours': WHATEVER THE INPUT: true; the input reads as it did. -/
def fnFewestColoursSpec : ChangeSpec := { name := "fnFewestColours", fn := fun _ => fun
  | [d] => { results := [.lit (.bool true)], args := [d] }
  | _ => none }
def fnFewestColoursRow : OpenClaim := { program := "ytdjkdjnbmhpokac", sum := "c4ea473df4d8537f724bddfde48852d80df20e6e8b6af1abfbdcced4867cff11", func := "loop.example/piecesonboards/laws.FnFewestColours", spec := "fnFewestColours", unfollowed := true, recurses := true, apart := false }
def FnFewestColoursSaid : Prop := fnFewestColoursRow.holds Try.pinned (OpenSpec.ofChange fnFewestColoursSpec)

/-- ITS FALSE NEIGHBOUR: 'it returns false'. Refute it at one input. -/
def fnFewestColoursWrong : ChangeSpec := { name := "fnFewestColours", fn := fun _ => fun
  | [d] => { results := [.lit (.bool false)], args := [d] }
  | _ => none }
def FnFewestColoursWrongFalsely : Prop := fnFewestColoursRow.holds Try.pinned (OpenSpec.ofChange fnFewestColoursWrong)

/-- 'laws.FnExactPaintFirst': WHATEVER THE INPUT: true; the input reads as it did. -/
def fnExactPaintFirstSpec : ChangeSpec := { name := "fnExactPaintFirst", fn := fun _ => fun
  | [d1, d2, d3] => { results := [.lit (.bool true)], args := [d1, d2, d3] }
  | _ => none }
def fnExactPaintFirstRow : OpenClaim := { program := "ytdjkdjnbmhpokac", sum := "c4ea473df4d8537f724bddfde48852d80df20e6e8b6af1abfbdcced4867cff11", func := "loop.example/piecesonboards/laws.FnExactPaintFirst", spec := "fnExactPaintFirst", unfollowed := true, recurses := true, apart := false }
def FnExactPaintFirstSaid : Prop := fnExactPaintFirstRow.holds Try.pinned (OpenSpec.ofChange fnExactPaintFirstSpec)

/-- ITS FALSE NEIGHBOUR: 'it returns false'. Refute it at one input. -/
def fnExactPaintFirstWrong : ChangeSpec := { name := "fnExactPaintFirst", fn := fun _ => fun
  | [d1, d2, d3] => { results := [.lit (.bool false)], args := [d1, d2, d3] }
  | _ => none }
def FnExactPaintFirstWrongFalsely : Prop := fnExactPaintFirstRow.holds Try.pinned (OpenSpec.ofChange fnExactPaintFirstWrong)

/-- 'laws.FnPaintFirst': WHATEVER THE INPUT: true; the input reads as it did. -/
def fnPaintFirstSpec : ChangeSpec := { name := "fnPaintFirst", fn := fun _ => fun
  | [d] => { results := [.lit (.bool true)], args := [d] }
  | _ => none }
def fnPaintFirstRow : OpenClaim := { program := "ytdjkdjnbmhpokac", sum := "c4ea473df4d8537f724bddfde48852d80df20e6e8b6af1abfbdcced4867cff11", func := "loop.example/piecesonboards/laws.FnPaintFirst", spec := "fnPaintFirst", unfollowed := true, recurses := true, apart := false }
def FnPaintFirstSaid : Prop := fnPaintFirstRow.holds Try.pinned (OpenSpec.ofChange fnPaintFirstSpec)

/-- ITS FALSE NEIGHBOUR: 'it returns false'. Refute it at one input. -/
def fnPaintFirstWrong : ChangeSpec := { name := "fnPaintFirst", fn := fun _ => fun
  | [d] => { results := [.lit (.bool false)], args := [d] }
  | _ => none }
def FnPaintFirstWrongFalsely : Prop := fnPaintFirstRow.holds Try.pinned (OpenSpec.ofChange fnPaintFirstWrong)

/-- 'laws.FnKnightsAlternate': WHATEVER THE INPUT: true; the input reads as it did. -/
def fnKnightsAlternateSpec : ChangeSpec := { name := "fnKnightsAlternate", fn := fun _ => fun
  | [d] => { results := [.lit (.bool true)], args := [d] }
  | _ => none }
def fnKnightsAlternateRow : OpenClaim := { program := "ytdjkdjnbmhpokac", sum := "c4ea473df4d8537f724bddfde48852d80df20e6e8b6af1abfbdcced4867cff11", func := "loop.example/piecesonboards/laws.FnKnightsAlternate", spec := "fnKnightsAlternate", unfollowed := true, recurses := true, apart := false }
def FnKnightsAlternateSaid : Prop := fnKnightsAlternateRow.holds Try.pinned (OpenSpec.ofChange fnKnightsAlternateSpec)

/-- ITS FALSE NEIGHBOUR: 'it returns false'. Refute it at one input. -/
def fnKnightsAlternateWrong : ChangeSpec := { name := "fnKnightsAlternate", fn := fun _ => fun
  | [d] => { results := [.lit (.bool false)], args := [d] }
  | _ => none }
def FnKnightsAlternateWrongFalsely : Prop := fnKnightsAlternateRow.holds Try.pinned (OpenSpec.ofChange fnKnightsAlternateWrong)

/- THE SECOND FORM. 'bulk': how many values and letters a reading holds, each counted each time it is reached (what is shared counts as often as it is met; a slice's spare places count too). A statement '..UptoSaid' is the law's where the arguments, and the package variables that the reading takes, are together of bulk at most 1048576: NARROWER than '..Said'. Prove '..Said' where nothing that the law and all that it calls make is longer than what came in: it says more and counts as full. Else prove '..UptoSaid'. A law counts once. -/
mutual
def uptoBulk {H : Type} : DataW H → Nat
  | .lit (.string bytes) => bytes.length + 1
  | .lit _ => 1
  | .nil => 1
  | .ptr d => uptoBulk d + 1
  | .slice elems spare => uptoBulkAll elems + uptoBulkAll spare + 1
  | .agg parts => uptoBulkAll parts + 1
  | .iface _ d => uptoBulk d + 1
  | .map entries => uptoBulkEntries entries + 1
  | .held _ => 1
def uptoBulkAll {H : Type} : List (DataW H) → Nat
  | [] => 0
  | d :: r => uptoBulk d + uptoBulkAll r
def uptoBulkEntries {H : Type} : List (Lit × DataW H) → Nat
  | [] => 0
  | x :: r => uptoBulkEntry x + uptoBulkEntries r
def uptoBulkEntry {H : Type} : Lit × DataW H → Nat
  | (.string bytes, d) => bytes.length + uptoBulk d + 1
  | (_, d) => uptoBulk d + 1
 end
def uptoSmall : (H : Type) → List (DataW H) → Bool := fun _ ds => decide (uptoBulkAll ds ≤ 1048576)
def OpenSpec.upto (s : _root_.Go.ChangeSpec) : _root_.Go.OpenSpec := { _root_.Go.OpenSpec.ofChange s with cond := some uptoSmall }

/-- 'laws.FnFewestColours', WHERE WHAT IT READS IS OF BULK AT MOST 1048576: true; the input reads as it did. -/
def fnFewestColoursUptoRow : OpenClaim := { program := "ytdjkdjnbmhpokac", sum := "c4ea473df4d8537f724bddfde48852d80df20e6e8b6af1abfbdcced4867cff11", func := "loop.example/piecesonboards/laws.FnFewestColours", spec := "fnFewestColours", unfollowed := true, recurses := true, apart := false, narrowed := true }
def FnFewestColoursUptoSaid : Prop := fnFewestColoursUptoRow.holds Try.pinned (OpenSpec.upto fnFewestColoursSpec)

/-- 'laws.FnExactPaintFirst', WHERE WHAT IT READS IS OF BULK AT MOST 1048576: true; the input reads as it did. -/
def fnExactPaintFirstUptoRow : OpenClaim := { program := "ytdjkdjnbmhpokac", sum := "c4ea473df4d8537f724bddfde48852d80df20e6e8b6af1abfbdcced4867cff11", func := "loop.example/piecesonboards/laws.FnExactPaintFirst", spec := "fnExactPaintFirst", unfollowed := true, recurses := true, apart := false, narrowed := true }
def FnExactPaintFirstUptoSaid : Prop := fnExactPaintFirstUptoRow.holds Try.pinned (OpenSpec.upto fnExactPaintFirstSpec)

/-- 'laws.FnPaintFirst', WHERE WHAT IT READS IS OF BULK AT MOST 1048576: true; the input reads as it did. -/
def fnPaintFirstUptoRow : OpenClaim := { program := "ytdjkdjnbmhpokac", sum := "c4ea473df4d8537f724bddfde48852d80df20e6e8b6af1abfbdcced4867cff11", func := "loop.example/piecesonboards/laws.FnPaintFirst", spec := "fnPaintFirst", unfollowed := true, recurses := true, apart := false, narrowed := true }
def FnPaintFirstUptoSaid : Prop := fnPaintFirstUptoRow.holds Try.pinned (OpenSpec.upto fnPaintFirstSpec)

/-- 'laws.FnKnightsAlternate', WHERE WHAT IT READS IS OF BULK AT MOST 1048576: true; the input reads as it did. -/
def fnKnightsAlternateUptoRow : OpenClaim := { program := "ytdjkdjnbmhpokac", sum := "c4ea473df4d8537f724bddfde48852d80df20e6e8b6af1abfbdcced4867cff11", func := "loop.example/piecesonboards/laws.FnKnightsAlternate", spec := "fnKnightsAlternate", unfollowed := true, recurses := true, apart := false, narrowed := true }
def FnKnightsAlternateUptoSaid : Prop := fnKnightsAlternateUptoRow.holds Try.pinned (OpenSpec.upto fnKnightsAlternateSpec)

end Rows
end Go.Proofs.Ytdjkdjnbmhpokac

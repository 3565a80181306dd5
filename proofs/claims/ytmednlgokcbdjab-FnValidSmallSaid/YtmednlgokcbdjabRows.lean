/-
  No cell of these rows narrows 'for every input' (looked for: loops, veiled, ifaces, maps, wideKeys, modest, calm, conditions, laid).
  DERIVED. THE GIVEN ROWS OF THIS SEAT. 3 by the template 'for every input the law returns true; each argument reads behind the call as it read before'; 0 by the template 'total and deterministic' (their statements: YtmednlgokcbdjabTotals.lean).
  GIVEN WITH THE SEED: the statements are not yours to turn. If you find one false, say at which input.
  Laid BY PROGRAM, IN A SANDBOX (cutbox-rows.mjs): the forced cells as the released guide's own fill.sh prints them over the translation 7c2e2379082d87a4… (all of the seat's roots in one cut). By AI agents, Wed Nov 11 2026. No macro, syntax, notation, axiom, sorry.
-/
import Derived.Test.YtmednlgokcbdjabChecked
import GoSem.Claim
import GoSem.ClaimJoined
import GoSem.ClaimMapViews
import Derived.JoinedTies
import Derived.KernelRfl
namespace Go.Proofs.Ytmednlgokcbdjab
/- THE CELL 'sum', in the pinned program and in every row, IS THE sha256 OF THE DUMP (.gsa) THAT YtmednlgokcbdjabProg.lean LOADS. Nothing in Lean hashes anything: it is a label: what it is worth is what the hold of that sum in a sandbox is worth. -/
noncomputable def Try.pinned : Pinned := { name := "ytmednlgokcbdjab", sum := "7c2e2379082d87a4e14aeeb725f10785035d35dc9f8eee725526d472446e9d18", checked := Try.checked }
namespace Rows
def none {H : Type} : Left H := { results := [], args := [] }

/-- 'laws.FnExactCountLoose': WHATEVER THE INPUT: true; the input reads as it did. -/
def fnExactCountLooseSpec : ChangeSpec := { name := "fnExactCountLoose", fn := fun _ => fun
  | [d1, d2, d3] => { results := [.lit (.bool true)], args := [d1, d2, d3] }
  | _ => none }
def fnExactCountLooseRow : OpenClaim := { program := "ytmednlgokcbdjab", sum := "7c2e2379082d87a4e14aeeb725f10785035d35dc9f8eee725526d472446e9d18", func := "loop.example/piecesonboards/laws.FnExactCountLoose", spec := "fnExactCountLoose", unfollowed := true, recurses := true, apart := false }
def FnExactCountLooseSaid : Prop := fnExactCountLooseRow.holds Try.pinned (OpenSpec.ofChange fnExactCountLooseSpec)

/-- ITS FALSE NEIGHBOUR: 'it returns false'. Refute it at one input. -/
def fnExactCountLooseWrong : ChangeSpec := { name := "fnExactCountLoose", fn := fun _ => fun
  | [d1, d2, d3] => { results := [.lit (.bool false)], args := [d1, d2, d3] }
  | _ => none }
def FnExactCountLooseWrongFalsely : Prop := fnExactCountLooseRow.holds Try.pinned (OpenSpec.ofChange fnExactCountLooseWrong)

/-- 'laws.FnExactFewestFull': WHATEVER THE INPUT: true; the input reads as it did. -/
def fnExactFewestFullSpec : ChangeSpec := { name := "fnExactFewestFull", fn := fun _ => fun
  | [d1, d2, d3] => { results := [.lit (.bool true)], args := [d1, d2, d3] }
  | _ => none }
def fnExactFewestFullRow : OpenClaim := { program := "ytmednlgokcbdjab", sum := "7c2e2379082d87a4e14aeeb725f10785035d35dc9f8eee725526d472446e9d18", func := "loop.example/piecesonboards/laws.FnExactFewestFull", spec := "fnExactFewestFull", unfollowed := true, recurses := true, apart := false }
def FnExactFewestFullSaid : Prop := fnExactFewestFullRow.holds Try.pinned (OpenSpec.ofChange fnExactFewestFullSpec)

/-- ITS FALSE NEIGHBOUR: 'it returns false'. Refute it at one input. -/
def fnExactFewestFullWrong : ChangeSpec := { name := "fnExactFewestFull", fn := fun _ => fun
  | [d1, d2, d3] => { results := [.lit (.bool false)], args := [d1, d2, d3] }
  | _ => none }
def FnExactFewestFullWrongFalsely : Prop := fnExactFewestFullRow.holds Try.pinned (OpenSpec.ofChange fnExactFewestFullWrong)

/-- 'laws.FnValidSmall': WHATEVER THE INPUT: true; the input reads as it did. -/
def fnValidSmallSpec : ChangeSpec := { name := "fnValidSmall", fn := fun _ => fun
  | [d] => { results := [.lit (.bool true)], args := [d] }
  | _ => none }
def fnValidSmallRow : OpenClaim := { program := "ytmednlgokcbdjab", sum := "7c2e2379082d87a4e14aeeb725f10785035d35dc9f8eee725526d472446e9d18", func := "loop.example/piecesonboards/laws.FnValidSmall", spec := "fnValidSmall", unfollowed := true, recurses := true, apart := false }
def FnValidSmallSaid : Prop := fnValidSmallRow.holds Try.pinned (OpenSpec.ofChange fnValidSmallSpec)

/-- ITS FALSE NEIGHBOUR: 'it returns false'. Refute it at one input. -/
def fnValidSmallWrong : ChangeSpec := { name := "fnValidSmall", fn := fun _ => fun
  | [d] => { results := [.lit (.bool false)], args := [d] }
  | _ => none }
def FnValidSmallWrongFalsely : Prop := fnValidSmallRow.holds Try.pinned (OpenSpec.ofChange fnValidSmallWrong)

/- THE SECOND FORM. 'bulk': how many values and letters a reading holds, each counted each time it is reached (what is shared counts as often as it is met; a slice's spare places count too). A statement '..UptoSaid' is the law's where the arguments, and the package variables that the reading takes, are together of bulk at most 1048576: NARROWER than '..Said'. Prove '..Said' where nothing that the law and all that it calls make is longer than what came in: it says more and counts as full. Else prove '..UptoSaid'. A law counts once. -/
mutual
def uptoBulk {H : Type} : DataW H → Nat
  | .lit (.string bytes) => bytes.length + 1
  | .lit _ => 1
  | .nil => 1
  | .ptr d => uptoBulk d + 1
  | .slice elems spare => uptoBulkAll elems + uptoBulkAll spare + 1
  | .agg parts => uptoBulkAll parts + 1
  | .iface _ d => uptoBulk d + 1
  | .map entries => uptoBulkEntries entries + 1
  | .held _ => 1
def uptoBulkAll {H : Type} : List (DataW H) → Nat
  | [] => 0
  | d :: r => uptoBulk d + uptoBulkAll r
def uptoBulkEntries {H : Type} : List (Lit × DataW H) → Nat
  | [] => 0
  | x :: r => uptoBulkEntry x + uptoBulkEntries r
def uptoBulkEntry {H : Type} : Lit × DataW H → Nat
  | (.string bytes, d) => bytes.length + uptoBulk d + 1
  | (_, d) => uptoBulk d + 1
 end
def uptoSmall : (H : Type) → List (DataW H) → Bool := fun _ ds => decide (uptoBulkAll ds ≤ 1048576)
def OpenSpec.upto (s : _root_.Go.ChangeSpec) : _root_.Go.OpenSpec := { _root_.Go.OpenSpec.ofChange s with cond := some uptoSmall }

/-- 'laws.FnExactCountLoose', WHERE WHAT IT READS IS OF BULK AT MOST 1048576: true; the input reads as it did. -/
def fnExactCountLooseUptoRow : OpenClaim := { program := "ytmednlgokcbdjab", sum := "7c2e2379082d87a4e14aeeb725f10785035d35dc9f8eee725526d472446e9d18", func := "loop.example/piecesonboards/laws.FnExactCountLoose", spec := "fnExactCountLoose", unfollowed := true, recurses := true, apart := false, narrowed := true }
def FnExactCountLooseUptoSaid : Prop := fnExactCountLooseUptoRow.holds Try.pinned (OpenSpec.upto fnExactCountLooseSpec)

/-- 'laws.FnExactFewestFull', WHERE WHAT IT READS IS OF BULK AT MOST 1048576: true; the input reads as it did. -/
def fnExactFewestFullUptoRow : OpenClaim := { program := "ytmednlgokcbdjab", sum := "7c2e2379082d87a4e14aeeb725f10785035d35dc9f8eee725526d472446e9d18", func := "loop.example/piecesonboards/laws.FnExactFewestFull", spec := "fnExactFewestFull", unfollowed := true, recurses := true, apart := false, narrowed := true }
def FnExactFewestFullUptoSaid : Prop := fnExactFewestFullUptoRow.holds Try.pinned (OpenSpec.upto fnExactFewestFullSpec)

/-- 'laws.FnValidSmall', WHERE WHAT IT READS IS OF BULK AT MOST 1048576: true; the input reads as it did. -/
def fnValidSmallUptoRow : OpenClaim := { program := "ytmednlgokcbdjab", sum := "7c2e2379082d87a4e14aeeb725f10785035d35dc9f8eee725526d472446e9d18", func := "loop.example/piecesonboards/laws.FnValidSmall", spec := "fnValidSmall", unfollowed := true, recurses := true, apart := false, narrowed := true }
def FnValidSmallUptoSaid : Prop := fnValidSmallUptoRow.holds Try.pinned (OpenSpec.upto fnValidSmallSpec)

end Rows
end Go.Proofs.Ytmednlgokcbdjab

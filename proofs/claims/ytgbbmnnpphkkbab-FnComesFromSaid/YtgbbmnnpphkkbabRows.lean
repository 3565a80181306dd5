/-
  No cell of these rows narrows 'for every input' (looked for: loops, veiled, ifaces, maps, wideKeys, modest, calm, conditions, laid).
  DERIVED. THE GIVEN ROWS OF THIS SEAT. 4 by the template 'for every input the law returns true; each argument reads behind the call as it read before'; 0 by the template 'total and deterministic' (their statements: YtgbbmnnpphkkbabTotals.lean).
  GIVEN WITH THE SEED: the statements are not yours to turn. If you find one false, say at which input.
  Laid BY PROGRAM, IN A SANDBOX (cutbox-rows.mjs): the forced cells as the released guide's own fill.sh prints them over the translation 821f69abb09567b0… (all of the seat's roots in one cut). By AI agents, Wed Nov 11 2026. No macro, syntax, notation, axiom, sorry.
-/
import Derived.Test.YtgbbmnnpphkkbabChecked
import GoSem.Claim
import GoSem.ClaimJoined
import GoSem.ClaimMapViews
import Derived.JoinedTies
import Derived.KernelRfl
namespace Go.Proofs.Ytgbbmnnpphkkbab
/- THE CELL 'sum', in the pinned program and in every row, IS THE sha256 OF THE DUMP (.gsa) THAT YtgbbmnnpphkkbabProg.lean LOADS. Nothing in Lean hashes anything: it is a label: what it is worth is what the hold of that sum in a sandbox is worth. -/
noncomputable def Try.pinned : Pinned := { name := "ytgbbmnnpphkkbab", sum := "821f69abb09567b031b407d0fae5e345ec15af94ea13191caa4fa937b072fb43", checked := Try.checked }
namespace Rows
def none {H : Type} : Left H := { results := [], args := [] }

/-- 'laws.FnExactComesFrom': WHATEVER THE INPUT: true; the input reads as it did. -/
def fnExactComesFromSpec : ChangeSpec := { name := "fnExactComesFrom", fn := fun _ => fun
  | [d1, d2, d3] => { results := [.lit (.bool true)], args := [d1, d2, d3] }
  | _ => none }
def fnExactComesFromRow : OpenClaim := { program := "ytgbbmnnpphkkbab", sum := "821f69abb09567b031b407d0fae5e345ec15af94ea13191caa4fa937b072fb43", func := "loop.example/piecesonboards/laws.FnExactComesFrom", spec := "fnExactComesFrom", recurses := true, apart := false }
def FnExactComesFromSaid : Prop := fnExactComesFromRow.holds Try.pinned (OpenSpec.ofChange fnExactComesFromSpec)

/-- ITS FALSE NEIGHBOUR: 'it returns false'. Refute it at one input. -/
def fnExactComesFromWrong : ChangeSpec := { name := "fnExactComesFrom", fn := fun _ => fun
  | [d1, d2, d3] => { results := [.lit (.bool false)], args := [d1, d2, d3] }
  | _ => none }
def FnExactComesFromWrongFalsely : Prop := fnExactComesFromRow.holds Try.pinned (OpenSpec.ofChange fnExactComesFromWrong)

/-- 'laws.FnExactFewestLeft': WHATEVER THE INPUT: true; the input reads as it did. -/
def fnExactFewestLeftSpec : ChangeSpec := { name := "fnExactFewestLeft", fn := fun _ => fun
  | [d1, d2, d3] => { results := [.lit (.bool true)], args := [d1, d2, d3] }
  | _ => none }
def fnExactFewestLeftRow : OpenClaim := { program := "ytgbbmnnpphkkbab", sum := "821f69abb09567b031b407d0fae5e345ec15af94ea13191caa4fa937b072fb43", func := "loop.example/piecesonboards/laws.FnExactFewestLeft", spec := "fnExactFewestLeft", recurses := true, apart := false }
def FnExactFewestLeftSaid : Prop := fnExactFewestLeftRow.holds Try.pinned (OpenSpec.ofChange fnExactFewestLeftSpec)

/-- ITS FALSE NEIGHBOUR: 'it returns false'. Refute it at one input. -/
def fnExactFewestLeftWrong : ChangeSpec := { name := "fnExactFewestLeft", fn := fun _ => fun
  | [d1, d2, d3] => { results := [.lit (.bool false)], args := [d1, d2, d3] }
  | _ => none }
def FnExactFewestLeftWrongFalsely : Prop := fnExactFewestLeftRow.holds Try.pinned (OpenSpec.ofChange fnExactFewestLeftWrong)

/-- 'laws.FnExactCanCome': WHATEVER THE INPUT: true; the input reads as it did. -/
def fnExactCanComeSpec : ChangeSpec := { name := "fnExactCanCome", fn := fun _ => fun
  | [d1, d2, d3, d4] => { results := [.lit (.bool true)], args := [d1, d2, d3, d4] }
  | _ => none }
def fnExactCanComeRow : OpenClaim := { program := "ytgbbmnnpphkkbab", sum := "821f69abb09567b031b407d0fae5e345ec15af94ea13191caa4fa937b072fb43", func := "loop.example/piecesonboards/laws.FnExactCanCome", spec := "fnExactCanCome", recurses := true, apart := false }
def FnExactCanComeSaid : Prop := fnExactCanComeRow.holds Try.pinned (OpenSpec.ofChange fnExactCanComeSpec)

/-- ITS FALSE NEIGHBOUR: 'it returns false'. Refute it at one input. -/
def fnExactCanComeWrong : ChangeSpec := { name := "fnExactCanCome", fn := fun _ => fun
  | [d1, d2, d3, d4] => { results := [.lit (.bool false)], args := [d1, d2, d3, d4] }
  | _ => none }
def FnExactCanComeWrongFalsely : Prop := fnExactCanComeRow.holds Try.pinned (OpenSpec.ofChange fnExactCanComeWrong)

/-- 'laws.FnComesFrom': WHATEVER THE INPUT: true; the input reads as it did. -/
def fnComesFromSpec : ChangeSpec := { name := "fnComesFrom", fn := fun _ => fun
  | [d] => { results := [.lit (.bool true)], args := [d] }
  | _ => none }
def fnComesFromRow : OpenClaim := { program := "ytgbbmnnpphkkbab", sum := "821f69abb09567b031b407d0fae5e345ec15af94ea13191caa4fa937b072fb43", func := "loop.example/piecesonboards/laws.FnComesFrom", spec := "fnComesFrom", recurses := true, apart := false }
def FnComesFromSaid : Prop := fnComesFromRow.holds Try.pinned (OpenSpec.ofChange fnComesFromSpec)

/-- ITS FALSE NEIGHBOUR: 'it returns false'. Refute it at one input. -/
def fnComesFromWrong : ChangeSpec := { name := "fnComesFrom", fn := fun _ => fun
  | [d] => { results := [.lit (.bool false)], args := [d] }
  | _ => none }
def FnComesFromWrongFalsely : Prop := fnComesFromRow.holds Try.pinned (OpenSpec.ofChange fnComesFromWrong)

/- THE SECOND FORM. 'bulk': how many values and letters a reading holds, each counted each time it is reached (what is shared counts as often as it is met; a slice's spare places count too). A statement '..UptoSaid' is the law's where the arguments, and the package variables that the reading takes, are together of bulk at most 1048576: NARROWER than '..Said'. Prove '..Said' where nothing that the law and all that it calls make is longer than what came in: it says more and counts as full. Else prove '..UptoSaid'. A law counts once. -/
mutual
def uptoBulk {H : Type} : DataW H → Nat
  | .lit (.string bytes) => bytes.length + 1
  | .lit _ => 1
  | .nil => 1
  | .ptr d => uptoBulk d + 1
  | .slice elems spare => uptoBulkAll elems + uptoBulkAll spare + 1
  | .agg parts => uptoBulkAll parts + 1
  | .iface _ d => uptoBulk d + 1
  | .map entries => uptoBulkEntries entries + 1
  | .held _ => 1
def uptoBulkAll {H : Type} : List (DataW H) → Nat
  | [] => 0
  | d :: r => uptoBulk d + uptoBulkAll r
def uptoBulkEntries {H : Type} : List (Lit × DataW H) → Nat
  | [] => 0
  | x :: r => uptoBulkEntry x + uptoBulkEntries r
def uptoBulkEntry {H : Type} : Lit × DataW H → Nat
  | (.string bytes, d) => bytes.length + uptoBulk d + 1
  | (_, d) => uptoBulk d + 1
 end
def uptoSmall : (H : Type) → List (DataW H) → Bool := fun _ ds => decide (uptoBulkAll ds ≤ 1048576)
def OpenSpec.upto (s : _root_.Go.ChangeSpec) : _root_.Go.OpenSpec := { _root_.Go.OpenSpec.ofChange s with cond := some uptoSmall }

/-- 'laws.FnExactComesFrom', WHERE WHAT IT READS IS OF BULK AT MOST 1048576: true; the input reads as it did. -/
def fnExactComesFromUptoRow : OpenClaim := { program := "ytgbbmnnpphkkbab", sum := "821f69abb09567b031b407d0fae5e345ec15af94ea13191caa4fa937b072fb43", func := "loop.example/piecesonboards/laws.FnExactComesFrom", spec := "fnExactComesFrom", recurses := true, apart := false, narrowed := true }
def FnExactComesFromUptoSaid : Prop := fnExactComesFromUptoRow.holds Try.pinned (OpenSpec.upto fnExactComesFromSpec)

/-- 'laws.FnExactFewestLeft', WHERE WHAT IT READS IS OF BULK AT MOST 1048576: true; the input reads as it did. -/
def fnExactFewestLeftUptoRow : OpenClaim := { program := "ytgbbmnnpphkkbab", sum := "821f69abb09567b031b407d0fae5e345ec15af94ea13191caa4fa937b072fb43", func := "loop.example/piecesonboards/laws.FnExactFewestLeft", spec := "fnExactFewestLeft", recurses := true, apart := false, narrowed := true }
def FnExactFewestLeftUptoSaid : Prop := fnExactFewestLeftUptoRow.holds Try.pinned (OpenSpec.upto fnExactFewestLeftSpec)

/-- 'laws.FnExactCanCome', WHERE WHAT IT READS IS OF BULK AT MOST 1048576: true; the input reads as it did. -/
def fnExactCanComeUptoRow : OpenClaim := { program := "ytgbbmnnpphkkbab", sum := "821f69abb09567b031b407d0fae5e345ec15af94ea13191caa4fa937b072fb43", func := "loop.example/piecesonboards/laws.FnExactCanCome", spec := "fnExactCanCome", recurses := true, apart := false, narrowed := true }
def FnExactCanComeUptoSaid : Prop := fnExactCanComeUptoRow.holds Try.pinned (OpenSpec.upto fnExactCanComeSpec)

/-- 'laws.FnComesFrom', WHERE WHAT IT READS IS OF BULK AT MOST 1048576: true; the input reads as it did. -/
def fnComesFromUptoRow : OpenClaim := { program := "ytgbbmnnpphkkbab", sum := "821f69abb09567b031b407d0fae5e345ec15af94ea13191caa4fa937b072fb43", func := "loop.example/piecesonboards/laws.FnComesFrom", spec := "fnComesFrom", recurses := true, apart := false, narrowed := true }
def FnComesFromUptoSaid : Prop := fnComesFromUptoRow.holds Try.pinned (OpenSpec.upto fnComesFromSpec)

end Rows
end Go.Proofs.Ytgbbmnnpphkkbab

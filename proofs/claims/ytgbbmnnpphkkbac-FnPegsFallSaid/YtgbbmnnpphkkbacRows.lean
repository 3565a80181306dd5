/-
  No cell of these rows narrows 'for every input' (looked for: loops, veiled, ifaces, maps, wideKeys, modest, calm, conditions, laid).
  DERIVED. THE GIVEN ROWS OF THIS SEAT. 4 by the template 'for every input the law returns true; each argument reads behind the call as it read before'; 0 by the template 'total and deterministic' (their statements: YtgbbmnnpphkkbacTotals.lean).
  GIVEN WITH THE SEED: the statements are not yours to turn. If you find one false, say at which input.
  Laid BY PROGRAM, IN A SANDBOX (cutbox-rows.mjs): the forced cells as the released guide's own fill.sh prints them over the translation 77524c31001cc1a3… (all of the seat's roots in one cut). By AI agents, Wed Nov 11 2026. No macro, syntax, notation, axiom, sorry.
-/
import Derived.Test.YtgbbmnnpphkkbacChecked
import GoSem.Claim
import GoSem.ClaimJoined
import GoSem.ClaimMapViews
import Derived.JoinedTies
import Derived.KernelRfl
namespace Go.Proofs.Ytgbbmnnpphkkbac
/- THE CELL 'sum', in the pinned program and in every row, IS THE sha256 OF THE DUMP (.gsa) THAT YtgbbmnnpphkkbacProg.lean LOADS. Nothing in Lean hashes anything: it is a label: what it is worth is what the hold of that sum in a sandbox is worth. -/
noncomputable def Try.pinned : Pinned := { name := "ytgbbmnnpphkkbac", sum := "77524c31001cc1a3b08cd92a59e8a7f7bac32ff95e5f0e6bc5c82be0ce5ccde8", checked := Try.checked }
namespace Rows
def none {H : Type} : Left H := { results := [], args := [] }

/-- 'laws.FnFewestLeft': WHATEVER THE INPUT: true; the input reads as it did. -/
def fnFewestLeftSpec : ChangeSpec := { name := "fnFewestLeft", fn := fun _ => fun
  | [d] => { results := [.lit (.bool true)], args := [d] }
  | _ => none }
def fnFewestLeftRow : OpenClaim := { program := "ytgbbmnnpphkkbac", sum := "77524c31001cc1a3b08cd92a59e8a7f7bac32ff95e5f0e6bc5c82be0ce5ccde8", func := "loop.example/piecesonboards/laws.FnFewestLeft", spec := "fnFewestLeft", recurses := true, apart := false }
def FnFewestLeftSaid : Prop := fnFewestLeftRow.holds Try.pinned (OpenSpec.ofChange fnFewestLeftSpec)

/-- ITS FALSE NEIGHBOUR: 'it returns false'. Refute it at one input. -/
def fnFewestLeftWrong : ChangeSpec := { name := "fnFewestLeft", fn := fun _ => fun
  | [d] => { results := [.lit (.bool false)], args := [d] }
  | _ => none }
def FnFewestLeftWrongFalsely : Prop := fnFewestLeftRow.holds Try.pinned (OpenSpec.ofChange fnFewestLeftWrong)

/-- 'laws.FnCanCome': WHATEVER THE INPUT: true; the input reads as it did. -/
def fnCanComeSpec : ChangeSpec := { name := "fnCanCome", fn := fun _ => fun
  | [d] => { results := [.lit (.bool true)], args := [d] }
  | _ => none }
def fnCanComeRow : OpenClaim := { program := "ytgbbmnnpphkkbac", sum := "77524c31001cc1a3b08cd92a59e8a7f7bac32ff95e5f0e6bc5c82be0ce5ccde8", func := "loop.example/piecesonboards/laws.FnCanCome", spec := "fnCanCome", recurses := true, apart := false }
def FnCanComeSaid : Prop := fnCanComeRow.holds Try.pinned (OpenSpec.ofChange fnCanComeSpec)

/-- ITS FALSE NEIGHBOUR: 'it returns false'. Refute it at one input. -/
def fnCanComeWrong : ChangeSpec := { name := "fnCanCome", fn := fun _ => fun
  | [d] => { results := [.lit (.bool false)], args := [d] }
  | _ => none }
def FnCanComeWrongFalsely : Prop := fnCanComeRow.holds Try.pinned (OpenSpec.ofChange fnCanComeWrong)

/-- 'laws.FnPegsFall': WHATEVER THE INPUT: true; the input reads as it did. -/
def fnPegsFallSpec : ChangeSpec := { name := "fnPegsFall", fn := fun _ => fun
  | [d] => { results := [.lit (.bool true)], args := [d] }
  | _ => none }
def fnPegsFallRow : OpenClaim := { program := "ytgbbmnnpphkkbac", sum := "77524c31001cc1a3b08cd92a59e8a7f7bac32ff95e5f0e6bc5c82be0ce5ccde8", func := "loop.example/piecesonboards/laws.FnPegsFall", spec := "fnPegsFall", recurses := true, apart := false }
def FnPegsFallSaid : Prop := fnPegsFallRow.holds Try.pinned (OpenSpec.ofChange fnPegsFallSpec)

/-- ITS FALSE NEIGHBOUR: 'it returns false'. Refute it at one input. -/
def fnPegsFallWrong : ChangeSpec := { name := "fnPegsFall", fn := fun _ => fun
  | [d] => { results := [.lit (.bool false)], args := [d] }
  | _ => none }
def FnPegsFallWrongFalsely : Prop := fnPegsFallRow.holds Try.pinned (OpenSpec.ofChange fnPegsFallWrong)

/-- 'laws.FnFullPegs': WHATEVER THE INPUT: true; the input reads as it did. -/
def fnFullPegsSpec : ChangeSpec := { name := "fnFullPegs", fn := fun _ => fun
  | [d] => { results := [.lit (.bool true)], args := [d] }
  | _ => none }
def fnFullPegsRow : OpenClaim := { program := "ytgbbmnnpphkkbac", sum := "77524c31001cc1a3b08cd92a59e8a7f7bac32ff95e5f0e6bc5c82be0ce5ccde8", func := "loop.example/piecesonboards/laws.FnFullPegs", spec := "fnFullPegs", recurses := true, apart := false }
def FnFullPegsSaid : Prop := fnFullPegsRow.holds Try.pinned (OpenSpec.ofChange fnFullPegsSpec)

/-- ITS FALSE NEIGHBOUR: 'it returns false'. Refute it at one input. -/
def fnFullPegsWrong : ChangeSpec := { name := "fnFullPegs", fn := fun _ => fun
  | [d] => { results := [.lit (.bool false)], args := [d] }
  | _ => none }
def FnFullPegsWrongFalsely : Prop := fnFullPegsRow.holds Try.pinned (OpenSpec.ofChange fnFullPegsWrong)

/- THE SECOND FORM. 'bulk': how many values and letters a reading holds, each counted each time it is reached (what is shared counts as often as it is met; a slice's spare places count too). A statement '..UptoSaid' is the law's where the arguments, and the package variables that the reading takes, are together of bulk at most 1048576: NARROWER than '..Said'. Prove '..Said' where nothing that the law and all that it calls make is longer than what came in: it says more and counts as full. Else prove '..UptoSaid'. A law counts once. -/
mutual
def uptoBulk {H : Type} : DataW H → Nat
  | .lit (.string bytes) => bytes.length + 1
  | .lit _ => 1
  | .nil => 1
  | .ptr d => uptoBulk d + 1
  | .slice elems spare => uptoBulkAll elems + uptoBulkAll spare + 1
  | .agg parts => uptoBulkAll parts + 1
  | .iface _ d => uptoBulk d + 1
  | .map entries => uptoBulkEntries entries + 1
  | .held _ => 1
def uptoBulkAll {H : Type} : List (DataW H) → Nat
  | [] => 0
  | d :: r => uptoBulk d + uptoBulkAll r
def uptoBulkEntries {H : Type} : List (Lit × DataW H) → Nat
  | [] => 0
  | x :: r => uptoBulkEntry x + uptoBulkEntries r
def uptoBulkEntry {H : Type} : Lit × DataW H → Nat
  | (.string bytes, d) => bytes.length + uptoBulk d + 1
  | (_, d) => uptoBulk d + 1
 end
def uptoSmall : (H : Type) → List (DataW H) → Bool := fun _ ds => decide (uptoBulkAll ds ≤ 1048576)
def OpenSpec.upto (s : _root_.Go.ChangeSpec) : _root_.Go.OpenSpec := { _root_.Go.OpenSpec.ofChange s with cond := some uptoSmall }

/-- 'laws.FnFewestLeft', WHERE WHAT IT READS IS OF BULK AT MOST 1048576: true; the input reads as it did. -/
def fnFewestLeftUptoRow : OpenClaim := { program := "ytgbbmnnpphkkbac", sum := "77524c31001cc1a3b08cd92a59e8a7f7bac32ff95e5f0e6bc5c82be0ce5ccde8", func := "loop.example/piecesonboards/laws.FnFewestLeft", spec := "fnFewestLeft", recurses := true, apart := false, narrowed := true }
def FnFewestLeftUptoSaid : Prop := fnFewestLeftUptoRow.holds Try.pinned (OpenSpec.upto fnFewestLeftSpec)

/-- 'laws.FnCanCome', WHERE WHAT IT READS IS OF BULK AT MOST 1048576: true; the input reads as it did. -/
def fnCanComeUptoRow : OpenClaim := { program := "ytgbbmnnpphkkbac", sum := "77524c31001cc1a3b08cd92a59e8a7f7bac32ff95e5f0e6bc5c82be0ce5ccde8", func := "loop.example/piecesonboards/laws.FnCanCome", spec := "fnCanCome", recurses := true, apart := false, narrowed := true }
def FnCanComeUptoSaid : Prop := fnCanComeUptoRow.holds Try.pinned (OpenSpec.upto fnCanComeSpec)

/-- 'laws.FnPegsFall', WHERE WHAT IT READS IS OF BULK AT MOST 1048576: true; the input reads as it did. -/
def fnPegsFallUptoRow : OpenClaim := { program := "ytgbbmnnpphkkbac", sum := "77524c31001cc1a3b08cd92a59e8a7f7bac32ff95e5f0e6bc5c82be0ce5ccde8", func := "loop.example/piecesonboards/laws.FnPegsFall", spec := "fnPegsFall", recurses := true, apart := false, narrowed := true }
def FnPegsFallUptoSaid : Prop := fnPegsFallUptoRow.holds Try.pinned (OpenSpec.upto fnPegsFallSpec)

/-- 'laws.FnFullPegs', WHERE WHAT IT READS IS OF BULK AT MOST 1048576: true; the input reads as it did. -/
def fnFullPegsUptoRow : OpenClaim := { program := "ytgbbmnnpphkkbac", sum := "77524c31001cc1a3b08cd92a59e8a7f7bac32ff95e5f0e6bc5c82be0ce5ccde8", func := "loop.example/piecesonboards/laws.FnFullPegs", spec := "fnFullPegs", recurses := true, apart := false, narrowed := true }
def FnFullPegsUptoSaid : Prop := fnFullPegsUptoRow.holds Try.pinned (OpenSpec.upto fnFullPegsSpec)

end Rows
end Go.Proofs.Ytgbbmnnpphkkbac

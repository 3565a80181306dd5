/-
  No cell of these rows narrows 'for every input' (looked for: loops, veiled, ifaces, maps, wideKeys, modest, calm, conditions, laid).
  DERIVED. THE GIVEN ROWS OF THIS SEAT. 3 by the template 'for every input the law returns true; each argument reads behind the call as it read before'; 0 by the template 'total and deterministic' (their statements: YtmednlgokcbdjadTotals.lean).
  GIVEN WITH THE SEED: the statements are not yours to turn. If you find one false, say at which input.
  Laid BY PROGRAM, IN A SANDBOX (cutbox-rows.mjs): the forced cells as the released guide's own fill.sh prints them over the translation ca604d74ef442972… (all of the seat's roots in one cut). By AI agents, Wed Nov 11 2026. No macro, syntax, notation, axiom, sorry.
-/
import Derived.Test.YtmednlgokcbdjadChecked
import GoSem.Claim
import GoSem.ClaimJoined
import GoSem.ClaimMapViews
import Derived.JoinedTies
import Derived.KernelRfl
namespace Go.Proofs.Ytmednlgokcbdjad
/- THE CELL 'sum', in the pinned program and in every row, IS THE sha256 OF THE DUMP (.gsa) THAT YtmednlgokcbdjadProg.lean LOADS. Nothing in Lean hashes anything: it is a label: what it is worth is what the hold of that sum in a sandbox is worth. -/
noncomputable def Try.pinned : Pinned := { name := "ytmednlgokcbdjad", sum := "ca604d74ef4429726e0854b526e13b69f32eb04c91d44dc93fb1024aa0ab34f9", checked := Try.checked }
namespace Rows
def none {H : Type} : Left H := { results := [], args := [] }

/-- 'laws.FnCountLoose': WHATEVER THE INPUT: true; the input reads as it did. -/
def fnCountLooseSpec : ChangeSpec := { name := "fnCountLoose", fn := fun _ => fun
  | [d] => { results := [.lit (.bool true)], args := [d] }
  | _ => none }
def fnCountLooseRow : OpenClaim := { program := "ytmednlgokcbdjad", sum := "ca604d74ef4429726e0854b526e13b69f32eb04c91d44dc93fb1024aa0ab34f9", func := "loop.example/piecesonboards/laws.FnCountLoose", spec := "fnCountLoose", unfollowed := true, recurses := true, apart := false }
def FnCountLooseSaid : Prop := fnCountLooseRow.holds Try.pinned (OpenSpec.ofChange fnCountLooseSpec)

/-- ITS FALSE NEIGHBOUR: 'it returns false'. Refute it at one input. -/
def fnCountLooseWrong : ChangeSpec := { name := "fnCountLoose", fn := fun _ => fun
  | [d] => { results := [.lit (.bool false)], args := [d] }
  | _ => none }
def FnCountLooseWrongFalsely : Prop := fnCountLooseRow.holds Try.pinned (OpenSpec.ofChange fnCountLooseWrong)

/-- 'laws.FnLooseRooks': WHATEVER THE INPUT: true; the input reads as it did. -/
def fnLooseRooksSpec : ChangeSpec := { name := "fnLooseRooks", fn := fun _ => fun
  | [d] => { results := [.lit (.bool true)], args := [d] }
  | _ => none }
def fnLooseRooksRow : OpenClaim := { program := "ytmednlgokcbdjad", sum := "ca604d74ef4429726e0854b526e13b69f32eb04c91d44dc93fb1024aa0ab34f9", func := "loop.example/piecesonboards/laws.FnLooseRooks", spec := "fnLooseRooks", unfollowed := true, recurses := true, apart := false }
def FnLooseRooksSaid : Prop := fnLooseRooksRow.holds Try.pinned (OpenSpec.ofChange fnLooseRooksSpec)

/-- ITS FALSE NEIGHBOUR: 'it returns false'. Refute it at one input. -/
def fnLooseRooksWrong : ChangeSpec := { name := "fnLooseRooks", fn := fun _ => fun
  | [d] => { results := [.lit (.bool false)], args := [d] }
  | _ => none }
def FnLooseRooksWrongFalsely : Prop := fnLooseRooksRow.holds Try.pinned (OpenSpec.ofChange fnLooseRooksWrong)

/-- 'laws.FnQueensGuardMore': WHATEVER THE INPUT: true; the input reads as it did. -/
def fnQueensGuardMoreSpec : ChangeSpec := { name := "fnQueensGuardMore", fn := fun _ => fun
  | [d] => { results := [.lit (.bool true)], args := [d] }
  | _ => none }
def fnQueensGuardMoreRow : OpenClaim := { program := "ytmednlgokcbdjad", sum := "ca604d74ef4429726e0854b526e13b69f32eb04c91d44dc93fb1024aa0ab34f9", func := "loop.example/piecesonboards/laws.FnQueensGuardMore", spec := "fnQueensGuardMore", unfollowed := true, recurses := true, apart := false }
def FnQueensGuardMoreSaid : Prop := fnQueensGuardMoreRow.holds Try.pinned (OpenSpec.ofChange fnQueensGuardMoreSpec)

/-- ITS FALSE NEIGHBOUR: 'it returns false'. Refute it at one input. -/
def fnQueensGuardMoreWrong : ChangeSpec := { name := "fnQueensGuardMore", fn := fun _ => fun
  | [d] => { results := [.lit (.bool false)], args := [d] }
  | _ => none }
def FnQueensGuardMoreWrongFalsely : Prop := fnQueensGuardMoreRow.holds Try.pinned (OpenSpec.ofChange fnQueensGuardMoreWrong)

/- THE SECOND FORM. 'bulk': how many values and letters a reading holds, each counted each time it is reached (what is shared counts as often as it is met; a slice's spare places count too). A statement '..UptoSaid' is the law's where the arguments, and the package variables that the reading takes, are together of bulk at most 1048576: NARROWER than '..Said'. Prove '..Said' where nothing that the law and all that it calls make is longer than what came in: it says more and counts as full. Else prove '..UptoSaid'. A law counts once. -/
mutual
def uptoBulk {H : Type} : DataW H → Nat
  | .lit (.string bytes) => bytes.length + 1
  | .lit _ => 1
  | .nil => 1
  | .ptr d => uptoBulk d + 1
  | .slice elems spare => uptoBulkAll elems + uptoBulkAll spare + 1
  | .agg parts => uptoBulkAll parts + 1
  | .iface _ d => uptoBulk d + 1
  | .map entries => uptoBulkEntries entries + 1
  | .held _ => 1
def uptoBulkAll {H : Type} : List (DataW H) → Nat
  | [] => 0
  | d :: r => uptoBulk d + uptoBulkAll r
def uptoBulkEntries {H : Type} : List (Lit × DataW H) → Nat
  | [] => 0
  | x :: r => uptoBulkEntry x + uptoBulkEntries r
def uptoBulkEntry {H : Type} : Lit × DataW H → Nat
  | (.string bytes, d) => bytes.length + uptoBulk d + 1
  | (_, d) => uptoBulk d + 1
 end
def uptoSmall : (H : Type) → List (DataW H) → Bool := fun _ ds => decide (uptoBulkAll ds ≤ 1048576)
def OpenSpec.upto (s : _root_.Go.ChangeSpec) : _root_.Go.OpenSpec := { _root_.Go.OpenSpec.ofChange s with cond := some uptoSmall }

/-- 'laws.FnCountLoose', WHERE WHAT IT READS IS OF BULK AT MOST 1048576: true; the input reads as it did. -/
def fnCountLooseUptoRow : OpenClaim := { program := "ytmednlgokcbdjad", sum := "ca604d74ef4429726e0854b526e13b69f32eb04c91d44dc93fb1024aa0ab34f9", func := "loop.example/piecesonboards/laws.FnCountLoose", spec := "fnCountLoose", unfollowed := true, recurses := true, apart := false, narrowed := true }
def FnCountLooseUptoSaid : Prop := fnCountLooseUptoRow.holds Try.pinned (OpenSpec.upto fnCountLooseSpec)

/-- 'laws.FnLooseRooks', WHERE WHAT IT READS IS OF BULK AT MOST 1048576: true; the input reads as it did. -/
def fnLooseRooksUptoRow : OpenClaim := { program := "ytmednlgokcbdjad", sum := "ca604d74ef4429726e0854b526e13b69f32eb04c91d44dc93fb1024aa0ab34f9", func := "loop.example/piecesonboards/laws.FnLooseRooks", spec := "fnLooseRooks", unfollowed := true, recurses := true, apart := false, narrowed := true }
def FnLooseRooksUptoSaid : Prop := fnLooseRooksUptoRow.holds Try.pinned (OpenSpec.upto fnLooseRooksSpec)

/-- 'laws.FnQueensGuardMore', WHERE WHAT IT READS IS OF BULK AT MOST 1048576: true; the input reads as it did. -/
def fnQueensGuardMoreUptoRow : OpenClaim := { program := "ytmednlgokcbdjad", sum := "ca604d74ef4429726e0854b526e13b69f32eb04c91d44dc93fb1024aa0ab34f9", func := "loop.example/piecesonboards/laws.FnQueensGuardMore", spec := "fnQueensGuardMore", unfollowed := true, recurses := true, apart := false, narrowed := true }
def FnQueensGuardMoreUptoSaid : Prop := fnQueensGuardMoreUptoRow.holds Try.pinned (OpenSpec.upto fnQueensGuardMoreSpec)

end Rows
end Go.Proofs.Ytmednlgokcbdjad

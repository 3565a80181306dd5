/-
  No cell of these rows narrows 'for every input' (looked for: loops, veiled, ifaces, maps, wideKeys, modest, calm, conditions, laid).
  DERIVED. THE GIVEN ROWS OF THIS SEAT. 4 by the template 'for every input the law returns true; each argument reads behind the call as it read before'; 0 by the template 'total and deterministic' (their statements: YtoapmmmmdfmaeabTotals.lean).
  GIVEN WITH THE SEED: the statements are not yours to turn. If you find one false, say at which input.
  Laid BY PROGRAM, IN A SANDBOX (cutbox-rows.mjs): the forced cells as the released guide's own fill.sh prints them over the translation 1390fd0fdab4271c… (all of the seat's roots in one cut). By AI agents, Wed Nov 11 2026. No macro, syntax, notation, axiom, sorry.
-/
import Derived.Test.YtoapmmmmdfmaeabChecked
import GoSem.Claim
import GoSem.ClaimJoined
import GoSem.ClaimMapViews
import Derived.JoinedTies
import Derived.KernelRfl
namespace Go.Proofs.Ytoapmmmmdfmaeab
/- THE CELL 'sum', in the pinned program and in every row, IS THE sha256 OF THE DUMP (.gsa) THAT YtoapmmmmdfmaeabProg.lean LOADS. Nothing in Lean hashes anything: it is a label: what it is worth is what the hold of that sum in a sandbox is worth. -/
noncomputable def Try.pinned : Pinned := { name := "ytoapmmmmdfmaeab", sum := "1390fd0fdab4271c4260b4e26d75f3bd1ff7d1779dbe7a37c7e585590f98c53b", checked := Try.checked }
namespace Rows
def none {H : Type} : Left H := { results := [], args := [] }

/-- 'laws.FnShareOf': WHATEVER THE INPUT: true; the input reads as it did. -/
def fnShareOfSpec : ChangeSpec := { name := "fnShareOf", fn := fun _ => fun
  | [d] => { results := [.lit (.bool true)], args := [d] }
  | _ => none }
def fnShareOfRow : OpenClaim := { program := "ytoapmmmmdfmaeab", sum := "1390fd0fdab4271c4260b4e26d75f3bd1ff7d1779dbe7a37c7e585590f98c53b", func := "loop.example/piecesonboards/laws.FnShareOf", spec := "fnShareOf", unfollowed := true, recurses := true, apart := false }
def FnShareOfSaid : Prop := fnShareOfRow.holds Try.pinned (OpenSpec.ofChange fnShareOfSpec)

/-- ITS FALSE NEIGHBOUR: 'it returns false'. Refute it at one input. -/
def fnShareOfWrong : ChangeSpec := { name := "fnShareOf", fn := fun _ => fun
  | [d] => { results := [.lit (.bool false)], args := [d] }
  | _ => none }
def FnShareOfWrongFalsely : Prop := fnShareOfRow.holds Try.pinned (OpenSpec.ofChange fnShareOfWrong)

/-- 'laws.FnExactBackTime': WHATEVER THE INPUT: true; the input reads as it did. -/
def fnExactBackTimeSpec : ChangeSpec := { name := "fnExactBackTime", fn := fun _ => fun
  | [d1, d2, d3, d4] => { results := [.lit (.bool true)], args := [d1, d2, d3, d4] }
  | _ => none }
def fnExactBackTimeRow : OpenClaim := { program := "ytoapmmmmdfmaeab", sum := "1390fd0fdab4271c4260b4e26d75f3bd1ff7d1779dbe7a37c7e585590f98c53b", func := "loop.example/piecesonboards/laws.FnExactBackTime", spec := "fnExactBackTime", unfollowed := true, recurses := true, apart := false }
def FnExactBackTimeSaid : Prop := fnExactBackTimeRow.holds Try.pinned (OpenSpec.ofChange fnExactBackTimeSpec)

/-- ITS FALSE NEIGHBOUR: 'it returns false'. Refute it at one input. -/
def fnExactBackTimeWrong : ChangeSpec := { name := "fnExactBackTime", fn := fun _ => fun
  | [d1, d2, d3, d4] => { results := [.lit (.bool false)], args := [d1, d2, d3, d4] }
  | _ => none }
def FnExactBackTimeWrongFalsely : Prop := fnExactBackTimeRow.holds Try.pinned (OpenSpec.ofChange fnExactBackTimeWrong)

/-- 'laws.FnBackTime': WHATEVER THE INPUT: true; the input reads as it did. -/
def fnBackTimeSpec : ChangeSpec := { name := "fnBackTime", fn := fun _ => fun
  | [d] => { results := [.lit (.bool true)], args := [d] }
  | _ => none }
def fnBackTimeRow : OpenClaim := { program := "ytoapmmmmdfmaeab", sum := "1390fd0fdab4271c4260b4e26d75f3bd1ff7d1779dbe7a37c7e585590f98c53b", func := "loop.example/piecesonboards/laws.FnBackTime", spec := "fnBackTime", unfollowed := true, recurses := true, apart := false }
def FnBackTimeSaid : Prop := fnBackTimeRow.holds Try.pinned (OpenSpec.ofChange fnBackTimeSpec)

/-- ITS FALSE NEIGHBOUR: 'it returns false'. Refute it at one input. -/
def fnBackTimeWrong : ChangeSpec := { name := "fnBackTime", fn := fun _ => fun
  | [d] => { results := [.lit (.bool false)], args := [d] }
  | _ => none }
def FnBackTimeWrongFalsely : Prop := fnBackTimeRow.holds Try.pinned (OpenSpec.ofChange fnBackTimeWrong)

/-- 'laws.FnExactHitTime': WHATEVER THE INPUT: true; the input reads as it did. -/
def fnExactHitTimeSpec : ChangeSpec := { name := "fnExactHitTime", fn := fun _ => fun
  | [d1, d2, d3, d4, d5] => { results := [.lit (.bool true)], args := [d1, d2, d3, d4, d5] }
  | _ => none }
def fnExactHitTimeRow : OpenClaim := { program := "ytoapmmmmdfmaeab", sum := "1390fd0fdab4271c4260b4e26d75f3bd1ff7d1779dbe7a37c7e585590f98c53b", func := "loop.example/piecesonboards/laws.FnExactHitTime", spec := "fnExactHitTime", unfollowed := true, recurses := true, apart := false }
def FnExactHitTimeSaid : Prop := fnExactHitTimeRow.holds Try.pinned (OpenSpec.ofChange fnExactHitTimeSpec)

/-- ITS FALSE NEIGHBOUR: 'it returns false'. Refute it at one input. -/
def fnExactHitTimeWrong : ChangeSpec := { name := "fnExactHitTime", fn := fun _ => fun
  | [d1, d2, d3, d4, d5] => { results := [.lit (.bool false)], args := [d1, d2, d3, d4, d5] }
  | _ => none }
def FnExactHitTimeWrongFalsely : Prop := fnExactHitTimeRow.holds Try.pinned (OpenSpec.ofChange fnExactHitTimeWrong)

/- THE SECOND FORM. 'bulk': how many values and letters a reading holds, each counted each time it is reached (what is shared counts as often as it is met; a slice's spare places count too). A statement '..UptoSaid' is the law's where the arguments, and the package variables that the reading takes, are together of bulk at most 1048576: NARROWER than '..Said'. Prove '..Said' where nothing that the law and all that it calls make is longer than what came in: it says more and counts as full. Else prove '..UptoSaid'. A law counts once. -/
mutual
def uptoBulk {H : Type} : DataW H → Nat
  | .lit (.string bytes) => bytes.length + 1
  | .lit _ => 1
  | .nil => 1
  | .ptr d => uptoBulk d + 1
  | .slice elems spare => uptoBulkAll elems + uptoBulkAll spare + 1
  | .agg parts => uptoBulkAll parts + 1
  | .iface _ d => uptoBulk d + 1
  | .map entries => uptoBulkEntries entries + 1
  | .held _ => 1
def uptoBulkAll {H : Type} : List (DataW H) → Nat
  | [] => 0
  | d :: r => uptoBulk d + uptoBulkAll r
def uptoBulkEntries {H : Type} : List (Lit × DataW H) → Nat
  | [] => 0
  | x :: r => uptoBulkEntry x + uptoBulkEntries r
def uptoBulkEntry {H : Type} : Lit × DataW H → Nat
  | (.string bytes, d) => bytes.length + uptoBulk d + 1
  | (_, d) => uptoBulk d + 1
 end
def uptoSmall : (H : Type) → List (DataW H) → Bool := fun _ ds => decide (uptoBulkAll ds ≤ 1048576)
def OpenSpec.upto (s : _root_.Go.ChangeSpec) : _root_.Go.OpenSpec := { _root_.Go.OpenSpec.ofChange s with cond := some uptoSmall }

/-- 'laws.FnShareOf', WHERE WHAT IT READS IS OF BULK AT MOST 1048576: true; the input reads as it did. -/
def fnShareOfUptoRow : OpenClaim := { program := "ytoapmmmmdfmaeab", sum := "1390fd0fdab4271c4260b4e26d75f3bd1ff7d1779dbe7a37c7e585590f98c53b", func := "loop.example/piecesonboards/laws.FnShareOf", spec := "fnShareOf", unfollowed := true, recurses := true, apart := false, narrowed := true }
def FnShareOfUptoSaid : Prop := fnShareOfUptoRow.holds Try.pinned (OpenSpec.upto fnShareOfSpec)

/-- 'laws.FnExactBackTime', WHERE WHAT IT READS IS OF BULK AT MOST 1048576: true; the input reads as it did. -/
def fnExactBackTimeUptoRow : OpenClaim := { program := "ytoapmmmmdfmaeab", sum := "1390fd0fdab4271c4260b4e26d75f3bd1ff7d1779dbe7a37c7e585590f98c53b", func := "loop.example/piecesonboards/laws.FnExactBackTime", spec := "fnExactBackTime", unfollowed := true, recurses := true, apart := false, narrowed := true }
def FnExactBackTimeUptoSaid : Prop := fnExactBackTimeUptoRow.holds Try.pinned (OpenSpec.upto fnExactBackTimeSpec)

/-- 'laws.FnBackTime', WHERE WHAT IT READS IS OF BULK AT MOST 1048576: true; the input reads as it did. -/
def fnBackTimeUptoRow : OpenClaim := { program := "ytoapmmmmdfmaeab", sum := "1390fd0fdab4271c4260b4e26d75f3bd1ff7d1779dbe7a37c7e585590f98c53b", func := "loop.example/piecesonboards/laws.FnBackTime", spec := "fnBackTime", unfollowed := true, recurses := true, apart := false, narrowed := true }
def FnBackTimeUptoSaid : Prop := fnBackTimeUptoRow.holds Try.pinned (OpenSpec.upto fnBackTimeSpec)

/-- 'laws.FnExactHitTime', WHERE WHAT IT READS IS OF BULK AT MOST 1048576: true; the input reads as it did. -/
def fnExactHitTimeUptoRow : OpenClaim := { program := "ytoapmmmmdfmaeab", sum := "1390fd0fdab4271c4260b4e26d75f3bd1ff7d1779dbe7a37c7e585590f98c53b", func := "loop.example/piecesonboards/laws.FnExactHitTime", spec := "fnExactHitTime", unfollowed := true, recurses := true, apart := false, narrowed := true }
def FnExactHitTimeUptoSaid : Prop := fnExactHitTimeUptoRow.holds Try.pinned (OpenSpec.upto fnExactHitTimeSpec)

end Rows
end Go.Proofs.Ytoapmmmmdfmaeab

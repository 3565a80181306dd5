/-
  No cell of these rows narrows 'for every input' (looked for: loops, veiled, ifaces, maps, wideKeys, modest, calm, conditions, laid).
  DERIVED. THE GIVEN ROWS OF THIS SEAT. 4 by the template 'for every input the law returns true; each argument reads behind the call as it read before'; 0 by the template 'total and deterministic' (their statements: YtijidecdokbmnabTotals.lean).
  GIVEN WITH THE SEED: the statements are not yours to turn. If you find one false, say at which input.
  Laid BY PROGRAM, IN A SANDBOX (cutbox-rows.mjs): the forced cells as the released guide's own fill.sh prints them over the translation 76d0d011a4c271aa… (all of the seat's roots in one cut). By AI agents, Wed Nov 11 2026. No macro, syntax, notation, axiom, sorry.
-/
import Derived.Test.YtijidecdokbmnabChecked
import GoSem.Claim
import GoSem.ClaimJoined
import GoSem.ClaimMapViews
import Derived.JoinedTies
import Derived.KernelRfl
namespace Go.Proofs.Ytijidecdokbmnab
/- THE CELL 'sum', in the pinned program and in every row, IS THE sha256 OF THE DUMP (.gsa) THAT YtijidecdokbmnabProg.lean LOADS. Nothing in Lean hashes anything: it is a label: what it is worth is what the hold of that sum in a sandbox is worth. -/
noncomputable def Try.pinned : Pinned := { name := "ytijidecdokbmnab", sum := "76d0d011a4c271aabb63f6abaa64531945911324030ee3f02ca7246ffbf5710d", checked := Try.checked }
namespace Rows
def none {H : Type} : Left H := { results := [], args := [] }

/-- 'laws.FnExactQuietCount': WHATEVER THE INPUT: true; the input reads as it did. -/
def fnExactQuietCountSpec : ChangeSpec := { name := "fnExactQuietCount", fn := fun _ => fun
  | [d1, d2] => { results := [.lit (.bool true)], args := [d1, d2] }
  | _ => none }
def fnExactQuietCountRow : OpenClaim := { program := "ytijidecdokbmnab", sum := "76d0d011a4c271aabb63f6abaa64531945911324030ee3f02ca7246ffbf5710d", func := "loop.example/piecesonboards/laws.FnExactQuietCount", spec := "fnExactQuietCount", unfollowed := true, recurses := true, apart := false }
def FnExactQuietCountSaid : Prop := fnExactQuietCountRow.holds Try.pinned (OpenSpec.ofChange fnExactQuietCountSpec)

/-- ITS FALSE NEIGHBOUR: 'it returns false'. Refute it at one input. -/
def fnExactQuietCountWrong : ChangeSpec := { name := "fnExactQuietCount", fn := fun _ => fun
  | [d1, d2] => { results := [.lit (.bool false)], args := [d1, d2] }
  | _ => none }
def FnExactQuietCountWrongFalsely : Prop := fnExactQuietCountRow.holds Try.pinned (OpenSpec.ofChange fnExactQuietCountWrong)

/-- 'laws.FnQuietCount': WHATEVER THE INPUT: true; the input reads as it did. -/
def fnQuietCountSpec : ChangeSpec := { name := "fnQuietCount", fn := fun _ => fun
  | [d] => { results := [.lit (.bool true)], args := [d] }
  | _ => none }
def fnQuietCountRow : OpenClaim := { program := "ytijidecdokbmnab", sum := "76d0d011a4c271aabb63f6abaa64531945911324030ee3f02ca7246ffbf5710d", func := "loop.example/piecesonboards/laws.FnQuietCount", spec := "fnQuietCount", unfollowed := true, recurses := true, apart := false }
def FnQuietCountSaid : Prop := fnQuietCountRow.holds Try.pinned (OpenSpec.ofChange fnQuietCountSpec)

/-- ITS FALSE NEIGHBOUR: 'it returns false'. Refute it at one input. -/
def fnQuietCountWrong : ChangeSpec := { name := "fnQuietCount", fn := fun _ => fun
  | [d] => { results := [.lit (.bool false)], args := [d] }
  | _ => none }
def FnQuietCountWrongFalsely : Prop := fnQuietCountRow.holds Try.pinned (OpenSpec.ofChange fnQuietCountWrong)

/-- 'laws.FnLightsOfRows': WHATEVER THE INPUT: true; the input reads as it did. -/
def fnLightsOfRowsSpec : ChangeSpec := { name := "fnLightsOfRows", fn := fun _ => fun
  | [d] => { results := [.lit (.bool true)], args := [d] }
  | _ => none }
def fnLightsOfRowsRow : OpenClaim := { program := "ytijidecdokbmnab", sum := "76d0d011a4c271aabb63f6abaa64531945911324030ee3f02ca7246ffbf5710d", func := "loop.example/piecesonboards/laws.FnLightsOfRows", spec := "fnLightsOfRows", unfollowed := true, recurses := true, apart := false }
def FnLightsOfRowsSaid : Prop := fnLightsOfRowsRow.holds Try.pinned (OpenSpec.ofChange fnLightsOfRowsSpec)

/-- ITS FALSE NEIGHBOUR: 'it returns false'. Refute it at one input. -/
def fnLightsOfRowsWrong : ChangeSpec := { name := "fnLightsOfRows", fn := fun _ => fun
  | [d] => { results := [.lit (.bool false)], args := [d] }
  | _ => none }
def FnLightsOfRowsWrongFalsely : Prop := fnLightsOfRowsRow.holds Try.pinned (OpenSpec.ofChange fnLightsOfRowsWrong)

/-- 'laws.FnChasedTwice': WHATEVER THE INPUT: true; the input reads as it did. -/
def fnChasedTwiceSpec : ChangeSpec := { name := "fnChasedTwice", fn := fun _ => fun
  | [d] => { results := [.lit (.bool true)], args := [d] }
  | _ => none }
def fnChasedTwiceRow : OpenClaim := { program := "ytijidecdokbmnab", sum := "76d0d011a4c271aabb63f6abaa64531945911324030ee3f02ca7246ffbf5710d", func := "loop.example/piecesonboards/laws.FnChasedTwice", spec := "fnChasedTwice", unfollowed := true, recurses := true, apart := false }
def FnChasedTwiceSaid : Prop := fnChasedTwiceRow.holds Try.pinned (OpenSpec.ofChange fnChasedTwiceSpec)

/-- ITS FALSE NEIGHBOUR: 'it returns false'. Refute it at one input. -/
def fnChasedTwiceWrong : ChangeSpec := { name := "fnChasedTwice", fn := fun _ => fun
  | [d] => { results := [.lit (.bool false)], args := [d] }
  | _ => none }
def FnChasedTwiceWrongFalsely : Prop := fnChasedTwiceRow.holds Try.pinned (OpenSpec.ofChange fnChasedTwiceWrong)

/- THE SECOND FORM. 'bulk': how many values and letters a reading holds, each counted each time it is reached (what is shared counts as often as it is met; a slice's spare places count too). A statement '..UptoSaid' is the law's where the arguments, and the package variables that the reading takes, are together of bulk at most 1048576: NARROWER than '..Said'. Prove '..Said' where nothing that the law and all that it calls make is longer than what came in: it says more and counts as full. Else prove '..UptoSaid'. A law counts once. -/
mutual
def uptoBulk {H : Type} : DataW H → Nat
  | .lit (.string bytes) => bytes.length + 1
  | .lit _ => 1
  | .nil => 1
  | .ptr d => uptoBulk d + 1
  | .slice elems spare => uptoBulkAll elems + uptoBulkAll spare + 1
  | .agg parts => uptoBulkAll parts + 1
  | .iface _ d => uptoBulk d + 1
  | .map entries => uptoBulkEntries entries + 1
  | .held _ => 1
def uptoBulkAll {H : Type} : List (DataW H) → Nat
  | [] => 0
  | d :: r => uptoBulk d + uptoBulkAll r
def uptoBulkEntries {H : Type} : List (Lit × DataW H) → Nat
  | [] => 0
  | x :: r => uptoBulkEntry x + uptoBulkEntries r
def uptoBulkEntry {H : Type} : Lit × DataW H → Nat
  | (.string bytes, d) => bytes.length + uptoBulk d + 1
  | (_, d) => uptoBulk d + 1
 end
def uptoSmall : (H : Type) → List (DataW H) → Bool := fun _ ds => decide (uptoBulkAll ds ≤ 1048576)
def OpenSpec.upto (s : _root_.Go.ChangeSpec) : _root_.Go.OpenSpec := { _root_.Go.OpenSpec.ofChange s with cond := some uptoSmall }

/-- 'laws.FnExactQuietCount', WHERE WHAT IT READS IS OF BULK AT MOST 1048576: true; the input reads as it did. -/
def fnExactQuietCountUptoRow : OpenClaim := { program := "ytijidecdokbmnab", sum := "76d0d011a4c271aabb63f6abaa64531945911324030ee3f02ca7246ffbf5710d", func := "loop.example/piecesonboards/laws.FnExactQuietCount", spec := "fnExactQuietCount", unfollowed := true, recurses := true, apart := false, narrowed := true }
def FnExactQuietCountUptoSaid : Prop := fnExactQuietCountUptoRow.holds Try.pinned (OpenSpec.upto fnExactQuietCountSpec)

/-- 'laws.FnQuietCount', WHERE WHAT IT READS IS OF BULK AT MOST 1048576: true; the input reads as it did. -/
def fnQuietCountUptoRow : OpenClaim := { program := "ytijidecdokbmnab", sum := "76d0d011a4c271aabb63f6abaa64531945911324030ee3f02ca7246ffbf5710d", func := "loop.example/piecesonboards/laws.FnQuietCount", spec := "fnQuietCount", unfollowed := true, recurses := true, apart := false, narrowed := true }
def FnQuietCountUptoSaid : Prop := fnQuietCountUptoRow.holds Try.pinned (OpenSpec.upto fnQuietCountSpec)

/-- 'laws.FnLightsOfRows', WHERE WHAT IT READS IS OF BULK AT MOST 1048576: true; the input reads as it did. -/
def fnLightsOfRowsUptoRow : OpenClaim := { program := "ytijidecdokbmnab", sum := "76d0d011a4c271aabb63f6abaa64531945911324030ee3f02ca7246ffbf5710d", func := "loop.example/piecesonboards/laws.FnLightsOfRows", spec := "fnLightsOfRows", unfollowed := true, recurses := true, apart := false, narrowed := true }
def FnLightsOfRowsUptoSaid : Prop := fnLightsOfRowsUptoRow.holds Try.pinned (OpenSpec.upto fnLightsOfRowsSpec)

/-- 'laws.FnChasedTwice', WHERE WHAT IT READS IS OF BULK AT MOST 1048576: true; the input reads as it did. -/
def fnChasedTwiceUptoRow : OpenClaim := { program := "ytijidecdokbmnab", sum := "76d0d011a4c271aabb63f6abaa64531945911324030ee3f02ca7246ffbf5710d", func := "loop.example/piecesonboards/laws.FnChasedTwice", spec := "fnChasedTwice", unfollowed := true, recurses := true, apart := false, narrowed := true }
def FnChasedTwiceUptoSaid : Prop := fnChasedTwiceUptoRow.holds Try.pinned (OpenSpec.upto fnChasedTwiceSpec)

end Rows
end Go.Proofs.Ytijidecdokbmnab

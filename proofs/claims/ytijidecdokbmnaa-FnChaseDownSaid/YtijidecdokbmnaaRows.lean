/-
  No cell of these rows narrows 'for every input' (looked for: loops, veiled, ifaces, maps, wideKeys, modest, calm, conditions, laid).
  DERIVED. THE GIVEN ROWS OF THIS SEAT. 4 by the template 'for every input the law returns true; each argument reads behind the call as it read before'; 0 by the template 'total and deterministic' (their statements: YtijidecdokbmnaaTotals.lean).
  GIVEN WITH THE SEED: the statements are not yours to turn. If you find one false, say at which input.
  Laid BY PROGRAM, IN A SANDBOX (cutbox-rows.mjs): the forced cells as the released guide's own fill.sh prints them over the translation 5d726edd30daec2d… (all of the seat's roots in one cut). By AI agents, Wed Nov 11 2026. No macro, syntax, notation, axiom, sorry.
-/
import Derived.Test.YtijidecdokbmnaaChecked
import GoSem.Claim
import GoSem.ClaimJoined
import GoSem.ClaimMapViews
import Derived.JoinedTies
import Derived.KernelRfl
namespace Go.Proofs.Ytijidecdokbmnaa
/- THE CELL 'sum', in the pinned program and in every row, IS THE sha256 OF THE DUMP (.gsa) THAT YtijidecdokbmnaaProg.lean LOADS. Nothing in Lean hashes anything: it is a label: what it is worth is what the hold of that sum in a sandbox is worth. -/
noncomputable def Try.pinned : Pinned := { name := "ytijidecdokbmnaa", sum := "5d726edd30daec2d8d91e8fc7a1aeb0f3ba1e4a58132b958f56f05469edaac62", checked := Try.checked }
namespace Rows
def none {H : Type} : Left H := { results := [], args := [] }

/-- 'laws.FnExactPressAll': WHATEVER THE INPUT: true; the input reads as it did. -/
def fnExactPressAllSpec : ChangeSpec := { name := "fnExactPressAll", fn := fun _ => fun
  | [d1, d2, d3, d4] => { results := [.lit (.bool true)], args := [d1, d2, d3, d4] }
  | _ => none }
def fnExactPressAllRow : OpenClaim := { program := "ytijidecdokbmnaa", sum := "5d726edd30daec2d8d91e8fc7a1aeb0f3ba1e4a58132b958f56f05469edaac62", func := "loop.example/piecesonboards/laws.FnExactPressAll", spec := "fnExactPressAll", unfollowed := true, recurses := true, apart := false }
def FnExactPressAllSaid : Prop := fnExactPressAllRow.holds Try.pinned (OpenSpec.ofChange fnExactPressAllSpec)

/-- ITS FALSE NEIGHBOUR: 'it returns false'. Refute it at one input. -/
def fnExactPressAllWrong : ChangeSpec := { name := "fnExactPressAll", fn := fun _ => fun
  | [d1, d2, d3, d4] => { results := [.lit (.bool false)], args := [d1, d2, d3, d4] }
  | _ => none }
def FnExactPressAllWrongFalsely : Prop := fnExactPressAllRow.holds Try.pinned (OpenSpec.ofChange fnExactPressAllWrong)

/-- 'laws.FnPressAll': WHATEVER THE INPUT: true; the input reads as it did. -/
def fnPressAllSpec : ChangeSpec := { name := "fnPressAll", fn := fun _ => fun
  | [d] => { results := [.lit (.bool true)], args := [d] }
  | _ => none }
def fnPressAllRow : OpenClaim := { program := "ytijidecdokbmnaa", sum := "5d726edd30daec2d8d91e8fc7a1aeb0f3ba1e4a58132b958f56f05469edaac62", func := "loop.example/piecesonboards/laws.FnPressAll", spec := "fnPressAll", unfollowed := true, recurses := true, apart := false }
def FnPressAllSaid : Prop := fnPressAllRow.holds Try.pinned (OpenSpec.ofChange fnPressAllSpec)

/-- ITS FALSE NEIGHBOUR: 'it returns false'. Refute it at one input. -/
def fnPressAllWrong : ChangeSpec := { name := "fnPressAll", fn := fun _ => fun
  | [d] => { results := [.lit (.bool false)], args := [d] }
  | _ => none }
def FnPressAllWrongFalsely : Prop := fnPressAllRow.holds Try.pinned (OpenSpec.ofChange fnPressAllWrong)

/-- 'laws.FnExactChaseDown': WHATEVER THE INPUT: true; the input reads as it did. -/
def fnExactChaseDownSpec : ChangeSpec := { name := "fnExactChaseDown", fn := fun _ => fun
  | [d1, d2, d3] => { results := [.lit (.bool true)], args := [d1, d2, d3] }
  | _ => none }
def fnExactChaseDownRow : OpenClaim := { program := "ytijidecdokbmnaa", sum := "5d726edd30daec2d8d91e8fc7a1aeb0f3ba1e4a58132b958f56f05469edaac62", func := "loop.example/piecesonboards/laws.FnExactChaseDown", spec := "fnExactChaseDown", unfollowed := true, recurses := true, apart := false }
def FnExactChaseDownSaid : Prop := fnExactChaseDownRow.holds Try.pinned (OpenSpec.ofChange fnExactChaseDownSpec)

/-- ITS FALSE NEIGHBOUR: 'it returns false'. Refute it at one input. -/
def fnExactChaseDownWrong : ChangeSpec := { name := "fnExactChaseDown", fn := fun _ => fun
  | [d1, d2, d3] => { results := [.lit (.bool false)], args := [d1, d2, d3] }
  | _ => none }
def FnExactChaseDownWrongFalsely : Prop := fnExactChaseDownRow.holds Try.pinned (OpenSpec.ofChange fnExactChaseDownWrong)

/-- 'laws.FnChaseDown': WHATEVER THE INPUT: true; the input reads as it did. -/
def fnChaseDownSpec : ChangeSpec := { name := "fnChaseDown", fn := fun _ => fun
  | [d] => { results := [.lit (.bool true)], args := [d] }
  | _ => none }
def fnChaseDownRow : OpenClaim := { program := "ytijidecdokbmnaa", sum := "5d726edd30daec2d8d91e8fc7a1aeb0f3ba1e4a58132b958f56f05469edaac62", func := "loop.example/piecesonboards/laws.FnChaseDown", spec := "fnChaseDown", unfollowed := true, recurses := true, apart := false }
def FnChaseDownSaid : Prop := fnChaseDownRow.holds Try.pinned (OpenSpec.ofChange fnChaseDownSpec)

/-- ITS FALSE NEIGHBOUR: 'it returns false'. Refute it at one input. -/
def fnChaseDownWrong : ChangeSpec := { name := "fnChaseDown", fn := fun _ => fun
  | [d] => { results := [.lit (.bool false)], args := [d] }
  | _ => none }
def FnChaseDownWrongFalsely : Prop := fnChaseDownRow.holds Try.pinned (OpenSpec.ofChange fnChaseDownWrong)

/- THE SECOND FORM. 'bulk': how many values and letters a reading holds, each counted each time it is reached (what is shared counts as often as it is met; a slice's spare places count too). A statement '..UptoSaid' is the law's where the arguments, and the package variables that the reading takes, are together of bulk at most 1048576: NARROWER than '..Said'. Prove '..Said' where nothing that the law and all that it calls make is longer than what came in: it says more and counts as full. Else prove '..UptoSaid'. A law counts once. -/
mutual
def uptoBulk {H : Type} : DataW H → Nat
  | .lit (.string bytes) => bytes.length + 1
  | .lit _ => 1
  | .nil => 1
  | .ptr d => uptoBulk d + 1
  | .slice elems spare => uptoBulkAll elems + uptoBulkAll spare + 1
  | .agg parts => uptoBulkAll parts + 1
  | .iface _ d => uptoBulk d + 1
  | .map entries => uptoBulkEntries entries + 1
  | .held _ => 1
def uptoBulkAll {H : Type} : List (DataW H) → Nat
  | [] => 0
  | d :: r => uptoBulk d + uptoBulkAll r
def uptoBulkEntries {H : Type} : List (Lit × DataW H) → Nat
  | [] => 0
  | x :: r => uptoBulkEntry x + uptoBulkEntries r
def uptoBulkEntry {H : Type} : Lit × DataW H → Nat
  | (.string bytes, d) => bytes.length + uptoBulk d + 1
  | (_, d) => uptoBulk d + 1
 end
def uptoSmall : (H : Type) → List (DataW H) → Bool := fun _ ds => decide (uptoBulkAll ds ≤ 1048576)
def OpenSpec.upto (s : _root_.Go.ChangeSpec) : _root_.Go.OpenSpec := { _root_.Go.OpenSpec.ofChange s with cond := some uptoSmall }

/-- 'laws.FnExactPressAll', WHERE WHAT IT READS IS OF BULK AT MOST 1048576: true; the input reads as it did. -/
def fnExactPressAllUptoRow : OpenClaim := { program := "ytijidecdokbmnaa", sum := "5d726edd30daec2d8d91e8fc7a1aeb0f3ba1e4a58132b958f56f05469edaac62", func := "loop.example/piecesonboards/laws.FnExactPressAll", spec := "fnExactPressAll", unfollowed := true, recurses := true, apart := false, narrowed := true }
def FnExactPressAllUptoSaid : Prop := fnExactPressAllUptoRow.holds Try.pinned (OpenSpec.upto fnExactPressAllSpec)

/-- 'laws.FnPressAll', WHERE WHAT IT READS IS OF BULK AT MOST 1048576: true; the input reads as it did. -/
def fnPressAllUptoRow : OpenClaim := { program := "ytijidecdokbmnaa", sum := "5d726edd30daec2d8d91e8fc7a1aeb0f3ba1e4a58132b958f56f05469edaac62", func := "loop.example/piecesonboards/laws.FnPressAll", spec := "fnPressAll", unfollowed := true, recurses := true, apart := false, narrowed := true }
def FnPressAllUptoSaid : Prop := fnPressAllUptoRow.holds Try.pinned (OpenSpec.upto fnPressAllSpec)

/-- 'laws.FnExactChaseDown', WHERE WHAT IT READS IS OF BULK AT MOST 1048576: true; the input reads as it did. -/
def fnExactChaseDownUptoRow : OpenClaim := { program := "ytijidecdokbmnaa", sum := "5d726edd30daec2d8d91e8fc7a1aeb0f3ba1e4a58132b958f56f05469edaac62", func := "loop.example/piecesonboards/laws.FnExactChaseDown", spec := "fnExactChaseDown", unfollowed := true, recurses := true, apart := false, narrowed := true }
def FnExactChaseDownUptoSaid : Prop := fnExactChaseDownUptoRow.holds Try.pinned (OpenSpec.upto fnExactChaseDownSpec)

/-- 'laws.FnChaseDown', WHERE WHAT IT READS IS OF BULK AT MOST 1048576: true; the input reads as it did. -/
def fnChaseDownUptoRow : OpenClaim := { program := "ytijidecdokbmnaa", sum := "5d726edd30daec2d8d91e8fc7a1aeb0f3ba1e4a58132b958f56f05469edaac62", func := "loop.example/piecesonboards/laws.FnChaseDown", spec := "fnChaseDown", unfollowed := true, recurses := true, apart := false, narrowed := true }
def FnChaseDownUptoSaid : Prop := fnChaseDownUptoRow.holds Try.pinned (OpenSpec.upto fnChaseDownSpec)

end Rows
end Go.Proofs.Ytijidecdokbmnaa

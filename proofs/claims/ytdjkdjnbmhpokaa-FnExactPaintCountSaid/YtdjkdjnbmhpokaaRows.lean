/-
  No cell of these rows narrows 'for every input' (looked for: loops, veiled, ifaces, maps, wideKeys, modest, calm, conditions, laid).
  DERIVED. THE GIVEN ROWS OF THIS SEAT. 4 by the template 'for every input the law returns true; each argument reads behind the call as it read before'; 0 by the template 'total and deterministic' (their statements: YtdjkdjnbmhpokaaTotals.lean).
  GIVEN WITH THE SEED: the statements are not yours to turn. If you find one false, say at which input.
  Laid BY PROGRAM, IN A SANDBOX (cutbox-rows.mjs): the forced cells as the released guide's own fill.sh prints them over the translation 9a25b28b1d125634… (all of the seat's roots in one cut). By AI agents, Wed Nov 11 2026. No macro, syntax, notation, axiom, sorry.
-/
import Derived.Test.YtdjkdjnbmhpokaaChecked
import GoSem.Claim
import GoSem.ClaimJoined
import GoSem.ClaimMapViews
import Derived.JoinedTies
import Derived.KernelRfl
namespace Go.Proofs.Ytdjkdjnbmhpokaa
/- THE CELL 'sum', in the pinned program and in every row, IS THE sha256 OF THE DUMP (.gsa) THAT YtdjkdjnbmhpokaaProg.lean LOADS. Nothing in Lean hashes anything: it is a label: what it is worth is what the hold of that sum in a sandbox is worth. -/
noncomputable def Try.pinned : Pinned := { name := "ytdjkdjnbmhpokaa", sum := "9a25b28b1d125634dc33fb77dbfffc693efe1828d07e18e44a24eda859b5d23d", checked := Try.checked }
namespace Rows
def none {H : Type} : Left H := { results := [], args := [] }

/-- 'laws.FnExactPaintCount': WHATEVER THE INPUT: true; the input reads as it did. -/
def fnExactPaintCountSpec : ChangeSpec := { name := "fnExactPaintCount", fn := fun _ => fun
  | [d1, d2, d3, d4] => { results := [.lit (.bool true)], args := [d1, d2, d3, d4] }
  | _ => none }
def fnExactPaintCountRow : OpenClaim := { program := "ytdjkdjnbmhpokaa", sum := "9a25b28b1d125634dc33fb77dbfffc693efe1828d07e18e44a24eda859b5d23d", func := "loop.example/piecesonboards/laws.FnExactPaintCount", spec := "fnExactPaintCount", unfollowed := true, recurses := true, apart := false }
def FnExactPaintCountSaid : Prop := fnExactPaintCountRow.holds Try.pinned (OpenSpec.ofChange fnExactPaintCountSpec)

/-- ITS FALSE NEIGHBOUR: 'it returns false'. Refute it at one input. -/
def fnExactPaintCountWrong : ChangeSpec := { name := "fnExactPaintCount", fn := fun _ => fun
  | [d1, d2, d3, d4] => { results := [.lit (.bool false)], args := [d1, d2, d3, d4] }
  | _ => none }
def FnExactPaintCountWrongFalsely : Prop := fnExactPaintCountRow.holds Try.pinned (OpenSpec.ofChange fnExactPaintCountWrong)

/-- 'laws.FnExactPaintByParts': WHATEVER THE INPUT: true; the input reads as it did. -/
def fnExactPaintByPartsSpec : ChangeSpec := { name := "fnExactPaintByParts", fn := fun _ => fun
  | [d1, d2, d3, d4] => { results := [.lit (.bool true)], args := [d1, d2, d3, d4] }
  | _ => none }
def fnExactPaintByPartsRow : OpenClaim := { program := "ytdjkdjnbmhpokaa", sum := "9a25b28b1d125634dc33fb77dbfffc693efe1828d07e18e44a24eda859b5d23d", func := "loop.example/piecesonboards/laws.FnExactPaintByParts", spec := "fnExactPaintByParts", unfollowed := true, recurses := true, apart := false }
def FnExactPaintByPartsSaid : Prop := fnExactPaintByPartsRow.holds Try.pinned (OpenSpec.ofChange fnExactPaintByPartsSpec)

/-- ITS FALSE NEIGHBOUR: 'it returns false'. Refute it at one input. -/
def fnExactPaintByPartsWrong : ChangeSpec := { name := "fnExactPaintByParts", fn := fun _ => fun
  | [d1, d2, d3, d4] => { results := [.lit (.bool false)], args := [d1, d2, d3, d4] }
  | _ => none }
def FnExactPaintByPartsWrongFalsely : Prop := fnExactPaintByPartsRow.holds Try.pinned (OpenSpec.ofChange fnExactPaintByPartsWrong)

/-- 'laws.FnPaintCount': WHATEVER THE INPUT: true; the input reads as it did. -/
def fnPaintCountSpec : ChangeSpec := { name := "fnPaintCount", fn := fun _ => fun
  | [d] => { results := [.lit (.bool true)], args := [d] }
  | _ => none }
def fnPaintCountRow : OpenClaim := { program := "ytdjkdjnbmhpokaa", sum := "9a25b28b1d125634dc33fb77dbfffc693efe1828d07e18e44a24eda859b5d23d", func := "loop.example/piecesonboards/laws.FnPaintCount", spec := "fnPaintCount", unfollowed := true, recurses := true, apart := false }
def FnPaintCountSaid : Prop := fnPaintCountRow.holds Try.pinned (OpenSpec.ofChange fnPaintCountSpec)

/-- ITS FALSE NEIGHBOUR: 'it returns false'. Refute it at one input. -/
def fnPaintCountWrong : ChangeSpec := { name := "fnPaintCount", fn := fun _ => fun
  | [d] => { results := [.lit (.bool false)], args := [d] }
  | _ => none }
def FnPaintCountWrongFalsely : Prop := fnPaintCountRow.holds Try.pinned (OpenSpec.ofChange fnPaintCountWrong)

/-- 'laws.FnPaintByParts': WHATEVER THE INPUT: true; the input reads as it did. -/
def fnPaintByPartsSpec : ChangeSpec := { name := "fnPaintByParts", fn := fun _ => fun
  | [d] => { results := [.lit (.bool true)], args := [d] }
  | _ => none }
def fnPaintByPartsRow : OpenClaim := { program := "ytdjkdjnbmhpokaa", sum := "9a25b28b1d125634dc33fb77dbfffc693efe1828d07e18e44a24eda859b5d23d", func := "loop.example/piecesonboards/laws.FnPaintByParts", spec := "fnPaintByParts", unfollowed := true, recurses := true, apart := false }
def FnPaintByPartsSaid : Prop := fnPaintByPartsRow.holds Try.pinned (OpenSpec.ofChange fnPaintByPartsSpec)

/-- ITS FALSE NEIGHBOUR: 'it returns false'. Refute it at one input. -/
def fnPaintByPartsWrong : ChangeSpec := { name := "fnPaintByParts", fn := fun _ => fun
  | [d] => { results := [.lit (.bool false)], args := [d] }
  | _ => none }
def FnPaintByPartsWrongFalsely : Prop := fnPaintByPartsRow.holds Try.pinned (OpenSpec.ofChange fnPaintByPartsWrong)

/- THE SECOND FORM. 'bulk': how many values and letters a reading holds, each counted each time it is reached (what is shared counts as often as it is met; a slice's spare places count too). A statement '..UptoSaid' is the law's where the arguments, and the package variables that the reading takes, are together of bulk at most 1048576: NARROWER than '..Said'. Prove '..Said' where nothing that the law and all that it calls make is longer than what came in: it says more and counts as full. Else prove '..UptoSaid'. A law counts once. -/
mutual
def uptoBulk {H : Type} : DataW H → Nat
  | .lit (.string bytes) => bytes.length + 1
  | .lit _ => 1
  | .nil => 1
  | .ptr d => uptoBulk d + 1
  | .slice elems spare => uptoBulkAll elems + uptoBulkAll spare + 1
  | .agg parts => uptoBulkAll parts + 1
  | .iface _ d => uptoBulk d + 1
  | .map entries => uptoBulkEntries entries + 1
  | .held _ => 1
def uptoBulkAll {H : Type} : List (DataW H) → Nat
  | [] => 0
  | d :: r => uptoBulk d + uptoBulkAll r
def uptoBulkEntries {H : Type} : List (Lit × DataW H) → Nat
  | [] => 0
  | x :: r => uptoBulkEntry x + uptoBulkEntries r
def uptoBulkEntry {H : Type} : Lit × DataW H → Nat
  | (.string bytes, d) => bytes.length + uptoBulk d + 1
  | (_, d) => uptoBulk d + 1
 end
def uptoSmall : (H : Type) → List (DataW H) → Bool := fun _ ds => decide (uptoBulkAll ds ≤ 1048576)
def OpenSpec.upto (s : _root_.Go.ChangeSpec) : _root_.Go.OpenSpec := { _root_.Go.OpenSpec.ofChange s with cond := some uptoSmall }

/-- 'laws.FnExactPaintCount', WHERE WHAT IT READS IS OF BULK AT MOST 1048576: true; the input reads as it did. -/
def fnExactPaintCountUptoRow : OpenClaim := { program := "ytdjkdjnbmhpokaa", sum := "9a25b28b1d125634dc33fb77dbfffc693efe1828d07e18e44a24eda859b5d23d", func := "loop.example/piecesonboards/laws.FnExactPaintCount", spec := "fnExactPaintCount", unfollowed := true, recurses := true, apart := false, narrowed := true }
def FnExactPaintCountUptoSaid : Prop := fnExactPaintCountUptoRow.holds Try.pinned (OpenSpec.upto fnExactPaintCountSpec)

/-- 'laws.FnExactPaintByParts', WHERE WHAT IT READS IS OF BULK AT MOST 1048576: true; the input reads as it did. -/
def fnExactPaintByPartsUptoRow : OpenClaim := { program := "ytdjkdjnbmhpokaa", sum := "9a25b28b1d125634dc33fb77dbfffc693efe1828d07e18e44a24eda859b5d23d", func := "loop.example/piecesonboards/laws.FnExactPaintByParts", spec := "fnExactPaintByParts", unfollowed := true, recurses := true, apart := false, narrowed := true }
def FnExactPaintByPartsUptoSaid : Prop := fnExactPaintByPartsUptoRow.holds Try.pinned (OpenSpec.upto fnExactPaintByPartsSpec)

/-- 'laws.FnPaintCount', WHERE WHAT IT READS IS OF BULK AT MOST 1048576: true; the input reads as it did. -/
def fnPaintCountUptoRow : OpenClaim := { program := "ytdjkdjnbmhpokaa", sum := "9a25b28b1d125634dc33fb77dbfffc693efe1828d07e18e44a24eda859b5d23d", func := "loop.example/piecesonboards/laws.FnPaintCount", spec := "fnPaintCount", unfollowed := true, recurses := true, apart := false, narrowed := true }
def FnPaintCountUptoSaid : Prop := fnPaintCountUptoRow.holds Try.pinned (OpenSpec.upto fnPaintCountSpec)

/-- 'laws.FnPaintByParts', WHERE WHAT IT READS IS OF BULK AT MOST 1048576: true; the input reads as it did. -/
def fnPaintByPartsUptoRow : OpenClaim := { program := "ytdjkdjnbmhpokaa", sum := "9a25b28b1d125634dc33fb77dbfffc693efe1828d07e18e44a24eda859b5d23d", func := "loop.example/piecesonboards/laws.FnPaintByParts", spec := "fnPaintByParts", unfollowed := true, recurses := true, apart := false, narrowed := true }
def FnPaintByPartsUptoSaid : Prop := fnPaintByPartsUptoRow.holds Try.pinned (OpenSpec.upto fnPaintByPartsSpec)

end Rows
end Go.Proofs.Ytdjkdjnbmhpokaa

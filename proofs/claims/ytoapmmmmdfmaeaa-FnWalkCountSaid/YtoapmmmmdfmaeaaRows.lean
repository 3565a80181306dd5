/-
  No cell of these rows narrows 'for every input' (looked for: loops, veiled, ifaces, maps, wideKeys, modest, calm, conditions, laid).
  DERIVED. THE GIVEN ROWS OF THIS SEAT. 4 by the template 'for every input the law returns true; each argument reads behind the call as it read before'; 0 by the template 'total and deterministic' (their statements: YtoapmmmmdfmaeaaTotals.lean).
  GIVEN WITH THE SEED: the statements are not yours to turn. If you find one false, say at which input.
  Laid BY PROGRAM, IN A SANDBOX (cutbox-rows.mjs): the forced cells as the released guide's own fill.sh prints them over the translation 981f1e5ef62dd949… (all of the seat's roots in one cut). By AI agents, Wed Nov 11 2026. No macro, syntax, notation, axiom, sorry.
-/
import Derived.Test.YtoapmmmmdfmaeaaChecked
import GoSem.Claim
import GoSem.ClaimJoined
import GoSem.ClaimMapViews
import Derived.JoinedTies
import Derived.KernelRfl
namespace Go.Proofs.Ytoapmmmmdfmaeaa
/- THE CELL 'sum', in the pinned program and in every row, IS THE sha256 OF THE DUMP (.gsa) THAT YtoapmmmmdfmaeaaProg.lean LOADS. Nothing in Lean hashes anything: it is a label: what it is worth is what the hold of that sum in a sandbox is worth. -/
noncomputable def Try.pinned : Pinned := { name := "ytoapmmmmdfmaeaa", sum := "981f1e5ef62dd949730fa190048f7feacf81b04a77b9c7097b7605ec7330c1c1", checked := Try.checked }
namespace Rows
def none {H : Type} : Left H := { results := [], args := [] }

/-- 'laws.FnExactWalkCount': WHATEVER THE INPUT: true; the input reads as it did. -/
def fnExactWalkCountSpec : ChangeSpec := { name := "fnExactWalkCount", fn := fun _ => fun
  | [d1, d2, d3, d4, d5, d6] => { results := [.lit (.bool true)], args := [d1, d2, d3, d4, d5, d6] }
  | _ => none }
def fnExactWalkCountRow : OpenClaim := { program := "ytoapmmmmdfmaeaa", sum := "981f1e5ef62dd949730fa190048f7feacf81b04a77b9c7097b7605ec7330c1c1", func := "loop.example/piecesonboards/laws.FnExactWalkCount", spec := "fnExactWalkCount", unfollowed := true, recurses := true, apart := false }
def FnExactWalkCountSaid : Prop := fnExactWalkCountRow.holds Try.pinned (OpenSpec.ofChange fnExactWalkCountSpec)

/-- ITS FALSE NEIGHBOUR: 'it returns false'. Refute it at one input. -/
def fnExactWalkCountWrong : ChangeSpec := { name := "fnExactWalkCount", fn := fun _ => fun
  | [d1, d2, d3, d4, d5, d6] => { results := [.lit (.bool false)], args := [d1, d2, d3, d4, d5, d6] }
  | _ => none }
def FnExactWalkCountWrongFalsely : Prop := fnExactWalkCountRow.holds Try.pinned (OpenSpec.ofChange fnExactWalkCountWrong)

/-- 'laws.FnWalkCount': WHATEVER THE INPUT: true; the input reads as it did. -/
def fnWalkCountSpec : ChangeSpec := { name := "fnWalkCount", fn := fun _ => fun
  | [d] => { results := [.lit (.bool true)], args := [d] }
  | _ => none }
def fnWalkCountRow : OpenClaim := { program := "ytoapmmmmdfmaeaa", sum := "981f1e5ef62dd949730fa190048f7feacf81b04a77b9c7097b7605ec7330c1c1", func := "loop.example/piecesonboards/laws.FnWalkCount", spec := "fnWalkCount", unfollowed := true, recurses := true, apart := false }
def FnWalkCountSaid : Prop := fnWalkCountRow.holds Try.pinned (OpenSpec.ofChange fnWalkCountSpec)

/-- ITS FALSE NEIGHBOUR: 'it returns false'. Refute it at one input. -/
def fnWalkCountWrong : ChangeSpec := { name := "fnWalkCount", fn := fun _ => fun
  | [d] => { results := [.lit (.bool false)], args := [d] }
  | _ => none }
def FnWalkCountWrongFalsely : Prop := fnWalkCountRow.holds Try.pinned (OpenSpec.ofChange fnWalkCountWrong)

/-- 'laws.FnWalksReach': WHATEVER THE INPUT: true; the input reads as it did. -/
def fnWalksReachSpec : ChangeSpec := { name := "fnWalksReach", fn := fun _ => fun
  | [d] => { results := [.lit (.bool true)], args := [d] }
  | _ => none }
def fnWalksReachRow : OpenClaim := { program := "ytoapmmmmdfmaeaa", sum := "981f1e5ef62dd949730fa190048f7feacf81b04a77b9c7097b7605ec7330c1c1", func := "loop.example/piecesonboards/laws.FnWalksReach", spec := "fnWalksReach", unfollowed := true, recurses := true, apart := false }
def FnWalksReachSaid : Prop := fnWalksReachRow.holds Try.pinned (OpenSpec.ofChange fnWalksReachSpec)

/-- ITS FALSE NEIGHBOUR: 'it returns false'. Refute it at one input. -/
def fnWalksReachWrong : ChangeSpec := { name := "fnWalksReach", fn := fun _ => fun
  | [d] => { results := [.lit (.bool false)], args := [d] }
  | _ => none }
def FnWalksReachWrongFalsely : Prop := fnWalksReachRow.holds Try.pinned (OpenSpec.ofChange fnWalksReachWrong)

/-- 'laws.FnExactShareOf': WHATEVER THE INPUT: true; the input reads as it did. -/
def fnExactShareOfSpec : ChangeSpec := { name := "fnExactShareOf", fn := fun _ => fun
  | [d1, d2, d3, d4] => { results := [.lit (.bool true)], args := [d1, d2, d3, d4] }
  | _ => none }
def fnExactShareOfRow : OpenClaim := { program := "ytoapmmmmdfmaeaa", sum := "981f1e5ef62dd949730fa190048f7feacf81b04a77b9c7097b7605ec7330c1c1", func := "loop.example/piecesonboards/laws.FnExactShareOf", spec := "fnExactShareOf", unfollowed := true, recurses := true, apart := false }
def FnExactShareOfSaid : Prop := fnExactShareOfRow.holds Try.pinned (OpenSpec.ofChange fnExactShareOfSpec)

/-- ITS FALSE NEIGHBOUR: 'it returns false'. Refute it at one input. -/
def fnExactShareOfWrong : ChangeSpec := { name := "fnExactShareOf", fn := fun _ => fun
  | [d1, d2, d3, d4] => { results := [.lit (.bool false)], args := [d1, d2, d3, d4] }
  | _ => none }
def FnExactShareOfWrongFalsely : Prop := fnExactShareOfRow.holds Try.pinned (OpenSpec.ofChange fnExactShareOfWrong)

/- THE SECOND FORM. 'bulk': how many values and letters a reading holds, each counted each time it is reached (what is shared counts as often as it is met; a slice's spare places count too). A statement '..UptoSaid' is the law's where the arguments, and the package variables that the reading takes, are together of bulk at most 1048576: NARROWER than '..Said'. Prove '..Said' where nothing that the law and all that it calls make is longer than what came in: it says more and counts as full. Else prove '..UptoSaid'. A law counts once. -/
mutual
def uptoBulk {H : Type} : DataW H → Nat
  | .lit (.string bytes) => bytes.length + 1
  | .lit _ => 1
  | .nil => 1
  | .ptr d => uptoBulk d + 1
  | .slice elems spare => uptoBulkAll elems + uptoBulkAll spare + 1
  | .agg parts => uptoBulkAll parts + 1
  | .iface _ d => uptoBulk d + 1
  | .map entries => uptoBulkEntries entries + 1
  | .held _ => 1
def uptoBulkAll {H : Type} : List (DataW H) → Nat
  | [] => 0
  | d :: r => uptoBulk d + uptoBulkAll r
def uptoBulkEntries {H : Type} : List (Lit × DataW H) → Nat
  | [] => 0
  | x :: r => uptoBulkEntry x + uptoBulkEntries r
def uptoBulkEntry {H : Type} : Lit × DataW H → Nat
  | (.string bytes, d) => bytes.length + uptoBulk d + 1
  | (_, d) => uptoBulk d + 1
 end
def uptoSmall : (H : Type) → List (DataW H) → Bool := fun _ ds => decide (uptoBulkAll ds ≤ 1048576)
def OpenSpec.upto (s : _root_.Go.ChangeSpec) : _root_.Go.OpenSpec := { _root_.Go.OpenSpec.ofChange s with cond := some uptoSmall }

/-- 'laws.FnExactWalkCount', WHERE WHAT IT READS IS OF BULK AT MOST 1048576: true; the input reads as it did. -/
def fnExactWalkCountUptoRow : OpenClaim := { program := "ytoapmmmmdfmaeaa", sum := "981f1e5ef62dd949730fa190048f7feacf81b04a77b9c7097b7605ec7330c1c1", func := "loop.example/piecesonboards/laws.FnExactWalkCount", spec := "fnExactWalkCount", unfollowed := true, recurses := true, apart := false, narrowed := true }
def FnExactWalkCountUptoSaid : Prop := fnExactWalkCountUptoRow.holds Try.pinned (OpenSpec.upto fnExactWalkCountSpec)

/-- 'laws.FnWalkCount', WHERE WHAT IT READS IS OF BULK AT MOST 1048576: true; the input reads as it did. -/
def fnWalkCountUptoRow : OpenClaim := { program := "ytoapmmmmdfmaeaa", sum := "981f1e5ef62dd949730fa190048f7feacf81b04a77b9c7097b7605ec7330c1c1", func := "loop.example/piecesonboards/laws.FnWalkCount", spec := "fnWalkCount", unfollowed := true, recurses := true, apart := false, narrowed := true }
def FnWalkCountUptoSaid : Prop := fnWalkCountUptoRow.holds Try.pinned (OpenSpec.upto fnWalkCountSpec)

/-- 'laws.FnWalksReach', WHERE WHAT IT READS IS OF BULK AT MOST 1048576: true; the input reads as it did. -/
def fnWalksReachUptoRow : OpenClaim := { program := "ytoapmmmmdfmaeaa", sum := "981f1e5ef62dd949730fa190048f7feacf81b04a77b9c7097b7605ec7330c1c1", func := "loop.example/piecesonboards/laws.FnWalksReach", spec := "fnWalksReach", unfollowed := true, recurses := true, apart := false, narrowed := true }
def FnWalksReachUptoSaid : Prop := fnWalksReachUptoRow.holds Try.pinned (OpenSpec.upto fnWalksReachSpec)

/-- 'laws.FnExactShareOf', WHERE WHAT IT READS IS OF BULK AT MOST 1048576: true; the input reads as it did. -/
def fnExactShareOfUptoRow : OpenClaim := { program := "ytoapmmmmdfmaeaa", sum := "981f1e5ef62dd949730fa190048f7feacf81b04a77b9c7097b7605ec7330c1c1", func := "loop.example/piecesonboards/laws.FnExactShareOf", spec := "fnExactShareOf", unfollowed := true, recurses := true, apart := false, narrowed := true }
def FnExactShareOfUptoSaid : Prop := fnExactShareOfUptoRow.holds Try.pinned (OpenSpec.upto fnExactShareOfSpec)

end Rows
end Go.Proofs.Ytoapmmmmdfmaeaa

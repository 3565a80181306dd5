/-
  No cell of these rows narrows 'for every input' (looked for: loops, veiled, ifaces, maps, wideKeys, modest, calm, conditions, laid).
  DERIVED. THE GIVEN ROWS OF THIS SEAT. 2 by the template 'for every input the law returns true; each argument reads behind the call as it read before'; 0 by the template 'total and deterministic' (their statements: YtijidecdokbmnadTotals.lean).
  GIVEN WITH THE SEED: the statements are not yours to turn. If you find one false, say at which input.
  Laid BY PROGRAM, IN A SANDBOX (cutbox-rows.mjs): the forced cells as the released guide's own fill.sh prints them over the translation 95fc6dbff726a839… (all of the seat's roots in one cut). By AI agents, Wed Nov 11 2026. No macro, syntax, notation, axiom, sorry.
-/
import Derived.Test.YtijidecdokbmnadChecked
import GoSem.Claim
import GoSem.ClaimJoined
import GoSem.ClaimMapViews
import Derived.JoinedTies
import Derived.KernelRfl
namespace Go.Proofs.Ytijidecdokbmnad
/- THE CELL 'sum', in the pinned program and in every row, IS THE sha256 OF THE DUMP (.gsa) THAT YtijidecdokbmnadProg.lean LOADS. Nothing in Lean hashes anything: it is a label: what it is worth is what the hold of that sum in a sandbox is worth. -/
noncomputable def Try.pinned : Pinned := { name := "ytijidecdokbmnad", sum := "95fc6dbff726a8395c012ccfa5bbd558a85c8a02946de7b846849330480766ec", checked := Try.checked }
namespace Rows
def none {H : Type} : Left H := { results := [], args := [] }

/-- 'laws.FnExactTileByRows': WHATEVER THE INPUT: true; the input reads as it did. -/
def fnExactTileByRowsSpec : ChangeSpec := { name := "fnExactTileByRows", fn := fun _ => fun
  | [d1, d2, d3] => { results := [.lit (.bool true)], args := [d1, d2, d3] }
  | _ => none }
def fnExactTileByRowsRow : OpenClaim := { program := "ytijidecdokbmnad", sum := "95fc6dbff726a8395c012ccfa5bbd558a85c8a02946de7b846849330480766ec", func := "loop.example/piecesonboards/laws.FnExactTileByRows", spec := "fnExactTileByRows", recurses := true, plainKeys := false, apart := false }
def FnExactTileByRowsSaid : Prop := fnExactTileByRowsRow.holds Try.pinned (OpenSpec.ofChange fnExactTileByRowsSpec)

/-- ITS FALSE NEIGHBOUR: 'it returns false'. Refute it at one input. -/
def fnExactTileByRowsWrong : ChangeSpec := { name := "fnExactTileByRows", fn := fun _ => fun
  | [d1, d2, d3] => { results := [.lit (.bool false)], args := [d1, d2, d3] }
  | _ => none }
def FnExactTileByRowsWrongFalsely : Prop := fnExactTileByRowsRow.holds Try.pinned (OpenSpec.ofChange fnExactTileByRowsWrong)

/-- 'laws.FnTileByRows': WHATEVER THE INPUT: true; the input reads as it did. -/
def fnTileByRowsSpec : ChangeSpec := { name := "fnTileByRows", fn := fun _ => fun
  | [d] => { results := [.lit (.bool true)], args := [d] }
  | _ => none }
def fnTileByRowsRow : OpenClaim := { program := "ytijidecdokbmnad", sum := "95fc6dbff726a8395c012ccfa5bbd558a85c8a02946de7b846849330480766ec", func := "loop.example/piecesonboards/laws.FnTileByRows", spec := "fnTileByRows", recurses := true, plainKeys := false, apart := false }
def FnTileByRowsSaid : Prop := fnTileByRowsRow.holds Try.pinned (OpenSpec.ofChange fnTileByRowsSpec)

/-- ITS FALSE NEIGHBOUR: 'it returns false'. Refute it at one input. -/
def fnTileByRowsWrong : ChangeSpec := { name := "fnTileByRows", fn := fun _ => fun
  | [d] => { results := [.lit (.bool false)], args := [d] }
  | _ => none }
def FnTileByRowsWrongFalsely : Prop := fnTileByRowsRow.holds Try.pinned (OpenSpec.ofChange fnTileByRowsWrong)

/- THE SECOND FORM. 'bulk': how many values and letters a reading holds, each counted each time it is reached (what is shared counts as often as it is met; a slice's spare places count too). A statement '..UptoSaid' is the law's where the arguments, and the package variables that the reading takes, are together of bulk at most 1048576: NARROWER than '..Said'. Prove '..Said' where nothing that the law and all that it calls make is longer than what came in: it says more and counts as full. Else prove '..UptoSaid'. A law counts once. -/
mutual
def uptoBulk {H : Type} : DataW H → Nat
  | .lit (.string bytes) => bytes.length + 1
  | .lit _ => 1
  | .nil => 1
  | .ptr d => uptoBulk d + 1
  | .slice elems spare => uptoBulkAll elems + uptoBulkAll spare + 1
  | .agg parts => uptoBulkAll parts + 1
  | .iface _ d => uptoBulk d + 1
  | .map entries => uptoBulkEntries entries + 1
  | .held _ => 1
def uptoBulkAll {H : Type} : List (DataW H) → Nat
  | [] => 0
  | d :: r => uptoBulk d + uptoBulkAll r
def uptoBulkEntries {H : Type} : List (Lit × DataW H) → Nat
  | [] => 0
  | x :: r => uptoBulkEntry x + uptoBulkEntries r
def uptoBulkEntry {H : Type} : Lit × DataW H → Nat
  | (.string bytes, d) => bytes.length + uptoBulk d + 1
  | (_, d) => uptoBulk d + 1
 end
def uptoSmall : (H : Type) → List (DataW H) → Bool := fun _ ds => decide (uptoBulkAll ds ≤ 1048576)
def OpenSpec.upto (s : _root_.Go.ChangeSpec) : _root_.Go.OpenSpec := { _root_.Go.OpenSpec.ofChange s with cond := some uptoSmall }

/-- 'laws.FnExactTileByRows', WHERE WHAT IT READS IS OF BULK AT MOST 1048576: true; the input reads as it did. -/
def fnExactTileByRowsUptoRow : OpenClaim := { program := "ytijidecdokbmnad", sum := "95fc6dbff726a8395c012ccfa5bbd558a85c8a02946de7b846849330480766ec", func := "loop.example/piecesonboards/laws.FnExactTileByRows", spec := "fnExactTileByRows", recurses := true, plainKeys := false, apart := false, narrowed := true }
def FnExactTileByRowsUptoSaid : Prop := fnExactTileByRowsUptoRow.holds Try.pinned (OpenSpec.upto fnExactTileByRowsSpec)

/-- 'laws.FnTileByRows', WHERE WHAT IT READS IS OF BULK AT MOST 1048576: true; the input reads as it did. -/
def fnTileByRowsUptoRow : OpenClaim := { program := "ytijidecdokbmnad", sum := "95fc6dbff726a8395c012ccfa5bbd558a85c8a02946de7b846849330480766ec", func := "loop.example/piecesonboards/laws.FnTileByRows", spec := "fnTileByRows", recurses := true, plainKeys := false, apart := false, narrowed := true }
def FnTileByRowsUptoSaid : Prop := fnTileByRowsUptoRow.holds Try.pinned (OpenSpec.upto fnTileByRowsSpec)

end Rows
end Go.Proofs.Ytijidecdokbmnad

/-
  No cell of these rows narrows 'for every input' (looked for: loops, veiled, ifaces, maps, wideKeys, modest, calm, conditions, laid).
  DERIVED. THE GIVEN ROWS OF THIS SEAT. 3 by the template 'for every input the law returns true; each argument reads behind the call as it read before'; 0 by the template 'total and deterministic' (their statements: YtgcchpabmkdkhacTotals.lean).
  GIVEN WITH THE SEED: the statements are not yours to turn. If you find one false, say at which input.
  Laid BY PROGRAM, IN A SANDBOX (cutbox-rows.mjs): the forced cells as the released guide's own fill.sh prints them over the translation b45335cd78223129… (all of the seat's roots in one cut). By AI agents, Wed Nov 11 2026. No macro, syntax, notation, axiom, sorry.
-/
import Derived.Test.YtgcchpabmkdkhacChecked
import GoSem.Claim
import GoSem.ClaimJoined
import GoSem.ClaimMapViews
import Derived.JoinedTies
import Derived.KernelRfl
namespace Go.Proofs.Ytgcchpabmkdkhac
/- THE CELL 'sum', in the pinned program and in every row, IS THE sha256 OF THE DUMP (.gsa) THAT YtgcchpabmkdkhacProg.lean LOADS. Nothing in Lean hashes anything: it is a label: what it is worth is what the hold of that sum in a sandbox is worth. -/
noncomputable def Try.pinned : Pinned := { name := "ytgcchpabmkdkhac", sum := "b45335cd78223129f910d80f5f321d585181bd3281d98a7e43bbfbd73958666d", checked := Try.checked }
namespace Rows
def none {H : Type} : Left H := { results := [], args := [] }

/-- 'laws.FnQueensOf': WHATEVER THE INPUT: true; the input reads as it did. -/
def fnQueensOfSpec : ChangeSpec := { name := "fnQueensOf", fn := fun _ => fun
  | [d] => { results := [.lit (.bool true)], args := [d] }
  | _ => none }
def fnQueensOfRow : OpenClaim := { program := "ytgcchpabmkdkhac", sum := "b45335cd78223129f910d80f5f321d585181bd3281d98a7e43bbfbd73958666d", func := "loop.example/piecesonboards/laws.FnQueensOf", spec := "fnQueensOf", unfollowed := true, recurses := true, apart := false }
def FnQueensOfSaid : Prop := fnQueensOfRow.holds Try.pinned (OpenSpec.ofChange fnQueensOfSpec)

/-- ITS FALSE NEIGHBOUR: 'it returns false'. Refute it at one input. -/
def fnQueensOfWrong : ChangeSpec := { name := "fnQueensOf", fn := fun _ => fun
  | [d] => { results := [.lit (.bool false)], args := [d] }
  | _ => none }
def FnQueensOfWrongFalsely : Prop := fnQueensOfRow.holds Try.pinned (OpenSpec.ofChange fnQueensOfWrong)

/-- 'laws.FnExactQueensOf': WHATEVER THE INPUT: true; the input reads as it did. -/
def fnExactQueensOfSpec : ChangeSpec := { name := "fnExactQueensOf", fn := fun _ => fun
  | [d] => { results := [.lit (.bool true)], args := [d] }
  | _ => none }
def fnExactQueensOfRow : OpenClaim := { program := "ytgcchpabmkdkhac", sum := "b45335cd78223129f910d80f5f321d585181bd3281d98a7e43bbfbd73958666d", func := "loop.example/piecesonboards/laws.FnExactQueensOf", spec := "fnExactQueensOf", unfollowed := true, recurses := true, apart := false }
def FnExactQueensOfSaid : Prop := fnExactQueensOfRow.holds Try.pinned (OpenSpec.ofChange fnExactQueensOfSpec)

/-- ITS FALSE NEIGHBOUR: 'it returns false'. Refute it at one input. -/
def fnExactQueensOfWrong : ChangeSpec := { name := "fnExactQueensOf", fn := fun _ => fun
  | [d] => { results := [.lit (.bool false)], args := [d] }
  | _ => none }
def FnExactQueensOfWrongFalsely : Prop := fnExactQueensOfRow.holds Try.pinned (OpenSpec.ofChange fnExactQueensOfWrong)

/-- 'laws.FnExactEndsOf': WHATEVER THE INPUT: true; the input reads as it did. -/
def fnExactEndsOfSpec : ChangeSpec := { name := "fnExactEndsOf", fn := fun _ => fun
  | [d1, d2] => { results := [.lit (.bool true)], args := [d1, d2] }
  | _ => none }
def fnExactEndsOfRow : OpenClaim := { program := "ytgcchpabmkdkhac", sum := "b45335cd78223129f910d80f5f321d585181bd3281d98a7e43bbfbd73958666d", func := "loop.example/piecesonboards/laws.FnExactEndsOf", spec := "fnExactEndsOf", unfollowed := true, recurses := true, apart := false }
def FnExactEndsOfSaid : Prop := fnExactEndsOfRow.holds Try.pinned (OpenSpec.ofChange fnExactEndsOfSpec)

/-- ITS FALSE NEIGHBOUR: 'it returns false'. Refute it at one input. -/
def fnExactEndsOfWrong : ChangeSpec := { name := "fnExactEndsOf", fn := fun _ => fun
  | [d1, d2] => { results := [.lit (.bool false)], args := [d1, d2] }
  | _ => none }
def FnExactEndsOfWrongFalsely : Prop := fnExactEndsOfRow.holds Try.pinned (OpenSpec.ofChange fnExactEndsOfWrong)

/- THE SECOND FORM. 'bulk': how many values and letters a reading holds, each counted each time it is reached (what is shared counts as often as it is met; a slice's spare places count too). A statement '..UptoSaid' is the law's where the arguments, and the package variables that the reading takes, are together of bulk at most 1048576: NARROWER than '..Said'. Prove '..Said' where nothing that the law and all that it calls make is longer than what came in: it says more and counts as full. Else prove '..UptoSaid'. A law counts once. -/
mutual
def uptoBulk {H : Type} : DataW H → Nat
  | .lit (.string bytes) => bytes.length + 1
  | .lit _ => 1
  | .nil => 1
  | .ptr d => uptoBulk d + 1
  | .slice elems spare => uptoBulkAll elems + uptoBulkAll spare + 1
  | .agg parts => uptoBulkAll parts + 1
  | .iface _ d => uptoBulk d + 1
  | .map entries => uptoBulkEntries entries + 1
  | .held _ => 1
def uptoBulkAll {H : Type} : List (DataW H) → Nat
  | [] => 0
  | d :: r => uptoBulk d + uptoBulkAll r
def uptoBulkEntries {H : Type} : List (Lit × DataW H) → Nat
  | [] => 0
  | x :: r => uptoBulkEntry x + uptoBulkEntries r
def uptoBulkEntry {H : Type} : Lit × DataW H → Nat
  | (.string bytes, d) => bytes.length + uptoBulk d + 1
  | (_, d) => uptoBulk d + 1
 end
def uptoSmall : (H : Type) → List (DataW H) → Bool := fun _ ds => decide (uptoBulkAll ds ≤ 1048576)
def OpenSpec.upto (s : _root_.Go.ChangeSpec) : _root_.Go.OpenSpec := { _root_.Go.OpenSpec.ofChange s with cond := some uptoSmall }

/-- 'laws.FnQueensOf', WHERE WHAT IT READS IS OF BULK AT MOST 1048576: true; the input reads as it did. -/
def fnQueensOfUptoRow : OpenClaim := { program := "ytgcchpabmkdkhac", sum := "b45335cd78223129f910d80f5f321d585181bd3281d98a7e43bbfbd73958666d", func := "loop.example/piecesonboards/laws.FnQueensOf", spec := "fnQueensOf", unfollowed := true, recurses := true, apart := false, narrowed := true }
def FnQueensOfUptoSaid : Prop := fnQueensOfUptoRow.holds Try.pinned (OpenSpec.upto fnQueensOfSpec)

/-- 'laws.FnExactQueensOf', WHERE WHAT IT READS IS OF BULK AT MOST 1048576: true; the input reads as it did. -/
def fnExactQueensOfUptoRow : OpenClaim := { program := "ytgcchpabmkdkhac", sum := "b45335cd78223129f910d80f5f321d585181bd3281d98a7e43bbfbd73958666d", func := "loop.example/piecesonboards/laws.FnExactQueensOf", spec := "fnExactQueensOf", unfollowed := true, recurses := true, apart := false, narrowed := true }
def FnExactQueensOfUptoSaid : Prop := fnExactQueensOfUptoRow.holds Try.pinned (OpenSpec.upto fnExactQueensOfSpec)

/-- 'laws.FnExactEndsOf', WHERE WHAT IT READS IS OF BULK AT MOST 1048576: true; the input reads as it did. -/
def fnExactEndsOfUptoRow : OpenClaim := { program := "ytgcchpabmkdkhac", sum := "b45335cd78223129f910d80f5f321d585181bd3281d98a7e43bbfbd73958666d", func := "loop.example/piecesonboards/laws.FnExactEndsOf", spec := "fnExactEndsOf", unfollowed := true, recurses := true, apart := false, narrowed := true }
def FnExactEndsOfUptoSaid : Prop := fnExactEndsOfUptoRow.holds Try.pinned (OpenSpec.upto fnExactEndsOfSpec)

end Rows
end Go.Proofs.Ytgcchpabmkdkhac

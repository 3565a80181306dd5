/-
  No cell of these rows narrows 'for every input' (looked for: loops, veiled, ifaces, maps, wideKeys, modest, calm, conditions, laid).
  DERIVED. THE GIVEN ROWS OF THIS SEAT. 4 by the template 'for every input the law returns true; each argument reads behind the call as it read before'; 0 by the template 'total and deterministic' (their statements: YtgbbmnnpphkkbaaTotals.lean).
  GIVEN WITH THE SEED: the statements are not yours to turn. If you find one false, say at which input.
  Laid BY PROGRAM, IN A SANDBOX (cutbox-rows.mjs): the forced cells as the released guide's own fill.sh prints them over the translation de971921436c69a0… (all of the seat's roots in one cut). By AI agents, Wed Nov 11 2026. No macro, syntax, notation, axiom, sorry.
-/
import Derived.Test.YtgbbmnnpphkkbaaChecked
import GoSem.Claim
import GoSem.ClaimJoined
import GoSem.ClaimMapViews
import Derived.JoinedTies
import Derived.KernelRfl
namespace Go.Proofs.Ytgbbmnnpphkkbaa
/- THE CELL 'sum', in the pinned program and in every row, IS THE sha256 OF THE DUMP (.gsa) THAT YtgbbmnnpphkkbaaProg.lean LOADS. Nothing in Lean hashes anything: it is a label: what it is worth is what the hold of that sum in a sandbox is worth. -/
noncomputable def Try.pinned : Pinned := { name := "ytgbbmnnpphkkbaa", sum := "de971921436c69a09f3d570cc991db04b396cf0ff7a04500a0e63aed0a4b3c62", checked := Try.checked }
namespace Rows
def none {H : Type} : Left H := { results := [], args := [] }

/-- 'laws.FnExactJumpsOf': WHATEVER THE INPUT: true; the input reads as it did. -/
def fnExactJumpsOfSpec : ChangeSpec := { name := "fnExactJumpsOf", fn := fun _ => fun
  | [d1, d2, d3] => { results := [.lit (.bool true)], args := [d1, d2, d3] }
  | _ => none }
def fnExactJumpsOfRow : OpenClaim := { program := "ytgbbmnnpphkkbaa", sum := "de971921436c69a09f3d570cc991db04b396cf0ff7a04500a0e63aed0a4b3c62", func := "loop.example/piecesonboards/laws.FnExactJumpsOf", spec := "fnExactJumpsOf", apart := false }
def FnExactJumpsOfSaid : Prop := fnExactJumpsOfRow.holds Try.pinned (OpenSpec.ofChange fnExactJumpsOfSpec)

/-- ITS FALSE NEIGHBOUR: 'it returns false'. Refute it at one input. -/
def fnExactJumpsOfWrong : ChangeSpec := { name := "fnExactJumpsOf", fn := fun _ => fun
  | [d1, d2, d3] => { results := [.lit (.bool false)], args := [d1, d2, d3] }
  | _ => none }
def FnExactJumpsOfWrongFalsely : Prop := fnExactJumpsOfRow.holds Try.pinned (OpenSpec.ofChange fnExactJumpsOfWrong)

/-- 'laws.FnExactClassOf': WHATEVER THE INPUT: true; the input reads as it did. -/
def fnExactClassOfSpec : ChangeSpec := { name := "fnExactClassOf", fn := fun _ => fun
  | [d1, d2, d3] => { results := [.lit (.bool true)], args := [d1, d2, d3] }
  | _ => none }
def fnExactClassOfRow : OpenClaim := { program := "ytgbbmnnpphkkbaa", sum := "de971921436c69a09f3d570cc991db04b396cf0ff7a04500a0e63aed0a4b3c62", func := "loop.example/piecesonboards/laws.FnExactClassOf", spec := "fnExactClassOf", apart := false }
def FnExactClassOfSaid : Prop := fnExactClassOfRow.holds Try.pinned (OpenSpec.ofChange fnExactClassOfSpec)

/-- ITS FALSE NEIGHBOUR: 'it returns false'. Refute it at one input. -/
def fnExactClassOfWrong : ChangeSpec := { name := "fnExactClassOf", fn := fun _ => fun
  | [d1, d2, d3] => { results := [.lit (.bool false)], args := [d1, d2, d3] }
  | _ => none }
def FnExactClassOfWrongFalsely : Prop := fnExactClassOfRow.holds Try.pinned (OpenSpec.ofChange fnExactClassOfWrong)

/-- 'laws.FnClassOf': WHATEVER THE INPUT: true; the input reads as it did. -/
def fnClassOfSpec : ChangeSpec := { name := "fnClassOf", fn := fun _ => fun
  | [d] => { results := [.lit (.bool true)], args := [d] }
  | _ => none }
def fnClassOfRow : OpenClaim := { program := "ytgbbmnnpphkkbaa", sum := "de971921436c69a09f3d570cc991db04b396cf0ff7a04500a0e63aed0a4b3c62", func := "loop.example/piecesonboards/laws.FnClassOf", spec := "fnClassOf", apart := false }
def FnClassOfSaid : Prop := fnClassOfRow.holds Try.pinned (OpenSpec.ofChange fnClassOfSpec)

/-- ITS FALSE NEIGHBOUR: 'it returns false'. Refute it at one input. -/
def fnClassOfWrong : ChangeSpec := { name := "fnClassOf", fn := fun _ => fun
  | [d] => { results := [.lit (.bool false)], args := [d] }
  | _ => none }
def FnClassOfWrongFalsely : Prop := fnClassOfRow.holds Try.pinned (OpenSpec.ofChange fnClassOfWrong)

/-- 'laws.FnJumpsOf': WHATEVER THE INPUT: true; the input reads as it did. -/
def fnJumpsOfSpec : ChangeSpec := { name := "fnJumpsOf", fn := fun _ => fun
  | [d] => { results := [.lit (.bool true)], args := [d] }
  | _ => none }
def fnJumpsOfRow : OpenClaim := { program := "ytgbbmnnpphkkbaa", sum := "de971921436c69a09f3d570cc991db04b396cf0ff7a04500a0e63aed0a4b3c62", func := "loop.example/piecesonboards/laws.FnJumpsOf", spec := "fnJumpsOf", unfollowed := true, recurses := true, apart := false }
def FnJumpsOfSaid : Prop := fnJumpsOfRow.holds Try.pinned (OpenSpec.ofChange fnJumpsOfSpec)

/-- ITS FALSE NEIGHBOUR: 'it returns false'. Refute it at one input. -/
def fnJumpsOfWrong : ChangeSpec := { name := "fnJumpsOf", fn := fun _ => fun
  | [d] => { results := [.lit (.bool false)], args := [d] }
  | _ => none }
def FnJumpsOfWrongFalsely : Prop := fnJumpsOfRow.holds Try.pinned (OpenSpec.ofChange fnJumpsOfWrong)

/- THE SECOND FORM. 'bulk': how many values and letters a reading holds, each counted each time it is reached (what is shared counts as often as it is met; a slice's spare places count too). A statement '..UptoSaid' is the law's where the arguments, and the package variables that the reading takes, are together of bulk at most 1048576: NARROWER than '..Said'. Prove '..Said' where nothing that the law and all that it calls make is longer than what came in: it says more and counts as full. Else prove '..UptoSaid'. A law counts once. -/
mutual
def uptoBulk {H : Type} : DataW H → Nat
  | .lit (.string bytes) => bytes.length + 1
  | .lit _ => 1
  | .nil => 1
  | .ptr d => uptoBulk d + 1
  | .slice elems spare => uptoBulkAll elems + uptoBulkAll spare + 1
  | .agg parts => uptoBulkAll parts + 1
  | .iface _ d => uptoBulk d + 1
  | .map entries => uptoBulkEntries entries + 1
  | .held _ => 1
def uptoBulkAll {H : Type} : List (DataW H) → Nat
  | [] => 0
  | d :: r => uptoBulk d + uptoBulkAll r
def uptoBulkEntries {H : Type} : List (Lit × DataW H) → Nat
  | [] => 0
  | x :: r => uptoBulkEntry x + uptoBulkEntries r
def uptoBulkEntry {H : Type} : Lit × DataW H → Nat
  | (.string bytes, d) => bytes.length + uptoBulk d + 1
  | (_, d) => uptoBulk d + 1
 end
def uptoSmall : (H : Type) → List (DataW H) → Bool := fun _ ds => decide (uptoBulkAll ds ≤ 1048576)
def OpenSpec.upto (s : _root_.Go.ChangeSpec) : _root_.Go.OpenSpec := { _root_.Go.OpenSpec.ofChange s with cond := some uptoSmall }

/-- 'laws.FnExactJumpsOf', WHERE WHAT IT READS IS OF BULK AT MOST 1048576: true; the input reads as it did. -/
def fnExactJumpsOfUptoRow : OpenClaim := { program := "ytgbbmnnpphkkbaa", sum := "de971921436c69a09f3d570cc991db04b396cf0ff7a04500a0e63aed0a4b3c62", func := "loop.example/piecesonboards/laws.FnExactJumpsOf", spec := "fnExactJumpsOf", apart := false, narrowed := true }
def FnExactJumpsOfUptoSaid : Prop := fnExactJumpsOfUptoRow.holds Try.pinned (OpenSpec.upto fnExactJumpsOfSpec)

/-- 'laws.FnExactClassOf', WHERE WHAT IT READS IS OF BULK AT MOST 1048576: true; the input reads as it did. -/
def fnExactClassOfUptoRow : OpenClaim := { program := "ytgbbmnnpphkkbaa", sum := "de971921436c69a09f3d570cc991db04b396cf0ff7a04500a0e63aed0a4b3c62", func := "loop.example/piecesonboards/laws.FnExactClassOf", spec := "fnExactClassOf", apart := false, narrowed := true }
def FnExactClassOfUptoSaid : Prop := fnExactClassOfUptoRow.holds Try.pinned (OpenSpec.upto fnExactClassOfSpec)

/-- 'laws.FnClassOf', WHERE WHAT IT READS IS OF BULK AT MOST 1048576: true; the input reads as it did. -/
def fnClassOfUptoRow : OpenClaim := { program := "ytgbbmnnpphkkbaa", sum := "de971921436c69a09f3d570cc991db04b396cf0ff7a04500a0e63aed0a4b3c62", func := "loop.example/piecesonboards/laws.FnClassOf", spec := "fnClassOf", apart := false, narrowed := true }
def FnClassOfUptoSaid : Prop := fnClassOfUptoRow.holds Try.pinned (OpenSpec.upto fnClassOfSpec)

/-- 'laws.FnJumpsOf', WHERE WHAT IT READS IS OF BULK AT MOST 1048576: true; the input reads as it did. -/
def fnJumpsOfUptoRow : OpenClaim := { program := "ytgbbmnnpphkkbaa", sum := "de971921436c69a09f3d570cc991db04b396cf0ff7a04500a0e63aed0a4b3c62", func := "loop.example/piecesonboards/laws.FnJumpsOf", spec := "fnJumpsOf", unfollowed := true, recurses := true, apart := false, narrowed := true }
def FnJumpsOfUptoSaid : Prop := fnJumpsOfUptoRow.holds Try.pinned (OpenSpec.upto fnJumpsOfSpec)

end Rows
end Go.Proofs.Ytgbbmnnpphkkbaa

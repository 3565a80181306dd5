/-
  No cell of these rows narrows 'for every input' (looked for: loops, veiled, ifaces, maps, wideKeys, modest, calm, conditions, laid).
  DERIVED. THE GIVEN ROWS OF THIS SEAT. 4 by the template 'for every input the law returns true; each argument reads behind the call as it read before'; 0 by the template 'total and deterministic' (their statements: YtdjkdjnbmhpokabTotals.lean).
  GIVEN WITH THE SEED: the statements are not yours to turn. If you find one false, say at which input.
  Laid BY PROGRAM, IN A SANDBOX (cutbox-rows.mjs): the forced cells as the released guide's own fill.sh prints them over the translation 7fb5721fade088e6… (all of the seat's roots in one cut). By AI agents, Wed Nov 11 2026. No macro, syntax, notation, axiom, sorry.
-/
import Derived.Test.YtdjkdjnbmhpokabChecked
import GoSem.Claim
import GoSem.ClaimJoined
import GoSem.ClaimMapViews
import Derived.JoinedTies
import Derived.KernelRfl
namespace Go.Proofs.Ytdjkdjnbmhpokab
/- THE CELL 'sum', in the pinned program and in every row, IS THE sha256 OF THE DUMP (.gsa) THAT YtdjkdjnbmhpokabProg.lean LOADS. Nothing in Lean hashes anything: it is a label: what it is worth is what the hold of that sum in a sandbox is worth. -/
noncomputable def Try.pinned : Pinned := { name := "ytdjkdjnbmhpokab", sum := "7fb5721fade088e69d97c101db6e081def35ef2c04c8340c37163e086d2237f7", checked := Try.checked }
namespace Rows
def none {H : Type} : Left H := { results := [], args := [] }

/-- 'laws.FnPaintsOfRooks': WHATEVER THE INPUT: true; the input reads as it did. -/
def fnPaintsOfRooksSpec : ChangeSpec := { name := "fnPaintsOfRooks", fn := fun _ => fun
  | [d] => { results := [.lit (.bool true)], args := [d] }
  | _ => none }
def fnPaintsOfRooksRow : OpenClaim := { program := "ytdjkdjnbmhpokab", sum := "7fb5721fade088e69d97c101db6e081def35ef2c04c8340c37163e086d2237f7", func := "loop.example/piecesonboards/laws.FnPaintsOfRooks", spec := "fnPaintsOfRooks", unfollowed := true, recurses := true, apart := false }
def FnPaintsOfRooksSaid : Prop := fnPaintsOfRooksRow.holds Try.pinned (OpenSpec.ofChange fnPaintsOfRooksSpec)

/-- ITS FALSE NEIGHBOUR: 'it returns false'. Refute it at one input. -/
def fnPaintsOfRooksWrong : ChangeSpec := { name := "fnPaintsOfRooks", fn := fun _ => fun
  | [d] => { results := [.lit (.bool false)], args := [d] }
  | _ => none }
def FnPaintsOfRooksWrongFalsely : Prop := fnPaintsOfRooksRow.holds Try.pinned (OpenSpec.ofChange fnPaintsOfRooksWrong)

/-- 'laws.FnExactLooseParts': WHATEVER THE INPUT: true; the input reads as it did. -/
def fnExactLoosePartsSpec : ChangeSpec := { name := "fnExactLooseParts", fn := fun _ => fun
  | [d1, d2, d3] => { results := [.lit (.bool true)], args := [d1, d2, d3] }
  | _ => none }
def fnExactLoosePartsRow : OpenClaim := { program := "ytdjkdjnbmhpokab", sum := "7fb5721fade088e69d97c101db6e081def35ef2c04c8340c37163e086d2237f7", func := "loop.example/piecesonboards/laws.FnExactLooseParts", spec := "fnExactLooseParts", unfollowed := true, recurses := true, apart := false }
def FnExactLoosePartsSaid : Prop := fnExactLoosePartsRow.holds Try.pinned (OpenSpec.ofChange fnExactLoosePartsSpec)

/-- ITS FALSE NEIGHBOUR: 'it returns false'. Refute it at one input. -/
def fnExactLoosePartsWrong : ChangeSpec := { name := "fnExactLooseParts", fn := fun _ => fun
  | [d1, d2, d3] => { results := [.lit (.bool false)], args := [d1, d2, d3] }
  | _ => none }
def FnExactLoosePartsWrongFalsely : Prop := fnExactLoosePartsRow.holds Try.pinned (OpenSpec.ofChange fnExactLoosePartsWrong)

/-- 'laws.FnLooseParts': WHATEVER THE INPUT: true; the input reads as it did. -/
def fnLoosePartsSpec : ChangeSpec := { name := "fnLooseParts", fn := fun _ => fun
  | [d] => { results := [.lit (.bool true)], args := [d] }
  | _ => none }
def fnLoosePartsRow : OpenClaim := { program := "ytdjkdjnbmhpokab", sum := "7fb5721fade088e69d97c101db6e081def35ef2c04c8340c37163e086d2237f7", func := "loop.example/piecesonboards/laws.FnLooseParts", spec := "fnLooseParts", unfollowed := true, recurses := true, apart := false }
def FnLoosePartsSaid : Prop := fnLoosePartsRow.holds Try.pinned (OpenSpec.ofChange fnLoosePartsSpec)

/-- ITS FALSE NEIGHBOUR: 'it returns false'. Refute it at one input. -/
def fnLoosePartsWrong : ChangeSpec := { name := "fnLooseParts", fn := fun _ => fun
  | [d] => { results := [.lit (.bool false)], args := [d] }
  | _ => none }
def FnLoosePartsWrongFalsely : Prop := fnLoosePartsRow.holds Try.pinned (OpenSpec.ofChange fnLoosePartsWrong)

/-- 'laws.FnExactFewestColours': WHATEVER THE INPUT: true; the input reads as it did. -/
def fnExactFewestColoursSpec : ChangeSpec := { name := "fnExactFewestColours", fn := fun _ => fun
  | [d1, d2, d3] => { results := [.lit (.bool true)], args := [d1, d2, d3] }
  | _ => none }
def fnExactFewestColoursRow : OpenClaim := { program := "ytdjkdjnbmhpokab", sum := "7fb5721fade088e69d97c101db6e081def35ef2c04c8340c37163e086d2237f7", func := "loop.example/piecesonboards/laws.FnExactFewestColours", spec := "fnExactFewestColours", unfollowed := true, recurses := true, apart := false }
def FnExactFewestColoursSaid : Prop := fnExactFewestColoursRow.holds Try.pinned (OpenSpec.ofChange fnExactFewestColoursSpec)

/-- ITS FALSE NEIGHBOUR: 'it returns false'. Refute it at one input. -/
def fnExactFewestColoursWrong : ChangeSpec := { name := "fnExactFewestColours", fn := fun _ => fun
  | [d1, d2, d3] => { results := [.lit (.bool false)], args := [d1, d2, d3] }
  | _ => none }
def FnExactFewestColoursWrongFalsely : Prop := fnExactFewestColoursRow.holds Try.pinned (OpenSpec.ofChange fnExactFewestColoursWrong)

/- THE SECOND FORM. 'bulk': how many values and letters a reading holds, each counted each time it is reached (what is shared counts as often as it is met; a slice's spare places count too). A statement '..UptoSaid' is the law's where the arguments, and the package variables that the reading takes, are together of bulk at most 1048576: NARROWER than '..Said'. Prove '..Said' where nothing that the law and all that it calls make is longer than what came in: it says more and counts as full. Else prove '..UptoSaid'. A law counts once. -/
mutual
def uptoBulk {H : Type} : DataW H → Nat
  | .lit (.string bytes) => bytes.length + 1
  | .lit _ => 1
  | .nil => 1
  | .ptr d => uptoBulk d + 1
  | .slice elems spare => uptoBulkAll elems + uptoBulkAll spare + 1
  | .agg parts => uptoBulkAll parts + 1
  | .iface _ d => uptoBulk d + 1
  | .map entries => uptoBulkEntries entries + 1
  | .held _ => 1
def uptoBulkAll {H : Type} : List (DataW H) → Nat
  | [] => 0
  | d :: r => uptoBulk d + uptoBulkAll r
def uptoBulkEntries {H : Type} : List (Lit × DataW H) → Nat
  | [] => 0
  | x :: r => uptoBulkEntry x + uptoBulkEntries r
def uptoBulkEntry {H : Type} : Lit × DataW H → Nat
  | (.string bytes, d) => bytes.length + uptoBulk d + 1
  | (_, d) => uptoBulk d + 1
 end
def uptoSmall : (H : Type) → List (DataW H) → Bool := fun _ ds => decide (uptoBulkAll ds ≤ 1048576)
def OpenSpec.upto (s : _root_.Go.ChangeSpec) : _root_.Go.OpenSpec := { _root_.Go.OpenSpec.ofChange s with cond := some uptoSmall }

/-- 'laws.FnPaintsOfRooks', WHERE WHAT IT READS IS OF BULK AT MOST 1048576: true; the input reads as it did. -/
def fnPaintsOfRooksUptoRow : OpenClaim := { program := "ytdjkdjnbmhpokab", sum := "7fb5721fade088e69d97c101db6e081def35ef2c04c8340c37163e086d2237f7", func := "loop.example/piecesonboards/laws.FnPaintsOfRooks", spec := "fnPaintsOfRooks", unfollowed := true, recurses := true, apart := false, narrowed := true }
def FnPaintsOfRooksUptoSaid : Prop := fnPaintsOfRooksUptoRow.holds Try.pinned (OpenSpec.upto fnPaintsOfRooksSpec)

/-- 'laws.FnExactLooseParts', WHERE WHAT IT READS IS OF BULK AT MOST 1048576: true; the input reads as it did. -/
def fnExactLoosePartsUptoRow : OpenClaim := { program := "ytdjkdjnbmhpokab", sum := "7fb5721fade088e69d97c101db6e081def35ef2c04c8340c37163e086d2237f7", func := "loop.example/piecesonboards/laws.FnExactLooseParts", spec := "fnExactLooseParts", unfollowed := true, recurses := true, apart := false, narrowed := true }
def FnExactLoosePartsUptoSaid : Prop := fnExactLoosePartsUptoRow.holds Try.pinned (OpenSpec.upto fnExactLoosePartsSpec)

/-- 'laws.FnLooseParts', WHERE WHAT IT READS IS OF BULK AT MOST 1048576: true; the input reads as it did. -/
def fnLoosePartsUptoRow : OpenClaim := { program := "ytdjkdjnbmhpokab", sum := "7fb5721fade088e69d97c101db6e081def35ef2c04c8340c37163e086d2237f7", func := "loop.example/piecesonboards/laws.FnLooseParts", spec := "fnLooseParts", unfollowed := true, recurses := true, apart := false, narrowed := true }
def FnLoosePartsUptoSaid : Prop := fnLoosePartsUptoRow.holds Try.pinned (OpenSpec.upto fnLoosePartsSpec)

/-- 'laws.FnExactFewestColours', WHERE WHAT IT READS IS OF BULK AT MOST 1048576: true; the input reads as it did. -/
def fnExactFewestColoursUptoRow : OpenClaim := { program := "ytdjkdjnbmhpokab", sum := "7fb5721fade088e69d97c101db6e081def35ef2c04c8340c37163e086d2237f7", func := "loop.example/piecesonboards/laws.FnExactFewestColours", spec := "fnExactFewestColours", unfollowed := true, recurses := true, apart := false, narrowed := true }
def FnExactFewestColoursUptoSaid : Prop := fnExactFewestColoursUptoRow.holds Try.pinned (OpenSpec.upto fnExactFewestColoursSpec)

end Rows
end Go.Proofs.Ytdjkdjnbmhpokab

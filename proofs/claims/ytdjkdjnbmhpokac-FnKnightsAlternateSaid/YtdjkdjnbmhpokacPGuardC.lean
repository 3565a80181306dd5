
/-
  The program's guards: setsThat, fewestOf.
-/
import Derived.Test.YtdjkdjnbmhpokacPGuardB
import Derived.WalkMore
namespace Go.Proofs.Ytdjkdjnbmhpokac
open Go.RowKit
set_option linter.unusedVariables false

def testP (L : List Nat) (b : Bool) : Nat → Bool := if b then looseP L else guardQ L
theorem sets_snoc (ts : List (Nat → Bool)) (k : Nat) : setsOf ts (k + 1) = setsOf ts k ++ if ts.all (fun t => t k) then [k] else [] := by
  simp only [setsOf, List.range_succ, List.filter_append, List.filter_cons, List.filter_nil]
theorem sets_len (ts : List (Nat → Bool)) (k : Nat) : (setsOf ts k).length ≤ k := by
  have := List.length_filter_le (fun s => ts.all fun t => t s) (List.range k)
  simpa [setsOf] using this
theorem natI_snoc (l : List Nat) (k : Nat) : natI (l ++ [k]) = natI l ++ [(k : Int)] := by simp [natI]

theorem pc9_of {t : Nat} (h : t < 512) : pcN 9 t ≤ 9 := pc9_lt ⟨t, h⟩
def minTo (l : List Nat) (k : Nat) : Nat := (l.take k).foldl (fun a s => min a (pcN 9 s)) (pcN 9 (l[0]?.getD 0))
theorem minTo_snoc (l : List Nat) (k : Nat) (h : k < l.length) : minTo l (k + 1) = min (minTo l k) (pcN 9 (l[k]?.getD 0)) := by
  unfold minTo
  rw [List.take_succ_eq_append_getElem h, List.foldl_append, List.getElem?_eq_getElem h]
  rfl

end Go.Proofs.Ytdjkdjnbmhpokac

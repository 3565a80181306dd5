
/-
  The model's rookFrom.
-/
import Derived.Test.YtlccohoblplddadSpRookA
namespace Go.Proofs.Ytlccohoblplddad
open Go.RowKit
set_option linter.unusedVariables false

def lenW : Value → Nat
  | .slice _ n _ => n
  | _ => 0
theorem own_free2 {w w' : World} {base e size n : Nat} {v : Value} {xs : List Value} (h : w.ownsRow base e size v n xs) {r : Option Nat} (hg : w.grownBy w' r) (hne : v.ownBlock ≠ r) : w'.ownsRow base e size v n xs := h.kept hg (.inr hne)
theorem own_lenW {w : World} {base e size n : Nat} {v : Value} {xs : List Value} (h : w.ownsRow base e size v n xs) : lenW v = n := by
  obtain ⟨A, c, rfl, _⟩ := own_row h
  rfl
theorem at_ints {L : List Int} {k : Nat} (h : k < L.length) : (ints L)[k]? = some (.int .i64 (L[k]?.getD 0)) := by
  rw [ints, List.getElem?_map, List.getElem?_eq_getElem h]; rfl
theorem ints_set3 (l : List Int) (i : Nat) (u : Int) : (ints l).set i (.int .i64 u) = ints (l.set i u) := by simp [ints, List.map_set]

end Go.Proofs.Ytlccohoblplddad


/-
  A put to parts in memory.
-/
import Derived.Test.YtdjkdjnbmhpokabHueP
import Derived.Test.YtdjkdjnbmhpokabGuardB
namespace Go.Proofs.Ytdjkdjnbmhpokab
open Go.RowKit
set_option linter.unusedVariables false

theorem put_set {p : List Nat} {j x y : Nat} (h : j < p.length) (he : p[j]?.getD 0 ||| x = y) : (ints (natI p)).set j (.int .i64 (y : Int)) = ints (natI (putS p j x)) := by
  rw [put_eq x h, he, natI_set]
  simp [ints, List.map_set]
theorem put_set_new {p : List Nat} {x : Nat} : (ints (natI (p ++ [0]))).set p.length (.int .i64 (x : Int)) = ints (natI (putS p p.length x)) := by
  rw [put_new, show natI (p ++ [x]) = (natI (p ++ [0])).set p.length (x : Int) by
    rw [← natI_set, List.set_append_right _ _ (Nat.le_refl _), Nat.sub_self]
    rfl]
  simp [ints, List.map_set]
end Go.Proofs.Ytdjkdjnbmhpokab


/-
  The model's powers up to 512 and bits of sets of nine.
-/
import Derived.Test.YtnikgnicjbcbmabDoorBitP
import Derived.Test.YtnikgnicjbcbmabDoorSeatA
namespace Go.Proofs.YtnikgnicjbcbmabDoor
open Go.RowKit
set_option linter.unusedVariables false

theorem pow9 {n : Nat} (h : n ≤ 9) : 1 ≤ 2 ^ n ∧ 2 ^ n ≤ 512 :=
  ⟨Nat.one_le_two_pow, Nat.le_trans (Nat.pow_le_pow_right (by omega) h) (by decide)⟩
end Go.Proofs.YtnikgnicjbcbmabDoor

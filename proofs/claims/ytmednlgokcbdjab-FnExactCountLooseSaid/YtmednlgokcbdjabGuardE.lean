
/-
  Guards: the model's FewestGuards.
-/
import Derived.Test.YtmednlgokcbdjabGuardD
namespace Go.Proofs.Ytmednlgokcbdjab
open Go.RowKit
set_option linter.unusedVariables false

theorem scan_le (n : Nat) (ok : Nat → Bool) : ∀ k, scanP n ok k ≤ n
  | 0 => Nat.le_refl _
  | k + 1 => by
    have := scan_le n ok k
    simp only [scanP]
    split
    · rename_i h
      rw [Bool.and_eq_true, decide_eq_true_eq] at h
      omega
    · exact this

end Go.Proofs.Ytmednlgokcbdjab

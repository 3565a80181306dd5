
/-
  The model's RookCounts.
-/
import Derived.Test.YtlccohoblplddadRookB
import Derived.Test.YtlccohoblplddadSpRookB
namespace Go.Proofs.Ytlccohoblplddad
open Go.RowKit
set_option linter.unusedVariables false

theorem nats_within {l : List Int} (h : Seats l) {k : Nat} (hk : k < l.length) (d : Nat) (hd : ((natsP l)[k]?.getD 0).testBit d = true) : d < l.length := by
  have h1 := (nats_at h hk).2
  by_cases e : d < l.length
  · exact e
  · rw [Nat.testBit_lt_two_pow (Nat.lt_of_lt_of_le h1 (Nat.pow_le_pow_right (by omega) (by omega)))] at hd
    cases hd
end Go.Proofs.Ytlccohoblplddad

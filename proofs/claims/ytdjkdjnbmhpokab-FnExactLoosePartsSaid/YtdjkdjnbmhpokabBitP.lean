/-
  The bits of a number.
-/
import Derived.Test.YtdjkdjnbmhpokabBase
namespace Go.Proofs.Ytdjkdjnbmhpokab
def bitN (s i : Nat) : Nat := s / 2 ^ i % 2
theorem bitN_two (s k : Nat) : bitN s k = 0 ∨ bitN s k = 1 := by unfold bitN; omega
end Go.Proofs.Ytdjkdjnbmhpokab

/-
  Fewest moves on every board, reckoned by the kernel: leapers. Plain mathematics.
-/
import Derived.Test.YtljojjkaeclcfaaMovesFacts
namespace Go.Proofs.Ytljojjkaeclcfaa
set_option maxRecDepth 100000 in
theorem facts_step : factsAll (straight, false) := by decide +kernel
set_option maxRecDepth 100000 in
theorem facts_king : factsAll (both, false) := by decide +kernel
set_option maxRecDepth 100000 in
theorem facts_knight : factsAll (knights, false) := by decide +kernel
end Go.Proofs.Ytljojjkaeclcfaa

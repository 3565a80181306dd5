/-
  Fewest moves on every board, reckoned by the kernel: sliders. Plain mathematics.
-/
import Derived.Test.YtljojjkaeclcfaaMovesFacts
namespace Go.Proofs.Ytljojjkaeclcfaa
set_option maxRecDepth 100000 in
theorem facts_rook : factsAll (straight, true) := by decide +kernel
set_option maxRecDepth 100000 in
theorem facts_bishop : factsAll (slanted, true) := by decide +kernel
set_option maxRecDepth 100000 in
theorem facts_queen : factsAll (both, true) := by decide +kernel
end Go.Proofs.Ytljojjkaeclcfaa

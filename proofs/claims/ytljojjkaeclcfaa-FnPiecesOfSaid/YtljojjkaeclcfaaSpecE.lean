
/-
  The reference model's ReachOf and AllMoves.
-/
import Derived.Test.YtljojjkaeclcfaaSpecD
namespace Go.Proofs.Ytljojjkaeclcfaa
open Go.RowKit
set_option linter.unusedVariables false

theorem validKind_t {s : ByteArray} (h : (kindL s.toList).isSome = true) (w : World) : Calls Try.prog 24 #[.string s] w (Plain (.bool true) w) := by
  have := validKind_c s w
  rwa [h] at this
theorem validKind_f {s : ByteArray} (h : (kindL s.toList).isSome = false) (w : World) : Calls Try.prog 24 #[.string s] w (Plain (.bool false) w) := by
  have := validKind_c s w
  rwa [h] at this

end Go.Proofs.Ytljojjkaeclcfaa

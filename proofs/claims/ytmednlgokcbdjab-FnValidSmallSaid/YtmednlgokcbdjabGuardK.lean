
/-
  Guards: the model's ValidSmall.
-/
import Derived.Test.YtmednlgokcbdjabGuardD
namespace Go.Proofs.Ytmednlgokcbdjab
open Go.RowKit
set_option linter.unusedVariables false

theorem specValidSmall_c (bc br : Int) (s : ByteArray) (w : World) : Calls Try.prog 12 #[.int .i64 bc, .int .i64 br, .string s] w (Plain (.bool (smallK bc br s.toList).isSome) w) := by
  have H := hide (fun w5 => validSmall_c bc br s w5)
  generalize (smallK bc br s.toList).isSome = x at *
  go_enter Try.func12, Try.ntmps12
  go_wp2_with fail
  refine (H.out _).mono ?_
  rintro e w1 ⟨rfl, b1⟩
  go_wp2_with fail
  go_ret
  exact ⟨rfl, b1⟩
end Go.Proofs.Ytmednlgokcbdjab

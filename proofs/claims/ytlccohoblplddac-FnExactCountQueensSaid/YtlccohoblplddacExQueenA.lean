
/-
  The walks of the laws FnExactCanStand, FnExactCountQueens.
-/
import Derived.Test.YtlccohoblplddacPQueenB
namespace Go.Proofs.Ytlccohoblplddac
open Go.RowKit
set_option linter.unusedVariables false

theorem exactCountQueens_w (n : Int) (w : World) : Calls Try.prog 6 #[.int .i64 n] w (Plain (.bool true) w) := by
  have HS := hide (specCountQueens_c n w)
  have HI := hide (implCountQueens_c n w)
  generalize countP n = v at *
  have hvv : (v != v) = false := by simp
  go_enter Try.func6, Try.ntmps6
  go_wp2_with fail
  refine HS.out.mono ?_
  rintro e w1 ⟨rfl, rfl⟩
  go_wp2_with fail
  refine HI.out.mono ?_
  rintro e w1 ⟨rfl, rfl⟩
  go_wp2_with fail
  go_ret
  exact ⟨rfl, Below.refl _ _⟩
end Go.Proofs.Ytlccohoblplddac

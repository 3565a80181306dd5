
/-
  The program's queens: fitQueens, areColumns, isFree, CanStand.
-/
import Derived.Test.YtlccohoblplddacQueenB
namespace Go.Proofs.Ytlccohoblplddac
open Go.RowKit
set_option linter.unusedVariables false

theorem fitQueens_c (n : Int) (w : World) : Calls Try.prog 27 #[.int .i64 n] w fun e w' => e = .returned (.bool (decide (1 ≤ n ∧ n ≤ 6))) ∧ w = w' := by
  by_cases h1 : 1 ≤ n
  · by_cases h6 : n ≤ 6
    · have HN := hide (show decide (1 ≤ n ∧ n ≤ 6) = true from decide_eq_true ⟨h1, h6⟩)
      rw [HN.out]
      go_enter Try.func27, Try.ntmps27
      go_wp2_with fail
      go_ret
      exact ⟨rfl, rfl⟩
    · have HN := hide (show decide (1 ≤ n ∧ n ≤ 6) = false from decide_eq_false (fun h => h6 h.2))
      rw [HN.out]
      go_enter Try.func27, Try.ntmps27
      go_wp2_with fail
      go_ret
      exact ⟨rfl, rfl⟩
  · have HN := hide (show decide (1 ≤ n ∧ n ≤ 6) = false from decide_eq_false (fun h => h1 h.1))
    rw [HN.out]
    go_enter Try.func27, Try.ntmps27
    go_wp2_with fail
    go_ret
    exact ⟨rfl, rfl⟩
end Go.Proofs.Ytlccohoblplddac

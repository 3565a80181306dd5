
/-
  Boards: hasAscending.
-/
import Derived.Test.YtnfcklclgcgloaaMoveC
namespace Go.Proofs.Ytnfcklclgcgloaa
open Go.RowKit
set_option linter.unusedVariables false

theorem has_yes (bc br cell : Int) (w : World) (h1 : 1 ≤ bc) (h2 : bc ≤ 5) (h3 : 1 ≤ br) (h4 : br ≤ 5) (h5 : 0 ≤ cell) (h6 : cell < bc * br) : Calls Try.prog 26 #[boardV bc br, .int .i64 cell] w (Plain (.bool true) w) := by
  have := has_c bc br cell w h1 h2 h3 h4
  rwa [decide_eq_true ⟨h5, h6⟩] at this
theorem has_no (bc br cell : Int) (w : World) (h1 : 1 ≤ bc) (h2 : bc ≤ 5) (h3 : 1 ≤ br) (h4 : br ≤ 5) (h5 : ¬ (0 ≤ cell ∧ cell < bc * br)) : Calls Try.prog 26 #[boardV bc br, .int .i64 cell] w (Plain (.bool false) w) := by
  have := has_c bc br cell w h1 h2 h3 h4
  rwa [decide_eq_false h5] at this

end Go.Proofs.Ytnfcklclgcgloaa

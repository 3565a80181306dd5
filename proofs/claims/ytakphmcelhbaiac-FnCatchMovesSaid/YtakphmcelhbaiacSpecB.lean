
/-
  The reference model's validCells; a number in a list; ascending.
-/
import Derived.Test.YtakphmcelhbaiacSpecA
import Derived.Deep.LoopGhost
namespace Go.Proofs.Ytakphmcelhbaiac
open Go.RowKit
set_option linter.unusedVariables false

theorem inRange_t (n lo hi : Int) (w : World) (h1 : lo ≤ n) (h2 : n ≤ hi) : Calls Try.prog 20 #[.int .i64 n, .int .i64 lo, .int .i64 hi] w fun e w' => e = .returned (.bool true) ∧ w' = w :=
  (inRange_c n lo hi w).mono fun e w' ⟨he, hw⟩ => ⟨by rw [he, decide_eq_true ⟨h1, h2⟩], hw⟩
theorem inRange_f (n lo hi : Int) (w : World) (h : ¬ (lo ≤ n ∧ n ≤ hi)) : Calls Try.prog 20 #[.int .i64 n, .int .i64 lo, .int .i64 hi] w fun e w' => e = .returned (.bool false) ∧ w' = w :=
  (inRange_c n lo hi w).mono fun e w' ⟨he, hw⟩ => ⟨by rw [he, decide_eq_false h], hw⟩

end Go.Proofs.Ytakphmcelhbaiac

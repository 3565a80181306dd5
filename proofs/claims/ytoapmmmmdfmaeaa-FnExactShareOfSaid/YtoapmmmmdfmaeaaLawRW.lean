
/-
  The laws' own words of chapter 10: divisor, fracOf, plusOf, turnedCell, eqFrac.
-/
import Derived.Test.YtoapmmmmdfmaeaaWalkA
namespace Go.Proofs.Ytoapmmmmdfmaeaa
open Go.RowKit
set_option linter.unusedVariables false

set_option maxHeartbeats 1000000 in
theorem eqFrac_c (p : Nat × Nat) (w : World) : Calls Try.prog 14 #[fracV p, fracV p] w (Plain (.bool true) w) := by
  obtain ⟨x, y⟩ := p
  have hx : ((x : Int) != (x : Int)) = false := by simp
  have hy : ((y : Int) != (y : Int)) = false := by simp
  go_enter Try.func14, Try.ntmps14
  go_wp2_with fail
  go_ret
  exact ⟨rfl, by first | exact Below.refl _ _ | exact (Below.refl _ _).alloc (Nat.le_refl _) _ | exact ((Below.refl _ _).alloc (Nat.le_refl _) _).alloc (by simp) _⟩
end Go.Proofs.Ytoapmmmmdfmaeaa

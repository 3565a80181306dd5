
/-
  Boards: size, has, onward, boardOf.
-/
import Derived.Test.YtnfcklclgcgloabBase
import Derived.Test.YtnfcklclgcgloabProg
import Derived.Test.YtnfcklclgcgloabPure
import Derived.RegionTactic
import Derived.Deep.QuietTactic
import Derived.BigQuiet
import Derived.ProofKit
import Derived.Handy
namespace Go.Proofs.Ytnfcklclgcgloab
open Go.RowKit
set_option linter.unusedVariables false

abbrev boardV (bc br : Int) : Value := .agg #[.int .i64 bc, .int .i64 br]

set_option maxHeartbeats 400000 in
theorem size_c (bc br : Int) (w : World) (h1 : 1 ≤ bc) (h2 : bc ≤ 5) (h3 : 1 ≤ br) (h4 : br ≤ 5) : Calls Try.prog 33 #[boardV bc br] w (Plain (.int .i64 (bc * br)) w) := by
  obtain ⟨e1, e2⟩ := mul_bd h1 h2 h3 h4
  go_enter Try.func33, Try.ntmps33
  go_wp2
  go_ret
  exact ⟨rfl, (Below.refl _ _).alloc (Nat.le_refl _) _⟩
set_option maxHeartbeats 400000 in
theorem boardOf_yes (bc br : Int) (w : World) (h1 : 1 ≤ bc) (h2 : bc ≤ 5) (h3 : 1 ≤ br) (h4 : br ≤ 5) : Calls Try.prog 32 #[.int .i64 bc, .int .i64 br] w (Plain (.tuple #[boardV bc br, .bool true]) w) := by
  go_enter Try.func32, Try.ntmps32
  go_wp2
  go_returns
  exact ⟨rfl, (Below.refl _ _).alloc (Nat.le_refl _) _⟩
set_option maxHeartbeats 400000 in
theorem boardOf_no (bc br : Int) (w : World) (h : ¬ (1 ≤ bc ∧ bc ≤ 5 ∧ 1 ≤ br ∧ br ≤ 5)) : Calls Try.prog 32 #[.int .i64 bc, .int .i64 br] w (Plain (.tuple #[boardV 0 0, .bool false]) w) := by
  have : bc < 1 ∨ (¬ bc < 1 ∧ 5 < bc) ∨ (¬ bc < 1 ∧ ¬ 5 < bc ∧ br < 1) ∨ (¬ bc < 1 ∧ ¬ 5 < bc ∧ ¬ br < 1 ∧ 5 < br) := by omega
  clear h
  rcases this with y | ⟨y, y'⟩ | ⟨y, y', y''⟩ | ⟨y, y', y'', y3⟩
  all_goals
    go_enter Try.func32, Try.ntmps32
    go_wp2
    go_returns
    exact ⟨rfl, (Below.refl _ _).alloc (Nat.le_refl _) _⟩
end Go.Proofs.Ytnfcklclgcgloab

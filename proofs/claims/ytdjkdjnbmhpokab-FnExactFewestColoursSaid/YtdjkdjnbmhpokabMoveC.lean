
/-
  Boards: size, has, onward, boardOf.
-/
import Derived.Test.YtdjkdjnbmhpokabBase
import Derived.Test.YtdjkdjnbmhpokabProg
import Derived.Test.YtdjkdjnbmhpokabPure
import Derived.RegionTactic
import Derived.Deep.QuietTactic
import Derived.BigQuiet
import Derived.ProofKit
import Derived.Handy
namespace Go.Proofs.Ytdjkdjnbmhpokab
open Go.RowKit
set_option linter.unusedVariables false

abbrev boardV (bc br : Int) : Value := .agg #[.int .i64 bc, .int .i64 br]

set_option maxHeartbeats 400000 in
theorem size_c (bc br : Int) (w : World) (h1 : 1 ≤ bc) (h2 : bc ≤ 5) (h3 : 1 ≤ br) (h4 : br ≤ 5) : Calls Try.prog 36 #[boardV bc br] w (Plain (.int .i64 (bc * br)) w) := by
  obtain ⟨e1, e2⟩ := mul_bd h1 h2 h3 h4
  go_enter Try.func36, Try.ntmps36
  go_wp2
  go_ret
  exact ⟨rfl, (Below.refl _ _).alloc (Nat.le_refl _) _⟩
set_option maxHeartbeats 400000 in
theorem onward_yes (bc br cell dr dc : Int) (w : World) (h1 : 1 ≤ bc) (h2 : bc ≤ 5) (h3 : 1 ≤ br) (h4 : br ≤ 5) (g1 : 0 ≤ cell) (g2 : cell < 25) (g3 : -2 ≤ dr) (g4 : dr ≤ 2) (g5 : -2 ≤ dc) (g6 : dc ≤ 2)
    (y1 : 0 ≤ cell / bc + dr) (y2 : cell / bc + dr < br) (y3 : 0 ≤ cell % bc + dc) (y4 : cell % bc + dc < bc) :
    Calls Try.prog 54 #[boardV bc br, .int .i64 cell, .agg #[.int .i64 dr, .int .i64 dc]] w (Plain (.tuple #[.int .i64 ((cell / bc + dr) * bc + (cell % bc + dc)), .bool true]) w) := by
  obtain ⟨⟨q1, q2⟩, r1, r2⟩ := quo_bd h1 h2 g1 g2
  obtain ⟨⟨m1, m2⟩, m3, m4⟩ := row_bd h1 h2 h3 h4 y1 y2 y3 y4
  go_enter Try.func54, Try.ntmps54
  go_wp2_with fail
  go_quiet (fail)
  all_goals go_wp2
  all_goals go_ret2
  exact ⟨rfl, below_drewN (((Below.refl _ _).alloc (Nat.le_refl _) _).alloc (by simp) _) _⟩
set_option maxHeartbeats 400000 in
theorem onward_no (bc br cell dr dc : Int) (w : World) (h1 : 1 ≤ bc) (h2 : bc ≤ 5) (h3 : 1 ≤ br) (h4 : br ≤ 5) (g1 : 0 ≤ cell) (g2 : cell < 25) (g3 : -2 ≤ dr) (g4 : dr ≤ 2) (g5 : -2 ≤ dc) (g6 : dc ≤ 2)
    (y : ¬ (0 ≤ cell / bc + dr ∧ cell / bc + dr < br ∧ 0 ≤ cell % bc + dc ∧ cell % bc + dc < bc)) :
    Calls Try.prog 54 #[boardV bc br, .int .i64 cell, .agg #[.int .i64 dr, .int .i64 dc]] w (Plain (.tuple #[.int .i64 0, .bool false]) w) := by
  obtain ⟨⟨q1, q2⟩, r1, r2⟩ := quo_bd h1 h2 g1 g2
  have : cell / bc + dr < 0 ∨ (0 ≤ cell / bc + dr ∧ br ≤ cell / bc + dr) ∨ (0 ≤ cell / bc + dr ∧ cell / bc + dr < br ∧ cell % bc + dc < 0) ∨ (0 ≤ cell / bc + dr ∧ cell / bc + dr < br ∧ 0 ≤ cell % bc + dc ∧ bc ≤ cell % bc + dc) := by omega
  clear y
  rcases this with y | ⟨y, y'⟩ | ⟨y, y', y''⟩ | ⟨y, y', y'', y3⟩
  all_goals
    go_enter Try.func54, Try.ntmps54
    go_wp2_with fail
    go_quiet (fail)
    go_wp2
    go_ret2
    exact ⟨rfl, below_drewN (((Below.refl _ _).alloc (Nat.le_refl _) _).alloc (by simp) _) _⟩
set_option maxHeartbeats 400000 in
theorem boardOf_yes (bc br : Int) (w : World) (h1 : 1 ≤ bc) (h2 : bc ≤ 5) (h3 : 1 ≤ br) (h4 : br ≤ 5) : Calls Try.prog 52 #[.int .i64 bc, .int .i64 br] w (Plain (.tuple #[boardV bc br, .bool true]) w) := by
  go_enter Try.func52, Try.ntmps52
  go_wp2
  go_returns
  exact ⟨rfl, (Below.refl _ _).alloc (Nat.le_refl _) _⟩
set_option maxHeartbeats 400000 in
theorem boardOf_no (bc br : Int) (w : World) (h : ¬ (1 ≤ bc ∧ bc ≤ 5 ∧ 1 ≤ br ∧ br ≤ 5)) : Calls Try.prog 52 #[.int .i64 bc, .int .i64 br] w (Plain (.tuple #[boardV 0 0, .bool false]) w) := by
  have : bc < 1 ∨ (¬ bc < 1 ∧ 5 < bc) ∨ (¬ bc < 1 ∧ ¬ 5 < bc ∧ br < 1) ∨ (¬ bc < 1 ∧ ¬ 5 < bc ∧ ¬ br < 1 ∧ 5 < br) := by omega
  clear h
  rcases this with y | ⟨y, y'⟩ | ⟨y, y', y''⟩ | ⟨y, y', y'', y3⟩
  all_goals
    go_enter Try.func52, Try.ntmps52
    go_wp2
    go_returns
    exact ⟨rfl, (Below.refl _ _).alloc (Nat.le_refl _) _⟩
end Go.Proofs.Ytdjkdjnbmhpokab

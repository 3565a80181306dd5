/-
  The plain mathematics of the moves. Nothing of a program.
-/
import Derived.WalkKit
namespace Go.Proofs.Ytdjkdjnbmhpokab
open Go

def straight : List (Int × Int) := [(-1, 0), (0, -1), (0, 1), (1, 0)]
def slanted : List (Int × Int) := [(-1, -1), (-1, 1), (1, -1), (1, 1)]
def both : List (Int × Int) := straight ++ slanted
def knights : List (Int × Int) := [(-2, -1), (-2, 1), (-1, -2), (-1, 2), (1, -2), (1, 2), (2, -1), (2, 1)]
def flat (ss : List (Int × Int)) : List Value := ss.flatMap fun p => [.int .i64 p.1, .int .i64 p.2]

/-- The steps of a kind, and whether it goes on by them. -/
def kindL (l : List UInt8) : Option (List (Int × Int) × Bool) :=
  if l == [115, 116, 101, 112] then some (straight, false)
  else if l == [107, 105, 110, 103] then some (both, false)
  else if l == [107, 110, 105, 103, 104, 116] then some (knights, false)
  else if l == [114, 111, 111, 107] then some (straight, true)
  else if l == [98, 105, 115, 104, 111, 112] then some (slanted, true)
  else if l == [113, 117, 101, 101, 110] then some (both, true)
  else none

theorem mul_bd {a b : Int} (h1 : 1 ≤ a) (h2 : a ≤ 5) (h3 : 1 ≤ b) (h4 : b ≤ 5) : 1 ≤ a * b ∧ a * b ≤ 25 := by
  constructor
  · have := Int.mul_le_mul h1 h3 (by omega) (by omega); omega
  · have := Int.mul_le_mul h2 h4 (by omega) (by omega); omega
theorem quo_bd {cell bc : Int} (h1 : 1 ≤ bc) (h2 : bc ≤ 5) (g1 : 0 ≤ cell) (g2 : cell < 25) : (0 ≤ cell / bc ∧ cell / bc ≤ 24) ∧ (0 ≤ cell % bc ∧ cell % bc < bc) := by
  refine ⟨⟨Int.ediv_nonneg g1 (by omega), ?_⟩, Int.emod_nonneg _ (by omega), Int.emod_lt_of_pos _ (by omega)⟩
  have := Int.ediv_le_self bc g1
  omega
/-- A row that is on the board, times its columns. -/
theorem row_bd {r c bc br : Int} (h1 : 1 ≤ bc) (h2 : bc ≤ 5) (h3 : 1 ≤ br) (h4 : br ≤ 5) (g1 : 0 ≤ r) (g2 : r < br) (g3 : 0 ≤ c) (g4 : c < bc) : (0 ≤ r * bc ∧ r * bc ≤ 20) ∧ (0 ≤ r * bc + c ∧ r * bc + c < bc * br) := by
  have e1 : 0 ≤ r * bc := Int.mul_nonneg g1 (by omega)
  have e2 : r * bc ≤ (br - 1) * bc := Int.mul_le_mul_of_nonneg_right (by omega) (by omega)
  have e3 : (br - 1) * bc = bc * br - bc := by rw [Int.sub_mul, Int.one_mul, Int.mul_comm]
  have e4 : (br - 1) * bc ≤ 4 * 5 := Int.mul_le_mul (by omega) h2 (by omega) (by omega)
  omega

/-- The first k numbers are cells of a board of n, ascending. -/
def AscTo (n : Int) (l : List Int) (k : Nat) : Prop := ∀ i, i < k → (0 ≤ l[i]?.getD 0 ∧ l[i]?.getD 0 < n) ∧ (0 < i → l[i - 1]?.getD 0 < l[i]?.getD 0)
instance (n : Int) (l : List Int) (k : Nat) : Decidable (AscTo n l k) := by unfold AscTo; infer_instance
theorem AscTo.zero (n : Int) (l : List Int) : AscTo n l 0 := fun i h => absurd h (by omega)
theorem AscTo.succ {n : Int} {l : List Int} {k : Nat} (h : AscTo n l k) (h1 : 0 ≤ l[k]?.getD 0) (h2 : l[k]?.getD 0 < n) (h3 : 0 < k → l[k - 1]?.getD 0 < l[k]?.getD 0) : AscTo n l (k + 1) := fun i hi => by
  by_cases e : i = k
  · subst e; exact ⟨⟨h1, h2⟩, h3⟩
  · exact h i (by omega)
theorem AscTo.not {n : Int} {l : List Int} {k : Nat} (hk : k < l.length) (h : ¬ (0 ≤ l[k]?.getD 0 ∧ l[k]?.getD 0 < n) ∨ (0 < k ∧ l[k]?.getD 0 ≤ l[k - 1]?.getD 0)) : ¬ AscTo n l l.length := fun H => by
  obtain ⟨h1, h2⟩ := H k hk
  rcases h with h | ⟨h, h'⟩
  · exact h h1
  · have := h2 h; omega

end Go.Proofs.Ytdjkdjnbmhpokab

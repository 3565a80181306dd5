
/-
  Seats: the powers of two, and which rows are seats, by the program and by the model.
-/
import Derived.Test.YtnikgnicjbcbmabDoorSpecA
import Derived.Deep.RegionHeld3
namespace Go.Proofs.YtnikgnicjbcbmabDoor
open Go.RowKit
set_option linter.unusedVariables false

def fullP (n : Nat) : Int := ((2 ^ n : Nat) : Int) - 1
theorem pow_bd {n : Nat} (h : n ≤ 6) : 1 ≤ 2 ^ n ∧ 2 ^ n ≤ 64 :=
  ⟨Nat.one_le_two_pow, Nat.le_trans (Nat.pow_le_pow_right (by omega) h) (by decide)⟩
theorem full_bd {n : Nat} (h1 : 1 ≤ n) (h5 : n ≤ 5) : 1 ≤ fullP n ∧ fullP n ≤ 31 := by
  obtain rfl | rfl | rfl | rfl | rfl : n = 1 ∨ n = 2 ∨ n = 3 ∨ n = 4 ∨ n = 5 := by omega
  all_goals decide
def SeatsTo (F : Int) (l : List Int) (k : Nat) : Prop := ∀ i, i < k → 0 ≤ l[i]?.getD 0 ∧ l[i]?.getD 0 ≤ F
instance (F : Int) (l : List Int) (k : Nat) : Decidable (SeatsTo F l k) := by unfold SeatsTo; infer_instance
def Seats (l : List Int) : Prop := (1 ≤ l.length ∧ l.length ≤ 5) ∧ SeatsTo (fullP l.length) l l.length
instance (l : List Int) : Decidable (Seats l) := by unfold Seats; infer_instance
theorem SeatsTo.zero (F : Int) (l : List Int) : SeatsTo F l 0 := fun i h => absurd h (by omega)
theorem SeatsTo.succ {F : Int} {l : List Int} {k : Nat} (h : SeatsTo F l k) (h1 : 0 ≤ l[k]?.getD 0) (h2 : l[k]?.getD 0 ≤ F) : SeatsTo F l (k + 1) := fun i hi => by
  by_cases e : i = k
  · subst e; exact ⟨h1, h2⟩
  · exact h i (by omega)
theorem SeatsTo.not {F : Int} {l : List Int} {k : Nat} (hk : k < l.length) (h : ¬ (0 ≤ l[k]?.getD 0 ∧ l[k]?.getD 0 ≤ F)) : ¬ SeatsTo F l l.length := fun hs => h (hs k hk)

theorem fullSeats_c (n : Nat) (h1 : 1 ≤ n) (h5 : n ≤ 5) (w : World) : Calls Tryd.prog 16 #[.int .i64 (n : Int)] w fun e w' => e = .returned (.int .i64 (fullP n)) ∧ w = w' := by
  obtain rfl | rfl | rfl | rfl | rfl : n = 1 ∨ n = 2 ∨ n = 3 ∨ n = 4 ∨ n = 5 := by omega
  all_goals
    go_enter Tryd.func16, Tryd.ntmps16
    go_wp2
    go_ret
    exact ⟨rfl, rfl⟩

end Go.Proofs.YtnikgnicjbcbmabDoor

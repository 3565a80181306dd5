
/-
  Seats: the powers of two, and which rows are seats, by the program and by the model.
-/
import Derived.Test.YtakphmcelhbaiacSpecA
import Derived.Deep.RegionHeld3
namespace Go.Proofs.Ytakphmcelhbaiac
open Go.RowKit
set_option linter.unusedVariables false

def fullP (n : Nat) : Int := ((2 ^ n : Nat) : Int) - 1
theorem pow_bd {n : Nat} (h : n ≤ 6) : 1 ≤ 2 ^ n ∧ 2 ^ n ≤ 64 :=
  ⟨Nat.one_le_two_pow, Nat.le_trans (Nat.pow_le_pow_right (by omega) h) (by decide)⟩
theorem full_bd {n : Nat} (h1 : 1 ≤ n) (h5 : n ≤ 5) : 1 ≤ fullP n ∧ fullP n ≤ 31 := by
  obtain rfl | rfl | rfl | rfl | rfl : n = 1 ∨ n = 2 ∨ n = 3 ∨ n = 4 ∨ n = 5 := by omega
  all_goals decide
def SeatsTo (F : Int) (l : List Int) (k : Nat) : Prop := ∀ i, i < k → 0 ≤ l[i]?.getD 0 ∧ l[i]?.getD 0 ≤ F
instance (F : Int) (l : List Int) (k : Nat) : Decidable (SeatsTo F l k) := by unfold SeatsTo; infer_instance
def Seats (l : List Int) : Prop := (1 ≤ l.length ∧ l.length ≤ 5) ∧ SeatsTo (fullP l.length) l l.length
instance (l : List Int) : Decidable (Seats l) := by unfold Seats; infer_instance
theorem SeatsTo.zero (F : Int) (l : List Int) : SeatsTo F l 0 := fun i h => absurd h (by omega)
theorem SeatsTo.succ {F : Int} {l : List Int} {k : Nat} (h : SeatsTo F l k) (h1 : 0 ≤ l[k]?.getD 0) (h2 : l[k]?.getD 0 ≤ F) : SeatsTo F l (k + 1) := fun i hi => by
  by_cases e : i = k
  · subst e; exact ⟨h1, h2⟩
  · exact h i (by omega)
theorem SeatsTo.not {F : Int} {l : List Int} {k : Nat} (hk : k < l.length) (h : ¬ (0 ≤ l[k]?.getD 0 ∧ l[k]?.getD 0 ≤ F)) : ¬ SeatsTo F l l.length := fun hs => h (hs k hk)

theorem specPower_c (n : Nat) (hn : n ≤ 6) (w : World) : Calls Try.prog 42 #[.int .i64 (n : Int)] w fun e w' => e = .returned (.int .i64 ((2 ^ n : Nat) : Int)) ∧ w = w' := by
  go_enter Try.func42, Try.ntmps42
  go_wp2_with fail
  go_loopw [0, 3] (fun a p wr => ∃ k : Nat, k ≤ n ∧ a = .int .i64 ((n - k : Nat) : Int) ∧ p = .int .i64 ((2 ^ k : Nat) : Int) ∧ w = wr) (fun a _ _ => (intOf a).toNat)
  case atStart => exact ⟨0, Nat.zero_le _, by simp, rfl, rfl⟩
  case round =>
    obtain ⟨k, hk, rfl, rfl, rfl⟩ := hrel
    by_cases hlt : k < n
    · have hb := pow_bd (n := k) (by omega)
      have hpos : (0 : Int) < ((n - k : Nat) : Int) := by omega
      have hle : ((n - k : Nat) : Int) ≤ 6 := by omega
      have hp2 : Hid ((2 ^ (k + 1) : Nat) = 2 * 2 ^ k) := by show 2 ^ (k + 1) = 2 * 2 ^ k; rw [Nat.pow_succ, Nat.mul_comm]
      have hs := hide (show ((n - k : Nat) : Int) - 1 = ((n - (k + 1) : Nat) : Int) by omega)
      generalize hP : (2 ^ k : Nat) = P at *
      generalize hM : ((n - k : Nat) : Int) = M at *
      clear hP
      go_wp2_with fail
      exact ⟨⟨k + 1, hlt, by rw [hs.out], by rw [hp2.out]; push_cast; rfl, trivial⟩, by simp [intOf]; omega⟩
    · have hkk : Hid (k = n) := hide (by omega)
      have hz : ((n - k : Nat) : Int) = 0 := by omega
      rw [hz]
      go_wp2_with fail
      go_ret
      exact ⟨by rw [hkk.out]; rfl, rfl⟩
end Go.Proofs.Ytakphmcelhbaiac


/-
  Seats: the powers of two, and which rows are seats, by the program and by the model.
-/
import Derived.Test.YtlccohoblplddadSpecA
import Derived.Deep.RegionHeld3
namespace Go.Proofs.Ytlccohoblplddad
open Go.RowKit
set_option linter.unusedVariables false

def fullP (n : Nat) : Int := ((2 ^ n : Nat) : Int) - 1
theorem pow_bd {n : Nat} (h : n ≤ 6) : 1 ≤ 2 ^ n ∧ 2 ^ n ≤ 64 :=
  ⟨Nat.one_le_two_pow, Nat.le_trans (Nat.pow_le_pow_right (by omega) h) (by decide)⟩
theorem full_bd {n : Nat} (h1 : 1 ≤ n) (h5 : n ≤ 5) : 1 ≤ fullP n ∧ fullP n ≤ 31 := by
  obtain rfl | rfl | rfl | rfl | rfl : n = 1 ∨ n = 2 ∨ n = 3 ∨ n = 4 ∨ n = 5 := by omega
  all_goals decide
def SeatsTo (F : Int) (l : List Int) (k : Nat) : Prop := ∀ i, i < k → 0 ≤ l[i]?.getD 0 ∧ l[i]?.getD 0 ≤ F
instance (F : Int) (l : List Int) (k : Nat) : Decidable (SeatsTo F l k) := by unfold SeatsTo; infer_instance
def Seats (l : List Int) : Prop := (1 ≤ l.length ∧ l.length ≤ 5) ∧ SeatsTo (fullP l.length) l l.length
instance (l : List Int) : Decidable (Seats l) := by unfold Seats; infer_instance
theorem SeatsTo.zero (F : Int) (l : List Int) : SeatsTo F l 0 := fun i h => absurd h (by omega)
theorem SeatsTo.succ {F : Int} {l : List Int} {k : Nat} (h : SeatsTo F l k) (h1 : 0 ≤ l[k]?.getD 0) (h2 : l[k]?.getD 0 ≤ F) : SeatsTo F l (k + 1) := fun i hi => by
  by_cases e : i = k
  · subst e; exact ⟨h1, h2⟩
  · exact h i (by omega)
theorem SeatsTo.not {F : Int} {l : List Int} {k : Nat} (hk : k < l.length) (h : ¬ (0 ≤ l[k]?.getD 0 ∧ l[k]?.getD 0 ≤ F)) : ¬ SeatsTo F l l.length := fun hs => h (hs k hk)

theorem specPower_c (n : Nat) (hn : n ≤ 6) (w : World) : Calls Try.prog 50 #[.int .i64 (n : Int)] w fun e w' => e = .returned (.int .i64 ((2 ^ n : Nat) : Int)) ∧ w = w' := by
  go_enter Try.func50, Try.ntmps50
  go_wp2_with fail
  go_loopw [0, 3] (fun a p wr => ∃ k : Nat, k ≤ n ∧ a = .int .i64 ((n - k : Nat) : Int) ∧ p = .int .i64 ((2 ^ k : Nat) : Int) ∧ w = wr) (fun a _ _ => (intOf a).toNat)
  case atStart => exact ⟨0, Nat.zero_le _, by simp, rfl, rfl⟩
  case round =>
    obtain ⟨k, hk, rfl, rfl, rfl⟩ := hrel
    by_cases hlt : k < n
    · have hb := pow_bd (n := k) (by omega)
      have hpos : (0 : Int) < ((n - k : Nat) : Int) := by omega
      have hle : ((n - k : Nat) : Int) ≤ 6 := by omega
      have hp2 : Hid ((2 ^ (k + 1) : Nat) = 2 * 2 ^ k) := by show 2 ^ (k + 1) = 2 * 2 ^ k; rw [Nat.pow_succ, Nat.mul_comm]
      have hs := hide (show ((n - k : Nat) : Int) - 1 = ((n - (k + 1) : Nat) : Int) by omega)
      generalize hP : (2 ^ k : Nat) = P at *
      generalize hM : ((n - k : Nat) : Int) = M at *
      clear hP
      go_wp2_with fail
      exact ⟨⟨k + 1, hlt, by rw [hs.out], by rw [hp2.out]; push_cast; rfl, trivial⟩, by simp [intOf]; omega⟩
    · have hkk : Hid (k = n) := hide (by omega)
      have hz : ((n - k : Nat) : Int) = 0 := by omega
      rw [hz]
      go_wp2_with fail
      go_ret
      exact ⟨by rw [hkk.out]; rfl, rfl⟩
theorem fullSeats_c (n : Nat) (h1 : 1 ≤ n) (h5 : n ≤ 5) (w : World) : Calls Try.prog 49 #[.int .i64 (n : Int)] w fun e w' => e = .returned (.int .i64 (fullP n)) ∧ w = w' := by
  obtain rfl | rfl | rfl | rfl | rfl : n = 1 ∨ n = 2 ∨ n = 3 ∨ n = 4 ∨ n = 5 := by omega
  all_goals
    go_enter Try.func49, Try.ntmps49
    go_wp2
    go_ret
    exact ⟨rfl, rfl⟩

set_option maxHeartbeats 400000 in
theorem implValidSeats_c (A : Option Addr) (c : Nat) (l : List Int) (w : World) (hr : Row w A (ints l)) (hm : l.length ≤ maxLen) :
    Calls Try.prog 42 #[.slice A l.length c] w (Plain (.bool (decide (Seats l))) w) := by
  unfold maxLen at hm
  by_cases h1 : 1 ≤ l.length
  · by_cases h5 : l.length ≤ 5
    · have HF := hide (fun (w5 : World) => fullSeats_c l.length h1 h5 w5)
      obtain ⟨f1, f2⟩ := full_bd h1 h5
      have HE := hide (show decide (Seats l) = decide (SeatsTo (fullP l.length) l l.length) by
        apply decide_eq_decide.2; unfold Seats; exact ⟨fun h => h.2, fun h => ⟨⟨h1, h5⟩, h⟩⟩)
      generalize fullP l.length = F at *
      go_enter Try.func42, Try.ntmps42
      go_wp2_with fail
      go_loopw [15] (fun i wr => ∃ k : Nat, k ≤ l.length ∧ i = .int .i64 k ∧ SeatsTo F l k ∧ Below w.heap.size w wr) (fun i _ => l.length - (intOf i).toNat)
      case atStart => exact ⟨0, Nat.zero_le _, rfl, SeatsTo.zero _ _, Below.refl _ _⟩
      case round =>
        obtain ⟨k, hk, rfl, hs, hb⟩ := hrel
        obtain ⟨wo, rfl⟩ : ∃ wo : World, wo = wr := ⟨_, rfl⟩
        have z := hb.size
        by_cases hlt : k < l.length
        · obtain ⟨ad, rfl, hca⟩ := (hr.below hb).int hlt
          obtain ⟨x, hx⟩ : ∃ x, l[k]?.getD 0 = x := ⟨_, rfl⟩
          rw [hx] at hca
          have X := hide hx
          have hs := hide hs
          clear hx
          by_cases hx0 : 0 ≤ x
          · by_cases hxF : x ≤ F
            · go_wp2_with fail
              refine (HF.out _).mono ?_
              rintro e w1 ⟨rfl, rfl⟩
              go_wp2_with fail
              exact ⟨⟨k + 1, hlt, rfl, hs.out.succ (by rw [X.out]; exact hx0) (by rw [X.out]; exact hxF), hb⟩, by simp [intOf]; omega⟩
            · go_wp2_with fail
              refine (HF.out _).mono ?_
              rintro e w1 ⟨rfl, rfl⟩
              go_wp2_with fail
              go_ret
              exact ⟨ret_bool (by rw [HE.out]; symm; rw [decide_eq_false_iff_not]; exact SeatsTo.not hlt (by rw [X.out]; omega)), hb⟩
          · go_wp2_with fail
            go_ret
            exact ⟨ret_bool (by rw [HE.out]; symm; rw [decide_eq_false_iff_not]; exact SeatsTo.not hlt (by rw [X.out]; omega)), hb⟩
        · have hk2 : Hid (k = l.length) := hide (by omega)
          have hs := hide hs
          go_wp2_with fail
          go_ret
          exact ⟨ret_bool (by rw [HE.out]; symm; rw [decide_eq_true_eq, ← hk2.out]; exact hs.out), hb⟩
    · have HN := hide (show ¬ Seats l from fun h => h5 h.1.2)
      go_enter Try.func42, Try.ntmps42
      go_wp2_with fail
      go_ret
      exact ⟨ret_bool (decide_eq_false HN.out).symm, Below.refl _ _⟩
  · have HN := hide (show ¬ Seats l from fun h => h1 h.1.1)
    go_enter Try.func42, Try.ntmps42
    go_wp2_with fail
    go_ret
    exact ⟨ret_bool (decide_eq_false HN.out).symm, Below.refl _ _⟩

end Go.Proofs.Ytlccohoblplddad

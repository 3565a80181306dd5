
/-
  The walk of the law FnChaseDown.
-/
import Derived.Test.YtijidecdokbmnabPLightC
import Derived.Test.YtijidecdokbmnabDrawL
namespace Go.Proofs.Ytijidecdokbmnab
open Go.RowKit
set_option linter.unusedVariables false

theorem lawPower_c (n : Nat) (hn : n ≤ 12) (w : World) : Calls Try.prog 10 #[.int .i64 (n : Int)] w fun e w' => e = .returned (.int .i64 ((2 ^ n : Nat) : Int)) ∧ w = w' := by
  go_enter Try.func10, Try.ntmps10
  go_wp2_with fail
  go_loopw [0, 3] (fun a p wr => ∃ k : Nat, k ≤ n ∧ a = .int .i64 ((n - k : Nat) : Int) ∧ p = .int .i64 ((2 ^ k : Nat) : Int) ∧ w = wr) (fun a _ _ => (intOf a).toNat)
  case atStart => exact ⟨0, Nat.zero_le _, by simp, rfl, rfl⟩
  case round =>
    obtain ⟨k, hk, rfl, rfl, rfl⟩ := hrel
    by_cases hlt : k < n
    · have hb := pow12 (n := k) (by omega)
      have hpos : (0 : Int) < ((n - k : Nat) : Int) := by omega
      have hle : ((n - k : Nat) : Int) ≤ 12 := by omega
      have hp2 : Hid ((2 ^ (k + 1) : Nat) = 2 * 2 ^ k) := by show 2 ^ (k + 1) = 2 * 2 ^ k; rw [Nat.pow_succ, Nat.mul_comm]
      have hs := hide (show ((n - k : Nat) : Int) - 1 = ((n - (k + 1) : Nat) : Int) by omega)
      generalize hP : (2 ^ k : Nat) = P at *
      generalize hM : ((n - k : Nat) : Int) = M at *
      clear hP
      go_wp2_with fail
      exact ⟨⟨k + 1, hlt, by rw [hs.out], by rw [hp2.out]; push_cast; rfl, trivial⟩, by simp [intOf]; omega⟩
    · have hkk : Hid (k = n) := hide (by omega)
      have hz : ((n - k : Nat) : Int) = 0 := by omega
      rw [hz]
      go_wp2_with fail
      go_ret
      exact ⟨by rw [hkk.out]; rfl, rfl⟩

/-- All that is said of a chase. -/
theorem chase_facts {w h x : Nat} (hw : 1 ≤ w ∧ w ≤ 5) (hh : 1 ≤ h ∧ h ≤ 5) (h12 : w * h ≤ 12) (hx : x < 2 ^ (w * h)) : ∃ p y : Nat, chaseTo (litL w h) w x (w * h) = (p, y) ∧ p < 2 ^ (w * h) ∧ y < 2 ^ (w * h) ∧
    pressTo (litL w h) x p (w * h) = y ∧ y % 2 ^ (w * h - w) = 0 ∧ p % 2 ^ w = 0 ∧ chaseTo (litL w h) w y (w * h) = (0, y) := by
  have hD := dat_is hw hh h12
  have hup : ∀ k : Nat, k < w * h → w ≤ k → bitN ((litL w h)[k]?.getD 0) (k - w) = 1 ∧ ((litL w h)[k]?.getD 0) % 2 ^ (k - w) = 0 := by rw [hD.lit]; exact hD.up
  have h1 := chase_press (litL w h) w x (w * h)
  have h2 := chase_first (litL w h) w x (w * h)
  have h3 := chase_left hup (x := x) (w * h) (Nat.le_refl _)
  have h4 := chase_lt (w := w) (fun k => lit_bd hw hh h12 k) hx (w * h)
  have h5 := chase_again h3 (L := litL w h) (w * h) (Nat.le_refl _)
  exact ⟨_, _, rfl, h1.1, h4.2, h1.2, bits_none fun j hj => h3 j (by omega), h2, h5⟩
theorem chaseV_bad {bc br x : Int} (h : ¬ LitS bc br x) : chaseV bc br x = (-1, -1) := if_neg h

end Go.Proofs.Ytijidecdokbmnab


/-
  The walk of the law FnChaseDown.
-/
import Derived.Test.YtijidecdokbmnaaPLightC
import Derived.Test.YtijidecdokbmnaaDrawL
namespace Go.Proofs.Ytijidecdokbmnaa
open Go.RowKit
set_option linter.unusedVariables false

theorem lawPower_c (n : Nat) (hn : n ≤ 12) (w : World) : Calls Try.prog 14 #[.int .i64 (n : Int)] w fun e w' => e = .returned (.int .i64 ((2 ^ n : Nat) : Int)) ∧ w = w' := by
  go_enter Try.func14, Try.ntmps14
  go_wp2_with fail
  go_loopw [0, 3] (fun a p wr => ∃ k : Nat, k ≤ n ∧ a = .int .i64 ((n - k : Nat) : Int) ∧ p = .int .i64 ((2 ^ k : Nat) : Int) ∧ w = wr) (fun a _ _ => (intOf a).toNat)
  case atStart => exact ⟨0, Nat.zero_le _, by simp, rfl, rfl⟩
  case round =>
    obtain ⟨k, hk, rfl, rfl, rfl⟩ := hrel
    by_cases hlt : k < n
    · have hb := pow12 (n := k) (by omega)
      have hpos : (0 : Int) < ((n - k : Nat) : Int) := by omega
      have hle : ((n - k : Nat) : Int) ≤ 12 := by omega
      have hp2 : Hid ((2 ^ (k + 1) : Nat) = 2 * 2 ^ k) := by show 2 ^ (k + 1) = 2 * 2 ^ k; rw [Nat.pow_succ, Nat.mul_comm]
      have hs := hide (show ((n - k : Nat) : Int) - 1 = ((n - (k + 1) : Nat) : Int) by omega)
      generalize hP : (2 ^ k : Nat) = P at *
      generalize hM : ((n - k : Nat) : Int) = M at *
      clear hP
      go_wp2_with fail
      exact ⟨⟨k + 1, hlt, by rw [hs.out], by rw [hp2.out]; push_cast; rfl, trivial⟩, by simp [intOf]; omega⟩
    · have hkk : Hid (k = n) := hide (by omega)
      have hz : ((n - k : Nat) : Int) = 0 := by omega
      rw [hz]
      go_wp2_with fail
      go_ret
      exact ⟨by rw [hkk.out]; rfl, rfl⟩

/-- All that is said of a chase. -/
theorem chase_facts {w h x : Nat} (hw : 1 ≤ w ∧ w ≤ 5) (hh : 1 ≤ h ∧ h ≤ 5) (h12 : w * h ≤ 12) (hx : x < 2 ^ (w * h)) : ∃ p y : Nat, chaseTo (litL w h) w x (w * h) = (p, y) ∧ p < 2 ^ (w * h) ∧ y < 2 ^ (w * h) ∧
    pressTo (litL w h) x p (w * h) = y ∧ y % 2 ^ (w * h - w) = 0 ∧ p % 2 ^ w = 0 ∧ chaseTo (litL w h) w y (w * h) = (0, y) := by
  have hD := dat_is hw hh h12
  have hup : ∀ k : Nat, k < w * h → w ≤ k → bitN ((litL w h)[k]?.getD 0) (k - w) = 1 ∧ ((litL w h)[k]?.getD 0) % 2 ^ (k - w) = 0 := by rw [hD.lit]; exact hD.up
  have h1 := chase_press (litL w h) w x (w * h)
  have h2 := chase_first (litL w h) w x (w * h)
  have h3 := chase_left hup (x := x) (w * h) (Nat.le_refl _)
  have h4 := chase_lt (w := w) (fun k => lit_bd hw hh h12 k) hx (w * h)
  have h5 := chase_again h3 (L := litL w h) (w * h) (Nat.le_refl _)
  exact ⟨_, _, rfl, h1.1, h4.2, h1.2, bits_none fun j hj => h3 j (by omega), h2, h5⟩
theorem chaseV_bad {bc br x : Int} (h : ¬ LitS bc br x) : chaseV bc br x = (-1, -1) := if_neg h

set_option maxHeartbeats 2000000 in
set_option maxRecDepth 100000 in
theorem chaseDown_w (A : Option Addr) (n c : Nat) (w : World) (h : Code w A n c) : Calls Try.prog 6 #[.slice A n c] w (Plain (.bool true) w) := by
  by_cases hl : 1048576 < (n : Int)
  · go_enter Try.func6, Try.ntmps6
    go_wp2
    go_ret
    exact ⟨rfl, Below.refl _ _⟩
  · have HC := hide (drawChaseDown_c A n c w h)
    clear h
    have HI := hide (fun bc br x w5 => implChaseDown_c bc br x w5)
    have HS := hide (fun bc br x w5 => specChaseDown_c bc br x w5)
    go_enter Try.func6, Try.ntmps6
    go_wp2_with fail
    refine HC.out.mono ?_
    rintro e w1 ⟨bc, br, x, rfl, -, -, -, b1⟩
    have HI1 := hide (fun w5 => HI.out bc br x w5)
    have HS1 := hide (fun w5 => HS.out bc br x w5)
    by_cases hv : LitS bc br x
    · obtain ⟨W, H, x, rfl, rfl, rfl, hw, hh, h12, hx⟩ := litS_nat hv
      clear hv
      obtain ⟨p, y, hc, hp, hy, hpr, hm1, hm2, -⟩ := chase_facts hw hh h12 hx
      rw [chaseV_nat hw hh h12 hx, hc] at HI1 HS1
      simp only at HI1 HS1
      have HP := hide (fun w5 => implPressAll_c (W : Int) (H : Int) (x : Int) (p : Int) w5)
      rw [pressV_nat hw hh h12 hx hp, hpr] at HP
      have hyb := set12 h12 hy
      have hpb := set12 h12 hp
      have hWn : W ≤ W * H := Nat.le_mul_of_pos_right W (by omega)
      have HW1 := hide (fun w5 => lawPower_c (W * H - W) (by omega) w5)
      have HW2 := hide (fun w5 => lawPower_c W (by omega) w5)
      have es : IntKind.i64.wrap ((H : Int) - 1) = ((H - 1 : Nat) : Int) := (IntWalk.i64_in _ (by omega)).trans (by omega)
      have hmul : W * (H - 1) = W * H - W := by rw [Nat.mul_sub, Nat.mul_one]
      have em : IntKind.i64.wrap ((W : Int) * ((H - 1 : Nat) : Int)) = ((W * H - W : Nat) : Int) := by
        rw [← Int.natCast_mul, hmul]
        exact IntWalk.i64_in _ (by omega)
      have q1 := pow12 (n := W * H - W) (by omega)
      have q2 := pow12 (n := W) (by omega)
      have t1 : Int.tmod (y : Int) ((2 ^ (W * H - W) : Nat) : Int) = 0 := by
        have : Int.tmod (y : Int) ((2 ^ (W * H - W) : Nat) : Int) = ((y % 2 ^ (W * H - W) : Nat) : Int) := Int.tmod_eq_emod_of_nonneg (Int.natCast_nonneg _)
        rw [this, hm1]; rfl
      have t2 : Int.tmod (p : Int) ((2 ^ W : Nat) : Int) = 0 := by
        have : Int.tmod (p : Int) ((2 ^ W : Nat) : Int) = ((p % 2 ^ W : Nat) : Int) := Int.tmod_eq_emod_of_nonneg (Int.natCast_nonneg _)
        rw [this, hm2]; rfl
      have hpp : ((p : Int) != (p : Int)) = false := by simp
      have hyy : ((y : Int) != (y : Int)) = false := by simp
      have hyy2 : ((y : Int) == (y : Int)) = true := by simp
      clear hx hc hp hy hpr hm1 hm2 hw hh hWn hmul HI HS
      generalize W * H - W = d at *
      generalize 2 ^ d = P1 at *
      generalize 2 ^ W = P2 at *
      have n1 : (P1 : Int) ≠ 0 := by omega
      have n2 : (P2 : Int) ≠ 0 := by omega
      generalize H - 1 = H1 at *
      go_wp2_with fail
      refine (HI1.out _).mono ?_
      rintro e w2 ⟨rfl, b2⟩
      have b2 := below_then b1 b1.size b2
      go_wp2_with fail
      refine (HS1.out _).mono ?_
      rintro e w3 ⟨rfl, b3⟩
      have b3 := below_then b2 b2.size b3
      go_wp2_with fail
      refine (HP.out _).mono ?_
      rintro e w4 ⟨rfl, b4⟩
      have b4 := below_then b3 b3.size b4
      go_wp2_with fail
      refine (HW1.out _).mono ?_
      rintro e w5 ⟨rfl, rfl⟩
      go_wp2_with fail
      refine (HW2.out _).mono ?_
      rintro e w6 ⟨rfl, rfl⟩
      go_wp2_with fail
      go_ret
      exact ⟨rfl, b4⟩
    · rw [chaseV_bad hv] at HI1 HS1
      simp only at HI1 HS1
      clear hv HI HS
      go_wp2_with fail
      refine (HI1.out _).mono ?_
      rintro e w2 ⟨rfl, b2⟩
      have b2 := below_then b1 b1.size b2
      go_wp2_with fail
      refine (HS1.out _).mono ?_
      rintro e w3 ⟨rfl, b3⟩
      have b3 := below_then b2 b2.size b3
      go_wp2_with fail
      go_ret
      exact ⟨rfl, b3⟩
end Go.Proofs.Ytijidecdokbmnaa

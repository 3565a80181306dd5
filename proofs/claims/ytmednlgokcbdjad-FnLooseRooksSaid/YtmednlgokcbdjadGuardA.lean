
/-
  Guards: powers up to 512, how many cells a set has, the model's bit of a set of nine.
-/
import Derived.Test.YtmednlgokcbdjadGuardP
import Derived.Test.YtmednlgokcbdjadSeatA
namespace Go.Proofs.Ytmednlgokcbdjad
open Go.RowKit
set_option linter.unusedVariables false

theorem pow9 {n : Nat} (h : n ≤ 9) : 1 ≤ 2 ^ n ∧ 2 ^ n ≤ 512 :=
  ⟨Nat.one_le_two_pow, Nat.le_trans (Nat.pow_le_pow_right (by omega) h) (by decide)⟩
theorem specPower9_c (n : Nat) (hn : n ≤ 9) (w : World) : Calls Try.prog 27 #[.int .i64 (n : Int)] w fun e w' => e = .returned (.int .i64 ((2 ^ n : Nat) : Int)) ∧ w = w' := by
  go_enter Try.func27, Try.ntmps27
  go_wp2_with fail
  go_loopw [0, 3] (fun a p wr => ∃ k : Nat, k ≤ n ∧ a = .int .i64 ((n - k : Nat) : Int) ∧ p = .int .i64 ((2 ^ k : Nat) : Int) ∧ w = wr) (fun a _ _ => (intOf a).toNat)
  case atStart => exact ⟨0, Nat.zero_le _, by simp, rfl, rfl⟩
  case round =>
    obtain ⟨k, hk, rfl, rfl, rfl⟩ := hrel
    by_cases hlt : k < n
    · have hb := pow9 (n := k) (by omega)
      have hpos : (0 : Int) < ((n - k : Nat) : Int) := by omega
      have hle : ((n - k : Nat) : Int) ≤ 9 := by omega
      have hp2 : Hid ((2 ^ (k + 1) : Nat) = 2 * 2 ^ k) := by show 2 ^ (k + 1) = 2 * 2 ^ k; rw [Nat.pow_succ, Nat.mul_comm]
      have hs := hide (show ((n - k : Nat) : Int) - 1 = ((n - (k + 1) : Nat) : Int) by omega)
      generalize hP : (2 ^ k : Nat) = P at *
      generalize hM : ((n - k : Nat) : Int) = M at *
      clear hP
      go_wp2_with fail
      exact ⟨⟨k + 1, hlt, by rw [hs.out], by rw [hp2.out]; push_cast; rfl, trivial⟩, by simp [intOf]; omega⟩
    · have hkk : Hid (k = n) := hide (by omega)
      have hz : ((n - k : Nat) : Int) = 0 := by omega
      rw [hz]
      go_wp2_with fail
      go_ret
      exact ⟨by rw [hkk.out]; rfl, rfl⟩

theorem pcN_zero : ∀ f, pcN f 0 = 0
  | 0 => rfl
  | f + 1 => by simp only [pcN]; rw [Nat.zero_div, pcN_zero f]
theorem pcN_le : ∀ f x, pcN f x ≤ x
  | 0, x => Nat.zero_le _
  | f + 1, x => by simp only [pcN]; have := pcN_le f (x / 2); omega
theorem pcN_st : ∀ (f g x : Nat), x ≤ f → x ≤ g → pcN f x = pcN g x
  | 0, g, x, h, _ => by obtain rfl : x = 0 := by omega
                        rw [pcN_zero, pcN_zero]
  | f + 1, 0, x, _, h => by obtain rfl : x = 0 := by omega
                            rw [pcN_zero, pcN_zero]
  | f + 1, g + 1, x, h1, h2 => by simp only [pcN]; rw [pcN_st f g (x / 2) (by omega) (by omega)]
theorem pcN_half {x : Nat} (h : x ≤ 512) : pcN 512 x = x % 2 + pcN 512 (x / 2) := by
  conv => lhs; unfold pcN
  rw [pcN_st 511 512 (x / 2) (by omega) (by omega)]
/-- A set of n cells is counted by n halvings. -/
theorem pcN_small : ∀ n : Fin 10, ∀ s : Fin 512, s.val < 2 ^ n.val → pcN n.val s.val = pcN 512 s.val := by decide +kernel

set_option maxHeartbeats 400000 in
theorem specBits_c (s : Nat) (hs : s ≤ 512) (w : World) : Calls Try.prog 36 #[.int .i64 (s : Int)] w fun e w' => e = .returned (.int .i64 ((pcN 512 s : Nat) : Int)) ∧ w = w' := by
  have hle := pcN_le 512 s
  go_enter Try.func36, Try.ntmps36
  go_wp2_with fail
  go_loopw [0, 3] (fun a p wr => ∃ x m : Nat, x ≤ 512 ∧ a = .int .i64 (x : Int) ∧ p = .int .i64 (m : Int) ∧ Hid (m + pcN 512 x = pcN 512 s) ∧ w = wr) (fun a _ _ => (intOf a).toNat)
  case atStart => exact ⟨s, 0, hs, rfl, rfl, Nat.zero_add _, rfl⟩
  case round =>
    obtain ⟨x, m, hx, rfl, rfl, hm, rfl⟩ := hrel
    by_cases hp : 0 < x
    · have hh := hide (pcN_half hx)
      have hmb : m ≤ 512 := by have := hm.out; omega
      have hd : x / 2 < x := by omega
      have hr : x % 2 ≤ 1 := by omega
      have t1 : Int.tdiv (x : Int) 2 = ((x / 2 : Nat) : Int) := Int.tdiv_eq_ediv_of_nonneg (by omega)
      have t2 : Int.tmod (x : Int) 2 = ((x % 2 : Nat) : Int) := Int.tmod_eq_emod_of_nonneg (by omega)
      have hp' : (0 : Int) < (x : Int) := by omega
      generalize hQ : x / 2 = q at *
      generalize hR : x % 2 = r at *
      have e1 : IntKind.i64.wrap (q : Int) = (q : Int) := IntWalk.i64_in _ (by omega)
      have e2 : IntKind.i64.wrap (r : Int) = (r : Int) := IntWalk.i64_in _ (by omega)
      have e3 : IntKind.i64.wrap ((m : Int) + (r : Int)) = ((m + r : Nat) : Int) := (IntWalk.i64_in _ (by omega)).trans (by omega)
      have HN : Hid (m + r + pcN 512 q = pcN 512 s) := by
        show _ = _
        have i1 := hm.out
        have i2 := hh.out
        rw [i2] at i1
        omega
      have hqx : (q : Int) < (x : Int) := by omega
      clear hQ hR hle hm hh
      go_wp2_with fail
      exact ⟨⟨q, m + r, by omega, rfl, rfl, HN, trivial⟩, by simp [intOf]; omega⟩
    · obtain rfl : x = 0 := by omega
      have hm' := hm.out
      rw [pcN_zero] at hm'
      have HM := hide hm'
      clear hm hm' hle
      go_wp2_with fail
      go_ret
      exact ⟨by rw [← HM.out]; rfl, rfl⟩

set_option maxHeartbeats 400000 in
theorem specBit9_c (x j : Nat) (hx : x < 512) (hj : j ≤ 9) (w : World) : Calls Try.prog 45 #[.int .i64 (x : Int), .int .i64 (j : Int)] w fun e w' => e = .returned (.int .i64 ((bitN x j : Nat) : Int)) ∧ w = w' := by
  have HP := hide (fun w5 => specPower9_c j hj w5)
  obtain ⟨p1, p2⟩ := pow9 (n := j) hj
  have hb : Hid (bitN x j = x / 2 ^ j % 2) := rfl
  have hb2 : bitN x j ≤ 1 := by unfold bitN; omega
  have hq : x / 2 ^ j ≤ x := Nat.div_le_self _ _
  have t1 : Int.tdiv (x : Int) ((2 ^ j : Nat) : Int) = ((x / 2 ^ j : Nat) : Int) := Int.tdiv_eq_ediv_of_nonneg (Int.natCast_nonneg _)
  have t2 : Int.tmod ((x / 2 ^ j : Nat) : Int) 2 = ((bitN x j : Nat) : Int) := Int.tmod_eq_emod_of_nonneg (Int.natCast_nonneg _)
  generalize bitN x j = bv at *
  generalize x / 2 ^ j = q at *
  generalize 2 ^ j = P at *
  have e0 : IntKind.i64.wrap (q : Int) = (q : Int) := IntWalk.i64_in _ (by omega)
  have e1 : IntKind.i64.wrap (bv : Int) = (bv : Int) := IntWalk.i64_in _ (by omega)
  have hP : (P : Int) ≠ 0 := by omega
  clear hb
  go_enter Try.func45, Try.ntmps45
  go_wp2_with fail
  refine (HP.out _).mono ?_
  rintro e w1 ⟨rfl, rfl⟩
  go_wp2_with fail
  go_ret
  exact ⟨rfl, rfl⟩
end Go.Proofs.Ytmednlgokcbdjad

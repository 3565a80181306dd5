
/-
  Words of the laws of chapter 8: powers, bits, how many, ascending.
-/
import Derived.Test.YtgbbmnnpphkkbaaPegF
namespace Go.Proofs.Ytgbbmnnpphkkbaa
open Go.RowKit
set_option linter.unusedVariables false

theorem lawPowerP_c (n : Nat) (hn : n ≤ 12) (w : World) : Calls Try.prog 19 #[.int .i64 (n : Int)] w fun e w' => e = .returned (.int .i64 ((2 ^ n : Nat) : Int)) ∧ w = w' := by
  go_enter Try.func19, Try.ntmps19
  go_wp2_with fail
  go_loopw [0, 3] (fun a p wr => ∃ k : Nat, k ≤ n ∧ a = .int .i64 ((n - k : Nat) : Int) ∧ p = .int .i64 ((2 ^ k : Nat) : Int) ∧ w = wr) (fun a _ _ => (intOf a).toNat)
  case atStart => exact ⟨0, Nat.zero_le _, by simp, rfl, rfl⟩
  case round =>
    obtain ⟨k, hk, rfl, rfl, rfl⟩ := hrel
    by_cases hlt : k < n
    · have hb := pow12 (n := k) (by omega)
      have hpos : (0 : Int) < ((n - k : Nat) : Int) := by omega
      have hle : ((n - k : Nat) : Int) ≤ 12 := by omega
      have hp2 : Hid ((2 ^ (k + 1) : Nat) = 2 * 2 ^ k) := by show 2 ^ (k + 1) = 2 * 2 ^ k; rw [Nat.pow_succ, Nat.mul_comm]
      have hs := hide (show ((n - k : Nat) : Int) - 1 = ((n - (k + 1) : Nat) : Int) by omega)
      generalize hP : (2 ^ k : Nat) = P at *
      generalize hM : ((n - k : Nat) : Int) = M at *
      clear hP
      go_wp2_with fail
      exact ⟨⟨k + 1, hlt, by rw [hs.out], by rw [hp2.out]; push_cast; rfl, trivial⟩, by simp [intOf]; omega⟩
    · have hkk : Hid (k = n) := hide (by omega)
      have hz : ((n - k : Nat) : Int) = 0 := by omega
      rw [hz]
      go_wp2_with fail
      go_ret
      exact ⟨by rw [hkk.out]; rfl, rfl⟩
set_option maxHeartbeats 400000 in
theorem lawBitP_c (x j : Nat) (hx : x < 4097) (hj : j ≤ 12) (w : World) : Calls Try.prog 22 #[.int .i64 (x : Int), .int .i64 (j : Int)] w fun e w' => e = .returned (.int .i64 ((bitN x j : Nat) : Int)) ∧ w = w' := by
  have HP := hide (fun w5 => lawPowerP_c j hj w5)
  obtain ⟨p1, p2⟩ := pow12 (n := j) hj
  have hb : Hid (bitN x j = x / 2 ^ j % 2) := rfl
  have hb2 : bitN x j ≤ 1 := by unfold bitN; omega
  have hq : x / 2 ^ j ≤ x := Nat.div_le_self _ _
  have t1 : Int.tdiv (x : Int) ((2 ^ j : Nat) : Int) = ((x / 2 ^ j : Nat) : Int) := Int.tdiv_eq_ediv_of_nonneg (Int.natCast_nonneg _)
  have t2 : Int.tmod ((x / 2 ^ j : Nat) : Int) 2 = ((bitN x j : Nat) : Int) := Int.tmod_eq_emod_of_nonneg (Int.natCast_nonneg _)
  generalize bitN x j = bv at *
  generalize x / 2 ^ j = q at *
  generalize 2 ^ j = P at *
  have e0 : IntKind.i64.wrap (q : Int) = (q : Int) := IntWalk.i64_in _ (by omega)
  have e1 : IntKind.i64.wrap (bv : Int) = (bv : Int) := IntWalk.i64_in _ (by omega)
  have hP : (P : Int) ≠ 0 := by omega
  clear hb
  go_enter Try.func22, Try.ntmps22
  go_wp2_with fail
  refine (HP.out _).mono ?_
  rintro e w1 ⟨rfl, rfl⟩
  go_wp2_with fail
  go_ret
  exact ⟨rfl, rfl⟩
theorem isInP_c (A : Option Addr) (n : Nat) (l : List Int) (c : Nat) (x : Int) (w : World) (hn : l.length = n) (hr : Row w A (ints l)) (hm : l.length ≤ 1048576) : Calls Try.prog 23 #[.slice A n c, .int .i64 x] w (Plain (.bool (decide (x ∈ l))) w) := by
  subst hn
  exact isIn_c A l c x w hr (by simp [maxLen]; omega)
theorem equalIntsP_t (A C : Option Addr) (n m ca cc : Nat) (xs ys : List Int) (w : World) (hx : xs.length = n) (hy : ys.length = m) (ha : Row w A (ints xs)) (hc : Row w C (ints ys)) (hn : xs.length ≤ 1048576) (he : xs = ys) :
    Calls Try.prog 18 #[.slice A n ca, .slice C m cc] w (Plain (.bool true) w) := by
  subst hx hy he
  have := equalInts_c A C xs xs ca cc w ha hc (by simp [maxLen]; omega) (by simp [maxLen]; omega)
  rwa [decide_eq_true rfl] at this
end Go.Proofs.Ytgbbmnnpphkkbaa

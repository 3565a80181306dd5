/-
  BitP, BitA, BitN in one text.
-/
import Derived.Test.YtmfdlijkpdgimaaGreatDoorBase
import Derived.Test.YtmfdlijkpdgimaaGreatDoorSpecM
import Derived.WalkKit
import Derived.Lib.RabinKarpLaws
/-
  The bits of a number.
-/
namespace Go.Proofs.YtmfdlijkpdgimaaGreatDoor
def bitN (s i : Nat) : Nat := s / 2 ^ i % 2
theorem bitN_two (s k : Nat) : bitN s k = 0 ∨ bitN s k = 1 := by unfold bitN; omega
end Go.Proofs.YtmfdlijkpdgimaaGreatDoor

/-
  The model's powers up to 512 and bits of sets of nine.
-/
namespace Go.Proofs.YtmfdlijkpdgimaaGreatDoor
open Go.RowKit
set_option linter.unusedVariables false

theorem pow9 {n : Nat} (h : n ≤ 9) : 1 ≤ 2 ^ n ∧ 2 ^ n ≤ 512 :=
  ⟨Nat.one_le_two_pow, Nat.le_trans (Nat.pow_le_pow_right (by omega) h) (by decide)⟩
theorem specPower9_c (n : Nat) (hn : n ≤ 9) (w : World) : Calls Tryz.prog 49 #[.int .i64 (n : Int)] w fun e w' => e = .returned (.int .i64 ((2 ^ n : Nat) : Int)) ∧ w = w' := by
  go_enter Tryz.func49, Tryz.ntmps49
  go_wp2_with fail
  go_loopw [0, 3] (fun a p wr => ∃ k : Nat, k ≤ n ∧ a = .int .i64 ((n - k : Nat) : Int) ∧ p = .int .i64 ((2 ^ k : Nat) : Int) ∧ w = wr) (fun a _ _ => (intOf a).toNat)
  case atStart => exact ⟨0, Nat.zero_le _, by simp, rfl, rfl⟩
  case round =>
    obtain ⟨k, hk, rfl, rfl, rfl⟩ := hrel
    by_cases hlt : k < n
    · have hb := pow9 (n := k) (by omega)
      have hpos : (0 : Int) < ((n - k : Nat) : Int) := by omega
      have hle : ((n - k : Nat) : Int) ≤ 9 := by omega
      have hp2 : Hid ((2 ^ (k + 1) : Nat) = 2 * 2 ^ k) := by show 2 ^ (k + 1) = 2 * 2 ^ k; rw [Nat.pow_succ, Nat.mul_comm]
      have hs := hide (show ((n - k : Nat) : Int) - 1 = ((n - (k + 1) : Nat) : Int) by omega)
      generalize hP : (2 ^ k : Nat) = P at *
      generalize hM : ((n - k : Nat) : Int) = M at *
      clear hP
      go_wp2_with fail
      exact ⟨⟨k + 1, hlt, by rw [hs.out], by rw [hp2.out]; push_cast; rfl, trivial⟩, by simp [intOf]; omega⟩
    · have hkk : Hid (k = n) := hide (by omega)
      have hz : ((n - k : Nat) : Int) = 0 := by omega
      rw [hz]
      go_wp2_with fail
      go_ret
      exact ⟨by rw [hkk.out]; rfl, rfl⟩

set_option maxHeartbeats 400000 in
theorem specBit9_c (x j : Nat) (hx : x < 512) (hj : j ≤ 9) (w : World) : Calls Tryz.prog 51 #[.int .i64 (x : Int), .int .i64 (j : Int)] w fun e w' => e = .returned (.int .i64 ((bitN x j : Nat) : Int)) ∧ w = w' := by
  have HP := hide (fun w5 => specPower9_c j hj w5)
  obtain ⟨p1, p2⟩ := pow9 (n := j) hj
  have hb : Hid (bitN x j = x / 2 ^ j % 2) := rfl
  have hb2 : bitN x j ≤ 1 := by unfold bitN; omega
  have hq : x / 2 ^ j ≤ x := Nat.div_le_self _ _
  have t1 : Int.tdiv (x : Int) ((2 ^ j : Nat) : Int) = ((x / 2 ^ j : Nat) : Int) := Int.tdiv_eq_ediv_of_nonneg (Int.natCast_nonneg _)
  have t2 : Int.tmod ((x / 2 ^ j : Nat) : Int) 2 = ((bitN x j : Nat) : Int) := Int.tmod_eq_emod_of_nonneg (Int.natCast_nonneg _)
  generalize bitN x j = bv at *
  generalize x / 2 ^ j = q at *
  generalize 2 ^ j = P at *
  have e0 : IntKind.i64.wrap (q : Int) = (q : Int) := IntWalk.i64_in _ (by omega)
  have e1 : IntKind.i64.wrap (bv : Int) = (bv : Int) := IntWalk.i64_in _ (by omega)
  have hP : (P : Int) ≠ 0 := by omega
  clear hb
  go_enter Tryz.func51, Tryz.ntmps51
  go_wp2_with fail
  refine (HP.out _).mono ?_
  rintro e w1 ⟨rfl, rfl⟩
  go_wp2_with fail
  go_ret
  exact ⟨rfl, rfl⟩
end Go.Proofs.YtmfdlijkpdgimaaGreatDoor

/-
  Bits of natural numbers below 2 ^ 62, as the program's and the model's numbers.
-/
namespace Go.Proofs.YtmfdlijkpdgimaaGreatDoor
open Go.RowKit
set_option linter.unusedVariables false

theorem tn64 (a : Nat) (ha : a < 4611686018427387904) : (BitVec.ofInt 64 (a : Int)).toNat = a := by
  rw [BitVec.ofInt_natCast, BitVec.toNat_ofNat]; exact Nat.mod_eq_of_lt (by omega)
theorem or64 (a b : Nat) (ha : a < 4611686018427387904) (hb : b < 4611686018427387904) : bits .or .i64 (a : Int) (b : Int) = ((a ||| b : Nat) : Int) := by
  have hx : a ||| b < 2 ^ 62 := Nat.or_lt_two_pow (by omega) (by omega)
  show IntKind.i64.wrap ((BitVec.ofInt 64 (a : Int) ||| BitVec.ofInt 64 (b : Int)).toNat : Int) = _
  rw [BitVec.toNat_or, tn64 a ha, tn64 b hb]
  exact IntWalk.i64_in _ (by omega)
theorem and64 (a b : Nat) (ha : a < 4611686018427387904) (hb : b < 4611686018427387904) : bits .and .i64 (a : Int) (b : Int) = ((a &&& b : Nat) : Int) := by
  have hx : a &&& b < 2 ^ 62 := Nat.and_lt_two_pow _ (by omega)
  show IntKind.i64.wrap ((BitVec.ofInt 64 (a : Int) &&& BitVec.ofInt 64 (b : Int)).toNat : Int) = _
  rw [BitVec.toNat_and, tn64 a ha, tn64 b hb]
  exact IntWalk.i64_in _ (by omega)
theorem xor64 (a b : Nat) (ha : a < 4611686018427387904) (hb : b < 4611686018427387904) : bits .xor .i64 (a : Int) (b : Int) = ((a ^^^ b : Nat) : Int) := by
  have hx : a ^^^ b < 2 ^ 62 := Nat.xor_lt_two_pow (by omega) (by omega)
  show IntKind.i64.wrap ((BitVec.ofInt 64 (a : Int) ^^^ BitVec.ofInt 64 (b : Int)).toNat : Int) = _
  rw [BitVec.toNat_xor, tn64 a ha, tn64 b hb]
  exact IntWalk.i64_in _ (by omega)
/-- The members of a that are not of b. -/
def notP (a b : Nat) : Nat := a ^^^ (a &&& b)
theorem notP_bit (x y i : Nat) : (notP x y).testBit i = (x.testBit i && !y.testBit i) := by
  unfold notP
  rw [Nat.testBit_xor, Nat.testBit_and]
  cases x.testBit i <;> cases y.testBit i <;> rfl
theorem notP_lt {x n : Nat} (y : Nat) (h : x < 2 ^ n) : notP x y < 2 ^ n := Nat.xor_lt_two_pow h (Nat.lt_of_le_of_lt Nat.and_le_left h)
theorem not64 (a b : Nat) (ha : a < 4611686018427387904) (hb : b < 4611686018427387904) : bits .andNot .i64 (a : Int) (b : Int) = ((notP a b : Nat) : Int) := by
  have hx := notP_lt b (show a < 2 ^ 62 by omega)
  show IntKind.i64.wrap ((BitVec.ofInt 64 (a : Int) &&& ~~~(BitVec.ofInt 64 (b : Int))).toNat : Int) = _
  have e : (BitVec.ofInt 64 (a : Int) &&& ~~~(BitVec.ofInt 64 (b : Int))).toNat = notP a b := Nat.eq_of_testBit_eq fun i => by
    rw [notP_bit, BitVec.testBit_toNat, BitVec.getLsbD_and, BitVec.getLsbD_not, ← BitVec.testBit_toNat, ← BitVec.testBit_toNat, tn64 a ha, tn64 b hb]
    by_cases h : i < 64
    · rw [decide_eq_true h, Bool.true_and]
    · have : a.testBit i = false := Nat.testBit_lt_two_pow (Nat.lt_of_lt_of_le ha (Nat.le_trans (by decide) (Nat.pow_le_pow_right (n := 2) (by omega) (show 62 ≤ i by omega))))
      rw [this, Bool.false_and, Bool.false_and]
  rw [e]
  exact IntWalk.i64_in _ (by omega)
/-- The lowest member of a set, as a set. -/
def lowS (t : Nat) : Nat := t &&& (18446744073709551616 - t)
theorem lowS_le (t : Nat) : lowS t ≤ t := Nat.and_le_left
theorem neg64 (t : Nat) (ht : t < 4611686018427387904) : bits .and .i64 (t : Int) (-(t : Int)) = ((lowS t : Nat) : Int) := by
  have hx : lowS t < 2 ^ 62 := Nat.lt_of_le_of_lt (lowS_le t) (by omega)
  show IntKind.i64.wrap ((BitVec.ofInt 64 (t : Int) &&& BitVec.ofInt 64 (-(t : Int))).toNat : Int) = _
  have e : (BitVec.ofInt 64 (t : Int) &&& BitVec.ofInt 64 (-(t : Int))).toNat = lowS t := by
    rw [BitVec.toNat_and, tn64 t ht]
    rcases Nat.eq_zero_or_pos t with h | h
    · subst h; rfl
    · have : (BitVec.ofInt 64 (-(t : Int))).toNat = 18446744073709551616 - t := by
        rw [BitVec.toNat_ofInt]
        have : (-(t : Int)) % ((2 ^ 64 : Nat) : Int) = ((18446744073709551616 - t : Nat) : Int) := by
          rw [show ((2 ^ 64 : Nat) : Int) = 18446744073709551616 by rfl]
          omega
        rw [this]
        rfl
      rw [this]
      rfl
  rw [e]
  exact IntWalk.i64_in _ (by omega)
theorem bit64 (x y : Nat) (hx : x < 4611686018427387904) : (bits BinOp.and IntKind.i64 ((x : Int) / 2 ^ y) 1 == 1) = (bitN x y == 1) := by
  have hq : x / 2 ^ y ≤ x := Nat.div_le_self _ _
  have e : ((x : Int) / 2 ^ y) = ((x / 2 ^ y : Nat) : Int) := by push_cast; rfl
  rw [e, and_one _ (by omega), Bool.eq_iff_iff, beq_iff_eq, beq_iff_eq]
  unfold bitN
  omega
theorem pow64 {k : Nat} (h : k ≤ 61) : 1 ≤ 2 ^ k ∧ 2 ^ k < 4611686018427387904 :=
  ⟨Nat.one_le_two_pow, Nat.lt_of_le_of_lt (Nat.pow_le_pow_right (by omega) h) (by decide)⟩
theorem shl64 (k : Nat) (h : k ≤ 61) : IntKind.i64.wrap ((2 : Int) ^ k) = ((2 ^ k : Nat) : Int) := by
  have := pow64 h
  rw [show ((2 : Int) ^ k) = ((2 ^ k : Nat) : Int) by push_cast; rfl]
  exact IntWalk.i64_in _ (by omega)
theorem mod2_xor (a b : Nat) : (a ^^^ b) % 2 = (a % 2 + b % 2) % 2 := by
  have h1 := Nat.testBit_xor a b 0
  simp only [Nat.testBit_zero] at h1
  rcases Nat.mod_two_eq_zero_or_one a with e | e <;> rcases Nat.mod_two_eq_zero_or_one b with e' | e' <;> rcases Nat.mod_two_eq_zero_or_one (a ^^^ b) with e'' | e'' <;> simp_all
theorem mod2_and (a b : Nat) : (a &&& b) % 2 = (a % 2) * (b % 2) := by
  have h1 := Nat.testBit_and a b 0
  simp only [Nat.testBit_zero] at h1
  rcases Nat.mod_two_eq_zero_or_one a with e | e <;> rcases Nat.mod_two_eq_zero_or_one b with e' | e' <;> rcases Nat.mod_two_eq_zero_or_one (a &&& b) with e'' | e'' <;> simp_all
theorem not_half (a b : Nat) : notP a b / 2 = notP (a / 2) (b / 2) := by
  unfold notP
  rw [Nat.xor_div_two, Nat.and_div_two]
theorem not_mod (a b : Nat) : notP a b % 2 = (a % 2 + a % 2 * (b % 2)) % 2 := by
  unfold notP
  rw [mod2_xor, mod2_and]
/-- What is in one of two sets alone, as a sum. -/
theorem xor_sum : ∀ (n a b : Nat), a < 2 ^ n → b < 2 ^ n → notP a b + notP b a = a ^^^ b
  | 0, a, b, ha, hb => by
    obtain rfl : a = 0 := by simp at ha; omega
    obtain rfl : b = 0 := by simp at hb; omega
    rfl
  | n + 1, a, b, ha, hb => by
    have ih := xor_sum n (a / 2) (b / 2) (by rw [Nat.pow_succ] at ha; omega) (by rw [Nat.pow_succ] at hb; omega)
    have e1 := not_half a b
    have e2 := not_half b a
    have e3 : (a ^^^ b) / 2 = a / 2 ^^^ b / 2 := Nat.xor_div_two
    have e4 := not_mod a b
    have e5 := not_mod b a
    have e6 := mod2_xor a b
    rw [← e1, ← e2, ← e3] at ih
    generalize notP a b = x at *
    generalize notP b a = y at *
    generalize a ^^^ b = z at *
    rcases Nat.mod_two_eq_zero_or_one a with ea | ea <;> rcases Nat.mod_two_eq_zero_or_one b with eb | eb <;> rw [ea, eb] at e4 e5 e6 <;> simp at e4 e5 e6 <;> omega
theorem xor_or (n a b : Nat) : notP a b ||| notP b a = a ^^^ b := Nat.eq_of_testBit_eq fun i => by
  rw [Nat.testBit_or, notP_bit, notP_bit, Nat.testBit_xor]
  cases a.testBit i <;> cases b.testBit i <;> rfl
theorem xor_swap (a b c d : Nat) : (a ^^^ b) ^^^ (c ^^^ d) = (a ^^^ c) ^^^ (b ^^^ d) := by
  rw [Nat.xor_assoc, Nat.xor_assoc, ← Nat.xor_assoc b c d, ← Nat.xor_assoc c b d, Nat.xor_comm b c]
end Go.Proofs.YtmfdlijkpdgimaaGreatDoor

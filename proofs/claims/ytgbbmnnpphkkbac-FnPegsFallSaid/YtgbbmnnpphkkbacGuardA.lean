
/-
  Guards: powers up to 512, how many cells a set has, the model's bit of a set of nine.
-/
import Derived.Test.YtgbbmnnpphkkbacGuardP
import Derived.Test.YtgbbmnnpphkkbacBitA
namespace Go.Proofs.Ytgbbmnnpphkkbac
open Go.RowKit
set_option linter.unusedVariables false

theorem pcN_zero : ∀ f, pcN f 0 = 0
  | 0 => rfl
  | f + 1 => by simp only [pcN]; rw [Nat.zero_div, pcN_zero f]
theorem pcN_le : ∀ f x, pcN f x ≤ x
  | 0, x => Nat.zero_le _
  | f + 1, x => by simp only [pcN]; have := pcN_le f (x / 2); omega
theorem pcN_st : ∀ (f g x : Nat), x ≤ f → x ≤ g → pcN f x = pcN g x
  | 0, g, x, h, _ => by obtain rfl : x = 0 := by omega
                        rw [pcN_zero, pcN_zero]
  | f + 1, 0, x, _, h => by obtain rfl : x = 0 := by omega
                            rw [pcN_zero, pcN_zero]
  | f + 1, g + 1, x, h1, h2 => by simp only [pcN]; rw [pcN_st f g (x / 2) (by omega) (by omega)]
theorem pcN_half {x : Nat} (h : x ≤ 512) : pcN 512 x = x % 2 + pcN 512 (x / 2) := by
  conv => lhs; unfold pcN
  rw [pcN_st 511 512 (x / 2) (by omega) (by omega)]
/-- A set of n cells is counted by n halvings. -/
theorem pcN_small : ∀ n : Fin 10, ∀ s : Fin 512, s.val < 2 ^ n.val → pcN n.val s.val = pcN 512 s.val := by decide +kernel

set_option maxHeartbeats 400000 in
theorem specBits_c (s : Nat) (hs : s ≤ 512) (w : World) : Calls Try.prog 29 #[.int .i64 (s : Int)] w fun e w' => e = .returned (.int .i64 ((pcN 512 s : Nat) : Int)) ∧ w = w' := by
  have hle := pcN_le 512 s
  go_enter Try.func29, Try.ntmps29
  go_wp2_with fail
  go_loopw [0, 3] (fun a p wr => ∃ x m : Nat, x ≤ 512 ∧ a = .int .i64 (x : Int) ∧ p = .int .i64 (m : Int) ∧ Hid (m + pcN 512 x = pcN 512 s) ∧ w = wr) (fun a _ _ => (intOf a).toNat)
  case atStart => exact ⟨s, 0, hs, rfl, rfl, Nat.zero_add _, rfl⟩
  case round =>
    obtain ⟨x, m, hx, rfl, rfl, hm, rfl⟩ := hrel
    by_cases hp : 0 < x
    · have hh := hide (pcN_half hx)
      have hmb : m ≤ 512 := by have := hm.out; omega
      have hd : x / 2 < x := by omega
      have hr : x % 2 ≤ 1 := by omega
      have t1 : Int.tdiv (x : Int) 2 = ((x / 2 : Nat) : Int) := Int.tdiv_eq_ediv_of_nonneg (by omega)
      have t2 : Int.tmod (x : Int) 2 = ((x % 2 : Nat) : Int) := Int.tmod_eq_emod_of_nonneg (by omega)
      have hp' : (0 : Int) < (x : Int) := by omega
      generalize hQ : x / 2 = q at *
      generalize hR : x % 2 = r at *
      have e1 : IntKind.i64.wrap (q : Int) = (q : Int) := IntWalk.i64_in _ (by omega)
      have e2 : IntKind.i64.wrap (r : Int) = (r : Int) := IntWalk.i64_in _ (by omega)
      have e3 : IntKind.i64.wrap ((m : Int) + (r : Int)) = ((m + r : Nat) : Int) := (IntWalk.i64_in _ (by omega)).trans (by omega)
      have HN : Hid (m + r + pcN 512 q = pcN 512 s) := by
        show _ = _
        have i1 := hm.out
        have i2 := hh.out
        rw [i2] at i1
        omega
      have hqx : (q : Int) < (x : Int) := by omega
      clear hQ hR hle hm hh
      go_wp2_with fail
      exact ⟨⟨q, m + r, by omega, rfl, rfl, HN, trivial⟩, by simp [intOf]; omega⟩
    · obtain rfl : x = 0 := by omega
      have hm' := hm.out
      rw [pcN_zero] at hm'
      have HM := hide hm'
      clear hm hm' hle
      go_wp2_with fail
      go_ret
      exact ⟨by rw [← HM.out]; rfl, rfl⟩

end Go.Proofs.Ytgbbmnnpphkkbac

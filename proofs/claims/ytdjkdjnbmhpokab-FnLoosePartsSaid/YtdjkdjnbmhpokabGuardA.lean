
/-
  Guards: powers up to 512, how many cells a set has, the model's bit of a set of nine.
-/
import Derived.Test.YtdjkdjnbmhpokabGuardP
import Derived.Test.YtdjkdjnbmhpokabBitA
namespace Go.Proofs.Ytdjkdjnbmhpokab
open Go.RowKit
set_option linter.unusedVariables false

theorem pcN_zero : ∀ f, pcN f 0 = 0
  | 0 => rfl
  | f + 1 => by simp only [pcN]; rw [Nat.zero_div, pcN_zero f]
theorem pcN_le : ∀ f x, pcN f x ≤ x
  | 0, x => Nat.zero_le _
  | f + 1, x => by simp only [pcN]; have := pcN_le f (x / 2); omega
theorem pcN_st : ∀ (f g x : Nat), x ≤ f → x ≤ g → pcN f x = pcN g x
  | 0, g, x, h, _ => by obtain rfl : x = 0 := by omega
                        rw [pcN_zero, pcN_zero]
  | f + 1, 0, x, _, h => by obtain rfl : x = 0 := by omega
                            rw [pcN_zero, pcN_zero]
  | f + 1, g + 1, x, h1, h2 => by simp only [pcN]; rw [pcN_st f g (x / 2) (by omega) (by omega)]
theorem pcN_half {x : Nat} (h : x ≤ 512) : pcN 512 x = x % 2 + pcN 512 (x / 2) := by
  conv => lhs; unfold pcN
  rw [pcN_st 511 512 (x / 2) (by omega) (by omega)]
/-- A set of n cells is counted by n halvings. -/
theorem pcN_small : ∀ n : Fin 10, ∀ s : Fin 512, s.val < 2 ^ n.val → pcN n.val s.val = pcN 512 s.val := by decide +kernel

end Go.Proofs.Ytdjkdjnbmhpokab

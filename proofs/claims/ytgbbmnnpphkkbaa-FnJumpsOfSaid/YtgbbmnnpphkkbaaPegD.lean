
/-
  Pegs: the model's behind, comes.
-/
import Derived.Test.YtgbbmnnpphkkbaaPegC
namespace Go.Proofs.Ytgbbmnnpphkkbaa
open Go.RowKit
set_option linter.unusedVariables false

theorem jump_sum {w n s : Nat} {j : Jump} (h : JumpIs w n s j) : 2 ^ j.1 + 2 ^ j.2.1 ≤ s := by
  have h1 := Nat.ge_two_pow_of_testBit h.bi
  have h2 : (s - 2 ^ j.1).testBit j.2.1 = true := by rw [sub_bit h.bi, flip_at, h.bm]; simp [h.im]
  have h3 := Nat.ge_two_pow_of_testBit h2
  omega
theorem power_q (n : Nat) (hn : n ≤ 12) (w : World) : Calls Try.prog 42 #[.int .i64 (n : Int)] w fun e w' => e = .returned (.int .i64 ((2 ^ n : Nat) : Int)) ∧ ∃ m, w' = w.drewN m :=
  (specPower12_c n hn w).mono fun e w' ⟨h, h'⟩ => ⟨h, 0, h'.symm⟩
end Go.Proofs.Ytgbbmnnpphkkbaa

/-
  GuardA, GuardB in one text.
-/
import Derived.Test.YtakphmcelhbaiacGuardP
import Derived.Test.YtakphmcelhbaiacBitA
import Derived.Test.YtakphmcelhbaiacSpecC
/-
  Guards: powers up to 512, how many cells a set has, the model's bit of a set of nine.
-/
namespace Go.Proofs.Ytakphmcelhbaiac
open Go.RowKit
set_option linter.unusedVariables false

theorem pcN_zero : ∀ f, pcN f 0 = 0
  | 0 => rfl
  | f + 1 => by simp only [pcN]; rw [Nat.zero_div, pcN_zero f]
theorem pcN_le : ∀ f x, pcN f x ≤ x
  | 0, x => Nat.zero_le _
  | f + 1, x => by simp only [pcN]; have := pcN_le f (x / 2); omega
theorem pcN_st : ∀ (f g x : Nat), x ≤ f → x ≤ g → pcN f x = pcN g x
  | 0, g, x, h, _ => by obtain rfl : x = 0 := by omega
                        rw [pcN_zero, pcN_zero]
  | f + 1, 0, x, _, h => by obtain rfl : x = 0 := by omega
                            rw [pcN_zero, pcN_zero]
  | f + 1, g + 1, x, h1, h2 => by simp only [pcN]; rw [pcN_st f g (x / 2) (by omega) (by omega)]
theorem pcN_half {x : Nat} (h : x ≤ 512) : pcN 512 x = x % 2 + pcN 512 (x / 2) := by
  conv => lhs; unfold pcN
  rw [pcN_st 511 512 (x / 2) (by omega) (by omega)]
/-- A set of n cells is counted by n halvings. -/
theorem pcN_small : ∀ n : Fin 10, ∀ s : Fin 512, s.val < 2 ^ n.val → pcN n.val s.val = pcN 512 s.val := by decide +kernel

end Go.Proofs.Ytakphmcelhbaiac

/-
  Guards: the model's guards and loose on a set of nine cells.
-/
namespace Go.Proofs.Ytakphmcelhbaiac
open Go.RowKit
set_option linter.unusedVariables false

theorem i64_or9 (a b : Nat) (ha : a < 512) (hb : b < 512) : bits .or .i64 (a : Int) (b : Int) = ((a ||| b : Nat) : Int) ∧ a ||| b < 512 := by
  have hx : a ||| b < 2 ^ 9 := Nat.or_lt_two_pow (by omega) (by omega)
  have h1 : (BitVec.ofInt 64 (a : Int)).toNat = a := by
    rw [BitVec.ofInt_natCast, BitVec.toNat_ofNat]; exact Nat.mod_eq_of_lt (by omega)
  have h2 : (BitVec.ofInt 64 (b : Int)).toNat = b := by
    rw [BitVec.ofInt_natCast, BitVec.toNat_ofNat]; exact Nat.mod_eq_of_lt (by omega)
  refine ⟨?_, by omega⟩
  show IntKind.i64.wrap ((BitVec.ofInt 64 (a : Int) ||| BitVec.ofInt 64 (b : Int)).toNat : Int) = _
  rw [BitVec.toNat_or, h1, h2]
  exact IntWalk.i64_in _ (by omega)
theorem i64_and9 (a b : Nat) (ha : a < 512) (hb : b < 512) : bits .and .i64 (a : Int) (b : Int) = ((a &&& b : Nat) : Int) ∧ a &&& b < 512 := by
  have hx : a &&& b < 2 ^ 9 := Nat.and_lt_two_pow _ (by omega)
  have h1 : (BitVec.ofInt 64 (a : Int)).toNat = a := by
    rw [BitVec.ofInt_natCast, BitVec.toNat_ofNat]; exact Nat.mod_eq_of_lt (by omega)
  have h2 : (BitVec.ofInt 64 (b : Int)).toNat = b := by
    rw [BitVec.ofInt_natCast, BitVec.toNat_ofNat]; exact Nat.mod_eq_of_lt (by omega)
  refine ⟨?_, by omega⟩
  show IntKind.i64.wrap ((BitVec.ofInt 64 (a : Int) &&& BitVec.ofInt 64 (b : Int)).toNat : Int) = _
  rw [BitVec.toNat_and, h1, h2]
  exact IntWalk.i64_in _ (by omega)
def natI (L : List Nat) : List Int := L.map fun (x : Nat) => Int.ofNat x
theorem natI_len (L : List Nat) : (natI L).length = L.length := by simp [natI]
theorem natI_at (L : List Nat) (k : Nat) : (natI L)[k]?.getD 0 = ((L[k]?.getD 0 : Nat) : Int) := by
  rw [natI, List.getElem?_map]
  cases L[k]? <;> rfl
/-- Sets of at most nine cells, one for each cell. -/
structure Sets9 (L : List Nat) : Prop where
  len : L.length ≤ 9
  bd : ∀ k : Nat, L[k]?.getD 0 < 512
theorem over_bd {L : List Nat} (h : Sets9 L) {s : Nat} (hs : s < 512) : ∀ k, overP L s k < 512
  | 0 => hs
  | k + 1 => by
    simp only [overP]
    split
    · exact (i64_or9 _ _ (over_bd h hs k) (h.bd k)).2
    · exact over_bd h hs k

end Go.Proofs.Ytakphmcelhbaiac

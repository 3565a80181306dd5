
/-
  Guards: how many loose sets, as the model counts them.
-/
import Derived.Test.YtmednlgokcbdjacGuardF
import Derived.Deep.QuietTactic
namespace Go.Proofs.Ytmednlgokcbdjac
open Go.RowKit
set_option linter.unusedVariables false

theorem i64_andNot9 (a b : Nat) (ha : a < 512) (hb : b < 512) : bits .andNot .i64 (a : Int) (b : Int) = ((a - (a &&& b) : Nat) : Int) := by
  have h1 : (BitVec.ofInt 64 (a : Int)).toNat = a := by
    rw [BitVec.ofInt_natCast, BitVec.toNat_ofNat]; exact Nat.mod_eq_of_lt (by omega)
  have h2 : (BitVec.ofInt 64 (b : Int)).toNat = b := by
    rw [BitVec.ofInt_natCast, BitVec.toNat_ofNat]; exact Nat.mod_eq_of_lt (by omega)
  show IntKind.i64.wrap ((BitVec.ofInt 64 (a : Int) &&& ~~~(BitVec.ofInt 64 (b : Int))).toNat : Int) = _
  generalize BitVec.ofInt 64 (a : Int) = X at *
  generalize BitVec.ofInt 64 (b : Int) = Y at *
  have hd : (X &&& ~~~Y) &&& (X &&& Y) = 0#64 := by
    apply BitVec.eq_of_getLsbD_eq
    intro i hi
    simp only [BitVec.getLsbD_and, BitVec.getLsbD_not, BitVec.getLsbD_zero]
    cases X.getLsbD i <;> cases Y.getLsbD i <;> simp
  have ho : (X &&& ~~~Y) + (X &&& Y) = X := by
    rw [BitVec.add_eq_or_of_and_eq_zero _ _ hd]
    apply BitVec.eq_of_getLsbD_eq
    intro i hi
    simp only [BitVec.getLsbD_and, BitVec.getLsbD_not, BitVec.getLsbD_or]
    cases X.getLsbD i <;> cases Y.getLsbD i <;> simp [hi]
  have hn := congrArg BitVec.toNat ho
  rw [BitVec.toNat_add, h1] at hn
  have l1 : (X &&& ~~~Y).toNat ≤ a := by rw [BitVec.toNat_and, h1]; exact Nat.and_le_left
  have l2 : (X &&& Y).toNat = a &&& b := by rw [BitVec.toNat_and, h1, h2]
  have l3 : a &&& b ≤ a := Nat.and_le_left
  rw [l2, Nat.mod_eq_of_lt (by omega)] at hn
  rw [IntWalk.i64_in _ (by omega)]
  omega
def lowOk (n s : Nat) : Bool := decide (lowN n s 0 < n) && decide (bitN s (lowN n s 0) = 1) && decide (2 ^ lowN n s 0 ≤ s) && (List.range (lowN n s 0)).all fun j => bitN s j == 0
theorem low_all : ∀ n : Fin 10, ∀ s : Fin 512, s.val < 2 ^ n.val → s.val ≠ 0 → lowOk n.val s.val = true := by decide +kernel
theorem low_of {n s : Nat} (hn : n ≤ 9) (hs : s < 2 ^ n) (h0 : s ≠ 0) : lowN n s 0 < n ∧ bitN s (lowN n s 0) = 1 ∧ 2 ^ lowN n s 0 ≤ s ∧ ∀ j, j < lowN n s 0 → bitN s j = 0 := by
  have := low_all ⟨n, by omega⟩ ⟨s, by have := (pow9 hn).2; omega⟩ hs h0
  simp only [lowOk, Bool.and_eq_true, decide_eq_true_eq] at this
  obtain ⟨⟨⟨a1, a2⟩, a3⟩, a4⟩ := this
  exact ⟨a1, a2, a3, fun j hj => by have := List.all_eq_true.1 a4 j (List.mem_range.2 hj); simpa using this⟩
theorem looses_bd (L : List Nat) : ∀ f left v, loosesP L f left = some v → v ≤ 2 ^ f
  | 0, left, v, h => by cases h
  | f + 1, left, v, h => by
    unfold loosesP at h
    split at h
    · injection h with h; subst h; exact Nat.one_le_two_pow
    · simp only at h
      split at h
      · rename_i a b h1 h2
        injection h with h
        have i1 := looses_bd L f _ _ h1
        have i2 := looses_bd L f _ _ h2
        rw [Nat.pow_succ]
        omega
      · cases h

end Go.Proofs.Ytmednlgokcbdjac

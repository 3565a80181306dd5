
/-
  The model's queens: queenCount, CountQueens.
-/
import Derived.Test.YtgcchpabmkdkhacSeatA
import Derived.Test.YtgcchpabmkdkhacQueenB
namespace Go.Proofs.Ytgcchpabmkdkhac
open Go.RowKit
set_option linter.unusedVariables false

/-! ### How many rows of queens there are, by sets, purely: none where it would not end or be too great -/
def freeAt (C D U c : Nat) : Bool := !(C.testBit c || D.testBit c || U.testBit c)
def qcTo (n : Nat) (f : Nat → Nat → Nat → Option Nat) (C D U : Nat) : Nat → Option Nat
  | 0 => some 0
  | c + 1 =>
    match qcTo n f C D U c with
    | none => none
    | some s => if freeAt C D U c then
        match f (C ||| 2 ^ c) (((D ||| 2 ^ c) * 2) &&& (2 ^ n - 1)) ((U ||| 2 ^ c) / 2) with
        | none => none
        | some v => if s + v ≤ 1000000 then some (s + v) else none
      else some s
def qcO (n : Nat) : Nat → Nat → Nat → Nat → Option Nat
  | 0, _, _, _ => none
  | k + 1, C, D, U => if C = 2 ^ n - 1 then some 1 else qcTo n (qcO n k) C D U n
theorem qcTo_down {n : Nat} {f : Nat → Nat → Nat → Option Nat} {C D U : Nat} : ∀ {m v : Nat}, qcTo n f C D U m = some v → ∀ c, c ≤ m → ∃ s, qcTo n f C D U c = some s
  | 0, v, h, c, hc => ⟨v, by obtain rfl : c = 0 := by omega
                             exact h⟩
  | m + 1, v, h, c, hc => by
    by_cases e : c = m + 1
    · subst e; exact ⟨v, h⟩
    · rw [qcTo] at h
      cases hm : qcTo n f C D U m with
      | none => rw [hm] at h; cases h
      | some s => exact qcTo_down hm c (by omega)
theorem qcTo_free {n : Nat} {f : Nat → Nat → Nat → Option Nat} {C D U c s s' : Nat} (h : qcTo n f C D U c = some s) (h' : qcTo n f C D U (c + 1) = some s') (hf : freeAt C D U c = true) :
    ∃ v, f (C ||| 2 ^ c) (((D ||| 2 ^ c) * 2) &&& (2 ^ n - 1)) ((U ||| 2 ^ c) / 2) = some v ∧ s' = s + v := by
  rw [qcTo, h] at h'
  simp only [hf, if_true] at h'
  cases hv : f (C ||| 2 ^ c) (((D ||| 2 ^ c) * 2) &&& (2 ^ n - 1)) ((U ||| 2 ^ c) / 2) with
  | none => rw [hv] at h'; cases h'
  | some v =>
    rw [hv] at h'
    simp only at h'
    split at h'
    · exact ⟨v, rfl, by injection h' with h'; exact h'.symm⟩
    · cases h'
theorem qcTo_taken {n : Nat} {f : Nat → Nat → Nat → Option Nat} {C D U c s s' : Nat} (h : qcTo n f C D U c = some s) (h' : qcTo n f C D U (c + 1) = some s') (hf : freeAt C D U c = false) : s' = s := by
  rw [qcTo, h] at h'
  simp only [hf] at h'
  injection h' with h'
  exact h'.symm
theorem qcTo_bd {n : Nat} {f : Nat → Nat → Nat → Option Nat} {C D U : Nat} : ∀ {m v : Nat}, qcTo n f C D U m = some v → v ≤ 1000000
  | 0, v, h => by injection h with h; omega
  | m + 1, v, h => by
    rw [qcTo] at h
    cases hm : qcTo n f C D U m with
    | none => rw [hm] at h; cases h
    | some s =>
      rw [hm] at h
      simp only at h
      split at h
      · split at h
        · cases h
        · split at h
          · injection h with h; omega
          · cases h
      · injection h with h; subst h; exact qcTo_bd hm
theorem qcO_bd {n : Nat} : ∀ {k C D U v : Nat}, qcO n k C D U = some v → v ≤ 1000000
  | 0, _, _, _, v, h => by cases h
  | k + 1, C, D, U, v, h => by
    rw [qcO] at h
    split at h
    · injection h with h; omega
    · exact qcTo_bd h

/-! ### The bits of small numbers -/
theorem and_at : ∀ x : Fin 64, ∀ c : Fin 6, bits .and .i64 (x.val : Int) ((2 ^ c.val : Nat) : Int) = (((if x.val.testBit c.val then 2 ^ c.val else 0 : Nat)) : Int) := by decide +kernel
theorem or_at : ∀ x : Fin 64, ∀ c : Fin 6, bits .or .i64 (x.val : Int) ((2 ^ c.val : Nat) : Int) = ((x.val ||| 2 ^ c.val : Nat) : Int) ∧ x.val ||| 2 ^ c.val < 64 := by decide +kernel
theorem mask_at : ∀ x : Fin 128, ∀ m : Fin 64, bits .and .i64 (x.val : Int) (m.val : Int) = ((x.val &&& m.val : Nat) : Int) ∧ x.val &&& m.val < 64 := by decide +kernel

/-- How many there are. -/
def countP (n : Int) : Int := if 1 ≤ n ∧ n ≤ 6 then ((queensP n.toNat n.toNat []).length : Int) else -1
theorem count_facts : ∀ n : Fin 7, 1 ≤ n.val → qcO n.val 7 0 0 0 = some (queensP n.val n.val []).length := by decide +kernel
end Go.Proofs.Ytgcchpabmkdkhac

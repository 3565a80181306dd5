
/-
  Guards: the model's guards and loose on a set of nine cells.
-/
import Derived.Test.YtdjkdjnbmhpokabGuardA
import Derived.Test.YtdjkdjnbmhpokabSpecM
namespace Go.Proofs.Ytdjkdjnbmhpokab
open Go.RowKit
set_option linter.unusedVariables false

theorem i64_or9 (a b : Nat) (ha : a < 512) (hb : b < 512) : bits .or .i64 (a : Int) (b : Int) = ((a ||| b : Nat) : Int) ∧ a ||| b < 512 := by
  have hx : a ||| b < 2 ^ 9 := Nat.or_lt_two_pow (by omega) (by omega)
  have h1 : (BitVec.ofInt 64 (a : Int)).toNat = a := by
    rw [BitVec.ofInt_natCast, BitVec.toNat_ofNat]; exact Nat.mod_eq_of_lt (by omega)
  have h2 : (BitVec.ofInt 64 (b : Int)).toNat = b := by
    rw [BitVec.ofInt_natCast, BitVec.toNat_ofNat]; exact Nat.mod_eq_of_lt (by omega)
  refine ⟨?_, by omega⟩
  show IntKind.i64.wrap ((BitVec.ofInt 64 (a : Int) ||| BitVec.ofInt 64 (b : Int)).toNat : Int) = _
  rw [BitVec.toNat_or, h1, h2]
  exact IntWalk.i64_in _ (by omega)
theorem i64_and9 (a b : Nat) (ha : a < 512) (hb : b < 512) : bits .and .i64 (a : Int) (b : Int) = ((a &&& b : Nat) : Int) ∧ a &&& b < 512 := by
  have hx : a &&& b < 2 ^ 9 := Nat.and_lt_two_pow _ (by omega)
  have h1 : (BitVec.ofInt 64 (a : Int)).toNat = a := by
    rw [BitVec.ofInt_natCast, BitVec.toNat_ofNat]; exact Nat.mod_eq_of_lt (by omega)
  have h2 : (BitVec.ofInt 64 (b : Int)).toNat = b := by
    rw [BitVec.ofInt_natCast, BitVec.toNat_ofNat]; exact Nat.mod_eq_of_lt (by omega)
  refine ⟨?_, by omega⟩
  show IntKind.i64.wrap ((BitVec.ofInt 64 (a : Int) &&& BitVec.ofInt 64 (b : Int)).toNat : Int) = _
  rw [BitVec.toNat_and, h1, h2]
  exact IntWalk.i64_in _ (by omega)
def natI (L : List Nat) : List Int := L.map fun (x : Nat) => Int.ofNat x
theorem natI_len (L : List Nat) : (natI L).length = L.length := by simp [natI]
theorem natI_at (L : List Nat) (k : Nat) : (natI L)[k]?.getD 0 = ((L[k]?.getD 0 : Nat) : Int) := by
  rw [natI, List.getElem?_map]
  cases L[k]? <;> rfl
/-- Sets of at most nine cells, one for each cell. -/
structure Sets9 (L : List Nat) : Prop where
  len : L.length ≤ 9
  bd : ∀ k : Nat, L[k]?.getD 0 < 512
theorem over_bd {L : List Nat} (h : Sets9 L) {s : Nat} (hs : s < 512) : ∀ k, overP L s k < 512
  | 0 => hs
  | k + 1 => by
    simp only [overP]
    split
    · exact (i64_or9 _ _ (over_bd h hs k) (h.bd k)).2
    · exact over_bd h hs k

end Go.Proofs.Ytdjkdjnbmhpokab

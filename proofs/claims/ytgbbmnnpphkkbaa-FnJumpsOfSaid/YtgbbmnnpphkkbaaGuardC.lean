
/-
  Guards: the model's sets of cells reached.
-/
import Derived.Test.YtgbbmnnpphkkbaaGuardB
import Derived.Test.YtgbbmnnpphkkbaaSpecD
import Derived.Test.YtgbbmnnpphkkbaaOwnWords
namespace Go.Proofs.Ytgbbmnnpphkkbaa
open Go.RowKit
set_option linter.unusedVariables false

def sumPow (R : List Int) : Nat → Nat
  | 0 => 0
  | k + 1 => sumPow R k + 2 ^ (R[k]?.getD 0).toNat
theorem sumPow_take (R : List Int) : ∀ k, k ≤ R.length → sumPow R k = ((R.take k).map fun x => 2 ^ x.toNat).sum
  | 0, _ => by simp [sumPow]
  | k + 1, h => by
    rw [sumPow, sumPow_take R k (by omega), List.take_succ_eq_append_getElem h, List.getElem?_eq_getElem h, List.map_append, List.sum_append]
    simp only [List.map_cons, List.map_nil, List.sum_cons, List.sum_nil, Nat.add_zero, Option.getD_some]
theorem sumPow_bd (R : List Int) (h : ∀ i, i < R.length → 0 ≤ R[i]?.getD 0 ∧ R[i]?.getD 0 < 9) : ∀ k, k ≤ R.length → sumPow R k ≤ 256 * k
  | 0, _ => Nat.le_refl _
  | k + 1, hk => by
    have h1 := sumPow_bd R h k (by omega)
    obtain ⟨h2, h3⟩ := h k (by omega)
    have h4 : 2 ^ (R[k]?.getD 0).toNat ≤ 2 ^ 8 := Nat.pow_le_pow_right (by omega) (by omega)
    rw [sumPow]
    omega
theorem sumPow_reach {bc br : Int} {far : Bool} {ss : List (Int × Int)} {k : Nat} : sumPow (reachP bc br far [] (k : Int) ss) (reachP bc br far [] (k : Int) ss).length = setFrom bc br far ss k := by
  rw [sumPow_take _ _ (Nat.le_refl _), List.take_length, setFrom]
  exact ((List.mergeSort_perm _ _).map _).sum_nat
theorem reach_cells {bc br : Int} {far : Bool} {ss : List (Int × Int)} {k : Int} (h1 : 1 ≤ bc) (h2 : bc ≤ 5) (h3 : 1 ≤ br) (h4 : br ≤ 5) (i : Nat) (hi : i < (reachP bc br far [] k ss).length) : 0 ≤ (reachP bc br far [] k ss)[i]?.getD 0 ∧ (reachP bc br far [] k ss)[i]?.getD 0 < bc * br := by
  rw [List.getElem?_eq_getElem hi, Option.getD_some]
  exact cells_in h1 h2 h3 h4 _ ((List.mergeSort_perm _ _).mem_iff.1 (List.getElem_mem hi))

end Go.Proofs.Ytgbbmnnpphkkbaa


/-
  Covers of boards: the model's TileCount.
-/
import Derived.Test.YtnikgnicjbcbmabDoorTileN
namespace Go.Proofs.YtnikgnicjbcbmabDoor
open Go.RowKit
set_option linter.unusedVariables false

theorem asc_mem {n : Int} {l : List Int} (h : AscTo n l l.length) : ∀ x ∈ l, 0 ≤ x ∧ x < n := fun x hx => by
  obtain ⟨i, hi, rfl⟩ := List.getElem_of_mem hx
  have := (h i hi).1
  rwa [List.getElem?_eq_getElem hi] at this
theorem asc_lt {n : Int} {l : List Int} (h : AscTo n l l.length) : ∀ (d i : Nat), i + d + 1 < l.length → l[i]?.getD 0 < l[i + d + 1]?.getD 0
  | 0, i, hi => by have := (h (i + 1) hi).2 (by omega); simpa using this
  | d + 1, i, hi => by
    have h1 := asc_lt h d i (by omega)
    have h2 := (h (i + (d + 1) + 1) hi).2 (by omega)
    rw [show i + (d + 1) + 1 - 1 = i + d + 1 by omega] at h2
    omega
theorem asc_nodup {n : Int} {l : List Int} (h : AscTo n l l.length) : l.Nodup := by
  rw [List.nodup_iff_pairwise_ne, List.pairwise_iff_getElem]
  intro i j hi hj hij
  have := asc_lt h (j - i - 1) i (by omega)
  rw [show i + (j - i - 1) + 1 = j by omega, List.getElem?_eq_getElem hi, List.getElem?_eq_getElem hj] at this
  simp only [Option.getD_some] at this
  omega
theorem mask_fn {n : Nat} {hs : List Int} (h : ∀ x ∈ hs, 0 ≤ x ∧ x < (n : Int)) : fnB (maskL n hs) = inL hs := funext fun i => by
  by_cases hi : i < n
  · exact mask_at hs hi
  · have h1 : inL hs i = false := by
      unfold inL
      rw [← Bool.not_eq_true, List.contains_iff_mem]
      intro hm
      have := h _ hm
      omega
    rw [h1]
    unfold fnB
    rw [List.getElem?_eq_none (by rw [mask_len]; omega)]
    rfl
/-- In how many ways the board is covered. -/
def coversP (bc br : Int) (hs : List Int) : Int := if Holes bc br hs then ((tileT bc.toNat (bc.toNat * br.toNat) (bc.toNat * br.toNat) (inL hs) : Nat) : Int) else -1

end Go.Proofs.YtnikgnicjbcbmabDoor

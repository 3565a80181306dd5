
/-
  The reference model's reach.
-/
import Derived.Test.YtgbbmnnpphkkbaaSpecC
namespace Go.Proofs.Ytgbbmnnpphkkbaa
open Go.RowKit
set_option linter.unusedVariables false

def InB (bc br r c : Int) : Prop := 0 ≤ r ∧ r < br ∧ 0 ≤ c ∧ c < bc
instance (bc br r c : Int) : Decidable (InB bc br r c) := by unfold InB; infer_instance
theorem cell_parts {bc br r c : Int} (h1 : 1 ≤ bc) (h2 : bc ≤ 5) (h3 : 1 ≤ br) (h4 : br ≤ 5) (h : InB bc br r c) : (r * bc + c) / bc = r ∧ (r * bc + c) % bc = c ∧ (0 ≤ r * bc + c ∧ r * bc + c < bc * br) ∧ (0 ≤ r * bc ∧ r * bc ≤ 20) := by
  obtain ⟨a, b, c1, d⟩ := h
  obtain ⟨e1, e⟩ := row_bd h1 h2 h3 h4 a b c1 d
  refine ⟨?_, ?_, e, e1⟩
  · rw [Int.add_comm, Int.add_mul_ediv_right _ _ (by omega), Int.ediv_eq_zero_of_lt c1 d]; omega
  · rw [Int.add_comm, Int.add_mul_emod_self_right, Int.emod_eq_of_lt c1 d]
theorem next_in (bc br dr dc x : Int) : nextP bc br dr dc x = if InB bc br (x / bc + dr) (x % bc + dc) then some ((x / bc + dr) * bc + (x % bc + dc)) else none := rfl
/-- What is still to come from row r, column c. -/
def restP (bc br : Int) (far : Bool) (others : List Int) (dr dc : Int) (f : Nat) (r c : Int) : List Int := if InB bc br r c then rayA bc br far others dr dc f (r * bc + c) else []
theorem rest_goes (bc br : Int) (far : Bool) (others : List Int) (cell dr dc : Int) : goesP bc br far others cell (dr, dc) = restP bc br far others dr dc 5 (cell / bc + dr) (cell % bc + dc) := by
  unfold goesP restP
  simp only [next_in]
  split <;> simp_all
theorem rest_step {bc br : Int} {far : Bool} {others : List Int} {dr dc : Int} {f : Nat} {r c : Int} (h1 : 1 ≤ bc) (h2 : bc ≤ 5) (h3 : 1 ≤ br) (h4 : br ≤ 5) (h : InB bc br r c) (hf : far = true) (ho : ¬ (r * bc + c) ∈ others) :
    restP bc br far others dr dc (f + 1) r c = (r * bc + c) :: restP bc br far others dr dc f (r + dr) (c + dc) := by
  obtain ⟨e1, e2, _⟩ := cell_parts h1 h2 h3 h4 h
  rw [restP, if_pos h, rayA, if_pos ⟨hf, by rw [List.contains_eq_mem]; simpa using ho⟩, next_in, e1, e2]
  unfold restP
  split <;> simp_all
theorem rest_stop {bc br : Int} {far : Bool} {others : List Int} {dr dc : Int} {f : Nat} {r c : Int} (h : InB bc br r c) (hs : far = false ∨ (r * bc + c) ∈ others) :
    restP bc br far others dr dc (f + 1) r c = [r * bc + c] := by
  rw [restP, if_pos h, rayA, if_neg]
  rintro ⟨a, b⟩
  rcases hs with hs | hs
  · rw [hs] at a; cases a
  · rw [List.contains_eq_mem, decide_eq_false_iff_not] at b; exact b hs
theorem rest_out {bc br : Int} {far : Bool} {others : List Int} {dr dc : Int} {f : Nat} {r c : Int} (h : ¬ InB bc br r c) : restP bc br far others dr dc f r c = [] := by rw [restP, if_neg h]
/-- How far the edge is, by row and column. -/
def potR (bc br dr dc r c : Int) : Int := if 0 < dr then br - 1 - r else if dr < 0 then r else if 0 < dc then bc - 1 - c else c
theorem potR_bd {bc br dr dc r c : Int} (h2 : bc ≤ 5) (h4 : br ≤ 5) (h : InB bc br r c) : 0 ≤ potR bc br dr dc r c ∧ potR bc br dr dc r c ≤ 4 := by
  obtain ⟨a, b, c1, d⟩ := h
  unfold potR
  split
  · omega
  · split
    · omega
    · split <;> omega
theorem potR_next {bc br dr dc r c : Int} (hs : okStep (dr, dc)) : potR bc br dr dc (r + dr) (c + dc) < potR bc br dr dc r c := by
  obtain ⟨_, _, h5⟩ := hs
  simp only at h5
  unfold potR
  split
  · omega
  · split
    · omega
    · split <;> omega

end Go.Proofs.Ytgbbmnnpphkkbaa

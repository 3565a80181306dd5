
/-
  The walk of the law FnCatchMoves, off the contracts of the program's functions (given).
-/
import Derived.Test.YtakphmcelhbaiacChaseD
import Derived.Test.YtakphmcelhbaiacChaseM
import Derived.Test.YtakphmcelhbaiacDrawM
import Derived.Test.YtakphmcelhbaiacLawWords
import Derived.Test.YtakphmcelhbaiacLawKA
import Derived.StillTailTactics
import Derived.Lib.MinMax
namespace Go.Proofs.Ytakphmcelhbaiac
open Go.RowKit
set_option linter.unusedVariables false

def reachL (L : List Nat) (i : Nat) : List Nat := (List.range L.length).filter fun x => bitN (L[i]?.getD 0) x == 1
theorem goL_lt {L : List Nat} {i x : Nat} (hi : i < L.length) (h : x ∈ goL L i) : x < L.length := by
  unfold goL at h
  rcases List.mem_append.1 h with h | h
  · exact List.mem_range.1 (List.mem_filter.1 h).1
  · rw [List.mem_singleton.1 h]; exact hi
theorem reach_in {L : List Nat} {i k : Nat} (hk : k < L.length) : decide ((k : Int) ∈ natI (reachL L i)) = (bitN (L[i]?.getD 0) k == 1) := by
  rw [Bool.eq_iff_iff, decide_eq_true_eq]
  unfold natI reachL
  constructor
  · intro h
    obtain ⟨x, hx, e⟩ := List.mem_map.1 h
    have : x = k := Int.ofNat.inj e
    subst this
    exact (List.mem_filter.1 hx).2
  · intro h
    exact List.mem_map.2 ⟨k, List.mem_filter.2 ⟨List.mem_range.2 hk, h⟩, rfl⟩
theorem goL_len (L : List Nat) (i : Nat) : (goL L i).length ≤ L.length + 1 := by
  unfold goL
  rw [List.length_append]
  have := List.length_filter_le (fun x => bitN (L[i]?.getD 0) x == 1) (List.range L.length)
  rw [List.length_range] at this
  simp only [List.length_singleton]
  omega
theorem natI_goL (L : List Nat) (i : Nat) : ints (natI (goL L i)) = ints (natI (reachL L i)) ++ [.int .i64 (i : Int)] := by
  unfold goL natI reachL ints
  rw [List.map_append, List.map_append]
  rfl
theorem step_facts {a b : Nat} {p : List (Int × Int) × Bool} (h : chaseOk a b p = true) {i k : Nat} (hi : i < (setsP a b p.2 p.1).length) (hk : k < (setsP a b p.2 p.1).length) (hik : i ≠ k) :
    if bitN ((setsP a b p.2 p.1)[i]?.getD 0) k == 1 then cAt (catN (setsP a b p.2 p.1)) i k = 2 else bestL (catN (setsP a b p.2 p.1)) (goL (setsP a b p.2 p.1) k) (goL (setsP a b p.2 p.1) i) 0 = cAt (catN (setsP a b p.2 p.1)) i k := by
  unfold chaseOk at h
  simp only [Bool.and_eq_true] at h
  have h := h.2
  unfold stepOk9 at h
  have := List.all_eq_true.1 (List.all_eq_true.1 h i (List.mem_range.2 hi)) k (List.mem_range.2 hk)
  rw [Bool.or_eq_true] at this
  rcases this with e | this
  · exact absurd (beq_iff_eq.1 e) hik
  · split at this
    · rename_i e
      rw [if_pos e]
      exact beq_iff_eq.1 this
    · rename_i e
      rw [if_neg e]
      exact beq_iff_eq.1 this
end Go.Proofs.Ytakphmcelhbaiac

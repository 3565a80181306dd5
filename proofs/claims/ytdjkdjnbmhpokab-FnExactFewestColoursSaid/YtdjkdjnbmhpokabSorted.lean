
/-
  slices.Sort at a row that the call itself owns; sorted lists of numbers.
-/
import Derived.Test.YtdjkdjnbmhpokabBase
import Derived.Test.YtdjkdjnbmhpokabProg
import Derived.Test.YtdjkdjnbmhpokabShelf
namespace Go.Proofs.Ytdjkdjnbmhpokab
open Go.RowKit Go.Sort
set_option linter.unusedVariables false

def Sorts (v : Value) (base : Nat) (l : List Int) (w : World) (e : Ending) (w' : World) : Prop :=
  e = .returned (.tuple #[]) ∧ w'.ownsRow base 3 1 v l.length (ints (l.mergeSort fun x y => decide (x ≤ y))) ∧ w.grownBy w' v.ownBlock

theorem sort_c (v : Value) (base : Nat) (l : List Int) (w : World) (hown : w.ownsRow base 3 1 v l.length (ints l)) (hl : l.length ≤ 1099511627776) : Calls Try.prog 56 #[v] w (Sorts v base l w) := by
  rcases hown.2 with ⟨rfl, h0⟩ | ⟨g, cap, cur, rfl, hb, hg, hn, hm, hs, ht⟩
  · obtain rfl : l = [] := List.eq_nil_of_length_eq_zero h0
    exact (Try.slices_Sort_int_none none 0 w).mono fun e w' ⟨he, hw⟩ => ⟨he, by subst hw; simpa using hown, by subst hw; exact World.grownBy.refl _ _⟩
  · have hgl : g < w.heap.size := (Array.getElem?_eq_some_iff.1 hg).1
    have hH : Holds (Value.int .i64) w g 0 l.toArray := fun j hj => by
      have hj' : j < l.length := by simpa using hj
      refine ⟨?_, by simp [World.frozen?, hg]⟩
      have := hown.cells (g := g) rfl j (.int .i64 l[j]) (by simp [List.getElem?_eq_getElem hj'])
      rw [show (⟨g, 0, none⟩ : Addr).add j = ⟨g, 0 + j, none⟩ from by unfold Addr.add; split <;> simp_all] at this
      rw [this, getElem!_pos l.toArray j hj]
      simp
    refine (Try.slices_Sort_int g 0 cap l w hH hgl (by omega)).mono ?_
    rintro e w' ⟨rfl, n, os, rfl⟩
    have hsize : (Sort.putRow (Value.int .i64) (Sort.ahead w n) g 0 (l.mergeSort fun x y => decide (x ≤ y)).toArray).heap.size = w.heap.size := by simp [putRow, mapBlock, Sort.ahead]
    have hheap : ∀ k, k < w.heap.size → (Sort.grow (Sort.putRow (Value.int .i64) (Sort.ahead w n) g 0 (l.mergeSort fun x y => decide (x ≤ y)).toArray) os).heap[k]? = if g = k then (w.heap[k]?).map (onCells (putCells (Value.int .i64) 0 (l.mergeSort fun x y => decide (x ≤ y)).toArray)) else w.heap[k]? := fun k hk => by
      rw [heap_grow_old _ _ (by rw [hsize]; exact hk)]
      simp [putRow, mapBlock, Sort.ahead, Array.getElem?_modify]
    refine ⟨rfl, ⟨by simp, .inr ⟨g, cap, putCells (Value.int .i64) 0 (l.mergeSort fun x y => decide (x ≤ y)).toArray cur, rfl, hb, ?_, hn, hm, by simpa [putCells] using hs, ?_⟩⟩, ⟨rfl, rfl, rfl, ?_, ?_⟩⟩
    · rw [hheap g hgl, if_pos rfl, hg]; rfl
    · have hlen : (l.mergeSort fun x y => decide (x ≤ y)).length = l.length := List.length_mergeSort ..
      apply List.ext_getElem?
      intro j
      rw [List.getElem?_take]
      by_cases hj : j < l.length
      · have hc : j < cur.size := by omega
        rw [if_pos (by omega)]
        simp only [putCells, Array.toList_mapIdx, List.getElem?_mapIdx, List.size_toArray, hlen, Nat.zero_le, true_and, Nat.zero_add, Nat.sub_zero]
        rw [show cur.toList[j]? = some cur[j] from by simp [Array.getElem?_eq_getElem hc]]
        simp only [Option.map_some, if_pos hj]
        rw [getElem!_pos _ _ (by simpa [hlen] using hj)]
        simp only [List.getElem_toArray, ints, List.getElem?_map]
        rw [List.getElem?_eq_getElem (by omega)]
        rfl
      · rw [if_neg (by omega)]
        symm
        rw [List.getElem?_eq_none]
        simp only [ints, List.length_map, hlen]
        omega
    · rw [size_grow, hsize]; omega
    · intro k hk hne
      rw [hheap k hk, if_neg]
      rintro rfl
      exact hne rfl
end Go.Proofs.Ytdjkdjnbmhpokab

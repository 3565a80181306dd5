
/-
  Drawn numbers and columns of queens.
-/
import Derived.Test.YtgcchpabmkdkhabDrawC
import Derived.Test.YtgcchpabmkdkhabQueenB
namespace Go.Proofs.Ytgcchpabmkdkhab
open Go.RowKit
set_option linter.unusedVariables false

def DrawnN (w : World) (e : Ending) (w' : World) : Prop := ∃ n : Int, e = .returned (.int .i64 n) ∧ (0 ≤ n ∧ n ≤ 7) ∧ Below w.heap.size w w'
theorem one_at (xs : List Int) (R B N g : Nat) (w : World) (hgz : w.heap.size = g) (h : Reader w R B N) (hN : N ≤ 1000000) (h0 : 0 < xs.length) (h1 : xs.length ≤ 1000) :
    Calls Try.prog 20 #[.pointer (some ⟨R, 0, none⟩), .slice (some ⟨g, 0, none⟩) xs.length xs.length] (w.alloc (.cells (ints xs).toArray 3)) (Drawn (· ∈ xs) R B (N + 1) w) := by
  subst hgz
  exact one_new xs R B N w h hN h0 h1
theorem set_intsQ (l : List Int) (i : Nat) (u : Int) : (ints l).set i (.int .i64 u) = ints (l.set i u) := by simp [ints, List.map_set]
def Seven (xs : List Int) : Prop := ∀ i, i < xs.length → 0 ≤ xs[i]?.getD 0 ∧ xs[i]?.getD 0 ≤ 7
theorem Seven.snoc {xs : List Int} {c : Int} (h : Seven xs) (h0 : 0 ≤ c) (h7 : c ≤ 7) : Seven (xs ++ [c]) := fun i hi => by
  by_cases e : i < xs.length
  · rw [List.getElem?_append_left e]; exact h i e
  · have : i = xs.length := by simp at hi; omega
    subst this
    simp; omega
theorem Seven.small {xs : List Int} (h : Seven xs) (hl : xs.length ≤ 7) : Small xs := ⟨hl, fun i hi => by have := h i hi; omega⟩
def SomeStand (R B N : Nat) (w : World) (e : Ending) (w' : World) : Prop := ∃ (n : Int) (v : Value) (xs : List Int), e = .returned (.tuple #[.int .i64 n, v]) ∧ (0 ≤ n ∧ n ≤ 7) ∧ w'.ownsRow w.heap.size 3 1 v (List.length xs) (ints xs) ∧ xs.length ≤ 7 ∧ Reader w' R B N ∧ w.grownBy w' (some R)
def DrawnStand (w : World) (e : Ending) (w' : World) : Prop := ∃ (n : Int) (v : Value) (xs : List Int), e = .returned (.tuple #[.int .i64 n, v]) ∧ (0 ≤ n ∧ n ≤ 7) ∧ w'.ownsRow w.heap.size 3 1 v (List.length xs) (ints xs) ∧ xs.length ≤ 7 ∧ Below w.heap.size w w'
end Go.Proofs.Ytgcchpabmkdkhab

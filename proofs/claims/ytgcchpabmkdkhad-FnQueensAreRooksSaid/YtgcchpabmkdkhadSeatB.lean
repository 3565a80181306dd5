
/-
  Drawn seats; rows the other way round.
-/
import Derived.Test.YtgcchpabmkdkhadSeatA
import Derived.Test.YtgcchpabmkdkhadDrawC
namespace Go.Proofs.Ytgcchpabmkdkhad
open Go.RowKit
set_option linter.unusedVariables false

theorem ints_set' (l : List Int) (i : Nat) (u : Int) : (ints l).set i (.int .i64 u) = ints (l.set i u) := by simp [ints, List.map_set]
def lenV : Value → Nat
  | .slice _ n _ => n
  | _ => 0
theorem own_lenV {w : World} {base e size n : Nat} {v : Value} {xs : List Value} (h : w.ownsRow base e size v n xs) : lenV v = n := by
  obtain ⟨A, c, rfl, _⟩ := own_row h
  rfl
def SomeSeats (R B N : Nat) (w : World) (e : Ending) (w' : World) : Prop := ∃ v xs, e = .returned v ∧ w'.ownsRow w.heap.size 3 1 v (List.length xs) (ints xs) ∧ xs.length ≤ 5 ∧ Reader w' R B N ∧ w.grownBy w' (some R)
def DrawnSeats (w : World) (e : Ending) (w' : World) : Prop := ∃ v xs, e = .returned v ∧ w'.ownsRow w.heap.size 3 1 v (List.length xs) (ints xs) ∧ xs.length ≤ 5 ∧ Below w.heap.size w w'
theorem Seats.reverse {l : List Int} (h : Seats l) : Seats l.reverse := by
  obtain ⟨h1, h2⟩ := h
  refine ⟨by simpa using h1, fun i hi => ?_⟩
  rw [List.length_reverse] at hi ⊢
  have := h2 (l.length - 1 - i) (by omega)
  rw [List.getElem?_reverse hi]
  exact this
theorem drop_step (xs : List Int) (k : Nat) (hk : k < xs.length) : (xs.drop (k + 1)).reverse ++ [xs[k]?.getD 0] = (xs.drop k).reverse := by
  rw [List.drop_eq_getElem_cons hk, List.reverse_cons, List.getElem?_eq_getElem hk]; rfl
end Go.Proofs.Ytgcchpabmkdkhad


/-
  Words of the laws' walks: what the call owns.
-/
import Derived.Test.YtakphmcelhbaiacLawWords
namespace Go.Proofs.Ytakphmcelhbaiac
open Go.RowKit
set_option linter.unusedVariables false

theorem own_reads {w : World} {base e size n c : Nat} {A : Option Addr} {cs : List Value} (h : w.ownsRow base e size (.slice A n c) n cs) : Row w A cs := by
  obtain ⟨A', c', he, _, _, hr, _⟩ := own_row h
  injection he with h1
  exact h1 ▸ hr
/-- What is owned below N stands where a row from N on is written. -/
theorem own_other {w w' : World} {base base' e e' size size' n n' N : Nat} {v u : Value} {xs ys : List Value} (h : w.ownsRow base e size v n xs) (hv : ∀ k, v.ownBlock = some k → k < N) (hu : w.ownsRow base' e' size' u n' ys) (hN : N ≤ base')
    (hg : w.grownBy w' u.ownBlock) : w'.ownsRow base e size v n xs :=
  h.kept hg (by
    cases hk : v.ownBlock with
    | none => exact .inl rfl
    | some k =>
      right
      intro e
      have := (hu.lt k e.symm).1
      have := hv k hk
      omega)
theorem own_other' {w w' : World} {base e size n N : Nat} {v u : Value} {xs : List Value} (h : w.ownsRow base e size v n xs) (hu : ∀ k, u.ownBlock = some k → k < N) (hN : N ≤ base) (hg : w.grownBy w' u.ownBlock) : w'.ownsRow base e size v n xs :=
  h.kept hg (by
    cases hk : v.ownBlock with
    | none => exact .inl rfl
    | some k =>
      right
      intro e
      have := (h.lt k hk).1
      have := hu k e.symm
      omega)
theorem own_lt {w : World} {base e size n : Nat} {v : Value} {xs : List Value} (h : w.ownsRow base e size v n xs) : ∀ k, v.ownBlock = some k → k < w.heap.size := fun k hk => (h.lt k hk).2

end Go.Proofs.Ytakphmcelhbaiac


/-
  Walks by chance: the model's hitTime.
-/
import Derived.Test.YtoapmmmmdfmaeaaWalkE
import Derived.Test.YtoapmmmmdfmaeaaWalkC
import Derived.Test.YtoapmmmmdfmaeaaDetY
namespace Go.Proofs.Ytoapmmmmdfmaeaa
open Go.RowKit
set_option linter.unusedVariables false

theorem own_ty {w : World} {base base' e e' s s' n n' : Nat} {v u : Value} {xs ys : List Value} (h : w.ownsRow base e s v n xs) (h' : w.ownsRow base' e' s' u n' ys) (hne : e ≠ e') {g : Nat} (hu : u.ownBlock = some g) : v.ownBlock ≠ some g := by
  rcases h'.2 with ⟨rfl, _⟩ | ⟨g', cap, cur, rfl, hb, hg, _⟩
  · cases hu
  · injection hu with hu
    subst hu
    exact own_ne h (show Box w g' e' cur from hg) hne
theorem own_tyk {w w' : World} {base base' e e' s s' n n' : Nat} {v u : Value} {xs ys : List Value} (h : w.ownsRow base e s v n xs) (h' : w.ownsRow base' e' s' u n' ys) (hne : e ≠ e') (hg : w.grownBy w' u.ownBlock) : w'.ownsRow base e s v n xs := by
  cases hu : u.ownBlock with
  | none =>
    rw [hu] at hg
    exact h.kept hg (Classical.em _)
  | some g =>
    rw [hu] at hg
    exact h.kept hg (.inr (own_ty h h' hne hu))
theorem rows_tyk {w w' : World} {base base' e s n m : Nat} {ps : List (Nat × Nat)} {M : Mat} {u : Value} {ys : List Value} (h : RowsAt w base n ps M) (h' : w.ownsRow base' e s u m ys) (hne : 3 ≠ e) (hg : w.grownBy w' u.ownBlock) : RowsAt w' base n ps M :=
  ⟨h.len, fun i hi => own_tyk (h.own i hi) h' hne hg, h.apart⟩
theorem in_rows {w : World} {base n : Nat} {ps : List (Nat × Nat)} {M : Mat} (h : RowsAt w base n ps M) : InRows w (vsOf n ps) n M := by
  refine ⟨(vsOf_len n ps).trans h.len, fun i hi => ?_⟩
  have hi' : i < ps.length := by rw [h.len]; exact hi
  exact ⟨⟨ps[i].1, 0, none⟩, ps[i].2, vsOf_at hi', own_reads (h.own i hi'), h.rowlen i hi'⟩
def atI (i k a : Nat) : Int := if i < a then ((restL i k).length : Int) else -1
end Go.Proofs.Ytoapmmmmdfmaeaa

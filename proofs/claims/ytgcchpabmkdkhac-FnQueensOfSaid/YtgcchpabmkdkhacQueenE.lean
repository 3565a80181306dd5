
/-
  The model's queens: lessList, purely and by the model.
-/
import Derived.Test.YtgcchpabmkdkhacQueenB
namespace Go.Proofs.Ytgcchpabmkdkhac
open Go.RowKit
set_option linter.unusedVariables false

/-- Which of two lists of one length comes first. -/
def lessP : List Int → List Int → Bool
  | x :: a, y :: b => if x = y then lessP a b else decide (x < y)
  | _, _ => false
theorem lessP_same : ∀ (a : List Int), lessP a a = false
  | [] => rfl
  | x :: a => by rw [lessP, if_pos rfl]; exact lessP_same a
theorem lessP_at : ∀ (a b : List Int) (k : Nat), k < a.length → k < b.length → a.take k = b.take k → a[k]?.getD 0 ≠ b[k]?.getD 0 → lessP a b = decide (a[k]?.getD 0 < b[k]?.getD 0)
  | x :: a, y :: b, 0, _, _, _, h => by
    simp only [List.getElem?_cons_zero, Option.getD_some] at h ⊢
    rw [lessP, if_neg h]
  | x :: a, y :: b, k + 1, h1, h2, ht, h => by
    simp only [List.take_succ_cons, List.cons.injEq] at ht
    simp only [List.getElem?_cons_succ, List.length_cons] at h h1 h2 ⊢
    rw [lessP, if_pos ht.1]
    exact lessP_at a b k (by omega) (by omega) ht.2 h
  | [], _, _, h1, _, _, _ => by simp at h1
  | _ :: _, [], _, _, h2, _, _ => by simp at h2
end Go.Proofs.Ytgcchpabmkdkhac


/-
  What the laws of folding say of small boards; the walks of FnAlwaysCaught, FnKingsAreCaught.
-/
import Derived.Test.YtakphmcelhbaiabLawKA
import Derived.Test.YtakphmcelhbaiabChaseG
namespace Go.Proofs.Ytakphmcelhbaiab
open Go.RowKit
set_option linter.unusedVariables false

structure FoldFacts (a b : Nat) (L T : List Nat) : Prop where
  always : alwaysTo (catN L) (a * b) (a * b) = ((foldN L).length + 1 == a * b)
  turned : alwaysTo (catN T) (a * b) (a * b) = alwaysTo (catN L) (a * b) (a * b)
  nodup : (foldN L).Nodup
  short : (foldN L).length < a * b
  alike : (foldN T).length = (foldN L).length
theorem fold_facts {a b : Nat} {p : List (Int × Int) × Bool} (h : chaseOk a b p = true) : FoldFacts a b (setsP a b p.2 p.1) (setsP b a p.2 p.1) := by
  unfold chaseOk at h
  simp only [Bool.and_eq_true, beq_iff_eq, decide_eq_true_eq] at h
  obtain ⟨⟨⟨⟨⟨⟨⟨h1, h2⟩, h3⟩, h4⟩, _⟩, h5⟩, _⟩, _⟩ := h
  exact ⟨h1, h2, h3, h4, h5⟩
theorem fold_short (bc br : Int) (s : List UInt8) : (foldV bc br s).length ≤ 9 := by
  unfold foldV
  cases hk : smallK bc br s with
  | none => exact Nat.zero_le _
  | some p =>
    obtain ⟨ss, far⟩ := p
    obtain ⟨a, b, rfl, rfl, _, _, h9, hok⟩ := chase_facts hk
    have := (fold_facts hok).short
    exact Nat.le_of_lt (Nat.lt_of_lt_of_le this h9.2)
end Go.Proofs.Ytakphmcelhbaiab

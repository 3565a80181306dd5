
/-
  The walk of the law FnCatchMost, off the contracts of the program's functions (given).
-/
import Derived.Test.YtakphmcelhbaiabChaseD
import Derived.Test.YtakphmcelhbaiabChaseE
import Derived.Test.YtakphmcelhbaiabDrawM
import Derived.Test.YtakphmcelhbaiabLawWords
namespace Go.Proofs.Ytakphmcelhbaiab
open Go.RowKit
set_option linter.unusedVariables false

theorem chase_facts {bc br : Int} {s : List UInt8} {ss : List (Int × Int)} {far : Bool} (h : smallK bc br s = some (ss, far)) :
    ∃ a b : Nat, bc = (a : Int) ∧ br = (b : Int) ∧ (1 ≤ a ∧ a ≤ 5) ∧ (1 ≤ b ∧ b ≤ 5) ∧ (1 ≤ a * b ∧ a * b ≤ 9) ∧ chaseOk a b (ss, far) = true := by
  obtain ⟨⟨h1, h2, h3, h4, h9⟩, hk⟩ := smallK_some h
  obtain ⟨a, rfl⟩ : ∃ a : Nat, bc = ((a + 1 : Nat) : Int) := ⟨(bc - 1).toNat, by omega⟩
  obtain ⟨b, rfl⟩ : ∃ b : Nat, br = ((b + 1 : Nat) : Int) := ⟨(br - 1).toNat, by omega⟩
  have h9' : (a + 1) * (b + 1) ≤ 9 := by
    have : (((a + 1) * (b + 1) : Nat) : Int) ≤ 9 := by rw [Int.natCast_mul]; exact h9
    omega
  exact ⟨a + 1, b + 1, rfl, rfl, by omega, by omega, ⟨Nat.mul_pos (by omega) (by omega), h9'⟩, List.all_eq_true.1 (chase_all ⟨a, by omega⟩ ⟨b, by omega⟩ h9') (ss, far) (kind_six6 hk)⟩
def fineTo (C : List (List Nat)) (b i : Nat) : Nat → Bool
  | 0 => true
  | k + 1 => fineTo C b i k && (decide (1 ≤ cAt C i k) && decide (cAt C i k ≤ b + 1))
theorem fine_all {C : List (List Nat)} {b i : Nat} : ∀ n, (∀ k, k < n → (decide (1 ≤ cAt C i k) && decide (cAt C i k ≤ b + 1)) = true) → fineTo C b i n = true
  | 0, _ => rfl
  | n + 1, h => by
    show (fineTo C b i n && _) = true
    rw [fine_all n (fun k hk => h k (by omega)), h n (by omega)]
    rfl
theorem most_facts {a b : Nat} {p : List (Int × Int) × Bool} (h : chaseOk a b p = true) :
    (bestTo (catN (setsP a b p.2 p.1)) (a * b) (a * b) = none → alwaysTo (catN (setsP a b p.2 p.1)) (a * b) (a * b) = false) ∧
    ∀ q, bestTo (catN (setsP a b p.2 p.1)) (a * b) (a * b) = some q → alwaysTo (catN (setsP a b p.2 p.1)) (a * b) (a * b) = true ∧ q ≤ 8 ∧ ∃ i, i < a * b ∧ fineTo (catN (setsP a b p.2 p.1)) q i (a * b) = true := by
  unfold chaseOk at h
  simp only [Bool.and_eq_true] at h
  have h := h.1.2
  constructor
  · intro e
    rw [e] at h
    simpa using h
  · intro q e
    rw [e] at h
    simp only [Bool.and_eq_true] at h
    obtain ⟨⟨h1, h2⟩, h3⟩ := h
    obtain ⟨i, hi, h3⟩ := List.any_eq_true.1 h3
    exact ⟨h1, of_decide_eq_true h2, i, List.mem_range.1 hi, fine_all _ fun k hk => List.all_eq_true.1 h3 k (List.mem_range.2 hk)⟩
end Go.Proofs.Ytakphmcelhbaiab

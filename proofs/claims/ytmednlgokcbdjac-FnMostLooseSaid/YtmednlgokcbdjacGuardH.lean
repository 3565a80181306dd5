
/-
  Guards: the model's CountLoose.
-/
import Derived.Test.YtmednlgokcbdjacGuardG
namespace Go.Proofs.Ytmednlgokcbdjac
open Go.RowKit
set_option linter.unusedVariables false

theorem fuel_all : ∀ a : Fin 5, ∀ b : Fin 5, (a.val + 1) * (b.val + 1) ≤ 9 → kinds6.all (fun p => (loosesP (setsP ((a.val + 1 : Nat) : Int) ((b.val + 1 : Nat) : Int) p.2 p.1) ((setsP ((a.val + 1 : Nat) : Int) ((b.val + 1 : Nat) : Int) p.2 p.1).length + 1) (2 ^ (setsP ((a.val + 1 : Nat) : Int) ((b.val + 1 : Nat) : Int) p.2 p.1).length - 1)).isSome) = true := by decide +kernel
theorem fuel_of {bc br : Int} {s : List UInt8} {ss : List (Int × Int)} {far : Bool} (hS : Small bc br) (hk : kindL s = some (ss, far)) : loosesP (setsP bc br far ss) ((setsP bc br far ss).length + 1) (2 ^ (setsP bc br far ss).length - 1) = some (countL (setsP bc br far ss)) := by
  obtain ⟨h1, h2, h3, h4, h9⟩ := hS
  obtain ⟨a, rfl⟩ : ∃ a : Nat, bc = ((a + 1 : Nat) : Int) := ⟨(bc - 1).toNat, by omega⟩
  obtain ⟨b, rfl⟩ : ∃ b : Nat, br = ((b + 1 : Nat) : Int) := ⟨(br - 1).toNat, by omega⟩
  have h9' : (a + 1) * (b + 1) ≤ 9 := by
    have : (((a + 1) * (b + 1) : Nat) : Int) ≤ 9 := by rw [Int.natCast_mul]; exact h9
    omega
  have := List.all_eq_true.1 (fuel_all ⟨a, by omega⟩ ⟨b, by omega⟩ h9') _ (kind_six6 hk)
  obtain ⟨v, hv⟩ := Option.isSome_iff_exists.1 this
  unfold countL
  simp only at hv
  rw [hv]
  rfl

end Go.Proofs.Ytmednlgokcbdjac

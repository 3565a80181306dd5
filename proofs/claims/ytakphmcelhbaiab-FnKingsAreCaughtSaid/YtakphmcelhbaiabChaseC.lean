
/-
  Chases: the model's CatchMoves.
-/
import Derived.Test.YtakphmcelhbaiabChaseB
import Derived.Test.YtakphmcelhbaiabGuardD
namespace Go.Proofs.Ytakphmcelhbaiab
open Go.RowKit
set_option linter.unusedVariables false

/-- What is known of a small board and a kind. -/
structure ChaseOf (bc br : Int) (L : List Nat) (n : Nat) : Prop where
  len : L.length = n
  one : 1 ≤ n
  nine : n ≤ 9
  size : bc * br = (n : Int)
  sets : Sets9 L
  tab : (chTab.any fun e => e.1 == L) = true
theorem chase_of {bc br : Int} {s : List UInt8} {ss : List (Int × Int)} {far : Bool} (hS : Small bc br) (hk : kindL s = some (ss, far)) : ∃ n, ChaseOf bc br (setsP bc br far ss) n := by
  obtain ⟨h9s, hlen⟩ := sets9_of hS hk
  obtain ⟨h1, h2, h3, h4, h9⟩ := hS
  have h0 : 1 ≤ bc * br := (mul_bd h1 h2 h3 h4).1
  refine ⟨(setsP bc br far ss).length, rfl, by omega, h9s.len, hlen.symm, h9s, ?_⟩
  obtain ⟨a, rfl⟩ : ∃ a : Nat, bc = ((a + 1 : Nat) : Int) := ⟨(bc - 1).toNat, by omega⟩
  obtain ⟨b, rfl⟩ : ∃ b : Nat, br = ((b + 1 : Nat) : Int) := ⟨(br - 1).toNat, by omega⟩
  have h9' : (a + 1) * (b + 1) ≤ 9 := by
    have : (((a + 1) * (b + 1) : Nat) : Int) ≤ 9 := by rw [Int.natCast_mul]; exact h9
    omega
  exact List.all_eq_true.1 (in_tab ⟨a, by omega⟩ ⟨b, by omega⟩ h9') (ss, far) (kind_six6 hk)
/-- CatchMoves. -/
def catchV (bc br : Int) (s : List UInt8) (i k : Int) : Int := match smallK bc br s with
  | some (ss, far) => if (0 ≤ i ∧ i < bc * br) ∧ (0 ≤ k ∧ k < bc * br) then (cAt (catN (setsP bc br far ss)) i.toNat k.toNat : Int) - 1 else -1
  | none => -1
theorem mask_all {L : List Nat} {C : List (List Nat)} (h : CatOk L C) {a b : Nat} (ha : a < L.length) (hb : b < L.length) : maskV C (topN C) a b = (cAt C a b : Int) - 1 := by
  have := h.top a b ha hb
  unfold maskV
  by_cases e : 1 ≤ cAt C a b
  · rw [if_pos (by omega)]
  · rw [if_neg (by omega)]; omega
end Go.Proofs.Ytakphmcelhbaiab


/-
  Chases: the model's AlwaysCaught and CatchMost.
-/
import Derived.Test.YtakphmcelhbaiacChaseC
import Derived.Test.YtakphmcelhbaiacChaseM
import Derived.Lib.MinMax
namespace Go.Proofs.Ytakphmcelhbaiac
open Go.RowKit
set_option linter.unusedVariables false

theorem hasZ_is {C : List (List Nat)} {n i : Nat} {f : Nat → Int} (h : ∀ k, k < n → f k = (cAt C i k : Int) - 1) : decide ((-1 : Int) ∈ (List.range n).map f) = hasZ C n i := by
  unfold hasZ
  rw [Bool.eq_iff_iff, decide_eq_true_eq, List.any_eq_true]
  constructor
  · intro hm
    obtain ⟨k, hk, e⟩ := List.mem_map.1 hm
    have := h k (List.mem_range.1 hk)
    exact ⟨k, hk, beq_iff_eq.2 (by omega)⟩
  · rintro ⟨k, hk, e⟩
    have := h k (List.mem_range.1 hk)
    have := beq_iff_eq.1 e
    exact List.mem_map.2 ⟨k, hk, by omega⟩
theorem always_more {C : List (List Nat)} {n i : Nat} (h : alwaysTo C n i = true) : ∀ m, alwaysTo C n (i + m) = true
  | 0 => h
  | m + 1 => by
    show (alwaysTo C n (i + m) || _) = true
    rw [always_more h m, Bool.true_or]
def alwaysV (bc br : Int) (s : List UInt8) : Bool := match smallK bc br s with
  | some (ss, far) => alwaysTo (catN (setsP bc br far ss)) (bc * br).toNat (bc * br).toNat
  | none => false
def optI : Option Nat → Int
  | none => -1
  | some b => (b : Int)
def mostV (bc br : Int) (s : List UInt8) : Int := match smallK bc br s with
  | some (ss, far) => optI (bestTo (catN (setsP bc br far ss)) (bc * br).toNat (bc * br).toNat)
  | none => -1
end Go.Proofs.Ytakphmcelhbaiac


/-
  The model's queens: validStand, CanStand, EndsOf.
-/
import Derived.Test.YtlccohoblplddadQueenA
import Derived.Deep.RegionHeld3
namespace Go.Proofs.Ytlccohoblplddad
open Go.RowKit
set_option linter.unusedVariables false

def Stand (n : Int) (l : List Int) : Prop := (1 ≤ n ∧ n ≤ 6) ∧ (l.length : Int) ≤ n ∧ ∀ i, i < l.length → 0 ≤ l[i]?.getD 0 ∧ l[i]?.getD 0 < n
instance (n : Int) (l : List Int) : Decidable (Stand n l) := by unfold Stand; infer_instance
def apartsTo (l : List Int) (k : Nat) : Prop := ∀ i, i < k → apartP (l.take i) (l[i]?.getD 0) = true
instance (l : List Int) (k : Nat) : Decidable (apartsTo l k) := by unfold apartsTo; infer_instance
def Can (n : Int) (l : List Int) : Prop := Stand n l ∧ apartsTo l l.length
instance (n : Int) (l : List Int) : Decidable (Can n l) := by unfold Can; infer_instance
def endsP (n : Int) (l : List Int) : Int := if Stand n l then (if apartsTo l l.length then ((queensP n.toNat (n.toNat - l.length) l).length : Int) else 0) else -1
theorem inRange_b (n lo hi : Int) (b : Bool) (h : decide (lo ≤ n ∧ n ≤ hi) = b) (w : World) : Calls Try.prog 31 #[.int .i64 n, .int .i64 lo, .int .i64 hi] w fun e w' => e = .returned (.bool b) ∧ w = w' := by
  subst h
  exact (inRange_c n lo hi w).mono fun e w' ⟨he, hw⟩ => ⟨he, hw.symm⟩
theorem Stand.heads {n : Int} {l : List Int} (h : Stand n l) : Heads n.toNat l := fun i hi => by have := h.2.2 i hi; have := h.1; omega
theorem take_at (l : List Int) (k i : Nat) (hi : i < k) : (l.take k)[i]?.getD 0 = l[i]?.getD 0 := by rw [List.getElem?_take, if_pos hi]
theorem Stand.take_small {n : Int} {l : List Int} (h : Stand n l) (k : Nat) (hk : k ≤ l.length) : Small (l.take k) := ⟨by rw [List.length_take]; have := h.1; have := h.2.1; omega, fun i hi => by
  rw [List.length_take] at hi
  rw [take_at _ _ _ (by omega)]
  have := h.2.2 i (by omega)
  have := h.1
  omega⟩
end Go.Proofs.Ytlccohoblplddad

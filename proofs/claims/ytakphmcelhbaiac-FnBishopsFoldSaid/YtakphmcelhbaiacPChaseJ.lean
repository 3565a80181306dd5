
/-
  The program's chases: AlwaysCaught is told by CatchMost.
-/
import Derived.Test.YtakphmcelhbaiacLawKA
import Derived.Test.YtakphmcelhbaiacPChaseI
namespace Go.Proofs.Ytakphmcelhbaiac
open Go.RowKit
set_option linter.unusedVariables false

theorem always_most (bc br : Int) (s : List UInt8) : decide (0 ≤ mostV bc br s) = alwaysV bc br s := by
  rw [Bool.eq_iff_iff, decide_eq_true_eq]
  unfold mostV alwaysV
  cases hk : smallK bc br s with
  | none => exact ⟨fun h => absurd h (show ¬ (0 : Int) ≤ -1 by omega), fun h => nomatch h⟩
  | some p =>
    obtain ⟨ss, far⟩ := p
    obtain ⟨a, b, rfl, rfl, _, _, _, hok⟩ := chase_facts hk
    obtain ⟨f1, f2⟩ := most_facts hok
    simp only [← Int.natCast_mul, Int.toNat_natCast] at f1 f2 ⊢
    cases hb : bestTo (catN (setsP (a : Int) (b : Int) far ss)) (a * b) (a * b) with
    | none =>
      rw [f1 hb]
      exact ⟨fun h => absurd h (by show ¬ (0 : Int) ≤ -1; omega), fun h => nomatch h⟩
    | some q =>
      rw [(f2 q hb).1]
      exact ⟨fun _ => rfl, fun _ => show (0 : Int) ≤ (q : Int) by omega⟩
theorem implAlways_c (bc br : Int) (s : ByteArray) (w : World) : Calls Try.prog 11 #[.int .i64 bc, .int .i64 br, .string s] w (Plain (.bool (alwaysV bc br s.toList)) w) := implAlwaysCaught_c bc br s w (always_most bc br s.toList)
end Go.Proofs.Ytakphmcelhbaiac

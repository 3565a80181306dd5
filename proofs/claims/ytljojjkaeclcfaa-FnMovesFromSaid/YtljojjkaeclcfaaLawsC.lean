
/-
  The walk of the law FnAllMoves.
-/
import Derived.Test.YtljojjkaeclcfaaLawsB
import Derived.Test.YtljojjkaeclcfaaAllMoves
import Derived.Test.YtljojjkaeclcfaaAllFacts
namespace Go.Proofs.Ytljojjkaeclcfaa
open Go.RowKit
set_option linter.unusedVariables false

theorem allMoves_of {bc br : Int} {s : List UInt8} {ss : List (Int × Int)} {far : Bool} (hB : Brd bc br) (hk : kindL s = some (ss, far)) : allMovesP bc br s = sumC bc br far ss (bc * br).toNat := by
  unfold allMovesP
  simp only [hk]
  rw [if_pos hB, sumP_eq]
theorem brd_turn {bc br : Int} (h : Brd bc br) : Brd br bc := ⟨h.2.2.1, h.2.2.2, h.1, h.2.1⟩
structure Facts (bc br : Int) (X B : Int) : Prop where
  x0 : 0 ≤ X ∧ X ≤ 1000
  x2 : (X % 2 == 0) = true
  b0 : 0 ≤ B ∧ B ≤ 1000
theorem sumC_bd (bc br : Int) (far : Bool) (ss : List (Int × Int)) (hn : ss.length ≤ 8) (hB : Brd bc br) : 0 ≤ sumC bc br far ss (bc * br).toNat ∧ sumC bc br far ss (bc * br).toNat ≤ 1000 := by
  rw [← sumP_eq]
  have := sum_bd bc br far ss hn (bc * br).toNat
  have := (mul_bd hB.1 hB.2.1 hB.2.2.1 hB.2.2.2).2
  omega
theorem six_len : ∀ p ∈ six, p.1.length ≤ 8 := by decide

end Go.Proofs.Ytljojjkaeclcfaa

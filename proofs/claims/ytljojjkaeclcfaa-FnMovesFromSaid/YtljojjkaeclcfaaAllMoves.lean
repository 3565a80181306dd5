
/-
  AllMoves of the program and of the model.
-/
import Derived.Test.YtljojjkaeclcfaaLawsA
namespace Go.Proofs.Ytljojjkaeclcfaa
open Go.RowKit
set_option linter.unusedVariables false

theorem flat_none : Flat none := fun ad e => by cases e
end Go.Proofs.Ytljojjkaeclcfaa


/-
  Chases: the model's CatchMost.
-/
import Derived.Test.YtakphmcelhbaiacChaseD
namespace Go.Proofs.Ytakphmcelhbaiac
open Go.RowKit
set_option linter.unusedVariables false

end Go.Proofs.Ytakphmcelhbaiac

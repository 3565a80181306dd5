
/-
  Chases: the model's CatchMost.
-/
import Derived.Test.YtakphmcelhbaiabChaseD
namespace Go.Proofs.Ytakphmcelhbaiab
open Go.RowKit
set_option linter.unusedVariables false

end Go.Proofs.Ytakphmcelhbaiab

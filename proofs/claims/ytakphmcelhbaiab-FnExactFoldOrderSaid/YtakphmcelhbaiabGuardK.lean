
/-
  Guards: the model's ValidSmall.
-/
import Derived.Test.YtakphmcelhbaiabGuardD
namespace Go.Proofs.Ytakphmcelhbaiab
open Go.RowKit
set_option linter.unusedVariables false

end Go.Proofs.Ytakphmcelhbaiab


/-
  The model's queens: EndsOf.
-/
import Derived.Test.YtlccohoblplddadQueenB
namespace Go.Proofs.Ytlccohoblplddad
open Go.RowKit
set_option linter.unusedVariables false

end Go.Proofs.Ytlccohoblplddad

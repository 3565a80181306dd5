
/-
  Words of chapter 3's laws: lists of lists that are alike.
-/
import Derived.Test.YtlccohoblplddadQueenG
namespace Go.Proofs.Ytlccohoblplddad
open Go.RowKit
set_option linter.unusedVariables false

end Go.Proofs.Ytlccohoblplddad

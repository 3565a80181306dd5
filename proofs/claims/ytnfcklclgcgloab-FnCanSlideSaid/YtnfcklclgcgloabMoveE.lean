
/-
  Boards: hasAscending.
-/
import Derived.Test.YtnfcklclgcgloabMoveC
namespace Go.Proofs.Ytnfcklclgcgloab
open Go.RowKit
set_option linter.unusedVariables false

end Go.Proofs.Ytnfcklclgcgloab


/-
  Boards: hasAscending.
-/
import Derived.Test.YtdjkdjnbmhpokabMoveC
namespace Go.Proofs.Ytdjkdjnbmhpokab
open Go.RowKit
set_option linter.unusedVariables false

end Go.Proofs.Ytdjkdjnbmhpokab


/-
  ValidKind, ReachOf and AllMoves of the program.
-/
import Derived.Test.YtdjkdjnbmhpokabMoveE
import Derived.Test.YtdjkdjnbmhpokabMoveG
namespace Go.Proofs.Ytdjkdjnbmhpokab
open Go.RowKit
set_option linter.unusedVariables false

end Go.Proofs.Ytdjkdjnbmhpokab

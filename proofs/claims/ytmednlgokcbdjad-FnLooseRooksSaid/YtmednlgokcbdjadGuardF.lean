
/-
  Guards: the model's FewestFull.
-/
import Derived.Test.YtmednlgokcbdjadGuardE
namespace Go.Proofs.Ytmednlgokcbdjad
open Go.RowKit
set_option linter.unusedVariables false

end Go.Proofs.Ytmednlgokcbdjad

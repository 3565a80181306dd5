
/-
  Guards: the model's FewestFull.
-/
import Derived.Test.YtmednlgokcbdjaaGuardE
namespace Go.Proofs.Ytmednlgokcbdjaa
open Go.RowKit
set_option linter.unusedVariables false

end Go.Proofs.Ytmednlgokcbdjaa

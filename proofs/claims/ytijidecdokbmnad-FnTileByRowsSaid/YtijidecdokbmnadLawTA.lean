
/-
  The walk of the law FnTileCount, whatever the program's contracts are proved by.
-/
import Derived.Test.YtijidecdokbmnadDrawT
import Derived.Test.YtijidecdokbmnadTileO
import Derived.Test.YtijidecdokbmnadCodeWords
namespace Go.Proofs.Ytijidecdokbmnad
open Go.RowKit
set_option linter.unusedVariables false

/-- What a function of a board with holes answers. -/
def HoleFn (f : Nat) : Prop := ∀ (bc br : Int) (A : Option Addr) (c : Nat) (hs : List Int) (W : World), Row W A (ints hs) → hs.length ≤ maxLen → Calls Try.prog f #[.int .i64 bc, .int .i64 br, .slice A hs.length c] W (Plain (.int .i64 (coversP bc br hs)) W)

end Go.Proofs.Ytijidecdokbmnad

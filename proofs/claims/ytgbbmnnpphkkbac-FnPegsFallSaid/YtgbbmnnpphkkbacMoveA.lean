
/-
  Steps of pieces: the lists that the program lays, Grow and Concat over them, and pieceOf.
-/
import Derived.Test.YtgbbmnnpphkkbacBase
import Derived.Test.YtgbbmnnpphkkbacProg
import Derived.RegionTactic
import Derived.Deep.QuietTactic
import Derived.BigQuiet
import Derived.ProofKit
import Derived.Handy
namespace Go.Proofs.Ytgbbmnnpphkkbac
open Go.RowKit

set_option maxHeartbeats 400000 in
theorem straight_c (w : World) : Calls Try.prog 47 #[] w fun e w' => e = .returned (.slice (some ⟨w.heap.size, 0, none⟩) 4 4) ∧
    w' = w.alloc (.cells #[.int .i64 (-1), .int .i64 0, .int .i64 0, .int .i64 (-1), .int .i64 0, .int .i64 1, .int .i64 1, .int .i64 0] 69) := by
  go_enter Try.func47, Try.ntmps47
  go_wp2
  go_ret
  exact ⟨rfl, rfl⟩
theorem elem_step : Elem Try.prog 69 2 16 := Elem.of (z := .agg #[.int .i64 0, .int .i64 0]) (by kernel_rfl) rfl (by omega)

end Go.Proofs.Ytgbbmnnpphkkbac

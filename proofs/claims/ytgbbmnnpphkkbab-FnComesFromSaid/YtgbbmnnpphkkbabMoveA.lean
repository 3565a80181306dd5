
/-
  Steps of pieces: the lists that the program lays, Grow and Concat over them, and pieceOf.
-/
import Derived.Test.YtgbbmnnpphkkbabBase
import Derived.Test.YtgbbmnnpphkkbabProg
import Derived.RegionTactic
import Derived.Deep.QuietTactic
import Derived.BigQuiet
import Derived.ProofKit
import Derived.Handy
namespace Go.Proofs.Ytgbbmnnpphkkbab
open Go.RowKit

set_option maxHeartbeats 400000 in
theorem straight_c (w : World) : Calls Try.prog 51 #[] w fun e w' => e = .returned (.slice (some ⟨w.heap.size, 0, none⟩) 4 4) ∧
    w' = w.alloc (.cells #[.int .i64 (-1), .int .i64 0, .int .i64 0, .int .i64 (-1), .int .i64 0, .int .i64 1, .int .i64 1, .int .i64 0] 70) := by
  go_enter Try.func51, Try.ntmps51
  go_wp2
  go_ret
  exact ⟨rfl, rfl⟩
theorem elem_step : Elem Try.prog 70 2 16 := Elem.of (z := .agg #[.int .i64 0, .int .i64 0]) (by kernel_rfl) rfl (by omega)

end Go.Proofs.Ytgbbmnnpphkkbab

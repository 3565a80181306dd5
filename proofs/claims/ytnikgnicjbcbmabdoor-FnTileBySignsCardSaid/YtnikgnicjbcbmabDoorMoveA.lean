
/-
  Steps of pieces: the lists that the program lays, Grow and Concat over them, and pieceOf.
-/
import Derived.Test.YtnikgnicjbcbmabDoorBase
import Derived.Test.YtnikgnicjbcbmabDoorProg
import Derived.RegionTactic
import Derived.Deep.QuietTactic
import Derived.BigQuiet
import Derived.ProofKit
import Derived.Handy
namespace Go.Proofs.YtnikgnicjbcbmabDoor
open Go.RowKit

set_option maxHeartbeats 400000 in
theorem straight_c (w : World) : Calls Tryd.prog 27 #[] w fun e w' => e = .returned (.slice (some ⟨w.heap.size, 0, none⟩) 4 4) ∧
    w' = w.alloc (.cells #[.int .i64 (-1), .int .i64 0, .int .i64 0, .int .i64 (-1), .int .i64 0, .int .i64 1, .int .i64 1, .int .i64 0] 71) := by
  go_enter Tryd.func27, Tryd.ntmps27
  go_wp2
  go_ret
  exact ⟨rfl, rfl⟩
theorem elem_step : Elem Tryd.prog 71 2 16 := Elem.of (z := .agg #[.int .i64 0, .int .i64 0]) (by kernel_rfl) rfl (by omega)

end Go.Proofs.YtnikgnicjbcbmabDoor

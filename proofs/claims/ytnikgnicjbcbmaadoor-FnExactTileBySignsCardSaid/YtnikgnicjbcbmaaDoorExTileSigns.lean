
/-
  The walk of the law FnExactTileBySigns, whatever the program's contract is proved by.
-/
import Derived.Test.YtnikgnicjbcbmaaDoorTileY
import Derived.Test.YtnikgnicjbcbmaaDoorOwnWords
namespace Go.Proofs.YtnikgnicjbcbmaaDoor
open Go.RowKit
set_option linter.unusedVariables false

set_option maxHeartbeats 2000000 in
set_option maxRecDepth 100000 in
theorem exactTileBySigns_w (T : World → Prop) (hTb : ∀ w w', T w → Below w.heap.size w w' → T w')
    (HI : ∀ (bc br : Int) (W : World), T W → Calls Tryd.prog 11 #[.int .i64 bc, .int .i64 br] W (Plain (.int .i64 (signsP bc br)) W))
    (bc br : Int) (w : World) (hT : T w) :
    Calls Tryd.prog 5 #[.int .i64 bc, .int .i64 br] w (Plain (.bool true) w) := by
  have HS := hide (fun (w5 : World) => tileBySigns_c bc br w5)
  have HI2 := hide (fun (w5 : World) (t5 : T w5) => HI bc br w5 t5)
  have HT := hide (fun w5 (h5 : Below w.heap.size w w5) => hTb w w5 hT h5)
  generalize signsP bc br = X at *
  have hXX : (X != X) = false := by simp
  clear HI hTb hT
  go_enter Tryd.func5, Tryd.ntmps5
  go_wp2_with fail
  refine (HS.out _).mono ?_
  rintro e w2 ⟨rfl, b2⟩
  go_wp2_with fail
  refine (HI2.out _ (HT.out _ b2)).mono ?_
  rintro e w4 ⟨rfl, b4⟩
  have b4 := below_then b2 b2.size b4
  go_wp2_with fail
  go_ret
  exact ⟨rfl, b4⟩
end Go.Proofs.YtnikgnicjbcbmaaDoor

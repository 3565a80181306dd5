/-
  LawTA, LawTB in one text.
-/
import Derived.Test.YtnikgnicjbcbmabDoorDrawM
import Derived.Test.YtnikgnicjbcbmabDoorTileO
import Derived.Test.YtnikgnicjbcbmabDoorTileY
/-
  The walk of the law FnTileCount, whatever the program's contracts are proved by.
-/
namespace Go.Proofs.YtnikgnicjbcbmabDoor
open Go.RowKit
set_option linter.unusedVariables false

/-- What a function of a board with holes answers. -/
def HoleFn (f : Nat) : Prop := ∀ (bc br : Int) (A : Option Addr) (c : Nat) (hs : List Int) (W : World), Row W A (ints hs) → hs.length ≤ maxLen → Calls Tryd.prog f #[.int .i64 bc, .int .i64 br, .slice A hs.length c] W (Plain (.int .i64 (coversP bc br hs)) W)

/-- The same in worlds of which T holds. -/
def HoleFnT (T : World → Prop) (f : Nat) : Prop := ∀ (bc br : Int) (A : Option Addr) (c : Nat) (hs : List Int) (W : World), T W → Row W A (ints hs) → hs.length ≤ maxLen → Calls Tryd.prog f #[.int .i64 bc, .int .i64 br, .slice A hs.length c] W (Plain (.int .i64 (coversP bc br hs)) W)

end Go.Proofs.YtnikgnicjbcbmabDoor

/-
  The walk of the law FnTileBySigns, whatever the program's contracts are proved by.
-/
namespace Go.Proofs.YtnikgnicjbcbmabDoor
open Go.RowKit
set_option linter.unusedVariables false

/-- What a function of a board answers. -/
def SideFn (T : World → Prop) (f : Nat) : Prop := ∀ (bc br : Int) (W : World), T W → Calls Tryd.prog f #[.int .i64 bc, .int .i64 br] W (Plain (.int .i64 (signsP bc br)) W)
theorem covers_none {bc br : Int} (h : Brd bc br) : coversP bc br [] = signsP bc br := by
  have hH : Holes bc br [] := ⟨h, fun i hi => absurd hi (by simp)⟩
  unfold coversP signsP
  rw [if_pos hH, if_pos h, show inL [] = fun _ => false from funext fun i => rfl, tile_rows ⟨by have := h.1; omega, by have := h.2.1; omega⟩]
theorem signs_turn {bc br : Int} (h : Brd bc br) : signsP br bc = signsP bc br := by
  unfold signsP
  rw [if_pos h, if_pos ⟨h.2.2.1, h.2.2.2, h.1, h.2.1⟩]
  obtain ⟨h1, h2, h3, h4⟩ := h
  have := (signs_is (w := bc.toNat) (h := br.toNat) ⟨by omega, by omega⟩ ⟨by omega, by omega⟩).turn
  rw [this]
theorem signs_bd {bc br : Int} (h : Brd bc br) : 0 ≤ signsP bc br ∧ signsP bc br ≤ 1000000 := by
  unfold signsP
  rw [if_pos h]
  obtain ⟨h1, h2, h3, h4⟩ := h
  have := (signs_is (w := bc.toNat) (h := br.toNat) ⟨by omega, by omega⟩ ⟨by omega, by omega⟩).bd
  omega

set_option maxHeartbeats 1000000 in
set_option maxRecDepth 100000 in
theorem tileBySigns_w (T : World → Prop) (hTb : ∀ w w', T w → Below w.heap.size w w' → T w') (HI : SideFn T 6) (HJ : HoleFn 8) (A : Option Addr) (n c : Nat) (w : World) (hT : T w) (h : Code w A n c) : Calls Tryd.prog 3 #[.slice A n c] w (Plain (.bool true) w) := by
  by_cases hl : 1048576 < (n : Int)
  · go_enter Tryd.func3, Tryd.ntmps3
    go_wp2
    go_ret
    exact ⟨rfl, Below.refl _ _⟩
  · have HC := hide (drawTileBySigns_c A n c w h)
    clear h
    have HII := hide HI
    have HJJ := hide HJ
    have HTT := hide (fun w5 (h5 : Below w.heap.size w w5) => hTb w w5 hT h5)
    clear HI HJ hTb hT
    go_enter Tryd.func3, Tryd.ntmps3
    go_wp2_with fail
    refine HC.out.mono ?_
    rintro e w1 ⟨bc, br, rfl, hx, hy, b1⟩
    have HIs := hide (fun (w5 : World) (h5 : Below w.heap.size w w5) => HII.out bc br w5 (HTT.out _ h5))
    have HSs := hide (fun (w5 : World) => tileBySigns_c bc br w5)
    by_cases hB : Brd bc br
    · have HJs := hide (fun (w5 : World) => HJJ.out bc br none 0 [] w5 (Row.empty _ _) (by simp [maxLen]))
      have HTs := hide (fun (w5 : World) (h5 : Below w.heap.size w w5) => HII.out br bc w5 (HTT.out _ h5))
      rw [covers_none hB] at HJs
      rw [signs_turn hB] at HTs
      obtain ⟨x1, x2⟩ := signs_bd hB
      clear hB
      generalize signsP bc br = X at *
      have hXX : (X != X) = false := by simp
      go_wp2_with fail
      refine (HIs.out _ b1).mono ?_
      rintro e w2 ⟨rfl, b2⟩
      have b2 := below_then b1 b1.size b2
      go_wp2_with fail
      refine (HSs.out _).mono ?_
      rintro e w3 ⟨rfl, b3⟩
      have b3 := below_then b2 b2.size b3
      go_wp2_with fail
      refine (HJs.out _).mono ?_
      rintro e w4 ⟨rfl, b4⟩
      have b4 := below_then b3 b3.size b4
      go_wp2_with fail
      refine (HTs.out _ b4).mono ?_
      rintro e w5 ⟨rfl, b5⟩
      have b5 := below_then b4 b4.size b5
      go_wp2_with fail
      go_ret
      exact ⟨rfl, b5⟩
    · have hX : signsP bc br = -1 := by unfold signsP; rw [if_neg hB]
      rw [hX] at HIs HSs
      clear hX hB
      go_wp2_with fail
      refine (HIs.out _ b1).mono ?_
      rintro e w2 ⟨rfl, b2⟩
      have b2 := below_then b1 b1.size b2
      go_wp2_with fail
      refine (HSs.out _).mono ?_
      rintro e w3 ⟨rfl, b3⟩
      have b3 := below_then b2 b2.size b3
      go_wp2_with fail
      refine (HSs.out _).mono ?_
      rintro e w4 ⟨rfl, b4⟩
      have b4 := below_then b3 b3.size b4
      go_wp2_with fail
      go_ret
      exact ⟨rfl, b4⟩
end Go.Proofs.YtnikgnicjbcbmabDoor

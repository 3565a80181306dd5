
/-
  The program's TileCount.
-/
import Derived.Test.YtnikgnicjbcbmabDoorPTileD
import Derived.Test.YtnikgnicjbcbmabDoorPTileE
namespace Go.Proofs.YtnikgnicjbcbmabDoor
open Go.RowKit
set_option linter.unusedVariables false

theorem tilesOf_no (bc br : Int) (A : Option Addr) (c : Nat) (hs : List Int) (W : World) (hr : Row W A (ints hs)) (hm : hs.length ≤ maxLen) (hn : ¬ Holes bc br hs) :
    Calls Tryd.prog 19 #[.int .i64 bc, .int .i64 br, .slice A hs.length c] W (Plain (.tuple #[boardV 0 0, .int .i64 0, .bool false]) W) := by
  by_cases hB : Brd bc br
  · exact tilesOf_no2 bc br A c hs W hr hm hB (fun h => hn ⟨hB, h⟩)
  · exact tilesOf_no1 bc br A c hs W hB
theorem asc_len {n : Nat} {l : List Int} (h : AscTo (n : Int) l l.length) : l.length ≤ n := by
  have := free_list l (asc_nodup h) (asc_mem h)
  omega

set_option maxHeartbeats 1000000 in
theorem implTileCount_c (bc br : Int) (A : Option Addr) (c : Nat) (hs : List Int) (W : World) (hT : Tab W) (hr : Row W A (ints hs)) (hm : hs.length ≤ maxLen) :
    Calls Tryd.prog 9 #[.int .i64 bc, .int .i64 br, .slice A hs.length c] W (Plain (.int .i64 (coversP bc br hs)) W) := by
  by_cases hH : Holes bc br hs
  · obtain ⟨⟨h1, h2, h3, h4⟩, ha⟩ := id hH
    obtain ⟨w, rfl⟩ := Int.eq_ofNat_of_zero_le (show 0 ≤ bc by omega)
    obtain ⟨h, rfl⟩ := Int.eq_ofNat_of_zero_le (show 0 ≤ br by omega)
    have hw : 1 ≤ w ∧ w ≤ 5 := ⟨by omega, by omega⟩
    have hh : 1 ≤ h ∧ h ≤ 5 := ⟨by omega, by omega⟩
    have h25 : w * h ≤ 25 := Nat.mul_le_mul hw.2 hh.2
    have ha' := ha
    rw [← Int.natCast_mul] at ha'
    have hX : coversP (w : Int) (h : Int) hs = ((covN w (w * h) (setOf (w * h) hs) : Nat) : Int) := by
      unfold coversP
      rw [if_pos hH, cov_set hw (fun x hx => (asc_mem ha x hx).1)]
      rfl
    have HT := hide (tilesOf_yes w h A c hs W hr hw hh ha (by have := asc_len ha'; omega))
    have HC := hide (fun w5 h5 => covers_c w h hw hh (setOf (w * h) hs) (setOf_lt _ _) w5 h5)
    have HTb := hide hT
    have bx0 := Box.new W 32 #[.int .i64 0, .int .i64 0]
    rw [hX]
    clear hX hH ha ha' hr hT h1 h2 h3 h4
    generalize covN w (w * h) (setOf (w * h) hs) = X at *
    generalize setOf (w * h) hs = S at *
    go_enter Tryd.func9, Tryd.ntmps9
    go_wp2_with fail
    refine HT.out.mono ?_
    rintro e w1 ⟨rfl, b1⟩
    go_wp2_with fail
    refine (HC.out _ ((HTb.out.below b1).below ((Below.refl _ _).alloc (Nat.le_refl _) _))).mono ?_
    rintro e w2 ⟨rfl, b2⟩
    go_wp2_with fail
    go_ret
    exact ⟨rfl, below_then (b1.alloc b1.size _) (by have := b1.size; simp; omega) b2⟩
  · have HT := hide (tilesOf_no bc br A c hs W hr hm hH)
    have hX : coversP bc br hs = -1 := by unfold coversP; rw [if_neg hH]
    rw [hX]
    clear hX hH hr hT
    go_enter Tryd.func9, Tryd.ntmps9
    go_wp2_with fail
    refine HT.out.mono ?_
    rintro e w1 ⟨rfl, b1⟩
    go_wp2_with fail
    go_ret
    exact ⟨rfl, b1.alloc b1.size _⟩
end Go.Proofs.YtnikgnicjbcbmabDoor

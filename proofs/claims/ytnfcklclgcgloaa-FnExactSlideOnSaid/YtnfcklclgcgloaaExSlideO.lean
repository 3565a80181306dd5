
/-
  The walk of the law FnExactSlideOn.
-/
import Derived.Test.YtnfcklclgcgloaaPSlideC
import Derived.Test.YtnfcklclgcgloaaOwnWords
namespace Go.Proofs.Ytnfcklclgcgloaa
open Go.RowKit
set_option linter.unusedVariables false

theorem slideOn_len (bc br : Int) (l : List Int) (cell : Int) : ((slideOnP bc br l cell).getD []).length ≤ 1000 := by
  unfold slideOnP
  split
  · rename_i h
    rw [Option.getD_some, swapP_len]
    have := h.1.ord.1
    omega
  · simp

set_option maxHeartbeats 2000000 in
set_option maxRecDepth 100000 in
theorem exactSlideOn_w (bc br : Int) (A : Option Addr) (c : Nat) (l : List Int) (cell : Int) (w : World) (hr : Row w A (ints l)) (hm : l.length ≤ maxLen) :
    Calls Try.prog 4 #[.int .i64 bc, .int .i64 br, .slice A l.length c, .int .i64 cell] w (Plain (.bool true) w) := by
  unfold maxLen at hm
  by_cases hl : 1048576 < (l.length : Int)
  · go_enter Try.func4, Try.ntmps4
    go_wp2
    go_ret
    exact ⟨rfl, Below.refl _ _⟩
  · have hl' : l.length ≤ 1048576 := by omega
    have hlm : l.length ≤ maxLen := by unfold maxLen; omega
    have HLM := hide hlm
    clear hlm
    have hL := slideOn_len bc br l cell
    have HS := hide (fun (A : Option Addr) (c : Nat) (w5 : World) (h5 : Row w5 A (ints l)) (h6 : l.length ≤ c) (h7 : c ≤ maxLen) => specSlideOn_c bc br A c l cell w5 h5 h6 h7)
    have HI2 := hide (fun (A : Option Addr) (c : Nat) (w5 : World) (h5 : Row w5 A (ints l)) => implSlideOn_c bc br A c l cell w5 h5 HLM.out)
    unfold SlidIs at HS HI2
    generalize (slideOnP bc br l cell).isSome = B at *
    generalize (slideOnP bc br l cell).getD [] = L at *
    have hBB : (B != B) = false := by simp
    go_enter Try.func4, Try.ntmps4
    go_wp2_with fail
    refine (toIntS_c _ l _ _ hr hl').mono ?_
    rintro e w1 ⟨v1, rfl, o1, b1⟩
    obtain ⟨A1, c1, rfl, q1, q2, _⟩ := own_row o1
    have HS1 := hide (fun w5 (h5 : Row w5 A1 (ints l)) => HS.out A1 c1 w5 h5 q1 q2)
    clear q1 q2
    go_wp2_with fail
    refine (HS1.out _ (own_reads o1)).mono ?_
    rintro e w2 ⟨v2, rfl, o2, b2⟩
    have b2 := below_then b1 b1.size b2
    obtain ⟨A2, c2, rfl, _⟩ := own_row o2
    go_wp2_with fail
    refine (toIntS_c _ l _ _ (hr.below b2) hl').mono ?_
    rintro e w3 ⟨v3, rfl, o3, b3⟩
    have i2 := own_lt o2
    have z23 := b3.size
    have o2 := own_below o2 b3
    have b3 := below_then b2 b2.size b3
    obtain ⟨A3, c3, rfl, _⟩ := own_row o3
    go_wp2_with fail
    refine (HI2.out A3 c3 _ (own_reads o3)).mono ?_
    rintro e w4 ⟨v4, rfl, o4, b4⟩
    have i3 := own_lt o3
    have o2 := own_below o2 b4
    have o3 := own_below o3 b4
    have z4 := b4.size
    have z3 := b3.size
    have b4 := below_then b3 b3.size b4
    obtain ⟨A4, c4, rfl, _⟩ := own_row o4
    go_wp2_with fail
    refine (eqIntS_t _ _ _ _ _ _ L L _ rfl rfl (own_reads o4) (own_reads o2) (by unfold maxLen; omega) rfl).mono ?_
    rintro e w5 ⟨rfl, b5⟩
    have o2 := own_below o2 b5
    have o3 := own_below o3 b5
    have o4 := own_below o4 b5
    have b5 := below_then b4 b4.size b5
    go_wp2_with fail
    refine (toIntS_c _ l _ _ (hr.below b5) hl').mono ?_
    rintro e w6 ⟨v6, rfl, o6, b6⟩
    have o2 := own_below o2 b6
    have o3 := own_below o3 b6
    have o4 := own_below o4 b6
    have b6 := below_then b5 b5.size b6
    obtain ⟨A6, c6, rfl, _⟩ := own_row o6
    go_wp2_with fail
    refine (eqIntS_t _ _ _ _ _ _ l l _ rfl rfl (own_reads o3) (own_reads o6) HLM.out rfl).mono ?_
    rintro e w7 ⟨rfl, b7⟩
    have o2 := own_below o2 b7
    have o3 := own_below o3 b7
    have o4 := own_below o4 b7
    have b7 := below_then b6 b6.size b7
    clear o6
    go_wp2_with fail
    refine (markIntS_c _ _ 1 l _ o3 hl' (by omega) (by omega)).mono ?_
    rintro e w8 ⟨rfl, o3', g8⟩
    have o2' := own_other o2 i2 o3 (Nat.le_refl _) g8
    have o4' := own_other' o4 i3 (Nat.le_refl _) g8
    have b8 := below_grown b7 b7.size o3 (by have := b2.size; omega) g8
    clear o2 o3 o4 o3' g8
    go_wp2_with fail
    refine (eqIntS_t _ _ _ _ _ _ L L _ rfl rfl (own_reads o4') (own_reads o2') (by unfold maxLen; omega) rfl).mono ?_
    rintro e w9 ⟨rfl, b9⟩
    have o2 := own_below o2' b9
    have o4 := own_below o4' b9
    have b9 := below_then b8 b8.size b9
    clear o2' o4'
    go_wp2_with fail
    refine (markIntS_c _ _ 1 L _ o4 (by omega) (by omega) (by omega)).mono ?_
    rintro e w10 ⟨rfl, o4', g10⟩
    have o2' := own_other o2 i2 o4 z23 g10
    have b10 := below_grown b9 b9.size o4 (by omega) g10
    clear o2 o4 g10
    go_wp2_with fail
    refine (heldIntS_c _ 1 _ _ _ (own_reads o4') (by omega) (by omega) (by omega)).mono ?_
    rintro e w11 ⟨rfl, b11⟩
    have o2 := own_below o2' b11
    have o4 := own_below o4' b11
    have b11 := below_then b10 b10.size b11
    clear o2' o4'
    have hqm : ((1 : Int) + (L.length : Int) != 1 + (L.length : Int)) = false := by simp
    go_wp2_with fail
    refine (toIntS_c _ l _ _ (hr.below b11) hl').mono ?_
    rintro e w12 ⟨v12, rfl, o12, b12⟩
    have o2 := own_below o2 b12
    have o4 := own_below o4 b12
    have b12 := below_then b11 b11.size b12
    obtain ⟨A12, c12, rfl, _⟩ := own_row o12
    go_wp2_with fail
    refine (HI2.out A12 c12 _ (own_reads o12)).mono ?_
    rintro e w13 ⟨v13, rfl, o13, b13⟩
    have o2 := own_below o2 b13
    have o4 := own_below o4 b13
    have b13 := below_then b12 b12.size b13
    obtain ⟨A13, c13, rfl, _⟩ := own_row o13
    go_wp2_with fail
    refine (eqIntS_t _ _ _ _ _ _ L L _ rfl rfl (own_reads o13) (own_reads o2) (by unfold maxLen; omega) rfl).mono ?_
    rintro e w14 ⟨rfl, b14⟩
    have o4 := own_below o4 b14
    have b14 := below_then b13 b13.size b14
    go_wp2_with fail
    refine (heldIntS_c _ 1 _ _ _ (own_reads o4) (by omega) (by omega) (by omega)).mono ?_
    rintro e w15 ⟨rfl, b15⟩
    have b15 := below_then b14 b14.size b15
    go_wp2_with fail
    go_ret
    exact ⟨rfl, b15⟩
end Go.Proofs.Ytnfcklclgcgloaa

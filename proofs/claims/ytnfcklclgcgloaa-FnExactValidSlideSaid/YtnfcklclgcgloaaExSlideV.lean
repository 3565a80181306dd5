
/-
  The walk of the law FnExactValidSlide.
-/
import Derived.Test.YtnfcklclgcgloaaPSlideC
import Derived.Test.YtnfcklclgcgloaaOwnWords
namespace Go.Proofs.Ytnfcklclgcgloaa
open Go.RowKit
set_option linter.unusedVariables false

set_option maxHeartbeats 2000000 in
set_option maxRecDepth 100000 in
theorem exactValidSlide_w (bc br : Int) (A : Option Addr) (c : Nat) (l : List Int) (w : World) (hr : Row w A (ints l)) (hm : l.length ≤ maxLen) :
    Calls Try.prog 3 #[.int .i64 bc, .int .i64 br, .slice A l.length c] w (Plain (.bool true) w) := by
  unfold maxLen at hm
  by_cases hl : 1048576 < (l.length : Int)
  · go_enter Try.func3, Try.ntmps3
    go_wp2
    go_ret
    exact ⟨rfl, Below.refl _ _⟩
  · have hl' : l.length ≤ 1048576 := by omega
    have hlm : l.length ≤ maxLen := by unfold maxLen; omega
    have HLM := hide hlm
    clear hlm
    have HS := hide (fun (A : Option Addr) (c : Nat) (w5 : World) (h5 : Row w5 A (ints l)) (h6 : l.length ≤ c) (h7 : c ≤ maxLen) => specValidSlide_c bc br A c l w5 h5 h6 h7)
    have HI2 := hide (fun (A : Option Addr) (c : Nat) (w5 : World) (h5 : Row w5 A (ints l)) => implValidSlide_c bc br A c l w5 h5 HLM.out)
    generalize decide (SlideIs bc br l) = X at *
    have hXX : (X != X) = false := by simp
    go_enter Try.func3, Try.ntmps3
    go_wp2_with fail
    refine (toIntS_c _ l _ _ hr hl').mono ?_
    rintro e w1 ⟨v1, rfl, o1, b1⟩
    obtain ⟨A1, c1, rfl, q1, q2, _⟩ := own_row o1
    have HS1 := hide (fun w5 (h5 : Row w5 A1 (ints l)) => HS.out A1 c1 w5 h5 q1 q2)
    clear q1 q2
    go_wp2_with fail
    refine (HS1.out _ (own_reads o1)).mono ?_
    rintro e w2 ⟨rfl, b2⟩
    have b2 := below_then b1 b1.size b2
    go_wp2_with fail
    refine (toIntS_c _ l _ _ (hr.below b2) hl').mono ?_
    rintro e w3 ⟨v3, rfl, o3, b3⟩
    have b3 := below_then b2 b2.size b3
    obtain ⟨A3, c3, rfl, _⟩ := own_row o3
    go_wp2_with fail
    refine (HI2.out A3 c3 _ (own_reads o3)).mono ?_
    rintro e w4 ⟨rfl, b4⟩
    have o3 := own_below o3 b4
    have b4 := below_then b3 b3.size b4
    go_wp2_with fail
    refine (toIntS_c _ l _ _ (hr.below b4) hl').mono ?_
    rintro e w5 ⟨v5, rfl, o5, b5⟩
    have o3 := own_below o3 b5
    have b5 := below_then b4 b4.size b5
    obtain ⟨A5, c5, rfl, _⟩ := own_row o5
    go_wp2_with fail
    refine (eqIntS_t _ _ _ _ _ _ l l _ rfl rfl (own_reads o3) (own_reads o5) HLM.out rfl).mono ?_
    rintro e w6 ⟨rfl, b6⟩
    have b6 := below_then b5 b5.size b6
    go_wp2_with fail
    go_ret
    exact ⟨rfl, b6⟩
end Go.Proofs.Ytnfcklclgcgloaa

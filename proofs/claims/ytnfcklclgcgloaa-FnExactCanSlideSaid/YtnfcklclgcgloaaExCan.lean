
/-
  The walk of the law FnExactCanSlide.
-/
import Derived.Test.YtnfcklclgcgloaaPSlideG
import Derived.Test.YtnfcklclgcgloaaOwnWords
namespace Go.Proofs.Ytnfcklclgcgloaa
open Go.RowKit
set_option linter.unusedVariables false

set_option maxHeartbeats 2000000 in
set_option maxRecDepth 100000 in
theorem exactCanSlide_w (bc br : Int) (A C : Option Addr) (c cc : Nat) (l k : List Int) (w : World) (hr : Row w A (ints l)) (hk : Row w C (ints k)) (hm : l.length ≤ maxLen) (hm2 : k.length ≤ maxLen) :
    Calls Try.prog 6 #[.int .i64 bc, .int .i64 br, .slice A l.length c, .slice C k.length cc] w (Plain (.bool true) w) := by
  unfold maxLen at hm hm2
  by_cases hl : 1048576 < (l.length : Int)
  · go_enter Try.func6, Try.ntmps6
    go_wp2
    go_ret
    exact ⟨rfl, Below.refl _ _⟩
  · by_cases hl2 : 1048576 < (k.length : Int)
    · go_enter Try.func6, Try.ntmps6
      go_wp2
      go_ret
      exact ⟨rfl, Below.refl _ _⟩
    · have hl' : l.length ≤ 1048576 := by omega
      have hk' : k.length ≤ 1048576 := by omega
      have HLM := hide (show l.length ≤ maxLen by unfold maxLen; omega)
      have HKM := hide (show k.length ≤ maxLen by unfold maxLen; omega)
      have HS := hide (fun (A C : Option Addr) (ca cc : Nat) (w5 : World) (h5 : Row w5 A (ints l)) (h6 : Row w5 C (ints k)) (q1 : l.length ≤ ca) (q2 : ca ≤ maxLen) (q3 : k.length ≤ cc) (q4 : cc ≤ maxLen) => specCanSlide_c bc br A C ca cc l k w5 h5 h6 q1 q2 q3 q4)
      have HI := hide (fun (A C : Option Addr) (ca cc : Nat) (w5 : World) (h5 : Row w5 A (ints l)) (h6 : Row w5 C (ints k)) => implCanSlide_c bc br A C ca cc l k w5 h5 h6 HLM.out HKM.out)
      generalize canSlideP bc br l k = X at *
      have hXX : (X != X) = false := by simp
      go_enter Try.func6, Try.ntmps6
      go_wp2_with fail
      refine (toIntS_c _ l _ _ hr hl').mono ?_
      rintro e w1 ⟨v1, rfl, o1, b1⟩
      go_wp2_with fail
      refine (toIntS_c _ k _ _ (hk.below b1) hk').mono ?_
      rintro e w2 ⟨v2, rfl, o2, b2⟩
      have o1 := own_below o1 b2
      have b2 := below_then b1 b1.size b2
      obtain ⟨A1, c1, rfl, q1, q2, _⟩ := own_row o1
      obtain ⟨A2, c2, rfl, q3, q4, _⟩ := own_row o2
      have HS1 := hide (HS.out A1 A2 c1 c2 _ (own_reads o1) (own_reads o2) q1 q2 q3 q4)
      clear q1 q2 q3 q4
      go_wp2_with fail
      refine HS1.out.mono ?_
      rintro e w3 ⟨rfl, b3⟩
      have b3 := below_then b2 b2.size b3
      clear o1 o2
      go_wp2_with fail
      refine (toIntS_c _ l _ _ (hr.below b3) hl').mono ?_
      rintro e w4 ⟨v4, rfl, o4, b4⟩
      have b4 := below_then b3 b3.size b4
      go_wp2_with fail
      refine (toIntS_c _ k _ _ (hk.below b4) hk').mono ?_
      rintro e w5 ⟨v5, rfl, o5, b5⟩
      have o4 := own_below o4 b5
      have b5 := below_then b4 b4.size b5
      obtain ⟨A4, c4, rfl, _⟩ := own_row o4
      obtain ⟨A5, c5, rfl, _⟩ := own_row o5
      go_wp2_with fail
      refine (HI.out A4 A5 c4 c5 _ (own_reads o4) (own_reads o5)).mono ?_
      rintro e w6 ⟨rfl, b6⟩
      have o4 := own_below o4 b6
      have o5 := own_below o5 b6
      have b6 := below_then b5 b5.size b6
      go_wp2_with fail
      refine (toIntS_c _ l _ _ (hr.below b6) hl').mono ?_
      rintro e w7 ⟨v7, rfl, o7, b7⟩
      have o4 := own_below o4 b7
      have o5 := own_below o5 b7
      have b7 := below_then b6 b6.size b7
      obtain ⟨A7, c7, rfl, _⟩ := own_row o7
      go_wp2_with fail
      refine (eqIntS_t _ _ _ _ _ _ l l _ rfl rfl (own_reads o4) (own_reads o7) HLM.out rfl).mono ?_
      rintro e w8 ⟨rfl, b8⟩
      have o5 := own_below o5 b8
      have b8 := below_then b7 b7.size b8
      go_wp2_with fail
      refine (toIntS_c _ k _ _ (hk.below b8) hk').mono ?_
      rintro e w9 ⟨v9, rfl, o9, b9⟩
      have o5 := own_below o5 b9
      have b9 := below_then b8 b8.size b9
      obtain ⟨A9, c9, rfl, _⟩ := own_row o9
      go_wp2_with fail
      refine (eqIntS_t _ _ _ _ _ _ k k _ rfl rfl (own_reads o5) (own_reads o9) HKM.out rfl).mono ?_
      rintro e w10 ⟨rfl, b10⟩
      have b10 := below_then b9 b9.size b10
      go_wp2_with fail
      go_ret
      exact ⟨rfl, b10⟩
end Go.Proofs.Ytnfcklclgcgloaa

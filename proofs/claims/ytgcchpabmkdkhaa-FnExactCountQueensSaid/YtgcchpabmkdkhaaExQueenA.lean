
/-
  The walks of the laws FnExactCanStand, FnExactCountQueens.
-/
import Derived.Test.YtgcchpabmkdkhaaPQueenB
namespace Go.Proofs.Ytgcchpabmkdkhaa
open Go.RowKit
set_option linter.unusedVariables false

set_option maxHeartbeats 1000000 in
theorem exactCanStand_w (n : Int) (A : Option Addr) (c : Nat) (l : List Int) (w : World) (hr : Row w A (ints l)) (hm : l.length ≤ maxLen) :
    Calls Try.prog 4 #[.int .i64 n, .slice A l.length c] w (Plain (.bool true) w) := by
  unfold maxLen at hm
  by_cases hl : 1048576 < (l.length : Int)
  · go_enter Try.func4, Try.ntmps4
    go_wp2
    go_ret
    exact ⟨rfl, Below.refl _ _⟩
  · have hl' : l.length ≤ 1048576 := by omega
    have HLM := hide (show l.length ≤ maxLen by unfold maxLen; omega)
    have HS := hide (fun (A : Option Addr) (c : Nat) (w5 : World) (h5 : Row w5 A (ints l)) (h6 : l.length ≤ c) (h7 : c ≤ maxLen) => specCanStand_c n A c l w5 h5 hl' h6 h7)
    have HI := hide (fun (A : Option Addr) (c : Nat) (w5 : World) (h5 : Row w5 A (ints l)) (h6 : l.length ≤ c) (h7 : c ≤ maxLen) => implCanStand_c n A c l w5 h5 hl' h6 h7)
    generalize decide (Can n l) = b at *
    go_enter Try.func4, Try.ntmps4
    go_wp2_with fail
    refine (toIntS_c _ l _ _ hr hl').mono ?_
    rintro e w1 ⟨v1, rfl, o1, b1⟩
    obtain ⟨A1, c1, rfl, k1, m1, _⟩ := own_row o1
    go_wp2_with fail
    refine (HS.out A1 c1 _ (own_reads o1) k1 m1).mono ?_
    rintro e w2 ⟨rfl, b2⟩
    have b2 := below_then b1 b1.size b2
    clear k1 m1
    go_wp2_with fail
    refine (toIntS_c _ l _ _ (hr.below b2) hl').mono ?_
    rintro e w3 ⟨v3, rfl, o3, b3⟩
    have b3 := below_then b2 b2.size b3
    obtain ⟨A3, c3, rfl, k3, m3, _⟩ := own_row o3
    go_wp2_with fail
    refine (HI.out A3 c3 _ (own_reads o3) k3 m3).mono ?_
    rintro e w4 ⟨rfl, rfl⟩
    clear k3 m3
    have hbb : (b != b) = false := by simp
    go_wp2_with fail
    refine (toIntS_c _ l _ _ (hr.below b3) hl').mono ?_
    rintro e w6 ⟨v6, rfl, o6, b6⟩
    have o3 := own_below o3 b6
    have b6 := below_then b3 b3.size b6
    obtain ⟨A6, c6, rfl, _⟩ := own_row o6
    go_wp2_with fail
    refine (eqIntS_t _ _ _ _ _ _ l l _ rfl rfl (own_reads o3) (own_reads o6) HLM.out rfl).mono ?_
    rintro e w7 ⟨rfl, b7⟩
    have b7 := below_then b6 b6.size b7
    go_wp2_with fail
    go_ret
    exact ⟨rfl, b7⟩
theorem exactCountQueens_w (n : Int) (w : World) : Calls Try.prog 5 #[.int .i64 n] w (Plain (.bool true) w) := by
  have HS := hide (specCountQueens_c n w)
  have HI := hide (implCountQueens_c n w)
  generalize countP n = v at *
  have hvv : (v != v) = false := by simp
  go_enter Try.func5, Try.ntmps5
  go_wp2_with fail
  refine HS.out.mono ?_
  rintro e w1 ⟨rfl, rfl⟩
  go_wp2_with fail
  refine HI.out.mono ?_
  rintro e w1 ⟨rfl, rfl⟩
  go_wp2_with fail
  go_ret
  exact ⟨rfl, Below.refl _ _⟩
end Go.Proofs.Ytgcchpabmkdkhaa

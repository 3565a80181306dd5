
/-
  The walks of the laws FnExactFirstImage, FnExactKindsOfQueens.
-/
import Derived.Test.YtgcchpabmkdkhabPKinds
import Derived.Test.YtgcchpabmkdkhabOwnWords
namespace Go.Proofs.Ytgcchpabmkdkhab
open Go.RowKit
set_option linter.unusedVariables false

theorem exactKinds_w (n : Int) (w : World) : Calls Try.prog 5 #[.int .i64 n] w (Plain (.bool true) w) := by
  have HS := hide (specKinds_c n w)
  have HI := hide (fun w5 => implKinds_c n w5)
  generalize kindsP n = v at *
  have hvv : (v != v) = false := by simp
  go_enter Try.func5, Try.ntmps5
  go_wp2_with fail
  refine HS.out.mono ?_
  rintro e w1 ⟨rfl, b1⟩
  go_wp2_with fail
  refine (HI.out _).mono ?_
  rintro e w2 ⟨rfl, b2⟩
  have b2 := below_then b1 b1.size b2
  go_wp2_with fail
  go_ret
  exact ⟨rfl, b2⟩
theorem firstP_bd (l : List Int) : (firstP l).length ≤ 1000 := by
  by_cases h : ImgOk l
  · have := firstP_len h; have := h.1.2; omega
  · unfold firstP; rw [if_neg h]; simp
set_option maxHeartbeats 2000000 in
set_option maxRecDepth 100000 in
theorem exactFirstImage_w (A : Option Addr) (c : Nat) (l : List Int) (w : World) (hr : Row w A (ints l)) (hm : l.length ≤ maxLen) :
    Calls Try.prog 4 #[.slice A l.length c] w (Plain (.bool true) w) := by
  unfold maxLen at hm
  by_cases hl : 1048576 < (l.length : Int)
  · go_enter Try.func4, Try.ntmps4
    go_wp2
    go_ret
    exact ⟨rfl, Below.refl _ _⟩
  · have hl' : l.length ≤ 1048576 := by omega
    have hlm : l.length ≤ maxLen := by unfold maxLen; omega
    have HLM := hide hlm
    clear hlm
    have hL := firstP_bd l
    have HS := hide (fun (A : Option Addr) (c : Nat) (w5 : World) (h5 : Row w5 A (ints l)) (h6 : l.length ≤ c) (h7 : c ≤ maxLen) => specFirstImage_c A c l w5 h5 hl' h6 h7)
    have HI := hide (fun (A : Option Addr) (c : Nat) (w5 : World) (h5 : Row w5 A (ints l)) => implFirstImage_c A c l w5 h5 hl')
    generalize firstP l = L at *
    go_enter Try.func4, Try.ntmps4
    go_wp2_with fail
    refine (toIntS_c _ l _ _ hr hl').mono ?_
    rintro e w1 ⟨v1, rfl, o1, b1⟩
    obtain ⟨A1, c1, rfl, k1, m1, _⟩ := own_row o1
    go_wp2_with fail
    refine (HS.out A1 c1 _ (own_reads o1) k1 m1).mono ?_
    rintro e w2 ⟨A2, c2, rfl, r2, _, b2⟩
    have R2 := hide (fun (w5 : World) (b5 : Below w2.heap.size w2 w5) => r2.below b5)
    have b2 := below_then b1 b1.size b2
    clear k1 m1 r2
    go_wp2_with fail
    refine (toIntS_c _ l _ _ (hr.below b2) hl').mono ?_
    rintro e w3 ⟨v3, rfl, o3, b3⟩
    have c3' := b3
    have z23 := b3.size
    have b3 := below_then b2 b2.size b3
    obtain ⟨A3, c3, rfl, _⟩ := own_row o3
    go_wp2_with fail
    refine (HI.out A3 c3 _ (own_reads o3)).mono ?_
    rintro e w4 ⟨v4, rfl, o4, b4⟩
    have c4' := below_then c3' c3'.size b4
    have i3 := own_lt o3
    have o3 := own_below o3 b4
    have z4 := b4.size
    have z3 := b3.size
    have b4 := below_then b3 b3.size b4
    obtain ⟨A4, c4, rfl, _⟩ := own_row o4
    go_wp2_with fail
    refine (eqIntS_t _ _ _ _ _ _ L L _ rfl rfl (own_reads o4) (R2.out _ c4') (by unfold maxLen; omega) rfl).mono ?_
    rintro e w5 ⟨rfl, b5⟩
    have c5' := below_then c4' c4'.size b5
    have o3 := own_below o3 b5
    have o4 := own_below o4 b5
    have b5 := below_then b4 b4.size b5
    clear c3' c4'
    go_wp2_with fail
    refine (toIntS_c _ l _ _ (hr.below b5) hl').mono ?_
    rintro e w6 ⟨v6, rfl, o6, b6⟩
    have c6' := below_then c5' c5'.size b6
    have o3 := own_below o3 b6
    have o4 := own_below o4 b6
    have b6 := below_then b5 b5.size b6
    obtain ⟨A6, c6, rfl, _⟩ := own_row o6
    clear c5'
    go_wp2_with fail
    refine (eqIntS_t _ _ _ _ _ _ l l _ rfl rfl (own_reads o3) (own_reads o6) HLM.out rfl).mono ?_
    rintro e w7 ⟨rfl, b7⟩
    have c7' := below_then c6' c6'.size b7
    have o3 := own_below o3 b7
    have o4 := own_below o4 b7
    have b7 := below_then b6 b6.size b7
    clear o6 c6'
    go_wp2_with fail
    refine (markIntS_c _ _ 1 l _ o3 hl' (by omega) (by omega)).mono ?_
    rintro e w8 ⟨rfl, o3', g8⟩
    have o4' := own_other' o4 i3 (Nat.le_refl _) g8
    have c8' := below_grown c7' c7'.size o3 (Nat.le_refl _) g8
    have b8 := below_grown b7 b7.size o3 (by have := b2.size; omega) g8
    clear o3 o4 o3' g8 c7'
    go_wp2_with fail
    refine (eqIntS_t _ _ _ _ _ _ L L _ rfl rfl (own_reads o4') (R2.out _ c8') (by unfold maxLen; omega) rfl).mono ?_
    rintro e w9 ⟨rfl, b9⟩
    have c9' := below_then c8' c8'.size b9
    have o4 := own_below o4' b9
    have b9 := below_then b8 b8.size b9
    clear o4' c8'
    go_wp2_with fail
    refine (markIntS_c _ _ 1 L _ o4 (by omega) (by omega) (by omega)).mono ?_
    rintro e w10 ⟨rfl, o4', g10⟩
    have c10' := below_grown c9' c9'.size o4 z23 g10
    have b10 := below_grown b9 b9.size o4 (by omega) g10
    clear o4 g10 c9'
    go_wp2_with fail
    refine (heldIntS_c _ 1 _ _ _ (own_reads o4') (by omega) (by omega) (by omega)).mono ?_
    rintro e w11 ⟨rfl, b11⟩
    have c11' := below_then c10' c10'.size b11
    have o4 := own_below o4' b11
    have b11 := below_then b10 b10.size b11
    clear o4' c10'
    have hqm : ((1 : Int) + (L.length : Int) != 1 + (L.length : Int)) = false := by simp
    go_wp2_with fail
    refine (toIntS_c _ l _ _ (hr.below b11) hl').mono ?_
    rintro e w12 ⟨v12, rfl, o12, b12⟩
    have c12' := below_then c11' c11'.size b12
    have o4 := own_below o4 b12
    have b12 := below_then b11 b11.size b12
    obtain ⟨A12, c12, rfl, _⟩ := own_row o12
    clear c11'
    go_wp2_with fail
    refine (HI.out A12 c12 _ (own_reads o12)).mono ?_
    rintro e w13 ⟨v13, rfl, o13, b13⟩
    have c13' := below_then c12' c12'.size b13
    have o4 := own_below o4 b13
    have b13 := below_then b12 b12.size b13
    obtain ⟨A13, c13, rfl, _⟩ := own_row o13
    clear c12'
    go_wp2_with fail
    refine (eqIntS_t _ _ _ _ _ _ L L _ rfl rfl (own_reads o13) (R2.out _ c13') (by unfold maxLen; omega) rfl).mono ?_
    rintro e w14 ⟨rfl, b14⟩
    have o4 := own_below o4 b14
    have b14 := below_then b13 b13.size b14
    clear c13'
    go_wp2_with fail
    refine (heldIntS_c _ 1 _ _ _ (own_reads o4) (by omega) (by omega) (by omega)).mono ?_
    rintro e w15 ⟨rfl, b15⟩
    have b15 := below_then b14 b14.size b15
    go_wp2_with fail
    go_ret
    exact ⟨rfl, b15⟩
end Go.Proofs.Ytgcchpabmkdkhab

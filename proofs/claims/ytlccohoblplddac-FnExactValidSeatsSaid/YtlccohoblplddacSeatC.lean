
/-
  The walks of the laws FnExactValidSeats and FnValidSeats.
-/
import Derived.Test.YtlccohoblplddacSeatB
import Derived.Test.YtlccohoblplddacOwnWords
import Derived.Test.YtlccohoblplddacCodeWords
namespace Go.Proofs.Ytlccohoblplddac
open Go.RowKit
set_option linter.unusedVariables false

theorem exactValidSeats_w (A : Option Addr) (c : Nat) (l : List Int) (w : World) (hr : Row w A (ints l)) (hm : l.length ≤ maxLen) :
    Calls Try.prog 4 #[.slice A l.length c] w (Plain (.bool true) w) := by
  unfold maxLen at hm
  by_cases hl : 1048576 < (l.length : Int)
  · go_enter Try.func4, Try.ntmps4
    go_wp2
    go_ret
    exact ⟨rfl, Below.refl _ _⟩
  · have hl' : l.length ≤ 1048576 := by omega
    have HLM := hide (show l.length ≤ maxLen by unfold maxLen; omega)
    have HS := hide (fun (A : Option Addr) (c : Nat) (w5 : World) (h5 : Row w5 A (ints l)) => specValidSeats_c A c l w5 h5 HLM.out)
    have HI := hide (fun (A : Option Addr) (c : Nat) (w5 : World) (h5 : Row w5 A (ints l)) => implValidSeats_c A c l w5 h5 HLM.out)
    generalize decide (Seats l) = b at *
    go_enter Try.func4, Try.ntmps4
    go_wp2_with fail
    refine (toIntS_c _ l _ _ hr hl').mono ?_
    rintro e w1 ⟨v1, rfl, o1, b1⟩
    obtain ⟨A1, c1, rfl, _⟩ := own_row o1
    go_wp2_with fail
    refine (HS.out A1 c1 _ (own_reads o1)).mono ?_
    rintro e w2 ⟨rfl, b2⟩
    have b2 := below_then b1 b1.size b2
    go_wp2_with fail
    refine (toIntS_c _ l _ _ (hr.below b2) hl').mono ?_
    rintro e w3 ⟨v3, rfl, o3, b3⟩
    have b3 := below_then b2 b2.size b3
    obtain ⟨A3, c3, rfl, _⟩ := own_row o3
    go_wp2_with fail
    refine (HI.out A3 c3 _ (own_reads o3)).mono ?_
    rintro e w4 ⟨rfl, b4⟩
    have o3 := own_below o3 b4
    have b4 := below_then b3 b3.size b4
    have hbb : (b != b) = false := by simp
    go_wp2_with fail
    refine (toIntS_c _ l _ _ (hr.below b4) hl').mono ?_
    rintro e w6 ⟨v6, rfl, o6, b6⟩
    have o3 := own_below o3 b6
    have b6 := below_then b4 b4.size b6
    obtain ⟨A6, c6, rfl, _⟩ := own_row o6
    go_wp2_with fail
    refine (eqIntS_t _ _ _ _ _ _ l l _ rfl rfl (own_reads o3) (own_reads o6) HLM.out rfl).mono ?_
    rintro e w7 ⟨rfl, b7⟩
    have b7 := below_then b6 b6.size b7
    go_wp2_with fail
    go_ret
    exact ⟨rfl, b7⟩

set_option maxHeartbeats 1000000 in
theorem validSeats_w (A : Option Addr) (n c : Nat) (w : World) (h : Code w A n c) : Calls Try.prog 5 #[.slice A n c] w (Plain (.bool true) w) := by
  by_cases hl : 1048576 < (n : Int)
  · go_enter Try.func5, Try.ntmps5
    go_wp2
    go_ret
    exact ⟨rfl, Below.refl _ _⟩
  · have HC := hide (drawValidSeats_c A n c w h)
    clear h
    go_enter Try.func5, Try.ntmps5
    go_wp2_with fail
    refine HC.out.mono ?_
    rintro e w1 ⟨v, l, rfl, o1, hl5, b1⟩
    obtain ⟨A1, c1, rfl, _⟩ := own_row o1
    have HLM := hide (show l.length ≤ maxLen by unfold maxLen; omega)
    have HS := hide (fun (A : Option Addr) (c : Nat) (w5 : World) (h5 : Row w5 A (ints l)) => specValidSeats_c A c l w5 h5 HLM.out)
    have HI := hide (fun (A : Option Addr) (c : Nat) (w5 : World) (h5 : Row w5 A (ints l)) => implValidSeats_c A c l w5 h5 HLM.out)
    by_cases hs : Seats l
    · have HR := hide (fun (A : Option Addr) (c : Nat) (w5 : World) (h5 : Row w5 A (ints l.reverse)) => implValidSeats_c A c l.reverse w5 h5 (by simpa using HLM.out))
      rw [decide_eq_true hs] at HS HI
      rw [decide_eq_true hs.reverse, List.length_reverse] at HR
      clear hs
      go_wp2_with fail
      refine (HI.out A1 c1 _ (own_reads o1)).mono ?_
      rintro e w2 ⟨rfl, b2⟩
      have o1 := own_below o1 b2
      have b2 := below_then b1 b1.size b2
      go_wp2_with fail
      refine (HS.out A1 c1 _ (own_reads o1)).mono ?_
      rintro e w3 ⟨rfl, b3⟩
      have o1 := own_below o1 b3
      have b3 := below_then b2 b2.size b3
      go_wp2_with fail
      refine (backwards_c A1 c1 l _ (own_reads o1) (by omega)).mono ?_
      rintro e w4 ⟨v4, rfl, o4, b4⟩
      have b4 := below_then b3 b3.size b4
      obtain ⟨A4, c4, rfl, _⟩ := own_row o4
      go_wp2_with fail
      refine (HR.out A4 c4 _ (own_reads o4)).mono ?_
      rintro e w5 ⟨rfl, b5⟩
      have b5 := below_then b4 b4.size b5
      go_wp2_with fail
      go_ret
      exact ⟨rfl, b5⟩
    · rw [decide_eq_false hs] at HS HI
      clear hs
      go_wp2_with fail
      refine (HI.out A1 c1 _ (own_reads o1)).mono ?_
      rintro e w2 ⟨rfl, b2⟩
      have o1 := own_below o1 b2
      have b2 := below_then b1 b1.size b2
      go_wp2_with fail
      refine (HS.out A1 c1 _ (own_reads o1)).mono ?_
      rintro e w3 ⟨rfl, b3⟩
      have o1 := own_below o1 b3
      have b3 := below_then b2 b2.size b3
      go_wp2_with fail
      refine (HS.out A1 c1 _ (own_reads o1)).mono ?_
      rintro e w4 ⟨rfl, b4⟩
      have b4 := below_then b3 b3.size b4
      go_wp2_with fail
      go_ret
      exact ⟨rfl, b4⟩
end Go.Proofs.Ytlccohoblplddac

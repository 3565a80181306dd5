
/-
  The walk of the law FnLightsOfRows.
-/
import Derived.Test.YtijidecdokbmnabLawLF
namespace Go.Proofs.Ytijidecdokbmnab
open Go.RowKit
set_option linter.unusedVariables false

def thirdOk (w : Nat) : Bool := (2 ^ (datL w 1).quiet.length == (if (w + 1) % 3 = 0 then 2 else 1)) && (2 ^ (datL 1 w).quiet.length == (if (w + 1) % 3 = 0 then 2 else 1))
theorem third_ok : ∀ a : Fin 5, thirdOk (a.val + 1) = true := by decide +kernel
set_option maxHeartbeats 2000000 in
set_option maxRecDepth 100000 in
theorem lightsOfRows_w (A : Option Addr) (n c : Nat) (w : World) (h : Code w A n c) : Calls Try.prog 5 #[.slice A n c] w (Plain (.bool true) w) := by
  by_cases hl : 1048576 < (n : Int)
  · go_enter Try.func5, Try.ntmps5
    go_wp2
    go_ret
    exact ⟨rfl, Below.refl _ _⟩
  · have HC := hide (drawQuietCount_c A n c w h)
    clear h
    have HI := hide (fun bc br w5 => implQuietCount_c bc br w5)
    have HS := hide (fun bc br w5 => specQuietCount_c bc br w5)
    go_enter Try.func5, Try.ntmps5
    go_wp2_with fail
    refine HC.out.mono ?_
    rintro e w1 ⟨bc, br, rfl, -, -, b1⟩
    have HI1 := hide (fun w5 => HI.out bc br w5)
    have HS1 := hide (fun w5 => HS.out bc br w5)
    by_cases hv : Lit12 bc br
    · obtain ⟨W, H, rfl, rfl, hw, hh, h12⟩ := lit12_nat hv
      clear hv
      have HI2 := hide (fun w5 => show Calls Try.prog _ #[.int .i64 (W : Int), .int .i64 1] w5 (Plain (.int .i64 (quietV (W : Int) ((1 : Nat) : Int))) w5) from HI.out (W : Int) 1 w5)
      have HI3 := hide (fun w5 => show Calls Try.prog _ #[.int .i64 1, .int .i64 (W : Int)] w5 (Plain (.int .i64 (quietV ((1 : Nat) : Int) (W : Int))) w5) from HI.out 1 (W : Int) w5)
      have ht := third_ok ⟨W - 1, by omega⟩
      simp only [show W - 1 + 1 = W by omega, thirdOk, Bool.and_eq_true, beq_iff_eq] at ht
      rw [quietV_nat hw hh h12] at HI1 HS1
      rw [quietV_nat hw ⟨by omega, by omega⟩ (by omega), ht.1] at HI2
      rw [quietV_nat ⟨by omega, by omega⟩ hw (by omega), ht.2] at HI3
      have t1 : Int.tmod ((W : Int) + 1) 3 = (((W + 1) % 3 : Nat) : Int) := by
        rw [show (W : Int) + 1 = ((W + 1 : Nat) : Int) by omega]
        exact Int.tmod_eq_emod_of_nonneg (Int.natCast_nonneg _)
      have q1 : 1 ≤ 2 ^ (datL W H).quiet.length := Nat.one_le_two_pow
      clear ht hh HI HS
      generalize 2 ^ (datL W H).quiet.length = P at *
      have hPP : ((P : Int) != (P : Int)) = false := by simp
      have hP0 : ¬ ((P : Int) < 0) := by omega
      by_cases h3 : (W + 1) % 3 = 0
      · simp only [h3, if_true] at HI2 HI3 t1
        have t1' : (((0 : Nat) : Int) == 0) = true := rfl
        clear h3
        go_wp2_with fail
        refine (HI1.out _).mono ?_
        rintro e w2 ⟨rfl, b2⟩
        have b2 := below_then b1 b1.size b2
        go_wp2_with fail
        refine (HS1.out _).mono ?_
        rintro e w3 ⟨rfl, b3⟩
        have b3 := below_then b2 b2.size b3
        go_wp2_with fail
        refine (HI1.out _).mono ?_
        rintro e w4 ⟨rfl, b4⟩
        have b4 := below_then b3 b3.size b4
        go_wp2_with fail
        refine (HI2.out _).mono ?_
        rintro e w5 ⟨rfl, b5⟩
        have b5 := below_then b4 b4.size b5
        go_wp2_with fail
        refine (HI3.out _).mono ?_
        rintro e w6 ⟨rfl, b6⟩
        have b6 := below_then b5 b5.size b6
        go_wp2_with fail
        go_ret
        exact ⟨rfl, b6⟩
      · simp only [h3, if_false] at HI2 HI3
        obtain ⟨r, hr⟩ : ∃ r, (W + 1) % 3 = r := ⟨_, rfl⟩
        rw [hr] at t1 h3
        have t1' : ((r : Int) == 0) = false := by rw [beq_eq_false_iff_ne]; omega
        clear h3 hr
        go_wp2_with fail
        refine (HI1.out _).mono ?_
        rintro e w2 ⟨rfl, b2⟩
        have b2 := below_then b1 b1.size b2
        go_wp2_with fail
        refine (HS1.out _).mono ?_
        rintro e w3 ⟨rfl, b3⟩
        have b3 := below_then b2 b2.size b3
        go_wp2_with fail
        refine (HI1.out _).mono ?_
        rintro e w4 ⟨rfl, b4⟩
        have b4 := below_then b3 b3.size b4
        go_wp2_with fail
        refine (HI2.out _).mono ?_
        rintro e w5 ⟨rfl, b5⟩
        have b5 := below_then b4 b4.size b5
        go_wp2_with fail
        refine (HI3.out _).mono ?_
        rintro e w6 ⟨rfl, b6⟩
        have b6 := below_then b5 b5.size b6
        go_wp2_with fail
        go_ret
        exact ⟨rfl, b6⟩
    · have hd : quietV bc br = -1 := if_neg hv
      rw [hd] at HI1 HS1
      clear hv hd HI HS
      go_wp2_with fail
      refine (HI1.out _).mono ?_
      rintro e w2 ⟨rfl, b2⟩
      have b2 := below_then b1 b1.size b2
      go_wp2_with fail
      refine (HS1.out _).mono ?_
      rintro e w3 ⟨rfl, b3⟩
      have b3 := below_then b2 b2.size b3
      go_wp2_with fail
      refine (HI1.out _).mono ?_
      rintro e w4 ⟨rfl, b4⟩
      have b4 := below_then b3 b3.size b4
      go_wp2_with fail
      go_ret
      exact ⟨rfl, b4⟩
end Go.Proofs.Ytijidecdokbmnab


/-
  The walk of the law FnChasedTwice.
-/
import Derived.Test.YtijidecdokbmnabLawLB
namespace Go.Proofs.Ytijidecdokbmnab
open Go.RowKit
set_option linter.unusedVariables false

set_option maxHeartbeats 2000000 in
set_option maxRecDepth 100000 in
theorem chasedTwice_w (A : Option Addr) (n c : Nat) (w : World) (h : Code w A n c) : Calls Try.prog 6 #[.slice A n c] w (Plain (.bool true) w) := by
  by_cases hl : 1048576 < (n : Int)
  · go_enter Try.func6, Try.ntmps6
    go_wp2
    go_ret
    exact ⟨rfl, Below.refl _ _⟩
  · have HC := hide (drawChaseDown_c A n c w h)
    clear h
    have HI := hide (fun bc br x w5 => implChaseDown_c bc br x w5)
    have HS := hide (fun bc br x w5 => specChaseDown_c bc br x w5)
    go_enter Try.func6, Try.ntmps6
    go_wp2_with fail
    refine HC.out.mono ?_
    rintro e w1 ⟨bc, br, x, rfl, -, -, -, b1⟩
    have HI1 := hide (fun w5 => HI.out bc br x w5)
    have HS1 := hide (fun w5 => HS.out bc br x w5)
    by_cases hv : LitS bc br x
    · obtain ⟨W, H, x, rfl, rfl, rfl, hw, hh, h12, hx⟩ := litS_nat hv
      clear hv
      obtain ⟨p, y, hc, hp, hy, -, -, -, ha⟩ := chase_facts hw hh h12 hx
      have HI2 := hide (fun w5 => HI.out (W : Int) (H : Int) (y : Int) w5)
      rw [chaseV_nat hw hh h12 hx, hc] at HI1 HS1
      rw [chaseV_nat hw hh h12 hy, ha] at HI2
      simp only at HI1 HS1 HI2
      have hpp : ((p : Int) != (p : Int)) = false := by simp
      have hyy : ((y : Int) != (y : Int)) = false := by simp
      have hyy2 : ((y : Int) == (y : Int)) = true := by simp
      clear hx hc hp hy hw hh ha HI HS
      go_wp2_with fail
      refine (HI1.out _).mono ?_
      rintro e w2 ⟨rfl, b2⟩
      have b2 := below_then b1 b1.size b2
      go_wp2_with fail
      refine (HS1.out _).mono ?_
      rintro e w3 ⟨rfl, b3⟩
      have b3 := below_then b2 b2.size b3
      go_wp2_with fail
      refine (HI1.out _).mono ?_
      rintro e w4 ⟨rfl, b4⟩
      have b4 := below_then b3 b3.size b4
      go_wp2_with fail
      refine (HI2.out _).mono ?_
      rintro e w5 ⟨rfl, b5⟩
      have b5 := below_then b4 b4.size b5
      go_wp2_with fail
      go_ret
      exact ⟨rfl, b5⟩
    · rw [chaseV_bad hv] at HI1 HS1
      simp only at HI1 HS1
      clear hv HI HS
      go_wp2_with fail
      refine (HI1.out _).mono ?_
      rintro e w2 ⟨rfl, b2⟩
      have b2 := below_then b1 b1.size b2
      go_wp2_with fail
      refine (HS1.out _).mono ?_
      rintro e w3 ⟨rfl, b3⟩
      have b3 := below_then b2 b2.size b3
      go_wp2_with fail
      refine (HI1.out _).mono ?_
      rintro e w4 ⟨rfl, b4⟩
      have b4 := below_then b3 b3.size b4
      go_wp2_with fail
      go_ret
      exact ⟨rfl, b4⟩
end Go.Proofs.Ytijidecdokbmnab

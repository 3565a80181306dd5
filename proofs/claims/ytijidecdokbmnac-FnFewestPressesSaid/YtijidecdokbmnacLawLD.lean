
/-
  The walk of the law FnCanDarken.
-/
import Derived.Test.YtijidecdokbmnacPLightF
import Derived.Test.YtijidecdokbmnacDrawL
namespace Go.Proofs.Ytijidecdokbmnac
open Go.RowKit
set_option linter.unusedVariables false

theorem pressV_bad {bc br x s : Int} (h : ¬ (LitS bc br x ∧ LitS bc br s)) : pressV bc br x s = -1 := if_neg h
theorem opt_pos (V : Option Nat) : decide (0 ≤ optV V) = V.isSome := by
  cases V with
  | none => rfl
  | some k => show decide (0 ≤ ((k : Nat) : Int)) = true; exact decide_eq_true (by omega)
set_option maxHeartbeats 2000000 in
set_option maxRecDepth 100000 in
theorem canDarken_w (A : Option Addr) (n c : Nat) (w : World) (h : Code w A n c) : Calls Try.prog 5 #[.slice A n c] w (Plain (.bool true) w) := by
  by_cases hl : 1048576 < (n : Int)
  · go_enter Try.func5, Try.ntmps5
    go_wp2
    go_ret
    exact ⟨rfl, Below.refl _ _⟩
  · have HC := hide (drawCanDarken_c A n c w h)
    clear h
    have HI := hide (fun bc br x w5 => implCanDarken_c bc br x w5)
    have HS := hide (fun bc br x w5 => specCanDarken_c bc br x w5)
    have HF := hide (fun bc br x w5 => implFewestPresses_c bc br x w5)
    have HP := hide (fun bc br x s w5 => implPressAll_c bc br x s w5)
    go_enter Try.func5, Try.ntmps5
    go_wp2_with fail
    refine HC.out.mono ?_
    rintro e w1 ⟨bc, br, x, rfl, -, -, -, b1⟩
    have HI1 := hide (fun w5 => HI.out bc br x w5)
    have HS1 := hide (fun w5 => HS.out bc br x w5)
    have HP1 := hide (fun w5 => HP.out bc br x 0 w5)
    by_cases hv : LitS bc br x
    · obtain ⟨W, H, x, rfl, rfl, rfl, hw, hh, h12, hx⟩ := litS_nat hv
      clear hv
      have hD := dat_is hw hh h12
      have h0 : (0 : Nat) < 2 ^ (W * H) := Nat.two_pow_pos _
      have hy : pressTo (litL W H) 0 x (W * H) < 2 ^ (W * H) := press_lt x (fun k => lit_bd hw hh h12 k) h0 (W * H)
      have HF1 := hide (fun w5 => HF.out (W : Int) (H : Int) (x : Int) w5)
      have HP2 := hide (fun w5 => show Calls Try.prog _ #[.int .i64 (W : Int), .int .i64 (H : Int), .int .i64 0, .int .i64 (x : Int)] w5 (Plain (.int .i64 (pressV (W : Int) (H : Int) ((0 : Nat) : Int) (x : Int))) w5) from HP.out (W : Int) (H : Int) 0 (x : Int) w5)
      have HI2 := hide (fun w5 => HI.out (W : Int) (H : Int) ((pressTo (litL W H) 0 x (W * H) : Nat) : Int) w5)
      rw [darkV_nat hw hh h12 hx] at HI1 HS1
      rw [show (0 : Int) = ((0 : Nat) : Int) from rfl, pressV_nat hw hh h12 hx h0] at HP1
      rw [pressV_nat hw hh h12 h0 hx] at HP2
      rw [fewV_nat hw hh h12 hx] at HF1
      obtain ⟨k, hk, -⟩ := (lights_at hw hh h12 hx).back
      have hdk : ((lessP (datL W H).leads (0, pressTo (litL W H) 0 x (W * H))).2 == 0) = true := by
        rw [← few_some (W * H) (datL W H).leads (datL W H).quiet, hD.lit, hk]
        rfl
      rw [darkV_nat hw hh h12 hy, hdk] at HI2
      have hpos := opt_pos (fewI (W * H) (datL W H).leads (datL W H).quiet x)
      rw [few_some] at hpos
      generalize ((lessP (datL W H).leads (0, x)).2 == 0) = b at *
      generalize optV (fewI (W * H) (datL W H).leads (datL W H).quiet x) = V at *
      generalize pressTo (litL W H) 0 x (W * H) = y at *
      generalize pressTo (litL W H) x 0 (W * H) = z at *
      have hbb : (b != b) = false := by cases b <;> rfl
      have hbe : (b == decide (0 ≤ V)) = true := by rw [hpos]; cases b <;> rfl
      clear hk hdk hx hy hw hh h12 hD h0 HI HS HF HP
      have HVP := hide hpos
      clear hpos
      by_cases hV : 0 ≤ V
      · obtain rfl : b = true := by rw [← HVP.out, decide_eq_true hV]
        clear hbe hbb
        go_wp2_with fail
        refine (HI1.out _).mono ?_
        rintro e w2 ⟨rfl, b2⟩
        have b2 := below_then b1 b1.size b2
        go_wp2_with fail
        refine (HS1.out _).mono ?_
        rintro e w3 ⟨rfl, b3⟩
        have b3 := below_then b2 b2.size b3
        go_wp2_with fail
        refine (HP1.out _).mono ?_
        rintro e w4 ⟨rfl, b4⟩
        have b4 := below_then b3 b3.size b4
        go_wp2_with fail
        refine (HF1.out _).mono ?_
        rintro e w5 ⟨rfl, b5⟩
        have b5 := below_then b4 b4.size b5
        go_wp2_with fail
        refine (HP2.out _).mono ?_
        rintro e w6 ⟨rfl, b6⟩
        have b6 := below_then b5 b5.size b6
        go_wp2_with fail
        refine (HI2.out _).mono ?_
        rintro e w7 ⟨rfl, b7⟩
        have b7 := below_then b6 b6.size b7
        go_wp2_with fail
        go_ret
        exact ⟨rfl, b7⟩
      · obtain rfl : b = false := by rw [← HVP.out, decide_eq_false hV]
        clear hbe hbb
        go_wp2_with fail
        refine (HI1.out _).mono ?_
        rintro e w2 ⟨rfl, b2⟩
        have b2 := below_then b1 b1.size b2
        go_wp2_with fail
        refine (HS1.out _).mono ?_
        rintro e w3 ⟨rfl, b3⟩
        have b3 := below_then b2 b2.size b3
        go_wp2_with fail
        refine (HP1.out _).mono ?_
        rintro e w4 ⟨rfl, b4⟩
        have b4 := below_then b3 b3.size b4
        go_wp2_with fail
        refine (HF1.out _).mono ?_
        rintro e w5 ⟨rfl, b5⟩
        have b5 := below_then b4 b4.size b5
        go_wp2_with fail
        refine (HP2.out _).mono ?_
        rintro e w6 ⟨rfl, b6⟩
        have b6 := below_then b5 b5.size b6
        go_wp2_with fail
        refine (HI2.out _).mono ?_
        rintro e w7 ⟨rfl, b7⟩
        have b7 := below_then b6 b6.size b7
        go_wp2_with fail
        go_ret
        exact ⟨by show Ending.returned (.bool (!decide (0 ≤ V))) = _; rw [decide_eq_false (show ¬ 0 ≤ V by omega)]; rfl, b7⟩
    · have hd : darkV bc br x = false := by unfold darkV; rw [decide_eq_false hv, Bool.false_and]
      rw [hd] at HI1 HS1
      rw [pressV_bad (fun h' => hv h'.1)] at HP1
      clear hv hd HI HS HF HP
      go_wp2_with fail
      refine (HI1.out _).mono ?_
      rintro e w2 ⟨rfl, b2⟩
      have b2 := below_then b1 b1.size b2
      go_wp2_with fail
      refine (HS1.out _).mono ?_
      rintro e w3 ⟨rfl, b3⟩
      have b3 := below_then b2 b2.size b3
      go_wp2_with fail
      refine (HP1.out _).mono ?_
      rintro e w4 ⟨rfl, b4⟩
      have b4 := below_then b3 b3.size b4
      go_wp2_with fail
      refine (HS1.out _).mono ?_
      rintro e w5 ⟨rfl, b5⟩
      have b5 := below_then b4 b4.size b5
      go_wp2_with fail
      go_ret
      exact ⟨rfl, b5⟩
end Go.Proofs.Ytijidecdokbmnac


/-
  The walk of the law FnPressAll.
-/
import Derived.Test.YtijidecdokbmnaaPLightC
import Derived.Test.YtijidecdokbmnaaDrawL
namespace Go.Proofs.Ytijidecdokbmnaa
open Go.RowKit
set_option linter.unusedVariables false

theorem mixed_c (a b : Nat) (ha : a < 4096) (hb : b < 4096) (W : World) : Calls Try.prog 10 #[.int .i64 (a : Int), .int .i64 (b : Int)] W fun e w' => e = .returned (.int .i64 ((a ^^^ b : Nat) : Int)) ∧ W = w' := by
  have e1 := not64 a b (by omega) (by omega)
  have e2 := not64 b a (by omega) (by omega)
  have h1 := notP_lt b (show a < 2 ^ 12 by omega)
  have h2 := notP_lt a (show b < 2 ^ 12 by omega)
  have HX := hide (xor_sum 12 a b (by omega) (by omega))
  generalize notP a b = x at *
  generalize notP b a = y at *
  have e3 : IntKind.i64.wrap ((x : Int) + (y : Int)) = ((x + y : Nat) : Int) := (IntWalk.i64_in _ (by omega)).trans (by omega)
  go_enter Try.func10, Try.ntmps10
  go_wp2_with fail
  go_ret
  exact ⟨by rw [← HX.out]; push_cast; rfl, rfl⟩
theorem pressV_bad {bc br x s : Int} (h : ¬ (LitS bc br x ∧ LitS bc br s)) : pressV bc br x s = -1 := if_neg h
theorem litS_set {w h : Nat} {s : Int} (h' : LitS (w : Int) (h : Int) s) : ∃ x : Nat, s = (x : Int) ∧ x < 2 ^ (w * h) := by
  obtain ⟨_, h6, h7⟩ := h'
  obtain ⟨x, rfl⟩ := Int.eq_ofNat_of_zero_le h6
  rw [← Int.natCast_mul, Int.toNat_natCast] at h7
  have := Nat.two_pow_pos (w * h)
  exact ⟨x, rfl, by omega⟩

set_option maxHeartbeats 2000000 in
set_option maxRecDepth 100000 in
theorem pressAll_w (A : Option Addr) (n c : Nat) (w : World) (h : Code w A n c) : Calls Try.prog 4 #[.slice A n c] w (Plain (.bool true) w) := by
  by_cases hl : 1048576 < (n : Int)
  · go_enter Try.func4, Try.ntmps4
    go_wp2
    go_ret
    exact ⟨rfl, Below.refl _ _⟩
  · have HC := hide (drawPressAll_c A n c w h)
    clear h
    have HI := hide (fun bc br x s w5 => implPressAll_c bc br x s w5)
    have HS := hide (fun bc br x s w5 => specPressAll_c bc br x s w5)
    go_enter Try.func4, Try.ntmps4
    go_wp2_with fail
    refine HC.out.mono ?_
    rintro e w1 ⟨bc, br, x, s, rfl, -, -, -, -, b1⟩
    have HI1 := hide (fun w5 => HI.out bc br x s w5)
    have HS1 := hide (fun w5 => HS.out bc br x s w5)
    by_cases hv : LitS bc br x ∧ LitS bc br s
    · obtain ⟨h1, h2⟩ := hv
      obtain ⟨W, H, x, rfl, rfl, rfl, hw, hh, h12, hx⟩ := litS_nat h1
      obtain ⟨s, rfl, hs⟩ := litS_set h2
      clear h1 h2
      have hxs : x ^^^ s < 2 ^ (W * H) := Nat.xor_lt_two_pow hx hs
      have hp1 := press_lt s (fun k => lit_bd hw hh h12 k) hx (W * H)
      have hp2 := press_lt x (fun k => lit_bd hw hh h12 k) hx (W * H)
      have HI2 := hide (fun w5 => HI.out (W : Int) (H : Int) ((pressTo (litL W H) x s (W * H) : Nat) : Int) (s : Int) w5)
      have HI3 := hide (fun w5 => HI.out (W : Int) (H : Int) (x : Int) (x : Int) w5)
      have HI4 := hide (fun w5 => HI.out (W : Int) (H : Int) ((pressTo (litL W H) x x (W * H) : Nat) : Int) (s : Int) w5)
      have HI5 := hide (fun w5 => HI.out (W : Int) (H : Int) (x : Int) ((x ^^^ s : Nat) : Int) w5)
      have HM := hide (fun w5 => mixed_c x s (set12 h12 hx) (set12 h12 hs) w5)
      rw [pressV_nat hw hh h12 hx hs] at HI1 HS1
      rw [pressV_nat hw hh h12 hp1 hs, press_self] at HI2
      rw [pressV_nat hw hh h12 hx hx] at HI3
      rw [pressV_nat hw hh h12 hp2 hs, press_mixed] at HI4
      rw [pressV_nat hw hh h12 hx hxs] at HI5
      generalize pressTo (litL W H) x s (W * H) = u at *
      generalize pressTo (litL W H) x x (W * H) = v at *
      generalize pressTo (litL W H) x (x ^^^ s) (W * H) = z at *
      generalize x ^^^ s = y at *
      have huu : ((u : Int) != (u : Int)) = false := by simp
      have hxx : ((x : Int) == (x : Int)) = true := by simp
      have hzz : ((z : Int) == (z : Int)) = true := by simp
      clear hx hs hxs hp1 hp2 hw hh h12 HI HS
      go_wp2_with fail
      refine (HI1.out _).mono ?_
      rintro e w2 ⟨rfl, b2⟩
      have b2 := below_then b1 b1.size b2
      go_wp2_with fail
      refine (HS1.out _).mono ?_
      rintro e w3 ⟨rfl, b3⟩
      have b3 := below_then b2 b2.size b3
      go_wp2_with fail
      refine (HI2.out _).mono ?_
      rintro e w4 ⟨rfl, b4⟩
      have b4 := below_then b3 b3.size b4
      go_wp2_with fail
      refine (HI3.out _).mono ?_
      rintro e w5 ⟨rfl, b5⟩
      have b5 := below_then b4 b4.size b5
      go_wp2_with fail
      refine (HI4.out _).mono ?_
      rintro e w6 ⟨rfl, b6⟩
      have b6 := below_then b5 b5.size b6
      go_wp2_with fail
      refine (HM.out _).mono ?_
      rintro e w7 ⟨rfl, rfl⟩
      go_wp2_with fail
      refine (HI5.out _).mono ?_
      rintro e w8 ⟨rfl, b8⟩
      have b8 := below_then b6 b6.size b8
      go_wp2_with fail
      go_ret
      exact ⟨rfl, b8⟩
    · rw [pressV_bad hv] at HI1 HS1
      clear hv HI HS
      go_wp2_with fail
      refine (HI1.out _).mono ?_
      rintro e w2 ⟨rfl, b2⟩
      have b2 := below_then b1 b1.size b2
      go_wp2_with fail
      refine (HS1.out _).mono ?_
      rintro e w3 ⟨rfl, b3⟩
      have b3 := below_then b2 b2.size b3
      go_wp2_with fail
      refine (HS1.out _).mono ?_
      rintro e w4 ⟨rfl, b4⟩
      have b4 := below_then b3 b3.size b4
      go_wp2_with fail
      go_ret
      exact ⟨rfl, b4⟩
end Go.Proofs.Ytijidecdokbmnaa


/-
  The walk of the law FnFewestPresses.
-/
import Derived.Test.YtijidecdokbmnacLawLD
namespace Go.Proofs.Ytijidecdokbmnac
open Go.RowKit
set_option linter.unusedVariables false

set_option maxHeartbeats 400000 in
theorem bitsOf_c (s : Nat) (hs : s < 4096) (w : World) : Calls Try.prog 14 #[.int .i64 (s : Int)] w fun e w' => e = .returned (.int .i64 ((pcN 12 s : Nat) : Int)) ∧ w = w' := by
  have hle := pcN_most 12 s
  go_enter Try.func14, Try.ntmps14
  go_wp2_with fail
  go_loopw [0, 3] (fun a p wr => ∃ x m f : Nat, x < 2 ^ f ∧ x < 4096 ∧ m ≤ 12 ∧ a = .int .i64 (x : Int) ∧ p = .int .i64 (m : Int) ∧ Hid (m + pcN f x = pcN 12 s) ∧ w = wr) (fun a _ _ => (intOf a).toNat)
  case atStart => exact ⟨s, 0, 12, hs, hs, Nat.zero_le _, rfl, rfl, Nat.zero_add _, rfl⟩
  case round =>
    obtain ⟨x, m, f, hxf, hx, hm12, rfl, rfl, hm, rfl⟩ := hrel
    by_cases hp : 0 < x
    · obtain ⟨f, rfl⟩ : ∃ f', f = f' + 1 := ⟨f - 1, by
        rcases f with _ | f
        · simp at hxf; omega
        · rfl⟩
      have hh : Hid (pcN (f + 1) x = x % 2 + pcN f (x / 2)) := rfl
      have hxf' : x / 2 < 2 ^ f := by rw [Nat.pow_succ] at hxf; omega
      have hd : x / 2 < x := by omega
      have hr : x % 2 ≤ 1 := by omega
      have t1 : Int.tdiv (x : Int) 2 = ((x / 2 : Nat) : Int) := Int.tdiv_eq_ediv_of_nonneg (by omega)
      have t2 : Int.tmod (x : Int) 2 = ((x % 2 : Nat) : Int) := Int.tmod_eq_emod_of_nonneg (by omega)
      have hp' : (0 : Int) < (x : Int) := by omega
      generalize hQ : x / 2 = q at *
      generalize hR : x % 2 = r at *
      have HN : Hid (m + r + pcN f q = pcN 12 s) := by
        show _ = _
        have i1 := hm.out
        have i2 := hh.out
        rw [i2] at i1
        omega
      have hm12' : m + r ≤ 12 := by have := HN.out; omega
      have e1 : IntKind.i64.wrap (q : Int) = (q : Int) := IntWalk.i64_in _ (by omega)
      have e2 : IntKind.i64.wrap (r : Int) = (r : Int) := IntWalk.i64_in _ (by omega)
      have e3 : IntKind.i64.wrap ((m : Int) + (r : Int)) = ((m + r : Nat) : Int) := (IntWalk.i64_in _ (by omega)).trans (by omega)
      have hqx : (q : Int) < (x : Int) := by omega
      have HXF := hide hxf'
      clear hQ hR hle hm hh hxf hxf'
      go_wp2_with fail
      exact ⟨⟨q, m + r, f, HXF.out, by omega, hm12', rfl, rfl, HN, trivial⟩, by simp [intOf]; omega⟩
    · obtain rfl : x = 0 := by omega
      have hm' := hm.out
      rw [pcN_none] at hm'
      have HM := hide hm'
      clear hm hm' hle hxf
      go_wp2_with fail
      go_ret
      exact ⟨by rw [← HM.out]; rfl, rfl⟩


set_option maxHeartbeats 2000000 in
set_option maxRecDepth 100000 in
theorem fewestPresses_w (A : Option Addr) (n c : Nat) (w : World) (h : Code w A n c) : Calls Try.prog 6 #[.slice A n c] w (Plain (.bool true) w) := by
  by_cases hl : 1048576 < (n : Int)
  · go_enter Try.func6, Try.ntmps6
    go_wp2
    go_ret
    exact ⟨rfl, Below.refl _ _⟩
  · have HC := hide (drawFewestPresses_c A n c w h)
    clear h
    have HF := hide (fun bc br x w5 => implFewestPresses_c bc br x w5)
    have HS := hide (fun bc br x w5 => specFewestPresses_c bc br x w5)
    have HP := hide (fun bc br x s w5 => implPressAll_c bc br x s w5)
    go_enter Try.func6, Try.ntmps6
    go_wp2_with fail
    refine HC.out.mono ?_
    rintro e w1 ⟨bc, br, x, rfl, -, -, -, b1⟩
    have HF1 := hide (fun w5 => HF.out bc br x w5)
    have HS1 := hide (fun w5 => HS.out bc br x w5)
    have HP1 := hide (fun w5 => HP.out bc br x 0 w5)
    by_cases hv : LitS bc br x
    · obtain ⟨W, H, x, rfl, rfl, rfl, hw, hh, h12, hx⟩ := litS_nat hv
      clear hv
      have hD := dat_is hw hh h12
      have h0 : (0 : Nat) < 2 ^ (W * H) := Nat.two_pow_pos _
      have hy : pressTo (litL W H) 0 x (W * H) < 2 ^ (W * H) := press_lt x (fun k => lit_bd hw hh h12 k) h0 (W * H)
      have HP2 := hide (fun w5 => show Calls Try.prog _ #[.int .i64 (W : Int), .int .i64 (H : Int), .int .i64 0, .int .i64 (x : Int)] w5 (Plain (.int .i64 (pressV (W : Int) (H : Int) ((0 : Nat) : Int) (x : Int))) w5) from HP.out (W : Int) (H : Int) 0 (x : Int) w5)
      have HF2 := hide (fun w5 => HF.out (W : Int) (H : Int) ((pressTo (litL W H) 0 x (W * H) : Nat) : Int) w5)
      have HBO := hide (fun w5 => bitsOf_c x (set12 h12 hx) w5)
      rw [fewV_nat hw hh h12 hx] at HF1 HS1
      rw [show (0 : Int) = ((0 : Nat) : Int) from rfl, pressV_nat hw hh h12 hx h0] at HP1
      rw [pressV_nat hw hh h12 h0 hx] at HP2
      obtain ⟨k, hk, hkb⟩ := (lights_at hw hh h12 hx).back
      rw [fewV_nat hw hh h12 hy, hD.lit, hk] at HF2
      rw [hD.lit] at HP2
      have hzero := (lights_at hw hh h12 hx).zero
      have hz2 : (optV (fewI (W * H) (datL W H).leads (datL W H).quiet x) == 0) = ((x : Int) == 0) := by
        rw [Bool.eq_iff_iff, beq_iff_eq, beq_iff_eq]
        constructor
        · intro e
          have : fewI (W * H) (datL W H).leads (datL W H).quiet x = some 0 := by
            cases hf : fewI (W * H) (datL W H).leads (datL W H).quiet x with
            | none => rw [hf] at e; simp [optV] at e
            | some m => rw [hf] at e; simp only [optV] at e; congr 1; omega
          have := hzero.1 this
          omega
        · intro e
          rw [hzero.2 (by omega)]
          rfl
      generalize optV (fewI (W * H) (datL W H).leads (datL W H).quiet x) = V at *
      generalize pressTo (datL W H).lit 0 x (W * H) = y at *
      generalize pressTo (litL W H) x 0 (W * H) = z at *
      have hVV : (V != V) = false := by simp
      have HF2 := hide (fun w5 => show Calls Try.prog _ #[.int .i64 (W : Int), .int .i64 (H : Int), .int .i64 (y : Int)] w5 (Plain (.int .i64 (k : Int)) w5) from HF2.out w5)
      have hk0 : (0 : Int) ≤ (k : Int) := by omega
      have hkp : (k : Int) ≤ ((pcN 12 x : Nat) : Int) := by omega
      generalize pcN 12 x = pc at *
      obtain ⟨bx, hbx⟩ : ∃ bx, ((x : Int) == 0) = bx := ⟨_, rfl⟩
      rw [hbx] at hz2
      have hbb : (bx == bx) = true := by simp
      clear hk hkb hzero hx hy hw hh h12 hD h0 HS HF HP
      go_wp2_with fail
      refine (HF1.out _).mono ?_
      rintro e w2 ⟨rfl, b2⟩
      have b2 := below_then b1 b1.size b2
      go_wp2_with fail
      refine (HS1.out _).mono ?_
      rintro e w3 ⟨rfl, b3⟩
      have b3 := below_then b2 b2.size b3
      go_wp2_with fail
      refine (HP1.out _).mono ?_
      rintro e w4 ⟨rfl, b4⟩
      have b4 := below_then b3 b3.size b4
      go_wp2_with fail
      refine (HP2.out _).mono ?_
      rintro e w5 ⟨rfl, b5⟩
      have b5 := below_then b4 b4.size b5
      go_wp2_with fail
      refine (HF2.out _).mono ?_
      rintro e w6 ⟨rfl, b6⟩
      have b6 := below_then b5 b5.size b6
      go_wp2_with fail
      refine (HBO.out _).mono ?_
      rintro e w7 ⟨rfl, rfl⟩
      go_wp2_with fail
      go_ret
      exact ⟨rfl, b6⟩
    · have hd : fewV bc br x = -1 := if_neg hv
      rw [hd] at HF1 HS1
      rw [pressV_bad (fun h' => hv h'.1)] at HP1
      clear hv hd HS HF HP
      go_wp2_with fail
      refine (HF1.out _).mono ?_
      rintro e w2 ⟨rfl, b2⟩
      have b2 := below_then b1 b1.size b2
      go_wp2_with fail
      refine (HS1.out _).mono ?_
      rintro e w3 ⟨rfl, b3⟩
      have b3 := below_then b2 b2.size b3
      go_wp2_with fail
      refine (HP1.out _).mono ?_
      rintro e w4 ⟨rfl, b4⟩
      have b4 := below_then b3 b3.size b4
      go_wp2_with fail
      refine (HS1.out _).mono ?_
      rintro e w5 ⟨rfl, b5⟩
      have b5 := below_then b4 b4.size b5
      go_wp2_with fail
      go_ret
      exact ⟨rfl, b5⟩
end Go.Proofs.Ytijidecdokbmnac

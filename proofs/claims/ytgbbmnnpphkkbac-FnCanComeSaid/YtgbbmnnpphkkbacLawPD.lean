
/-
  The walk of the law FnCanCome.
-/
import Derived.Test.YtgbbmnnpphkkbacPPegF
import Derived.Test.YtgbbmnnpphkkbacDrawP
import Derived.Test.YtgbbmnnpphkkbacLawPW
namespace Go.Proofs.Ytgbbmnnpphkkbac
open Go.RowKit
set_option linter.unusedVariables false

theorem can_free {w n a b : Nat} (hw : 1 ≤ w) (ha : a < 2 ^ n) (hb : b < 2 ^ n) : (comeL w n (2 ^ n - 1 - b)).contains (2 ^ n - 1 - a) = (comeL w n a).contains b := by
  rw [Bool.eq_iff_iff, List.contains_iff_mem, List.contains_iff_mem, come_mem hw (by omega), come_mem hw ha]
  exact (comes_free hw ha hb).symm
set_option maxHeartbeats 4000000 in
set_option maxRecDepth 100000 in
theorem canCome_w (A : Option Addr) (n c : Nat) (w : World) (h : Code w A n c) : Calls Try.prog 4 #[.slice A n c] w (Plain (.bool true) w) := by
  by_cases hl : 1048576 < (n : Int)
  · go_enter Try.func4, Try.ntmps4
    go_wp2
    go_ret
    exact ⟨rfl, Below.refl _ _⟩
  · have HC := hide (drawCanCome_c A n c w h)
    clear h
    have HI := hide (fun bc br a b w5 => implCanCome_c bc br a b w5)
    have HS := hide (fun bc br a b w5 => specCanCome_c bc br a b w5)
    have HF := hide (fun bc br x w5 => implFewestLeft_c bc br x w5)
    have HK := hide (fun bc br x w5 => implComesFrom_c bc br x w5)
    go_enter Try.func4, Try.ntmps4
    go_wp2_with fail
    refine HC.out.mono ?_
    rintro e w1 ⟨bc, br, a, b, rfl, -, -, -, -, b1⟩
    have HI1 := hide (fun w5 => HI.out bc br a b w5)
    have HS1 := hide (fun w5 => HS.out bc br a b w5)
    have HFa := hide (fun w5 => HF.out bc br a w5)
    have HFb := hide (fun w5 => HF.out bc br b w5)
    by_cases hP : PegS bc br a
    · by_cases hQ : PegS bc br b
      · obtain ⟨W, H, x, rfl, rfl, rfl, hw, hh, h12, hx⟩ := pegS_nat hP
        obtain ⟨W', H', y, e1, e2, rfl, _, _, _, hy⟩ := pegS_nat hQ
        have e1 : W = W' := by omega
        have e2 : H = H' := by omega
        subst e1 e2
        obtain ⟨M, hM, hMl, hMm⟩ := asc_nat (comeL W (W * H) x)
        have hM4 : M.length ≤ 4096 := by rw [hMl]; exact Nat.le_trans (come_len hw.1 hx) (pow12 h12).2
        have hin : decide ((y : Int) ∈ natI M) = (comeL W (W * H) x).contains y := by
          rw [← List.contains_eq_mem, natI_has, Bool.eq_iff_iff, List.contains_iff_mem, List.contains_iff_mem]
          exact hMm y
        have HIN := hide hin
        have HK1 := hide (fun w5 => HK.out (W : Int) (H : Int) (x : Int) w5)
        have hlM := natI_len M
        have HLM := hide hlM
        have hx' : 2 ^ (W * H) - 1 - x < 2 ^ (W * H) := by omega
        have hy' : 2 ^ (W * H) - 1 - y < 2 ^ (W * H) := by omega
        have HI2 := hide (fun w5 => HI.out (W : Int) (H : Int) ((2 ^ (W * H) - 1 - y : Nat) : Int) ((2 ^ (W * H) - 1 - x : Nat) : Int) w5)
        rw [canV_nat hw hh h12 hy' hx', can_free hw.1 hx hy] at HI2
        rw [canV_nat hw hh h12 hx hy] at HI1 HS1
        rw [comesV_nat hw hh h12 hx, hM, hlM] at HK1
        rw [fewV_nat hw hh h12 hx] at HFa
        rw [fewV_nat hw hh h12 hy] at HFb
        have HPW := hide (fun w5 => lawPowerP_c (W * H) h12 w5)
        have emul : IntKind.i64.wrap ((W : Int) * (H : Int)) = ((W * H : Nat) : Int) := by rw [Int.natCast_mul]; exact IntWalk.i64_in _ (by rw [← Int.natCast_mul]; omega)
        have hp := pow12 h12
        obtain ⟨P, hPe⟩ : ∃ P, 2 ^ (W * H) = P := ⟨_, rfl⟩
        rw [hPe] at HI2 HPW hp hx hy
        obtain ⟨F, hF⟩ : ∃ F, P - 1 = F := ⟨_, rfl⟩
        have eP : IntKind.i64.wrap ((P : Int) - 1) = (F : Int) := (IntWalk.i64_in _ (by omega)).trans (by omega)
        obtain ⟨r, hr⟩ : ∃ r, F - y = r := ⟨_, rfl⟩
        obtain ⟨q, hq⟩ : ∃ q, F - x = q := ⟨_, rfl⟩
        have eR : IntKind.i64.wrap ((F : Int) - (y : Int)) = (r : Int) := (IntWalk.i64_in _ (by omega)).trans (by omega)
        have eQ : IntKind.i64.wrap ((F : Int) - (x : Int)) = (q : Int) := (IntWalk.i64_in _ (by omega)).trans (by omega)
        rw [hF, hr, hq] at HI2
        clear hP hQ hh h12 hx hy hM hMl hMm hPe HI HS HF HK hlM hin hx' hy' hp hF hr hq
        generalize (comeL W (W * H) x).contains y = bb at *
        generalize fewL W (W * H) x = fa at *
        generalize fewL W (W * H) y = fb at *
        generalize W * H = m at *
        have hbb : (bb != bb) = false := by cases bb <;> rfl
        have hbe : (bb == bb) = true := by cases bb <;> rfl
        have ha0 : ¬ ((fa : Int) < 0) := by omega
        have hb0 : ¬ ((fb : Int) < 0) := by omega
        clear hw
        go_wp2_with fail
        refine (HI1.out _).mono ?_
        rintro e w2 ⟨rfl, b2⟩
        have b12 := below_then b1 b1.size b2
        go_wp2_with fail
        refine (HS1.out _).mono ?_
        rintro e w3 ⟨rfl, b3⟩
        have b13 := below_then b12 b12.size b3
        go_wp2_with fail
        refine (HFa.out _).mono ?_
        rintro e w4 ⟨rfl, b4⟩
        have b14 := below_then b13 b13.size b4
        go_wp2_with fail
        refine (HFb.out _).mono ?_
        rintro e w5 ⟨rfl, b5⟩
        have b15 := below_then b14 b14.size b5
        go_wp2_with fail
        refine (HPW.out _).mono ?_
        rintro e w6 ⟨rfl, rfl⟩
        go_wp2_with fail
        refine (HK1.out _).mono ?_
        rintro e w7 ⟨v7, rfl, o7, b7⟩
        obtain ⟨A7, c7, rfl, _⟩ := own_row o7
        have b17 := below_then b15 b15.size b7
        go_wp2_with fail
        refine (isInP_c _ _ (natI M) _ _ _ HLM.out (own_reads o7) (by rw [HLM.out]; omega)).mono ?_
        rw [HIN.out]
        rintro e w8 ⟨rfl, b8⟩
        have b18 := below_then b17 b17.size b8
        go_wp2_with fail
        refine (HI2.out _).mono ?_
        rintro e w9 ⟨rfl, b9⟩
        have b19 := below_then b18 b18.size b9
        go_wp2_with fail
        go_ret
        exact ⟨rfl, b19⟩
      · have hc : canV bc br a b = false := by unfold canV; rw [decide_eq_false hQ]; simp
        have hfb : fewV bc br b = -1 := by unfold fewV; rw [if_neg hQ]
        obtain ⟨W, H, x, rfl, rfl, rfl, hw, hh, h12, hx⟩ := pegS_nat hP
        rw [hc] at HI1 HS1
        rw [hfb] at HFb
        rw [fewV_nat hw hh h12 hx] at HFa
        clear hc hP hQ HI HS HF HK hfb hw hh h12 hx
        generalize fewL W (W * H) x = fa at *
        have ha0 : ¬ ((fa : Int) < 0) := by omega
        go_wp2_with fail
        refine (HI1.out _).mono ?_
        rintro e w2 ⟨rfl, b2⟩
        have b12 := below_then b1 b1.size b2
        go_wp2_with fail
        refine (HS1.out _).mono ?_
        rintro e w3 ⟨rfl, b3⟩
        have b13 := below_then b12 b12.size b3
        go_wp2_with fail
        refine (HFa.out _).mono ?_
        rintro e w4 ⟨rfl, b4⟩
        have b14 := below_then b13 b13.size b4
        go_wp2_with fail
        refine (HFb.out _).mono ?_
        rintro e w5 ⟨rfl, b5⟩
        have b15 := below_then b14 b14.size b5
        go_wp2_with fail
        refine (HS1.out _).mono ?_
        rintro e w6 ⟨rfl, b6⟩
        have b16 := below_then b15 b15.size b6
        go_wp2_with fail
        go_ret
        exact ⟨rfl, b16⟩
    · have hc : canV bc br a b = false := by unfold canV; rw [decide_eq_false hP]; simp
      have hfa : fewV bc br a = -1 := by unfold fewV; rw [if_neg hP]
      rw [hc] at HI1 HS1
      rw [hfa] at HFa
      clear hc hP HI HS HF HK hfa HFb
      go_wp2_with fail
      refine (HI1.out _).mono ?_
      rintro e w2 ⟨rfl, b2⟩
      have b12 := below_then b1 b1.size b2
      go_wp2_with fail
      refine (HS1.out _).mono ?_
      rintro e w3 ⟨rfl, b3⟩
      have b13 := below_then b12 b12.size b3
      go_wp2_with fail
      refine (HFa.out _).mono ?_
      rintro e w4 ⟨rfl, b4⟩
      have b14 := below_then b13 b13.size b4
      go_wp2_with fail
      refine (HS1.out _).mono ?_
      rintro e w6 ⟨rfl, b6⟩
      have b16 := below_then b14 b14.size b6
      go_wp2_with fail
      go_ret
      exact ⟨rfl, b16⟩
end Go.Proofs.Ytgbbmnnpphkkbac

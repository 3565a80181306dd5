
/-
  The walk of the law FnQuietCount.
-/
import Derived.Test.YtijidecdokbmnabPLightE
import Derived.Test.YtijidecdokbmnabLawLB
namespace Go.Proofs.Ytijidecdokbmnab
open Go.RowKit
set_option linter.unusedVariables false

def quietOk (w h : Nat) : Bool := ((datL w h).quiet.length == (datL h w).quiet.length) && decide ((datL w h).quiet.length ≤ w * h)
theorem quiet_ok : ∀ a : Fin 5, ∀ b : Fin 5, (a.val + 1) * (b.val + 1) ≤ 12 → quietOk (a.val + 1) (b.val + 1) = true := by decide +kernel
theorem quiet_is {w h : Nat} (hw : 1 ≤ w ∧ w ≤ 5) (hh : 1 ≤ h ∧ h ≤ 5) (h12 : w * h ≤ 12) : (datL w h).quiet.length = (datL h w).quiet.length ∧ (datL w h).quiet.length ≤ w * h := by
  obtain ⟨a, rfl⟩ : ∃ a, w = a + 1 := ⟨w - 1, by omega⟩
  obtain ⟨b, rfl⟩ : ∃ b, h = b + 1 := ⟨h - 1, by omega⟩
  have := quiet_ok ⟨a, by omega⟩ ⟨b, by omega⟩ h12
  simp only [quietOk, Bool.and_eq_true, beq_iff_eq, decide_eq_true_eq] at this
  exact this
theorem lit12_nat {bc br : Int} (h : Lit12 bc br) : ∃ w h' : Nat, bc = (w : Int) ∧ br = (h' : Int) ∧ (1 ≤ w ∧ w ≤ 5) ∧ (1 ≤ h' ∧ h' ≤ 5) ∧ w * h' ≤ 12 := by
  obtain ⟨w, h', x, e1, e2, -, h1, h2, h3, -⟩ := litS_nat ((litS_none bc br).2 h)
  exact ⟨w, h', e1, e2, h1, h2, h3⟩
set_option maxHeartbeats 2000000 in
set_option maxRecDepth 100000 in
theorem quietCount_w (A : Option Addr) (n c : Nat) (w : World) (h : Code w A n c) : Calls Try.prog 4 #[.slice A n c] w (Plain (.bool true) w) := by
  by_cases hl : 1048576 < (n : Int)
  · go_enter Try.func4, Try.ntmps4
    go_wp2
    go_ret
    exact ⟨rfl, Below.refl _ _⟩
  · have HC := hide (drawQuietCount_c A n c w h)
    clear h
    have HI := hide (fun bc br w5 => implQuietCount_c bc br w5)
    have HS := hide (fun bc br w5 => specQuietCount_c bc br w5)
    go_enter Try.func4, Try.ntmps4
    go_wp2_with fail
    refine HC.out.mono ?_
    rintro e w1 ⟨bc, br, rfl, -, -, b1⟩
    have HI1 := hide (fun w5 => HI.out bc br w5)
    have HS1 := hide (fun w5 => HS.out bc br w5)
    by_cases hv : Lit12 bc br
    · obtain ⟨W, H, rfl, rfl, hw, hh, h12⟩ := lit12_nat hv
      clear hv
      have HI2 := hide (fun w5 => HI.out (H : Int) (W : Int) w5)
      obtain ⟨hq1, hq2⟩ := quiet_is hw hh h12
      rw [quietV_nat hw hh h12] at HI1 HS1
      rw [quietV_nat hh hw (by rw [Nat.mul_comm]; exact h12), ← hq1] at HI2
      have HW := hide (fun w5 => lawPower_c (W * H) h12 w5)
      have hmn : ((W : Int) * (H : Int)) = ((W * H : Nat) : Int) := by rw [Int.natCast_mul]
      have e0 : IntKind.i64.wrap ((W : Int) * (H : Int)) = ((W * H : Nat) : Int) := (IntWalk.i64_in _ (by omega)).trans hmn
      have hdv : 2 ^ (W * H) % 2 ^ (datL W H).quiet.length = 0 := Nat.mod_eq_zero_of_dvd (Nat.pow_dvd_pow 2 hq2)
      have q1 : 1 ≤ 2 ^ (datL W H).quiet.length := Nat.one_le_two_pow
      have q2 := pow12 h12
      have q3 : 2 ^ (datL W H).quiet.length ≤ 2 ^ (W * H) := Nat.pow_le_pow_right (by omega) hq2
      have t1 : Int.tmod ((2 ^ (W * H) : Nat) : Int) ((2 ^ (datL W H).quiet.length : Nat) : Int) = 0 := by
        have : Int.tmod ((2 ^ (W * H) : Nat) : Int) ((2 ^ (datL W H).quiet.length : Nat) : Int) = ((2 ^ (W * H) % 2 ^ (datL W H).quiet.length : Nat) : Int) := Int.tmod_eq_emod_of_nonneg (Int.natCast_nonneg _)
        rw [this, hdv]; rfl
      clear hq1 hq2 hdv hmn hw hh HI HS
      generalize 2 ^ (datL W H).quiet.length = P at *
      generalize W * H = m at *
      generalize 2 ^ m = R at *
      have hPP : ((P : Int) != (P : Int)) = false := by simp
      have hPe : ((P : Int) == (P : Int)) = true := by simp
      have hP0 : (P : Int) ≠ 0 := by omega
      have hP1 : (1 : Int) ≤ (P : Int) := by omega
      go_wp2_with fail
      refine (HI1.out _).mono ?_
      rintro e w2 ⟨rfl, b2⟩
      have b2 := below_then b1 b1.size b2
      go_wp2_with fail
      refine (HS1.out _).mono ?_
      rintro e w3 ⟨rfl, b3⟩
      have b3 := below_then b2 b2.size b3
      go_wp2_with fail
      refine (HW.out _).mono ?_
      rintro e w4 ⟨rfl, rfl⟩
      go_wp2_with fail
      refine (HI2.out _).mono ?_
      rintro e w5 ⟨rfl, b5⟩
      have b5 := below_then b3 b3.size b5
      go_wp2_with fail
      go_ret
      exact ⟨rfl, b5⟩
    · have hd : quietV bc br = -1 := if_neg hv
      rw [hd] at HI1 HS1
      clear hv hd HI HS
      go_wp2_with fail
      refine (HI1.out _).mono ?_
      rintro e w2 ⟨rfl, b2⟩
      have b2 := below_then b1 b1.size b2
      go_wp2_with fail
      refine (HS1.out _).mono ?_
      rintro e w3 ⟨rfl, b3⟩
      have b3 := below_then b2 b2.size b3
      go_wp2_with fail
      refine (HS1.out _).mono ?_
      rintro e w4 ⟨rfl, b4⟩
      have b4 := below_then b3 b3.size b4
      go_wp2_with fail
      go_ret
      exact ⟨rfl, b4⟩
end Go.Proofs.Ytijidecdokbmnab

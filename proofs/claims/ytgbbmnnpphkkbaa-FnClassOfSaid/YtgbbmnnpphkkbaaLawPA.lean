
/-
  The walk of the law FnClassOf.
-/
import Derived.Test.YtgbbmnnpphkkbaaPPegG
import Derived.Test.YtgbbmnnpphkkbaaDrawP
import Derived.Test.YtgbbmnnpphkkbaaLawPW
namespace Go.Proofs.Ytgbbmnnpphkkbaa
open Go.RowKit
set_option linter.unusedVariables false

theorem par_full {f : Nat → Bool} {n x : Nat} (hx : x < 2 ^ n) : ∀ k, k ≤ n → parC f (2 ^ n - 1) k = (parC f x k != parC f (2 ^ n - 1 - x) k)
  | 0, _ => rfl
  | k + 1, hk => by
    simp only [parC]
    rw [par_full hx k (by omega), free_at hx, Nat.testBit_two_pow_sub_one]
    have : k < n := by omega
    simp only [this, decide_true, Bool.true_and]
    cases parC f x k <;> cases parC f (2 ^ n - 1 - x) k <;> cases f k <;> cases x.testBit k <;> rfl
theorem cls_full {w n x q : Nat} (hx : x < 2 ^ n) : ((clsP w n x q).toNat + (clsP w n (2 ^ n - 1 - x) q).toNat) % 2 = (clsP w n (2 ^ n - 1) q).toNat := by
  unfold clsP
  rw [par_full hx n (Nat.le_refl _)]
  cases parC (clsF w q) x n <;> cases parC (clsF w q) (2 ^ n - 1 - x) n <;> rfl
theorem clsI_nat {w h x : Nat} (hw : 1 ≤ w ∧ w ≤ 5) (hh : 1 ≤ h ∧ h ≤ 5) (h12 : w * h ≤ 12) (hx : x < 2 ^ (w * h)) : clsI w h x = natI (clsL w (w * h) x) := if_pos (pegS_of hw hh h12 hx)
theorem clsL_at {w n x i : Nat} (hi : i < 4) : (clsL w n x)[i]?.getD 0 = (clsP w n x i).toNat := by
  have : i = 0 ∨ i = 1 ∨ i = 2 ∨ i = 3 := by omega
  rcases this with rfl | rfl | rfl | rfl <;> rfl
set_option maxHeartbeats 2000000 in
set_option maxRecDepth 100000 in
theorem classOf_w (A : Option Addr) (n c : Nat) (w : World) (h : Code w A n c) : Calls Try.prog 5 #[.slice A n c] w (Plain (.bool true) w) := by
  by_cases hl : 1048576 < (n : Int)
  · go_enter Try.func5, Try.ntmps5
    go_wp2
    go_ret
    exact ⟨rfl, Below.refl _ _⟩
  · have HC := hide (drawClassOf_c A n c w h)
    clear h
    have HI := hide (fun bc br x w5 => implClassOf_c bc br x w5)
    have HS := hide (fun bc br x w5 => specClassOf_c bc br x w5)
    go_enter Try.func5, Try.ntmps5
    go_wp2_with fail
    refine HC.out.mono ?_
    rintro e w1 ⟨bc, br, x, rfl, -, -, -, b1⟩
    have HI1 := hide (fun w5 => HI.out bc br x w5)
    have HS1 := hide (fun w5 => HS.out bc br x w5)
    by_cases hP : PegS bc br x
    · obtain ⟨W, H, x, rfl, rfl, rfl, hw, hh, h12, hx⟩ := pegS_nat hP
      have hfull : 2 ^ (W * H) - 1 < 2 ^ (W * H) := by have := Nat.two_pow_pos (W * H); omega
      have hrest : 2 ^ (W * H) - 1 - x < 2 ^ (W * H) := by omega
      have HI2 := hide (fun w5 => HI.out (W : Int) (H : Int) ((2 ^ (W * H) - 1 : Nat) : Int) w5)
      have HI3 := hide (fun w5 => HI.out (W : Int) (H : Int) ((2 ^ (W * H) - 1 - x : Nat) : Int) w5)
      rw [clsI_nat hw hh h12 hx] at HI1 HS1
      rw [clsI_nat hw hh h12 hfull] at HI2
      rw [clsI_nat hw hh h12 hrest] at HI3
      have HPW := hide (fun w5 => lawPowerP_c (W * H) h12 w5)
      have emul : IntKind.i64.wrap ((W : Int) * (H : Int)) = ((W * H : Nat) : Int) := by rw [Int.natCast_mul]; exact IntWalk.i64_in _ (by rw [← Int.natCast_mul]; omega)
      have hp := pow12 h12
      have HF := hide (fun i (hi : i < 4) => show ((clsL W (W * H) x)[i]?.getD 0 + (clsL W (W * H) (2 ^ (W * H) - 1 - x))[i]?.getD 0) % 2 = (clsL W (W * H) (2 ^ (W * H) - 1))[i]?.getD 0 ∧ (clsL W (W * H) x)[i]?.getD 0 ≤ 1 ∧ (clsL W (W * H) (2 ^ (W * H) - 1 - x))[i]?.getD 0 ≤ 1 by
        rw [clsL_at hi, clsL_at hi, clsL_at hi]
        exact ⟨cls_full hx, Bool.toNat_le _, Bool.toNat_le _⟩)
      have hl1 : (natI (clsL W (W * H) x)).length = 4 := rfl
      have hl2 : (natI (clsL W (W * H) (2 ^ (W * H) - 1))).length = 4 := rfl
      have hl3 : (natI (clsL W (W * H) (2 ^ (W * H) - 1 - x))).length = 4 := rfl
      rw [hl1] at HI1 HS1
      rw [hl2] at HI2
      rw [hl3] at HI3
      have HL1 := hide hl1
      obtain ⟨P, hPe⟩ : ∃ P, 2 ^ (W * H) = P := ⟨_, rfl⟩
      generalize clsL W (W * H) x = L1 at *
      generalize clsL W (W * H) (2 ^ (W * H) - 1) = L2 at *
      generalize clsL W (W * H) (2 ^ (W * H) - 1 - x) = L3 at *
      rw [hPe] at HI2 HI3 HPW hp hfull hrest
      have eP : IntKind.i64.wrap ((P : Int) - 1) = ((P - 1 : Nat) : Int) := (IntWalk.i64_in _ (by omega)).trans (by omega)
      obtain ⟨F, hF⟩ : ∃ F, P - 1 = F := ⟨_, rfl⟩
      rw [hF] at HI2 HI3 eP hrest
      obtain ⟨r, hr⟩ : ∃ r, F - x = r := ⟨_, rfl⟩
      have eR : IntKind.i64.wrap ((F : Int) - (x : Int)) = (r : Int) := (IntWalk.i64_in _ (by omega)).trans (by omega)
      rw [hr] at HI3
      clear hP hw hh hx hPe HI HS hp hfull hrest hF hr h12 hl1 hl2 hl3
      generalize W * H = m at *
      go_wp2_with fail
      refine (HI1.out _).mono ?_
      rintro e w2 ⟨v2, rfl, o2, b2⟩
      obtain ⟨g2, c2, rfl, _, _⟩ := own_addrP o2 (by omega)
      have b12 := below_then b1 b1.size b2
      go_wp2_with fail
      refine (HS1.out _).mono ?_
      rintro e w3 ⟨v3, rfl, o3, b3⟩
      obtain ⟨g3, c3, rfl, _, _⟩ := own_addrP o3 (by omega)
      have o2 := own_below o2 b3
      have b13 := below_then b12 b12.size b3
      go_wp2_with fail
      refine (equalIntsP_t _ _ _ _ _ _ _ _ _ HL1.out HL1.out (own_reads o2) (own_reads o3) (by rw [HL1.out]; omega) rfl).mono ?_
      rintro e w4 ⟨rfl, b4⟩
      have o2 := own_below o2 b4
      have b14 := below_then b13 b13.size b4
      clear o3
      go_wp2_with fail
      refine (HPW.out _).mono ?_
      rintro e w5 ⟨rfl, rfl⟩
      go_wp2_with fail
      refine (HI2.out _).mono ?_
      rintro e w6 ⟨v6, rfl, o6, b6⟩
      obtain ⟨g6, c6, rfl, _, _⟩ := own_addrP o6 (by omega)
      have o2 := own_below o2 b6
      have b16 := below_then b14 b14.size b6
      go_wp2_with fail
      refine (HI3.out _).mono ?_
      rintro e w7 ⟨v7, rfl, o7, b7⟩
      obtain ⟨g7, c7, rfl, _, _⟩ := own_addrP o7 (by omega)
      have o2 := own_below o2 b7
      have o6 := own_below o6 b7
      have b17 := below_then b16 b16.size b7
      have R2 := hide (own_reads o2)
      have R6 := hide (own_reads o6)
      have R7 := hide (own_reads o7)
      have hz2 : (natI L2).length = 4 := by have := o6.1; simpa using this
      have hz3 : (natI L3).length = 4 := by have := o7.1; simpa using this
      have HZ2 := hide hz2
      have HZ3 := hide hz3
      clear o2 o6 o7 b12 b13 b14 b16 b2 b3 b4 b6 hz2 hz3
      go_wp2_with fail
      go_loopw [10] (fun i wr => ∃ k : Nat, k ≤ 4 ∧ i = .int .i64 (k : Int) ∧ Below w7.heap.size w7 wr) (fun i _ => 4 - (intOf i).toNat)
      case atStart => exact ⟨0, by omega, rfl, Below.refl _ _⟩
      case round =>
        obtain ⟨k, hk, rfl, hb⟩ := hrel
        obtain ⟨wo, rfl⟩ : ∃ wo : World, wo = wr := ⟨_, rfl⟩
        by_cases hlt : k < 4
        · obtain ⟨a2, e2, q2⟩ := (R2.out.below hb).int (k := k) (by rw [HL1.out]; exact hlt)
          obtain ⟨a6, e6, q6⟩ := (R6.out.below hb).int (k := k) (by rw [HZ2.out]; exact hlt)
          obtain ⟨a7, e7, q7⟩ := (R7.out.below hb).int (k := k) (by rw [HZ3.out]; exact hlt)
          injection e2 with e2
          injection e6 with e6
          injection e7 with e7
          subst e2 e6 e7
          rw [natI_at, add0P] at q2 q6 q7
          obtain ⟨f1, f2, f3⟩ := HF.out k hlt
          generalize L1[k]?.getD 0 = x1 at *
          generalize L2[k]?.getD 0 = x2 at *
          generalize L3[k]?.getD 0 = x3 at *
          obtain ⟨y, hy⟩ : ∃ y, x1 + x3 = y := ⟨_, rfl⟩
          have t1 : Int.tmod (y : Int) 2 = (x2 : Int) := by
            have : Int.tmod (y : Int) 2 = ((y % 2 : Nat) : Int) := rfl
            rw [this, ← hy, f1]
          have e1 : IntKind.i64.wrap ((x1 : Int) + (x3 : Int)) = (y : Int) := (IntWalk.i64_in _ (by omega)).trans (by omega)
          have e3 : IntKind.i64.wrap (x2 : Int) = (x2 : Int) := IntWalk.i64_in _ (by omega)
          have hxx : ((x2 : Int) != (x2 : Int)) = false := by simp
          have k0 : (0 : Int) ≤ (k : Int) := by omega
          have k4 : (k : Int) < 4 := by omega
          clear f1 hy
          go_wp2_with fail
          go_quiet (fail)
          go_wp2_with fail
          exact ⟨⟨k + 1, hlt, by go_num, below_drewN hb _⟩, by simp [intOf]; omega⟩
        · obtain rfl : k = 4 := by omega
          go_wp2_with fail
          go_ret
          exact ⟨rfl, below_then b17 b17.size hb⟩
    · have hc : clsI bc br x = [] := by unfold clsI; rw [if_neg hP]
      rw [hc] at HI1 HS1
      clear hc hP HI HS
      go_wp2_with fail
      refine (HI1.out _).mono ?_
      rintro e w2 ⟨v2, rfl, o2, b2⟩
      obtain ⟨A2, c2, rfl, _⟩ := own_row o2
      have b12 := below_then b1 b1.size b2
      go_wp2_with fail
      refine (HS1.out _).mono ?_
      rintro e w3 ⟨v3, rfl, o3, b3⟩
      obtain ⟨A3, c3, rfl, _⟩ := own_row o3
      have b13 := below_then b12 b12.size b3
      go_wp2_with fail
      refine (equalIntsP_t _ _ _ _ _ _ [] [] _ rfl rfl (Row.empty _ _) (Row.empty _ _) (by simp) rfl).mono ?_
      rintro e w4 ⟨rfl, b4⟩
      have b14 := below_then b13 b13.size b4
      go_wp2_with fail
      refine (HS1.out _).mono ?_
      rintro e w5 ⟨v5, rfl, o5, b5⟩
      obtain ⟨A5, c5, rfl, _⟩ := own_row o5
      have b15 := below_then b14 b14.size b5
      go_wp2_with fail
      refine (equalIntsP_t _ _ _ _ _ _ [] [] _ rfl rfl (Row.empty _ _) (Row.empty _ _) (by simp) rfl).mono ?_
      rintro e w6 ⟨rfl, b6⟩
      have b16 := below_then b15 b15.size b6
      go_wp2_with fail
      go_ret
      exact ⟨rfl, b16⟩
end Go.Proofs.Ytgbbmnnpphkkbaa

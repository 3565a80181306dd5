
/-
  The walks of the laws FnLooseParts and FnFewestColours, off the contracts of the program's functions (given).
-/
import Derived.Test.YtdjkdjnbmhpokabLawHB
import Derived.Test.YtdjkdjnbmhpokabSpecM
import Derived.Test.YtdjkdjnbmhpokabExPaint
import Derived.Test.YtdjkdjnbmhpokabGuardN
namespace Go.Proofs.Ytdjkdjnbmhpokab
open Go.RowKit
set_option linter.unusedVariables false

theorem equalInts_h (A C : Option Addr) (n m ca cc : Nat) (xs ys : List Int) (w : World) (hx : xs.length = n) (hy : ys.length = m) (ha : Row w A (ints xs)) (hc : Row w C (ints ys)) (hn : xs.length ≤ 1000) (he : xs = ys) :
    Calls Try.prog 17 #[.slice A n ca, .slice C m cc] w (Plain (.bool true) w) := by
  subst hx hy he
  have := equalInts_c A C xs xs ca cc w ha hc (by simp [maxLen]; omega) (by simp [maxLen]; omega)
  rwa [decide_eq_true rfl] at this
set_option maxHeartbeats 4000000 in
set_option maxRecDepth 100000 in
theorem looseParts_w (HI : ∀ (bc br : Int) (s : ByteArray) (w5 : World), Calls Try.prog 12 #[.int .i64 bc, .int .i64 br, .string s] w5 (Owns 3 1 (looseL bc br s.toList).length (ints (natI (looseL bc br s.toList))) w5))
    (HA : ∀ (bc br : Int) (s : ByteArray) (w5 : World), Calls Try.prog 18 #[.int .i64 bc, .int .i64 br, .string s] w5 (Plain (.int .i64 (allMovesP bc br s.toList)) w5))
    (A : Option Addr) (n c : Nat) (w : World) (h : Code w A n c) : Calls Try.prog 5 #[.slice A n c] w (Plain (.bool true) w) := by
  by_cases hl : 1048576 < (n : Int)
  · go_enter Try.func5, Try.ntmps5
    go_wp2
    go_ret
    exact ⟨rfl, Below.refl _ _⟩
  · have HC := hide (drawLooseParts_c A n c w h)
    clear h
    go_enter Try.func5, Try.ntmps5
    go_wp2_with fail
    refine HC.out.mono ?_
    rintro e w1 ⟨bc, br, s, rfl, -, -, -, b1⟩
    have HI1 := hide (fun w5 => HI bc br s w5)
    have HS1 := hide (fun w5 => specLooseParts_c bc br s w5)
    have HA1 := hide (fun w5 => HA bc br s w5)
    have hsh := loose_short bc br s.toList
    clear HC HI HA
    cases hk : smallK bc br s.toList with
    | none =>
      have hz : looseL bc br s.toList = [] := by unfold looseL; rw [hk]
      rw [hz] at HI1 HS1
      rw [show ([] : List Nat).length = 0 from rfl] at HI1 HS1
      clear hk hz HA1 hsh
      go_wp2_with fail
      refine (HI1.out _).mono ?_
      rintro e w2 ⟨v2, rfl, o2, b2⟩
      obtain ⟨A2, c2, rfl, _⟩ := own_row o2
      have R2 := own_reads o2
      have b12 := below_then b1 b1.size b2
      clear o2 b1 b2
      go_wp2_with fail
      refine (HS1.out _).mono ?_
      rintro e w3 ⟨v3, rfl, o3, b3⟩
      obtain ⟨A3, c3, rfl, _⟩ := own_row o3
      have R2 := R2.below b3
      have R3 := own_reads o3
      have b13 := below_then b12 b12.size b3
      clear o3 b3
      go_wp2_with fail
      refine (equalInts_h _ _ _ _ _ _ _ _ _ rfl rfl R2 R3 (by simp [natI]) rfl).mono ?_
      rintro e w4 ⟨rfl, b4⟩
      have R2 := R2.below b4
      have b14 := below_then b13 b13.size b4
      clear R3 b4
      go_wp2_with fail
      refine (HS1.out _).mono ?_
      rintro e w5 ⟨v5, rfl, o5, b5⟩
      obtain ⟨A5, c5, rfl, _⟩ := own_row o5
      have R2 := R2.below b5
      have R5 := own_reads o5
      have b15 := below_then b14 b14.size b5
      clear o5 b5
      go_wp2_with fail
      refine (equalInts_h _ _ _ _ _ _ _ _ _ rfl rfl R2 R5 (by simp [natI]) rfl).mono ?_
      rintro e w6 ⟨rfl, b6⟩
      have b16 := below_then b15 b15.size b6
      go_wp2_with fail
      go_ret
      exact ⟨rfl, b16⟩
    | some p =>
      obtain ⟨ss, far⟩ := p
      obtain ⟨a, b, pf, rfl, rfl, ha, hb, hab, hL, hm1, h01, hst⟩ := loose_facts hk
      rw [hL] at HI1 HS1
      rw [mapN_len] at HI1 HS1
      generalize allMovesP (a : Int) (b : Int) s.toList = x at *
      have e0 : IntKind.i64.wrap ((a : Int) * (b : Int)) = ((a * b : Nat) : Int) := (IntWalk.i64_in _ (by rw [← Int.natCast_mul]; omega)).trans (by rw [Int.natCast_mul])
      clear hk hL hsh
      obtain ⟨m, hm⟩ : ∃ m, a * b = m := ⟨_, rfl⟩
      rw [hm] at e0 hab HI1 HS1 hm1
      clear hm
      have e1 : IntKind.i64.wrap ((m : Int) + 1) = (m : Int) + 1 := IntWalk.i64_in _ (by omega)
      have n0 : (((m + 1 : Nat) : Int) == 0) = false := by rw [beq_eq_false_iff_ne]; omega
      have n0' : ¬ ((m : Int) + 1 = 0) := by omega
      go_wp2_with fail
      refine (HI1.out _).mono ?_
      rintro e w2 ⟨v2, rfl, o2, b2⟩
      obtain ⟨g2, c2, rfl, _⟩ := own_one o2 (by omega)
      have b12 := below_then b1 b1.size b2
      clear b1 b2
      go_wp2_with fail
      refine (HS1.out _).mono ?_
      rintro e w3 ⟨v3, rfl, o3, b3⟩
      obtain ⟨A3, c3, rfl, _⟩ := own_row o3
      have o2 := own_below o2 b3
      have R3 := own_reads o3
      have b13 := below_then b12 b12.size b3
      clear o3 b3
      go_wp2_with fail
      refine (equalInts_h _ _ _ _ _ _ _ _ _ (by simp [natI, mapN_len]) (by simp [natI, mapN_len]) (own_reads o2) R3 (by simp [natI, mapN_len]; omega) rfl).mono ?_
      rintro e w4 ⟨rfl, b4⟩
      have o2 := own_below o2 b4
      have b14 := below_then b13 b13.size b4
      clear R3 b4
      go_wp2_with fail
      refine (HA1.out _).mono ?_
      rintro e w5 ⟨rfl, b5⟩
      have o2 := own_below o2 b5
      have b15 := below_then b14 b14.size b5
      obtain ⟨u0, _, _, _⟩ := own_natQ o2 (show 0 < m + 1 by omega) 0
      obtain ⟨u1, _, _, _⟩ := own_natQ o2 (show 1 < m + 1 by omega) 0
      obtain ⟨um, _, _, _⟩ := own_natQ o2 (show m < m + 1 by omega) 0
      rw [mapN_at _ (by omega)] at u0 u1 um
      rw [h01] at u0
      rw [hm1] at um
      clear o2
      generalize pf 1 = z at *
      have yy : ((x == 0) == (x == 0)) = true := by cases (x == 0) <;> rfl
      go_wp2_with fail
      go_ret
      exact ⟨rfl, b15⟩

theorem fall_pos (k : Nat) : ∀ p, p ≤ k → fallP k p ≠ 0
  | 0, _ => by simp [fallP]
  | p + 1, h => by
    have := fall_pos k p (by omega)
    show fallP k p * (k - p) ≠ 0
    exact Nat.mul_ne_zero this (by omega)
theorem fall_over (k : Nat) : ∀ p, k < p → fallP k p = 0
  | 0, h => by omega
  | p + 1, h => by
    show fallP k p * (k - p) = 0
    rw [show k - p = 0 by omega, Nat.mul_zero]
/-- Small boards as the document counts them. -/
theorem boardC_of {bc br : Int} (hS : Small bc br) : ∃ a b : Nat, bc = (a : Int) ∧ br = (b : Int) ∧ (1 ≤ a ∧ a ≤ 5) ∧ (1 ≤ b ∧ b ≤ 5) ∧ a * b ≤ 9 ∧ boardC a b = true := by
  obtain ⟨h1, h2, h3, h4, h9⟩ := hS
  obtain ⟨a, rfl⟩ : ∃ a : Nat, bc = ((a + 1 : Nat) : Int) := ⟨(bc - 1).toNat, by omega⟩
  obtain ⟨b, rfl⟩ : ∃ b : Nat, br = ((b + 1 : Nat) : Int) := ⟨(br - 1).toNat, by omega⟩
  have h9' : (a + 1) * (b + 1) ≤ 9 := by
    have : (((a + 1) * (b + 1) : Nat) : Int) ≤ 9 := by rw [Int.natCast_mul]; exact h9
    omega
  exact ⟨a + 1, b + 1, rfl, rfl, by omega, by omega, h9', board_C ⟨a, by omega⟩ ⟨b, by omega⟩ h9'⟩
theorem few_turn {bc br : Int} {s : List UInt8} {ss : List (Int × Int)} {far : Bool} (h : smallK bc br s = some (ss, far)) : fewTo (setsP bc br far ss) = fewTo (setsP br bc far ss) := by
  obtain ⟨hS, hkk⟩ := smallK_some h
  obtain ⟨a, b, rfl, rfl, _, _, _, hC⟩ := boardC_of hS
  unfold boardC at hC
  simp only [Bool.and_eq_true] at hC
  exact eq_of_beq (List.all_eq_true.1 hC.1.1.1.1 (ss, far) (kind_six6 hkk))
theorem few_facts {bc br : Int} {s : List UInt8} {ss : List (Int × Int)} {far : Bool} (h : smallK bc br s = some (ss, far)) :
    ∃ f : Nat, (1 ≤ f ∧ f ≤ 9) ∧ fewV bc br s = (f : Int) ∧ fewV br bc s = (f : Int) ∧ paintV bc br s (f : Int) ≠ 0 ∧ (paintV bc br s ((f : Int) - 1) < 0 ∨ paintV bc br s ((f : Int) - 1) = 0) := by
  obtain ⟨hS, hkk⟩ := smallK_some h
  obtain ⟨n, hU⟩ := hue_of hS hkk
  have hlen := hU.len
  have hn9 := hU.nine
  obtain ⟨f1, f2, f3, f4⟩ := few_is (L := setsP bc br far ss) (by rw [hlen]; exact hU.one)
  have hft := few_turn h
  refine ⟨fewTo (setsP bc br far ss), by omega, by unfold fewV; rw [h], by unfold fewV; rw [smallK_turn, h, hft], ?_, ?_⟩
  · by_cases h4 : fewTo (setsP bc br far ss) ≤ 4
    · rw [paintV_yes h (by omega), Int.toNat_natCast, paint_all]
      have := (sumN_ne (f := fun q => partsF (setsP bc br far ss) (setsP bc br far ss).length [] q * fallP (fewTo (setsP bc br far ss)) q) (n := (setsP bc br far ss).length + 1)).2 ⟨fewTo (setsP bc br far ss), by omega, Nat.mul_ne_zero f3 (fall_pos _ _ (Nat.le_refl _))⟩
      omega
    · rw [paintV_no (by rw [h, Option.isSome_some, Bool.true_and, decide_eq_false_iff_not]; omega)]
      decide
  · by_cases h4 : fewTo (setsP bc br far ss) - 1 ≤ 4
    · right
      rw [paintV_yes h (by omega), show ((fewTo (setsP bc br far ss) : Int) - 1).toNat = fewTo (setsP bc br far ss) - 1 by omega, paint_all]
      have : sumN (fun q => partsF (setsP bc br far ss) (setsP bc br far ss).length [] q * fallP (fewTo (setsP bc br far ss) - 1) q) ((setsP bc br far ss).length + 1) = 0 := by
        rw [sumN_congr (g := fun _ => 0) (fun q _ => by
          by_cases hq : q < fewTo (setsP bc br far ss)
          · rw [f4 q hq, Nat.zero_mul]
          · rw [fall_over _ q (by omega), Nat.mul_zero]), sumN_zero]
      rw [this]
      rfl
    · left
      rw [paintV_no (by rw [h, Option.isSome_some, Bool.true_and, decide_eq_false_iff_not]; omega)]
      decide
end Go.Proofs.Ytdjkdjnbmhpokab

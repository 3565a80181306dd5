
/-
  The walks of the laws FnPaintCount, FnPaintByParts, FnPaintsOfRooks and of the exact ones whose answer is a number, off the contracts of the program's functions (given).
-/
import Derived.Test.YtdjkdjnbmhpokaaPaintD
import Derived.Test.YtdjkdjnbmhpokaaPaintE
import Derived.Test.YtdjkdjnbmhpokaaDrawM
namespace Go.Proofs.Ytdjkdjnbmhpokaa
open Go.RowKit
set_option linter.unusedVariables false

theorem paintV_ge {bc br k : Int} {s : List UInt8} : -1 ≤ paintV bc br s k := by
  unfold paintV
  split
  · split <;> omega
  · omega
/-- One colour more paints in no fewer ways. -/
theorem paintV_more {bc br k : Int} {s : List UInt8} (h : ¬ paintV bc br s k < 0) : paintV bc br s (k + 1) < 0 ∨ paintV bc br s k ≤ paintV bc br s (k + 1) := by
  cases hsm : smallK bc br s with
  | none => exact absurd (show paintV bc br s k < 0 by rw [paintV_no (by rw [hsm]; rfl)]; omega) h
  | some p =>
    obtain ⟨ss, far⟩ := p
    by_cases hk : 0 ≤ k ∧ k ≤ 4
    · by_cases hk1 : 0 ≤ k + 1 ∧ k + 1 ≤ 4
      · right
        rw [paintV_yes hsm hk, paintV_yes hsm hk1, show (k + 1).toNat = k.toNat + 1 by omega, paint_all, paint_all]
        have := sumN_mono (f := fun q => partsF (setsP bc br far ss) (setsP bc br far ss).length [] q * fallP k.toNat q) (g := fun q => partsF (setsP bc br far ss) (setsP bc br far ss).length [] q * fallP (k.toNat + 1) q) (n := (setsP bc br far ss).length + 1) (fun q _ => Nat.mul_le_mul_left _ (fall_mono _ q))
        omega
      · left
        rw [paintV_no (by rw [hsm, Option.isSome_some, Bool.true_and, decide_eq_false_iff_not]; exact hk1)]
        omega
    · exact absurd (show paintV bc br s k < 0 by rw [paintV_no (by rw [hsm, Option.isSome_some, Bool.true_and, decide_eq_false_iff_not]; exact hk)]; omega) h
/-- No colour paints nothing. -/
theorem paintV_none {bc br k : Int} {s : List UInt8} (h : ¬ paintV bc br s k < 0) : 0 < k ∨ paintV bc br s k = 0 := by
  cases hsm : smallK bc br s with
  | none => exact absurd (show paintV bc br s k < 0 by rw [paintV_no (by rw [hsm]; rfl)]; omega) h
  | some p =>
    obtain ⟨ss, far⟩ := p
    by_cases hk : 0 ≤ k ∧ k ≤ 4
    · by_cases h0 : k = 0
      · right
        subst h0
        obtain ⟨hS, hkk⟩ := smallK_some hsm
        obtain ⟨n, hU⟩ := hue_of hS hkk
        obtain ⟨m, hm⟩ : ∃ m, n = m + 1 := ⟨n - 1, by have := hU.one; omega⟩
        rw [paintV_yes hsm hk, hU.len, hm]
        rfl
      · left; omega
    · exact absurd (show paintV bc br s k < 0 by rw [paintV_no (by rw [hsm, Option.isSome_some, Bool.true_and, decide_eq_false_iff_not]; exact hk)]; omega) h
set_option maxHeartbeats 4000000 in
set_option maxRecDepth 100000 in
theorem paintCount_w (HI : ∀ (bc br : Int) (s : ByteArray) (k : Int) (w5 : World), Calls Try.prog 8 #[.int .i64 bc, .int .i64 br, .string s, .int .i64 k] w5 (Plain (.int .i64 (paintV bc br s.toList k)) w5))
    (HB : ∀ (bc br : Int) (s : ByteArray) (k : Int) (w5 : World), Calls Try.prog 10 #[.int .i64 bc, .int .i64 br, .string s, .int .i64 k] w5 (Plain (.int .i64 (paintV bc br s.toList k)) w5))
    (A : Option Addr) (n c : Nat) (w : World) (h : Code w A n c) : Calls Try.prog 5 #[.slice A n c] w (Plain (.bool true) w) := by
  by_cases hl : 1048576 < (n : Int)
  · go_enter Try.func5, Try.ntmps5
    go_wp2
    go_ret
    exact ⟨rfl, Below.refl _ _⟩
  · have HC := hide (drawPaintCount_c A n c w h)
    clear h
    go_enter Try.func5, Try.ntmps5
    go_wp2_with fail
    refine HC.out.mono ?_
    rintro e w1 ⟨bc, br, k, s, rfl, -, -, hk, -, b1⟩
    have HI1 := hide (fun w5 => HI bc br s k w5)
    have HS1 := hide (fun w5 => specPaintCount_c bc br s k w5)
    have HI2 := hide (fun w5 => HI bc br s (k + 1) w5)
    have HB1 := hide (fun w5 => HB bc br s k w5)
    have HM := hide (fun (h : ¬ paintV bc br s.toList k < 0) => paintV_more h)
    have e1 : IntKind.i64.wrap (k + 1) = k + 1 := IntWalk.i64_in _ (by omega)
    clear HC HI HB hk
    generalize paintV bc br s.toList k = x at *
    generalize paintV bc br s.toList (k + 1) = y at *
    have hxx : (x != x) = false := by simp
    have hxe : (x == x) = true := by simp
    by_cases hx : x < 0
    · clear HM HI2 HB1
      go_wp2_with fail
      refine (HI1.out _).mono ?_
      rintro e w2 ⟨rfl, b2⟩
      have b12 := below_then b1 b1.size b2
      go_wp2_with fail
      refine (HS1.out _).mono ?_
      rintro e w3 ⟨rfl, b3⟩
      have b13 := below_then b12 b12.size b3
      go_wp2_with fail
      refine (HS1.out _).mono ?_
      rintro e w4 ⟨rfl, b4⟩
      have b14 := below_then b13 b13.size b4
      go_wp2_with fail
      go_ret
      exact ⟨rfl, b14⟩
    · have hm := HM.out hx
      clear HM
      by_cases hy : y < 0
      · clear hm
        go_wp2_with fail
        refine (HI1.out _).mono ?_
        rintro e w2 ⟨rfl, b2⟩
        have b12 := below_then b1 b1.size b2
        go_wp2_with fail
        refine (HS1.out _).mono ?_
        rintro e w3 ⟨rfl, b3⟩
        have b13 := below_then b12 b12.size b3
        go_wp2_with fail
        refine (HI2.out _).mono ?_
        rintro e w4 ⟨rfl, b4⟩
        have b14 := below_then b13 b13.size b4
        go_wp2_with fail
        refine (HB1.out _).mono ?_
        rintro e w5 ⟨rfl, b5⟩
        have b15 := below_then b14 b14.size b5
        go_wp2_with fail
        go_ret
        exact ⟨rfl, b15⟩
      · have hxy : x ≤ y := hm.resolve_left hy
        clear hm
        go_wp2_with fail
        refine (HI1.out _).mono ?_
        rintro e w2 ⟨rfl, b2⟩
        have b12 := below_then b1 b1.size b2
        go_wp2_with fail
        refine (HS1.out _).mono ?_
        rintro e w3 ⟨rfl, b3⟩
        have b13 := below_then b12 b12.size b3
        go_wp2_with fail
        refine (HI2.out _).mono ?_
        rintro e w4 ⟨rfl, b4⟩
        have b14 := below_then b13 b13.size b4
        go_wp2_with fail
        refine (HB1.out _).mono ?_
        rintro e w5 ⟨rfl, b5⟩
        have b15 := below_then b14 b14.size b5
        go_wp2_with fail
        go_ret
        exact ⟨rfl, b15⟩
set_option maxHeartbeats 4000000 in
set_option maxRecDepth 100000 in
theorem paintByParts_w (HI : ∀ (bc br : Int) (s : ByteArray) (k : Int) (w5 : World), Calls Try.prog 8 #[.int .i64 bc, .int .i64 br, .string s, .int .i64 k] w5 (Plain (.int .i64 (paintV bc br s.toList k)) w5))
    (HB : ∀ (bc br : Int) (s : ByteArray) (k : Int) (w5 : World), Calls Try.prog 10 #[.int .i64 bc, .int .i64 br, .string s, .int .i64 k] w5 (Plain (.int .i64 (paintV bc br s.toList k)) w5))
    (A : Option Addr) (n c : Nat) (w : World) (h : Code w A n c) : Calls Try.prog 6 #[.slice A n c] w (Plain (.bool true) w) := by
  by_cases hl : 1048576 < (n : Int)
  · go_enter Try.func6, Try.ntmps6
    go_wp2
    go_ret
    exact ⟨rfl, Below.refl _ _⟩
  · have HC := hide (drawPaintByParts_c A n c w h)
    clear h
    go_enter Try.func6, Try.ntmps6
    go_wp2_with fail
    refine HC.out.mono ?_
    rintro e w1 ⟨bc, br, k, s, rfl, -, -, hk, -, b1⟩
    have HI1 := hide (fun w5 => HI bc br s k w5)
    have HS1 := hide (fun w5 => specPaintByParts_c bc br s k w5)
    have HB1 := hide (fun w5 => HB bc br s k w5)
    have HM := hide (fun (h : ¬ paintV bc br s.toList k < 0) => paintV_none h)
    clear HC HI HB
    generalize paintV bc br s.toList k = x at *
    have hxx : (x != x) = false := by simp
    have hxe : (x == x) = true := by simp
    by_cases hx : x < 0
    · clear HM HI1
      go_wp2_with fail
      refine (HB1.out _).mono ?_
      rintro e w2 ⟨rfl, b2⟩
      have b12 := below_then b1 b1.size b2
      go_wp2_with fail
      refine (HS1.out _).mono ?_
      rintro e w3 ⟨rfl, b3⟩
      have b13 := below_then b12 b12.size b3
      go_wp2_with fail
      refine (HS1.out _).mono ?_
      rintro e w4 ⟨rfl, b4⟩
      have b14 := below_then b13 b13.size b4
      go_wp2_with fail
      go_ret
      exact ⟨rfl, b14⟩
    · have hm := HM.out hx
      clear HM
      by_cases hk0 : 0 < k
      · clear hm
        go_wp2_with fail
        refine (HB1.out _).mono ?_
        rintro e w2 ⟨rfl, b2⟩
        have b12 := below_then b1 b1.size b2
        go_wp2_with fail
        refine (HS1.out _).mono ?_
        rintro e w3 ⟨rfl, b3⟩
        have b13 := below_then b12 b12.size b3
        go_wp2_with fail
        refine (HI1.out _).mono ?_
        rintro e w4 ⟨rfl, b4⟩
        have b14 := below_then b13 b13.size b4
        go_wp2_with fail
        go_ret
        exact ⟨rfl, b14⟩
      · have hx0 : (x == 0) = true := by rw [beq_iff_eq]; exact hm.resolve_left hk0
        clear hm
        go_wp2_with fail
        refine (HB1.out _).mono ?_
        rintro e w2 ⟨rfl, b2⟩
        have b12 := below_then b1 b1.size b2
        go_wp2_with fail
        refine (HS1.out _).mono ?_
        rintro e w3 ⟨rfl, b3⟩
        have b13 := below_then b12 b12.size b3
        go_wp2_with fail
        refine (HI1.out _).mono ?_
        rintro e w4 ⟨rfl, b4⟩
        have b14 := below_then b13 b13.size b4
        go_wp2_with fail
        go_ret
        exact ⟨rfl, b14⟩
end Go.Proofs.Ytdjkdjnbmhpokaa

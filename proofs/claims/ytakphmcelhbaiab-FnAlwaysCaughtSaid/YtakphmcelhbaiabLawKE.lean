
/-
  The walks of the laws FnAlwaysCaught and FnKingsAreCaught.
-/
import Derived.Test.YtakphmcelhbaiabPChaseJ
import Derived.Test.YtakphmcelhbaiabPChaseG
import Derived.Test.YtakphmcelhbaiabPGuardD
import Derived.Test.YtakphmcelhbaiabLawKD
import Derived.Test.YtakphmcelhbaiabDrawM
import Derived.Test.YtakphmcelhbaiabGuardN
namespace Go.Proofs.Ytakphmcelhbaiab
open Go.RowKit
set_option linter.unusedVariables false

set_option maxHeartbeats 4000000 in
set_option maxRecDepth 100000 in
theorem alwaysCaught_w (A : Option Addr) (n c : Nat) (w : World) (h : Code w A n c) : Calls Try.prog 5 #[.slice A n c] w (Plain (.bool true) w) := by
  by_cases hl : 1048576 < (n : Int)
  · go_enter Try.func5, Try.ntmps5
    go_wp2
    go_ret
    exact ⟨rfl, Below.refl _ _⟩
  · have HC := hide (drawAlwaysCaught_c A n c w h)
    clear h
    go_enter Try.func5, Try.ntmps5
    go_wp2_with fail
    refine HC.out.mono ?_
    rintro e w1 ⟨bc, br, s, rfl, -, -, -, b1⟩
    have HI1 := hide (fun w5 => implAlways_c bc br s w5)
    have HS1 := hide (fun w5 => specAlwaysCaught_c bc br s w5)
    have HV1 := hide (fun w5 => implValidSmall_c bc br s w5)
    have HT1 := hide (fun w5 => implAlways_c br bc s w5)
    have HF1 := hide (fun w5 => implFoldOrder_c bc br s w5)
    clear HC
    unfold alwaysV at HI1 HS1 HT1
    unfold foldV at HF1
    rw [smallK_turn] at HT1
    cases hk : smallK bc br s.toList with
    | none =>
      rw [hk] at HI1 HS1 HV1
      have hvn : (none : Option (List (Int × Int) × Bool)).isSome = false := rfl
      rw [hvn] at HV1
      clear hk HT1 HF1 hvn
      go_wp2_with fail
      refine (HI1.out _).mono ?_
      rintro e w2 ⟨rfl, b2⟩
      have b12 := below_then b1 b1.size b2
      go_wp2_with fail
      refine (HS1.out _).mono ?_
      rintro e w3 ⟨rfl, b3⟩
      have b13 := below_then b12 b12.size b3
      go_wp2_with fail
      refine (HV1.out _).mono ?_
      rintro e w4 ⟨rfl, b4⟩
      have b14 := below_then b13 b13.size b4
      go_wp2_with fail
      refine (HS1.out _).mono ?_
      rintro e w5 ⟨rfl, b5⟩
      have b15 := below_then b14 b14.size b5
      go_wp2_with fail
      go_ret
      exact ⟨rfl, b15⟩
    | some p =>
      obtain ⟨ss, far⟩ := p
      obtain ⟨a, b, rfl, rfl, ha, hb, hab, hok⟩ := chase_facts hk
      have ff := fold_facts hok
      rw [hk] at HI1 HS1 HV1 HT1 HF1
      have e0 : IntKind.i64.wrap ((a : Int) * (b : Int)) = ((a * b : Nat) : Int) := (IntWalk.i64_in _ (by rw [← Int.natCast_mul]; omega)).trans (by rw [Int.natCast_mul])
      have f1 := ff.always
      have f2 := ff.turned
      have f3 := ff.short
      simp only [← Int.natCast_mul, Int.toNat_natCast, Option.isSome_some] at HI1 HS1 HV1 HT1 HF1
      rw [Nat.mul_comm b a, f2] at HT1
      clear hk hok ff f2
      generalize alwaysTo (catN (setsP (a : Int) (b : Int) far ss)) (a * b) (a * b) = r at *
      generalize foldN (setsP (a : Int) (b : Int) far ss) = F at *
      obtain ⟨m, hm⟩ : ∃ m, a * b = m := ⟨_, rfl⟩
      rw [hm] at e0 f1 f3 hab
      clear hm
      have e1 : IntKind.i64.wrap ((m : Int) - 1) = (m : Int) - 1 := IntWalk.i64_in _ (by omega)
      have f4 : ((F.length : Int) == (m : Int) - 1) = r := by
        rw [f1, Bool.eq_iff_iff, beq_iff_eq, beq_iff_eq]
        omega
      have HFL := hide f3
      clear f1 f3
      cases r
      all_goals
        go_wp2_with fail
        refine (HI1.out _).mono ?_
        rintro e w2 ⟨rfl, b2⟩
        have b12 := below_then b1 b1.size b2
        go_wp2_with fail
        refine (HS1.out _).mono ?_
        rintro e w3 ⟨rfl, b3⟩
        have b13 := below_then b12 b12.size b3
        go_wp2_with fail
        refine (HV1.out _).mono ?_
        rintro e w4 ⟨rfl, b4⟩
        have b14 := below_then b13 b13.size b4
        go_wp2_with fail
        refine (HF1.out _).mono ?_
        rintro e w5 ⟨v5, rfl, o5, b5⟩
        obtain ⟨A5, c5, rfl, _⟩ := own_row o5
        have b15 := below_then b14 b14.size b5
        clear o5
        go_wp2_with fail
        refine (HT1.out _).mono ?_
        rintro e w6 ⟨rfl, b6⟩
        have b16 := below_then b15 b15.size b6
        go_wp2_with fail
        go_ret
        exact ⟨rfl, b16⟩
theorem kinds_facts {a b : Nat} (ha : 1 ≤ a ∧ a ≤ 5) (hb : 1 ≤ b ∧ b ≤ 5) (hab : a * b ≤ 9) : chaseKinds a b = true := by
  have := chase_kinds ⟨a - 1, by omega⟩ ⟨b - 1, by omega⟩
  simp only [show a - 1 + 1 = a by omega, show b - 1 + 1 = b by omega] at this
  exact this hab
theorem kings_facts {a b : Nat} (h : chaseKinds a b = true) : alwaysTo (catN (setsP a b false both)) (a * b) (a * b) = true ∧ alwaysTo (catN (setsP a b false straight)) (a * b) (a * b) = (a == 1 || b == 1) := by
  unfold chaseKinds at h
  simp only [Bool.and_eq_true, beq_iff_eq] at h
  exact ⟨h.1.1, h.1.2⟩
theorem kind_step : kindL (ByteArray.toList ⟨#[115, 116, 101, 112]⟩) = some (straight, false) := by decide +kernel
theorem always_kind {a b : Nat} {s : List UInt8} {ss : List (Int × Int)} {far : Bool} (hS : Small (a : Int) (b : Int)) (hk : kindL s = some (ss, far)) : alwaysV (a : Int) (b : Int) s = alwaysTo (catN (setsP a b far ss)) (a * b) (a * b) := by
  unfold alwaysV smallK
  rw [if_pos hS, hk]
  simp only [← Int.natCast_mul, Int.toNat_natCast]
set_option maxHeartbeats 4000000 in
set_option maxRecDepth 100000 in
theorem kingsAreCaught_w (A : Option Addr) (n c : Nat) (w : World) (h : Code w A n c) : Calls Try.prog 6 #[.slice A n c] w (Plain (.bool true) w) := by
  by_cases hl : 1048576 < (n : Int)
  · go_enter Try.func6, Try.ntmps6
    go_wp2
    go_ret
    exact ⟨rfl, Below.refl _ _⟩
  · have HC := hide (drawAlwaysCaught_c A n c w h)
    clear h
    go_enter Try.func6, Try.ntmps6
    go_wp2_with fail
    refine HC.out.mono ?_
    rintro e w1 ⟨bc, br, s, rfl, -, -, -, b1⟩
    have HI1 := hide (fun w5 => implAlways_c bc br s w5)
    have HS1 := hide (fun w5 => specAlwaysCaught_c bc br s w5)
    have HV1 := hide (fun w5 => implValidSmall_c bc br s w5)
    have HK1 := hide (fun w5 => implAlways_c bc br ⟨#[107, 105, 110, 103]⟩ w5)
    have HP1 := hide (fun w5 => implAlways_c bc br ⟨#[115, 116, 101, 112]⟩ w5)
    clear HC
    cases hk : smallK bc br s.toList with
    | none =>
      rw [hk] at HV1
      have hvn : (none : Option (List (Int × Int) × Bool)).isSome = false := rfl
      rw [hvn] at HV1
      generalize alwaysV bc br s.toList = r at *
      have hrr : (r != r) = false := by simp
      clear hk HK1 HP1 hvn
      go_wp2_with fail
      refine (HI1.out _).mono ?_
      rintro e w2 ⟨rfl, b2⟩
      have b12 := below_then b1 b1.size b2
      go_wp2_with fail
      refine (HS1.out _).mono ?_
      rintro e w3 ⟨rfl, b3⟩
      have b13 := below_then b12 b12.size b3
      go_wp2_with fail
      refine (HV1.out _).mono ?_
      rintro e w4 ⟨rfl, b4⟩
      have b14 := below_then b13 b13.size b4
      go_wp2_with fail
      go_ret
      exact ⟨rfl, b14⟩
    | some p =>
      obtain ⟨ss, far⟩ := p
      obtain ⟨hS, hkk⟩ := smallK_some hk
      obtain ⟨a, b, rfl, rfl, ha, hb, hab, hok⟩ := chase_facts hk
      rw [hk, Option.isSome_some] at HV1
      obtain ⟨k1, k2⟩ := kings_facts (kinds_facts ha hb hab.2)
      rw [always_kind hS kind_king, k1] at HK1
      rw [always_kind hS kind_step, k2] at HP1
      generalize alwaysV (a : Int) (b : Int) s.toList = r at *
      have hrr : (r != r) = false := by simp
      clear hk hkk hok k1 k2 hS
      by_cases a1 : a = 1
      · subst a1
        have HP2 : Hid (∀ w5, Calls Try.prog _ #[.int .i64 ((1 : Nat) : Int), .int .i64 (b : Int), .string ⟨#[115, 116, 101, 112]⟩] w5 (Plain (.bool true) w5)) := HP1
        clear HP1
        go_wp2_with fail
        refine (HI1.out _).mono ?_
        rintro e w2 ⟨rfl, b2⟩
        have b12 := below_then b1 b1.size b2
        go_wp2_with fail
        refine (HS1.out _).mono ?_
        rintro e w3 ⟨rfl, b3⟩
        have b13 := below_then b12 b12.size b3
        go_wp2_with fail
        refine (HV1.out _).mono ?_
        rintro e w4 ⟨rfl, b4⟩
        have b14 := below_then b13 b13.size b4
        go_wp2_with fail
        refine (HK1.out _).mono ?_
        rintro e w5 ⟨rfl, b5⟩
        have b15 := below_then b14 b14.size b5
        go_wp2_with fail
        refine (HP2.out _).mono ?_
        rintro e w6 ⟨rfl, b6⟩
        have b16 := below_then b15 b15.size b6
        go_wp2_with fail
        go_ret
        exact ⟨rfl, b16⟩
      · have a1' : ((a : Int) == 1) = false := by rw [beq_eq_false_iff_ne]; omega
        rw [beq_eq_false_iff_ne.2 a1, Bool.false_or] at HP1
        have hb1 : ((b : Int) == 1) = (b == 1) := by rw [Bool.eq_iff_iff, beq_iff_eq, beq_iff_eq]; omega
        generalize (b == 1) = q at *
        cases q
        all_goals
          go_wp2_with fail
          refine (HI1.out _).mono ?_
          rintro e w2 ⟨rfl, b2⟩
          have b12 := below_then b1 b1.size b2
          go_wp2_with fail
          refine (HS1.out _).mono ?_
          rintro e w3 ⟨rfl, b3⟩
          have b13 := below_then b12 b12.size b3
          go_wp2_with fail
          refine (HV1.out _).mono ?_
          rintro e w4 ⟨rfl, b4⟩
          have b14 := below_then b13 b13.size b4
          go_wp2_with fail
          refine (HK1.out _).mono ?_
          rintro e w5 ⟨rfl, b5⟩
          have b15 := below_then b14 b14.size b5
          go_wp2_with fail
          refine (HP1.out _).mono ?_
          rintro e w6 ⟨rfl, b6⟩
          have b16 := below_then b15 b15.size b6
          go_wp2_with fail
          go_ret
          exact ⟨rfl, b16⟩
end Go.Proofs.Ytakphmcelhbaiab

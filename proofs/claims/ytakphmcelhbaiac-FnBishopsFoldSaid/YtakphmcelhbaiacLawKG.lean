
/-
  The walk of the law FnBishopsFold; what a piece reaches, as the law FnCatchMoves wants it.
-/
import Derived.Test.YtakphmcelhbaiacPChaseH
import Derived.Test.YtakphmcelhbaiacPChaseJ
import Derived.Test.YtakphmcelhbaiacPGuardD
import Derived.Test.YtakphmcelhbaiacLawKB
import Derived.Test.YtakphmcelhbaiacDrawM
import Derived.Test.YtakphmcelhbaiacGuardN
import Derived.Test.YtakphmcelhbaiacMoveH
namespace Go.Proofs.Ytakphmcelhbaiac
open Go.RowKit
set_option linter.unusedVariables false

def rowOk9 (bc br : Nat) (p : List (Int × Int) × Bool) : Bool := (List.range (bc * br)).all fun (k : Nat) => ascP (cellsP bc br p.2 [] (k : Int) p.1) == natI (reachL (setsP bc br p.2 p.1) k)
theorem row_all9 : ∀ a : Fin 5, ∀ b : Fin 5, (a.val + 1) * (b.val + 1) ≤ 9 → kinds6.all (rowOk9 (a.val + 1) (b.val + 1)) = true := by decide +kernel
theorem reach_row {bc br : Int} {s : List UInt8} {ss : List (Int × Int)} {far : Bool} (hS : Small bc br) (hk : kindL s = some (ss, far)) (k : Nat) (hkn : (k : Int) < bc * br) : reachP bc br far [] (k : Int) ss = natI (reachL (setsP bc br far ss) k) := by
  obtain ⟨h1, h2, h3, h4, h9⟩ := hS
  obtain ⟨a, rfl⟩ : ∃ a : Nat, bc = ((a + 1 : Nat) : Int) := ⟨(bc - 1).toNat, by omega⟩
  obtain ⟨b, rfl⟩ : ∃ b : Nat, br = ((b + 1 : Nat) : Int) := ⟨(br - 1).toNat, by omega⟩
  have h9' : (a + 1) * (b + 1) ≤ 9 := by
    have : (((a + 1) * (b + 1) : Nat) : Int) ≤ 9 := by rw [Int.natCast_mul]; exact h9
    omega
  have hk' : k < (a + 1) * (b + 1) := by
    have : (k : Int) < (((a + 1) * (b + 1) : Nat) : Int) := by rw [Int.natCast_mul]; exact hkn
    omega
  have h := List.all_eq_true.1 (row_all9 ⟨a, by omega⟩ ⟨b, by omega⟩ h9') _ (kind_six6 hk)
  have h := List.all_eq_true.1 h k (List.mem_range.2 hk')
  rw [show reachP ((a + 1 : Nat) : Int) ((b + 1 : Nat) : Int) far [] (k : Int) ss = ascP (cellsP ((a + 1 : Nat) : Int) ((b + 1 : Nat) : Int) far [] (k : Int) ss) from (ascP_eq _).symm]
  exact eq_of_beq h
theorem reachOf_row (bc br : Int) (s : ByteArray) (ss : List (Int × Int)) (far : Bool) (i : Nat) (w5 : World) (hk : smallK bc br s.toList = some (ss, far)) (hi : i < (setsP bc br far ss).length) :
    Calls Try.prog 10 #[.int .i64 bc, .int .i64 br, .string s, .int .i64 (i : Int), .slice none 0 0] w5 (Owns 3 1 (reachL (setsP bc br far ss) i).length (ints (natI (reachL (setsP bc br far ss) i))) w5) := by
  obtain ⟨hS, hkk⟩ := smallK_some hk
  obtain ⟨_, hlen⟩ := sets9_of hS hkk
  obtain ⟨h1, h2, h3, h4, h9⟩ := hS
  have := reachOf_yes bc br (i : Int) s none 0 [] w5 hkk h1 h2 h3 h4 (by omega) (by omega) (Row.empty _ _) (fun ad e => by cases e) (by simp [maxLen]) (fun j hj => absurd hj (by simp))
  rwa [reach_row ⟨h1, h2, h3, h4, h9⟩ hkk i (by omega), natI_len] at this
theorem bishops_facts {a b : Nat} (h : chaseKinds a b = true) (ha : 2 ≤ a) (hb : 2 ≤ b) : alwaysTo (catN (setsP a b true slanted)) (a * b) (a * b) = false ∧
    ∀ i k, i < a * b → k < a * b → (i / a + i % a + k / a + k % a) % 2 = 1 → cAt (catN (setsP a b true slanted)) i k = 0 := by
  unfold chaseKinds at h
  simp only [Bool.and_eq_true, Bool.or_eq_true, beq_iff_eq] at h
  obtain ⟨_, h⟩ := h
  rcases h with h | h
  · omega
  · obtain ⟨h1, h2⟩ := h
    refine ⟨by simpa using h1, fun i k hi hk hp => ?_⟩
    have := List.all_eq_true.1 (List.all_eq_true.1 h2 i (List.mem_range.2 hi)) k (List.mem_range.2 hk)
    simp only [Bool.or_eq_true, Bool.not_eq_true', beq_eq_false_iff_ne, beq_iff_eq] at this
    rcases this with h | h
    · exact absurd hp h
    · exact h
theorem kinds_factsB {a b : Nat} (ha : 1 ≤ a ∧ a ≤ 5) (hb : 1 ≤ b ∧ b ≤ 5) (hab : a * b ≤ 9) : chaseKinds a b = true := by
  have := chase_kinds ⟨a - 1, by omega⟩ ⟨b - 1, by omega⟩
  simp only [show a - 1 + 1 = a by omega, show b - 1 + 1 = b by omega] at this
  exact this hab
theorem always_kindB {a b : Nat} {s : List UInt8} {ss : List (Int × Int)} {far : Bool} (hS : Small (a : Int) (b : Int)) (hk : kindL s = some (ss, far)) : alwaysV (a : Int) (b : Int) s = alwaysTo (catN (setsP a b far ss)) (a * b) (a * b) := by
  unfold alwaysV smallK
  rw [if_pos hS, hk]
  simp only [← Int.natCast_mul, Int.toNat_natCast]
theorem catch_kindB {a b i k : Nat} {s : List UInt8} {ss : List (Int × Int)} {far : Bool} (hS : Small (a : Int) (b : Int)) (hk : kindL s = some (ss, far)) (hi : i < a * b) (hkk : k < a * b) : catchV (a : Int) (b : Int) s (i : Int) (k : Int) = (cAt (catN (setsP a b far ss)) i k : Int) - 1 := by
  unfold catchV smallK
  rw [if_pos hS, hk]
  simp only [← Int.natCast_mul, Int.toNat_natCast]
  rw [if_pos (by omega)]
set_option maxHeartbeats 4000000 in
set_option maxRecDepth 100000 in
theorem bishopsFold_w (A : Option Addr) (n c : Nat) (w : World) (h : Code w A n c) : Calls Try.prog 4 #[.slice A n c] w (Plain (.bool true) w) := by
  by_cases hl : 1048576 < (n : Int)
  · go_enter Try.func4, Try.ntmps4
    go_wp2
    go_ret
    exact ⟨rfl, Below.refl _ _⟩
  · have HC := hide (drawCatchMoves_c A n c w h)
    clear h
    go_enter Try.func4, Try.ntmps4
    go_wp2_with fail
    refine HC.out.mono ?_
    rintro e w1 ⟨bc, br, i, k, s, rfl, -, -, hib, hkb, -, b1⟩
    have HI1 := hide (fun w5 => implCatchMoves_c bc br s i k w5)
    have HS1 := hide (fun w5 => specCatchMoves_c bc br s i k w5)
    have HV1 := hide (fun w5 => implValidSmall_c bc br s w5)
    have HB1 := hide (fun w5 => implAlways_c bc br ⟨#[98, 105, 115, 104, 111, 112]⟩ w5)
    have HM1 := hide (fun w5 => implCatchMoves_c bc br ⟨#[98, 105, 115, 104, 111, 112]⟩ i k w5)
    clear HC
    generalize catchV bc br s.toList i k = r at *
    have hrr : (r != r) = false := by simp
    cases hk : smallK bc br s.toList with
    | none =>
      rw [hk] at HV1
      have hvn : (none : Option (List (Int × Int) × Bool)).isSome = false := rfl
      rw [hvn] at HV1
      clear hk HB1 HM1 hvn
      go_wp2_with fail
      refine (HI1.out _).mono ?_
      rintro e w2 ⟨rfl, b2⟩
      have b12 := below_then b1 b1.size b2
      go_wp2_with fail
      refine (HS1.out _).mono ?_
      rintro e w3 ⟨rfl, b3⟩
      have b13 := below_then b12 b12.size b3
      go_wp2_with fail
      refine (HV1.out _).mono ?_
      rintro e w4 ⟨rfl, b4⟩
      have b14 := below_then b13 b13.size b4
      go_wp2_with fail
      go_ret
      exact ⟨rfl, b14⟩
    | some p =>
      obtain ⟨ss, far⟩ := p
      obtain ⟨hS, hkk⟩ := smallK_some hk
      obtain ⟨a, b, rfl, rfl, ha, hb, hab, hok⟩ := chase_facts hk
      rw [hk, Option.isSome_some] at HV1
      have hkf := kinds_factsB ha hb hab.2
      have e0 : IntKind.i64.wrap ((a : Int) * (b : Int)) = ((a * b : Nat) : Int) := (IntWalk.i64_in _ (by rw [← Int.natCast_mul]; omega)).trans (by rw [Int.natCast_mul])
      clear hk hkk hok
      by_cases a2 : (a : Int) < 2
      · clear HB1 HM1 hkf
        go_wp2_with fail
        refine (HI1.out _).mono ?_
        rintro e w2 ⟨rfl, b2⟩
        have b12 := below_then b1 b1.size b2
        go_wp2_with fail
        refine (HS1.out _).mono ?_
        rintro e w3 ⟨rfl, b3⟩
        have b13 := below_then b12 b12.size b3
        go_wp2_with fail
        refine (HV1.out _).mono ?_
        rintro e w4 ⟨rfl, b4⟩
        have b14 := below_then b13 b13.size b4
        go_wp2_with fail
        go_ret
        exact ⟨rfl, b14⟩
      · by_cases c2 : (b : Int) < 2
        · clear HB1 HM1 hkf
          go_wp2_with fail
          refine (HI1.out _).mono ?_
          rintro e w2 ⟨rfl, b2⟩
          have b12 := below_then b1 b1.size b2
          go_wp2_with fail
          refine (HS1.out _).mono ?_
          rintro e w3 ⟨rfl, b3⟩
          have b13 := below_then b12 b12.size b3
          go_wp2_with fail
          refine (HV1.out _).mono ?_
          rintro e w4 ⟨rfl, b4⟩
          have b14 := below_then b13 b13.size b4
          go_wp2_with fail
          go_ret
          exact ⟨rfl, b14⟩
        · by_cases i0 : i < 0
          · clear HB1 HM1 hkf
            go_wp2_with fail
            refine (HI1.out _).mono ?_
            rintro e w2 ⟨rfl, b2⟩
            have b12 := below_then b1 b1.size b2
            go_wp2_with fail
            refine (HS1.out _).mono ?_
            rintro e w3 ⟨rfl, b3⟩
            have b13 := below_then b12 b12.size b3
            go_wp2_with fail
            refine (HV1.out _).mono ?_
            rintro e w4 ⟨rfl, b4⟩
            have b14 := below_then b13 b13.size b4
            go_wp2_with fail
            go_ret
            exact ⟨rfl, b14⟩
          · by_cases k0 : k < 0
            · clear HB1 HM1 hkf
              go_wp2_with fail
              refine (HI1.out _).mono ?_
              rintro e w2 ⟨rfl, b2⟩
              have b12 := below_then b1 b1.size b2
              go_wp2_with fail
              refine (HS1.out _).mono ?_
              rintro e w3 ⟨rfl, b3⟩
              have b13 := below_then b12 b12.size b3
              go_wp2_with fail
              refine (HV1.out _).mono ?_
              rintro e w4 ⟨rfl, b4⟩
              have b14 := below_then b13 b13.size b4
              go_wp2_with fail
              go_ret
              exact ⟨rfl, b14⟩
            · obtain ⟨f1, f2⟩ := bishops_facts hkf (by omega) (by omega)
              rw [always_kindB hS kind_bishop, f1] at HB1
              obtain ⟨i, rfl⟩ := Int.eq_ofNat_of_zero_le (show 0 ≤ i by omega)
              obtain ⟨k, rfl⟩ := Int.eq_ofNat_of_zero_le (show 0 ≤ k by omega)
              have f3 := fun h1 h2 => catch_kindB (i := i) (k := k) hS kind_bishop h1 h2
              obtain ⟨m, hm⟩ : ∃ m, a * b = m := ⟨_, rfl⟩
              rw [hm] at e0 f2 f3
              have HF := hide (fun (h1 : i < m) (h2 : k < m) (h3 : (i / a + i % a + k / a + k % a) % 2 = 1) w5 => show Calls Try.prog _ #[.int .i64 (a : Int), .int .i64 (b : Int), .string ⟨#[98, 105, 115, 104, 111, 112]⟩, .int .i64 (i : Int), .int .i64 (k : Int)] w5 (Plain (.int .i64 (-1)) w5) by
                have := HM1.out w5
                rw [f3 h1 h2, f2 i k h1 h2 h3] at this
                exact this)
              have HAB := hide hab
              clear f1 f2 f3 hkf hS HM1 hm
              by_cases im : (m : Int) ≤ (i : Int)
              · clear HB1 HF
                go_wp2_with fail
                refine (HI1.out _).mono ?_
                rintro e w2 ⟨rfl, b2⟩
                have b12 := below_then b1 b1.size b2
                go_wp2_with fail
                refine (HS1.out _).mono ?_
                rintro e w3 ⟨rfl, b3⟩
                have b13 := below_then b12 b12.size b3
                go_wp2_with fail
                refine (HV1.out _).mono ?_
                rintro e w4 ⟨rfl, b4⟩
                have b14 := below_then b13 b13.size b4
                go_wp2_with fail
                go_ret
                exact ⟨rfl, b14⟩
              · by_cases km : (m : Int) ≤ (k : Int)
                · clear HB1 HF
                  go_wp2_with fail
                  refine (HI1.out _).mono ?_
                  rintro e w2 ⟨rfl, b2⟩
                  have b12 := below_then b1 b1.size b2
                  go_wp2_with fail
                  refine (HS1.out _).mono ?_
                  rintro e w3 ⟨rfl, b3⟩
                  have b13 := below_then b12 b12.size b3
                  go_wp2_with fail
                  refine (HV1.out _).mono ?_
                  rintro e w4 ⟨rfl, b4⟩
                  have b14 := below_then b13 b13.size b4
                  go_wp2_with fail
                  go_ret
                  exact ⟨rfl, b14⟩
                · have him : i < m := by omega
                  have hkm : k < m := by omega
                  have HFF := hide (HF.out him hkm)
                  have ha0 : a ≠ 0 := by omega
                  have t1 : Int.tdiv (i : Int) (a : Int) = ((i / a : Nat) : Int) := rfl
                  have t2 : Int.tdiv (k : Int) (a : Int) = ((k / a : Nat) : Int) := rfl
                  have t3 : Int.tmod (i : Int) (a : Int) = ((i % a : Nat) : Int) := rfl
                  have t4 : Int.tmod (k : Int) (a : Int) = ((k % a : Nat) : Int) := rfl
                  have u1 := Nat.div_le_self i a
                  have u2 := Nat.div_le_self k a
                  have u3 := Nat.mod_lt i (show 0 < a by omega)
                  have u4 := Nat.mod_lt k (show 0 < a by omega)
                  generalize i / a = p1 at *
                  generalize k / a = p3 at *
                  generalize i % a = p2 at *
                  generalize k % a = p4 at *
                  have q1 : IntKind.i64.wrap (p1 : Int) = (p1 : Int) := IntWalk.i64_in _ (by omega)
                  have q3 : IntKind.i64.wrap (p3 : Int) = (p3 : Int) := IntWalk.i64_in _ (by omega)
                  have q2 : IntKind.i64.wrap (p2 : Int) = (p2 : Int) := IntWalk.i64_in _ (by omega)
                  have q4 : IntKind.i64.wrap (p4 : Int) = (p4 : Int) := IntWalk.i64_in _ (by omega)
                  obtain ⟨s1, hs1⟩ : ∃ s1, p1 + p2 = s1 := ⟨_, rfl⟩
                  obtain ⟨s2, hs2⟩ : ∃ s2, s1 + p3 = s2 := ⟨_, rfl⟩
                  obtain ⟨s3, hs3⟩ : ∃ s3, s2 + p4 = s3 := ⟨_, rfl⟩
                  have g1 : IntKind.i64.wrap ((p1 : Int) + (p2 : Int)) = (s1 : Int) := (IntWalk.i64_in _ (by omega)).trans (by omega)
                  have g2 : IntKind.i64.wrap ((s1 : Int) + (p3 : Int)) = (s2 : Int) := (IntWalk.i64_in _ (by omega)).trans (by omega)
                  have g3 : IntKind.i64.wrap ((s2 : Int) + (p4 : Int)) = (s3 : Int) := (IntWalk.i64_in _ (by omega)).trans (by omega)
                  rw [hs1, hs2, hs3] at HFF
                  have v1 : Int.tmod (s3 : Int) 2 = ((s3 % 2 : Nat) : Int) := rfl
                  obtain ⟨t, ht⟩ : ∃ t, s3 % 2 = t := ⟨_, rfl⟩
                  rw [ht] at HFF v1
                  have ht2 : t < 2 := by omega
                  have v2 : IntKind.i64.wrap (t : Int) = (t : Int) := IntWalk.i64_in _ (by omega)
                  clear hs1 hs2 hs3 ht him hkm HF HAB u1 u2 u3 u4
                  by_cases ap : t = 1
                  · have HFG := hide (HFF.out ap)
                    subst ap
                    clear HFF ht2
                    have v3 : (((1 : Nat) : Int) == 1) = true := rfl
                    go_wp2_with fail
                    refine (HI1.out _).mono ?_
                    rintro e w2 ⟨rfl, b2⟩
                    have b12 := below_then b1 b1.size b2
                    go_wp2_with fail
                    refine (HS1.out _).mono ?_
                    rintro e w3 ⟨rfl, b3⟩
                    have b13 := below_then b12 b12.size b3
                    go_wp2_with fail
                    refine (HV1.out _).mono ?_
                    rintro e w4 ⟨rfl, b4⟩
                    have b14 := below_then b13 b13.size b4
                    go_wp2_with fail
                    go_quiet (fail)
                    all_goals go_wp2_with fail
                    refine (HB1.out _).mono ?_
                    rintro e w5 ⟨rfl, b5⟩
                    have b15 := below_then (below_drewN b14 _) (below_drewN b14 _).size b5
                    go_wp2_with fail
                    refine (HFG.out _).mono ?_
                    rintro e w6 ⟨rfl, b6⟩
                    have b16 := below_then b15 b15.size b6
                    go_wp2_with fail
                    go_ret
                    exact ⟨rfl, b16⟩
                  · obtain rfl : t = 0 := by omega
                    clear HFF ht2 ap
                    have v3 : (((0 : Nat) : Int) == 1) = false := rfl
                    go_wp2_with fail
                    refine (HI1.out _).mono ?_
                    rintro e w2 ⟨rfl, b2⟩
                    have b12 := below_then b1 b1.size b2
                    go_wp2_with fail
                    refine (HS1.out _).mono ?_
                    rintro e w3 ⟨rfl, b3⟩
                    have b13 := below_then b12 b12.size b3
                    go_wp2_with fail
                    refine (HV1.out _).mono ?_
                    rintro e w4 ⟨rfl, b4⟩
                    have b14 := below_then b13 b13.size b4
                    go_wp2_with fail
                    go_quiet (fail)
                    all_goals go_wp2_with fail
                    refine (HB1.out _).mono ?_
                    rintro e w5 ⟨rfl, b5⟩
                    have b15 := below_then (below_drewN b14 _) (below_drewN b14 _).size b5
                    go_wp2_with fail
                    go_ret
                    exact ⟨rfl, b15⟩
end Go.Proofs.Ytakphmcelhbaiac

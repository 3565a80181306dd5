
/-
  The walks of the laws FnPaintsOfRooks and FnLooseParts, off the contracts of the program's functions (given).
-/
import Derived.Test.YtdjkdjnbmhpokabPaintD
import Derived.Test.YtdjkdjnbmhpokabPaintE
import Derived.Test.YtdjkdjnbmhpokabDrawM
namespace Go.Proofs.Ytdjkdjnbmhpokab
open Go.RowKit
set_option linter.unusedVariables false

theorem kind_rookH : kindL (ByteArray.toList ⟨#[114, 111, 111, 107]⟩) = some (straight, true) := by decide +kernel
theorem rook_len : (setsP 1 1 true straight).length = 1 ∧ (setsP 2 2 true straight).length = 4 ∧ (setsP 3 3 true straight).length = 9 := by decide +kernel
theorem rook_one : paintV 1 1 (ByteArray.toList ⟨#[114, 111, 111, 107]⟩) 1 = 1 := by
  rw [paintV_yes (ss := straight) (far := true) (by unfold smallK; rw [if_pos ⟨by omega, by omega, by omega, by omega, by omega⟩, kind_rookH]) (by omega), rook_len.1]
  exact congrArg (fun x : Nat => (x : Int)) rook_paints.1
theorem rook_two : paintV 2 2 (ByteArray.toList ⟨#[114, 111, 111, 107]⟩) 2 = 2 := by
  rw [paintV_yes (ss := straight) (far := true) (by unfold smallK; rw [if_pos ⟨by omega, by omega, by omega, by omega, by omega⟩, kind_rookH]) (by omega), rook_len.2.1]
  exact congrArg (fun x : Nat => (x : Int)) rook_paints.2.1
theorem rook_three : paintV 3 3 (ByteArray.toList ⟨#[114, 111, 111, 107]⟩) 3 = 12 := by
  rw [paintV_yes (ss := straight) (far := true) (by unfold smallK; rw [if_pos ⟨by omega, by omega, by omega, by omega, by omega⟩, kind_rookH]) (by omega), rook_len.2.2]
  exact congrArg (fun x : Nat => (x : Int)) rook_paints.2.2
set_option maxHeartbeats 4000000 in
set_option maxRecDepth 100000 in
theorem paintsOfRooks_w (HI : ∀ (bc br : Int) (s : ByteArray) (k : Int) (w5 : World), Calls Try.prog 8 #[.int .i64 bc, .int .i64 br, .string s, .int .i64 k] w5 (Plain (.int .i64 (paintV bc br s.toList k)) w5))
    (HB : ∀ (bc br : Int) (s : ByteArray) (k : Int) (w5 : World), Calls Try.prog 10 #[.int .i64 bc, .int .i64 br, .string s, .int .i64 k] w5 (Plain (.int .i64 (paintV bc br s.toList k)) w5))
    (A : Option Addr) (n c : Nat) (w : World) (h : Code w A n c) : Calls Try.prog 3 #[.slice A n c] w (Plain (.bool true) w) := by
  by_cases hl : 1048576 < (n : Int)
  · go_enter Try.func3, Try.ntmps3
    go_wp2
    go_ret
    exact ⟨rfl, Below.refl _ _⟩
  · have HC := hide (drawPaintCount_c A n c w h)
    clear h
    go_enter Try.func3, Try.ntmps3
    go_wp2_with fail
    refine HC.out.mono ?_
    rintro e w1 ⟨bc, br, k, s, rfl, -, -, hk, -, b1⟩
    have HI1 := hide (fun w5 => HI bc br s k w5)
    have HS1 := hide (fun w5 => specPaintCount_c bc br s k w5)
    have HR1 := hide (fun w5 => HI 1 1 ⟨#[114, 111, 111, 107]⟩ 1 w5)
    have HR2 := hide (fun w5 => HI 2 2 ⟨#[114, 111, 111, 107]⟩ 2 w5)
    have HR3 := hide (fun w5 => HB 3 3 ⟨#[114, 111, 111, 107]⟩ 3 w5)
    rw [rook_one] at HR1
    rw [rook_two] at HR2
    rw [rook_three] at HR3
    clear HC HI HB hk
    generalize paintV bc br s.toList k = x at *
    have hxx : (x != x) = false := by simp
    go_wp2_with fail
    refine (HI1.out _).mono ?_
    rintro e w2 ⟨rfl, b2⟩
    have b12 := below_then b1 b1.size b2
    go_wp2_with fail
    refine (HS1.out _).mono ?_
    rintro e w3 ⟨rfl, b3⟩
    have b13 := below_then b12 b12.size b3
    go_wp2_with fail
    refine (HI1.out _).mono ?_
    rintro e w4 ⟨rfl, b4⟩
    have b14 := below_then b13 b13.size b4
    by_cases hx : x < 0
    · go_wp2_with fail
      go_ret
      exact ⟨rfl, b14⟩
    · go_wp2_with fail
      refine (HR1.out _).mono ?_
      rintro e w5 ⟨rfl, b5⟩
      have b15 := below_then b14 b14.size b5
      go_wp2_with fail
      refine (HR2.out _).mono ?_
      rintro e w6 ⟨rfl, b6⟩
      have b16 := below_then b15 b15.size b6
      go_wp2_with fail
      refine (HR3.out _).mono ?_
      rintro e w7 ⟨rfl, b7⟩
      have b17 := below_then b16 b16.size b7
      go_wp2_with fail
      go_ret
      exact ⟨rfl, b17⟩

/-- A set is empty if and only if it has no cell. -/
theorem pow_sum : ∀ l : List Int, (l.map fun x => 2 ^ x.toNat).sum = 0 ↔ l.length = 0
  | [] => by simp
  | x :: r => by
    simp only [List.map_cons, List.sum_cons, List.length_cons]
    have := Nat.two_pow_pos x.toNat
    omega
theorem sum_none (bc br : Int) (far : Bool) (ss : List (Int × Int)) : ∀ n : Nat, sumP bc br far ss n = 0 ↔ ∀ k, k < n → setFrom bc br far ss k = 0
  | 0 => by simp [sumP]
  | n + 1 => by
    have ih := sum_none bc br far ss n
    have h0 : 0 ≤ sumP bc br far ss n := by
      clear ih
      induction n with
      | zero => exact Int.le_refl _
      | succ n ih => show 0 ≤ sumP bc br far ss n + _; omega
    have hl : (reachP bc br far [] n ss).length = 0 ↔ setFrom bc br far ss n = 0 := by
      unfold reachP setFrom
      rw [List.length_mergeSort]
      exact (pow_sum _).symm
    show sumP bc br far ss n + (reachP bc br far [] n ss).length = 0 ↔ _
    constructor
    · intro h k hk
      by_cases e : k = n
      · subst e; exact hl.1 (by omega)
      · exact ih.1 (by omega) k (by omega)
    · intro h
      have h1 := ih.2 fun k hk => h k (by omega)
      have h2 := hl.2 (h n (by omega))
      omega
/-- What the law wants of the partings. -/
theorem loose_facts {bc br : Int} {s : List UInt8} {ss : List (Int × Int)} {far : Bool} (h : smallK bc br s = some (ss, far)) :
    ∃ (a b : Nat) (pf : Nat → Nat), bc = (a : Int) ∧ br = (b : Int) ∧ (1 ≤ a ∧ a ≤ 5) ∧ (1 ≤ b ∧ b ≤ 5) ∧ (1 ≤ a * b ∧ a * b ≤ 9) ∧ looseL bc br s = mapN (a * b + 1) pf ∧ pf (a * b) = 1 ∧ pf 0 = 0 ∧ ((pf 1 : Int) == 1) = (allMovesP bc br s == 0) := by
  obtain ⟨hS, hkk⟩ := smallK_some h
  obtain ⟨n, hU⟩ := hue_of hS hkk
  have hY := looseL_yes h
  obtain ⟨h1, h2, h3, h4, h9⟩ := hS
  have hal : allMovesP bc br s = sumP bc br far ss n := by
    unfold allMovesP
    rw [hkk]
    simp only
    rw [if_pos ⟨by omega, by omega, by omega, by omega⟩, hU.size, Int.toNat_natCast]
  obtain ⟨a, rfl⟩ : ∃ a : Nat, bc = (a : Int) := ⟨bc.toNat, by omega⟩
  obtain ⟨b, rfl⟩ : ∃ b : Nat, br = (b : Int) := ⟨br.toNat, by omega⟩
  have hn : n = a * b := by have := hU.size; rw [← Int.natCast_mul] at this; omega
  have hone := hU.one
  have hnine := hU.nine
  have hlen := hU.len
  refine ⟨a, b, partsF (setsP a b far ss) n [], rfl, rfl, by omega, by omega, by omega, by rw [hY, hlen, hn], ?_, ?_, ?_⟩
  · rw [← hn, parts_most _ _ _ _ (by simp)]
    simp
  · obtain ⟨m, hm⟩ : ∃ m, n = m + 1 := ⟨n - 1, by omega⟩
    rw [hm]
    exact parts_none _ _
  · obtain ⟨m, hm⟩ : ∃ m, n = m + 1 := ⟨n - 1, by omega⟩
    obtain ⟨e, he, heq, _⟩ := chOf_mem hU.tab
    have hF := List.all_eq_true.1 first_all e he
    rw [heq] at hF
    unfold firstOk at hF
    simp only [Bool.and_eq_true] at hF
    have hF := hF.2
    have hp : partsF (setsP a b far ss) n [] 1 = oneTo (setsP a b far ss) ((setsP a b far ss).length - 1) 1 := by
      rw [hlen, hm, parts_one0, hlen, hm, Nat.sub_self]
      rfl
    rw [hp]
    have hx : (((oneTo (setsP a b far ss) ((setsP a b far ss).length - 1) 1 : Nat) : Int) == 1) = (oneTo (setsP a b far ss) ((setsP a b far ss).length - 1) 1 == 1) := by
      rw [Bool.eq_iff_iff, beq_iff_eq, beq_iff_eq]; omega
    rw [hx, eq_of_beq hF, hal]
    rw [Bool.eq_iff_iff, List.all_eq_true, beq_iff_eq, sum_none, hlen]
    have hat : ∀ k, k < n → (setsP (a : Int) (b : Int) far ss)[k]?.getD 0 = setFrom a b far ss k := fun k hk => by
      have hz : ((a : Int) * (b : Int)).toNat = n := by rw [hU.size, Int.toNat_natCast]
      unfold setsP
      simp [hz, hk]
    constructor
    · intro h k hk
      have := h k (List.mem_range.2 hk)
      rw [beq_iff_eq, hat k hk] at this
      exact this
    · intro h k hk
      rw [beq_iff_eq, hat k (List.mem_range.1 hk)]
      exact h k (List.mem_range.1 hk)
end Go.Proofs.Ytdjkdjnbmhpokab

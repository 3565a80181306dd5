
/-
  The walk of the law FnCommonTimes, off the contracts of the program's functions (given).
-/
import Derived.Test.YtoapmmmmdfmaeacWalkG
import Derived.Test.YtoapmmmmdfmaeacDrawM
import Derived.Test.YtoapmmmmdfmaeacLawRW
import Derived.Test.YtoapmmmmdfmaeacGuardN
namespace Go.Proofs.Ytoapmmmmdfmaeac
open Go.RowKit
set_option linter.unusedVariables false

theorem turn_lt {a b i : Nat} (ha : 1 ≤ a) (hi : i < a * b) : i % a * b + i / a < b * a := by
  have h1 := Nat.mod_lt i (show 0 < a by omega)
  have h2 : i / a < b := Nat.div_lt_of_lt_mul hi
  have h3 : (i % a + 1) * b ≤ a * b := Nat.mul_le_mul h1 (Nat.le_refl _)
  rw [Nat.add_mul, Nat.one_mul] at h3
  rw [Nat.mul_comm b a]
  omega
theorem hit_turn (bc br : Int) (s : List UInt8) (i k : Int) : hitV bc br s i k = none ∨ ∃ (a b i' k' : Nat) (p : Nat × Nat), bc = (a : Int) ∧ br = (b : Int) ∧ i = (i' : Int) ∧ k = (k' : Int) ∧ (1 ≤ a ∧ a ≤ 5) ∧ b ≤ 5 ∧ i' ≤ 1000 ∧ k' ≤ 1000 ∧ hitV bc br s i k = some p ∧
    hitV br bc s ((i' % a * b + i' / a : Nat) : Int) ((k' % a * b + k' / a : Nat) : Int) = some p := by
  unfold hitV
  rw [smallK_turn bc br s]
  cases hk : smallK bc br s with
  | none => exact .inl rfl
  | some z =>
    obtain ⟨ss, far⟩ := z
    obtain ⟨hS, hkk⟩ := smallK_some hk
    obtain ⟨a, b, n, hW⟩ := walk_of hS hkk
    obtain ⟨s1, s2, s3, s4, s5⟩ := hS
    simp only
    by_cases hc : (0 ≤ i ∧ i < bc * br) ∧ (0 ≤ k ∧ k < bc * br)
    · rw [if_pos hc]
      cases hh : hitOf (setsP bc br far ss) with
      | none => exact .inl rfl
      | some M =>
        have hbd := hW.board
        have e1 := hW.eqc
        have e2 := hW.eqr
        have hz := hW.sz
        have hn9 := hW.nine
        have hsz := hW.size
        subst e1 e2
        obtain ⟨⟨c1, c2⟩, c3, c4⟩ := hc
        obtain ⟨i, rfl⟩ := Int.eq_ofNat_of_zero_le c1
        obtain ⟨k, rfl⟩ := Int.eq_ofNat_of_zero_le c3
        unfold boardOk at hbd
        simp only at hbd
        rw [hh] at hbd
        simp only [Bool.and_eq_true] at hbd
        obtain ⟨_, hbd⟩ := hbd
        cases hT : hitOf (setsP (b : Int) (a : Int) far ss) with
        | none => rw [hT] at hbd; cases hbd
        | some M2 =>
          rw [hT] at hbd
          have hin : i < a * b := by omega
          have hkn : k < a * b := by omega
          have := List.all_eq_true.1 (List.all_eq_true.1 hbd i (List.mem_range.2 hin)) k (List.mem_range.2 hkn)
          have t1 := turn_lt (a := a) (b := b) (by omega) hin
          have t2 := turn_lt (a := a) (b := b) (by omega) hkn
          have hba : (b : Int) * (a : Int) = ((b * a : Nat) : Int) := (Int.natCast_mul _ _).symm
          refine .inr ⟨a, b, i, k, hAt M i k, rfl, rfl, rfl, rfl, by omega, by omega, by omega, by omega, by simp, ?_⟩
          obtain ⟨u, hu⟩ : ∃ u, i % a * b + i / a = u := ⟨_, rfl⟩
          obtain ⟨v, hv⟩ : ∃ v, k % a * b + k / a = v := ⟨_, rfl⟩
          rw [hu] at t1 this
          rw [hv] at t2 this
          rw [hu, hv, hba, if_pos ⟨⟨Int.natCast_nonneg _, Int.ofNat_lt.2 t1⟩, Int.natCast_nonneg _, Int.ofNat_lt.2 t2⟩, Option.map_some]
          simp only [Int.toNat_natCast]
          rw [beq_iff_eq.1 this]
    · rw [if_neg hc]
      exact .inl rfl
set_option maxHeartbeats 4000000 in
set_option maxRecDepth 100000 in
theorem commonTimes_w (HI : ∀ (bc br : Int) (s : ByteArray) (i k : Int) (w5 : World), Calls Try.prog 7 #[.int .i64 bc, .int .i64 br, .string s, .int .i64 i, .int .i64 k] w5 (Plain (optF (hitV bc br s.toList i k)) w5))
    (A : Option Addr) (n c : Nat) (w : World) (h : Code w A n c) : Calls Try.prog 5 #[.slice A n c] w (Plain (.bool true) w) := by
  by_cases hl : 1048576 < (n : Int)
  · go_enter Try.func5, Try.ntmps5
    go_wp2
    go_ret
    exact ⟨rfl, Below.refl _ _⟩
  · have HC := hide (drawHitTime_c A n c w h)
    have HI := hide HI
    clear h
    go_enter Try.func5, Try.ntmps5
    go_wp2_with fail
    refine HC.out.mono ?_
    rintro e w1 ⟨bc, br, i, k, s, rfl, -, -, -, -, -, b1⟩
    have HI1 := hide (fun w5 => HI.out bc br s i k w5)
    have HS1 := hide (fun w5 => specHitTime_c bc br s i k w5)
    clear HC
    rcases hit_turn bc br s.toList i k with hn | ⟨a, b, i, k, p, rfl, rfl, rfl, rfl, ha, hb, hi, hk, hp, hq⟩
    · rw [hn] at HI1 HS1
      have ho : optF none = .tuple #[.agg #[.int .i64 0, .int .i64 0], .bool false] := rfl
      rw [ho] at HI1 HS1
      clear hn HI
      go_wp2_with fail
      refine (HI1.out _).mono ?_
      rintro e w2 ⟨rfl, b2⟩
      have b12 := below_then b1 b1.size b2
      have bw := Box.new w2 26 #[.int .i64 0, .int .i64 0]
      have b12 := b12.alloc b12.size (.cells #[.int .i64 0, .int .i64 0] 26)
      go_wp2_with fail
      refine (HS1.out _).mono ?_
      rintro e w3 ⟨rfl, b3⟩
      have b13 := below_then b12 b12.size b3
      have bw := (bw.then b3).alloc (.cells #[.int .i64 0, .int .i64 0] 26)
      have bg := Box.new w3 26 #[.int .i64 0, .int .i64 0]
      have b13 := b13.alloc b13.size (.cells #[.int .i64 0, .int .i64 0] 26)
      have c0 := bw.cell 0
      have c1 := bw.cell 1
      have d0 := bg.cell 0
      have d1 := bg.cell 1
      go_wp2_with fail
      refine (HI1.out _).mono ?_
      rintro e w4 ⟨rfl, b4⟩
      have b14 := below_then b13 b13.size b4
      have bh := Box.new w4 26 #[.int .i64 0, .int .i64 0]
      have b14 := b14.alloc b14.size (.cells #[.int .i64 0, .int .i64 0] 26)
      have g1 := bh.cell 1
      go_wp2_with fail
      go_ret
      exact ⟨rfl, b14⟩
    · have HT1 := hide (fun w5 => HI.out (b : Int) (a : Int) s ((i % a * b + i / a : Nat) : Int) ((k % a * b + k / a : Nat) : Int) w5)
      rw [hp] at HI1 HS1
      rw [hq] at HT1
      have HA := hide (fun w5 => turnedCell_c a b i w5 ha hb hi)
      have HB := hide (fun w5 => turnedCell_c a b k w5 ha hb hk)
      generalize i % a * b + i / a = ti at *
      generalize k % a * b + k / a = tk at *
      obtain ⟨x, y⟩ := p
      have ho1 : optF (some (x, y)) = .tuple #[.agg #[.int .i64 (x : Int), .int .i64 (y : Int)], .bool true] := rfl
      rw [ho1] at HI1 HS1 HT1
      clear hp hq ho1 HI
      go_wp2_with fail
      refine (HI1.out _).mono ?_
      rintro e w2 ⟨rfl, b2⟩
      have b12 := below_then b1 b1.size b2
      have bw := Box.new w2 26 #[.int .i64 (x : Int), .int .i64 (y : Int)]
      have b12 := b12.alloc b12.size (.cells #[.int .i64 (x : Int), .int .i64 (y : Int)] 26)
      go_wp2_with fail
      refine (HS1.out _).mono ?_
      rintro e w3 ⟨rfl, b3⟩
      have b13 := below_then b12 b12.size b3
      have bw := (bw.then b3).alloc (.cells #[.int .i64 (x : Int), .int .i64 (y : Int)] 26)
      have bg := Box.new w3 26 #[.int .i64 (x : Int), .int .i64 (y : Int)]
      have b13 := b13.alloc b13.size (.cells #[.int .i64 (x : Int), .int .i64 (y : Int)] 26)
      have c0 := bw.cell 0
      have c1 := bw.cell 1
      have d0 := bg.cell 0
      have d1 := bg.cell 1
      go_wp2_with fail
      refine (HI1.out _).mono ?_
      rintro e w4 ⟨rfl, b4⟩
      have b14 := below_then b13 b13.size b4
      have bh := Box.new w4 26 #[.int .i64 (x : Int), .int .i64 (y : Int)]
      have b14 := b14.alloc b14.size (.cells #[.int .i64 (x : Int), .int .i64 (y : Int)] 26)
      go_wp2_with fail
      refine (HA.out _).mono ?_
      rintro e w5 ⟨rfl, b5⟩
      have b15 := below_then b14 b14.size b5
      have bh := bh.then b5
      go_wp2_with fail
      refine (HB.out _).mono ?_
      rintro e w6 ⟨rfl, b6⟩
      have b16 := below_then b15 b15.size b6
      have bh := bh.then b6
      go_wp2_with fail
      refine (HT1.out _).mono ?_
      rintro e w7 ⟨rfl, b7⟩
      have b17 := below_then b16 b16.size b7
      have bh := (bh.then b7).alloc (.cells #[.int .i64 (x : Int), .int .i64 (y : Int)] 26)
      have bi := Box.new w7 26 #[.int .i64 (x : Int), .int .i64 (y : Int)]
      have b17 := b17.alloc b17.size (.cells #[.int .i64 (x : Int), .int .i64 (y : Int)] 26)
      have g0 := bh.cell 0
      have g1 := bh.cell 1
      have h0 := bi.cell 0
      have h1 := bi.cell 1
      go_wp2_with fail
      go_ret
      exact ⟨rfl, b17⟩
end Go.Proofs.Ytoapmmmmdfmaeac

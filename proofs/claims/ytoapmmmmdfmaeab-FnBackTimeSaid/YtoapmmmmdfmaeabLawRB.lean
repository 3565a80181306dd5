
/-
  The walk of the law FnBackTime, off the contracts of the program's functions (given).
-/
import Derived.Test.YtoapmmmmdfmaeabWalkG
import Derived.Test.YtoapmmmmdfmaeabDrawM
namespace Go.Proofs.Ytoapmmmmdfmaeab
open Go.RowKit
set_option linter.unusedVariables false

theorem back_share (bc br : Int) (s : List UInt8) (cell : Int) : backV bc br s cell = none ∨ ∃ p q, backV bc br s cell = some p ∧ shareV bc br s cell = some q ∧ okF p = true ∧ okF q = true ∧ p.1 * q.1 = p.2 * q.2 := by
  unfold backV shareV
  cases hk : smallK bc br s with
  | none => exact .inl rfl
  | some z =>
    obtain ⟨ss, far⟩ := z
    obtain ⟨hS, hkk⟩ := smallK_some hk
    obtain ⟨a, b, n, hW⟩ := walk_of hS hkk
    simp only
    by_cases hc : 0 ≤ cell ∧ cell < bc * br
    · rw [if_pos hc, if_pos hc]
      cases hh : hitOf (setsP bc br far ss) with
      | none => exact .inl rfl
      | some M =>
        have hch := chance_of hh
        unfold chanceOk at hch
        simp only [Bool.and_eq_true, decide_eq_true_eq] at hch
        obtain ⟨⟨⟨⟨⟨_, _⟩, hbk⟩, _⟩, _⟩, _⟩ := hch
        have hsz := hW.size
        have hln := hW.len
        have hbo := List.all_eq_true.1 hbk cell.toNat (List.mem_range.2 (by omega))
        unfold backOk at hbo
        simp only [Bool.and_eq_true, decide_eq_true_eq, beq_iff_eq] at hbo
        exact .inr ⟨_, _, rfl, rfl, hbo.1.1.2, hbo.1.2, hbo.2⟩
    · rw [if_neg hc]
      exact .inl rfl
set_option maxHeartbeats 4000000 in
set_option maxRecDepth 100000 in
theorem backTime_w (HI : ∀ (bc br : Int) (s : ByteArray) (i : Int) (w5 : World), Calls Try.prog 13 #[.int .i64 bc, .int .i64 br, .string s, .int .i64 i] w5 (Plain (optF (backV bc br s.toList i)) w5))
    (HH : ∀ (bc br : Int) (s : ByteArray) (i : Int) (w5 : World), Calls Try.prog 8 #[.int .i64 bc, .int .i64 br, .string s, .int .i64 i] w5 (Plain (optF (shareV bc br s.toList i)) w5))
    (A : Option Addr) (n c : Nat) (w : World) (h : Code w A n c) : Calls Try.prog 5 #[.slice A n c] w (Plain (.bool true) w) := by
  by_cases hl : 1048576 < (n : Int)
  · go_enter Try.func5, Try.ntmps5
    go_wp2
    go_ret
    exact ⟨rfl, Below.refl _ _⟩
  · have HC := hide (drawBackTime_c A n c w h)
    have HI := hide HI
    have HH := hide HH
    clear h
    go_enter Try.func5, Try.ntmps5
    go_wp2_with fail
    refine HC.out.mono ?_
    rintro e w1 ⟨bc, br, i, s, rfl, -, -, -, -, b1⟩
    have HI1 := hide (fun w5 => HI.out bc br s i w5)
    have HS1 := hide (fun w5 => specBackTime_c bc br s i w5)
    have HH1 := hide (fun w5 => HH.out bc br s i w5)
    clear HC HI HH
    rcases back_share bc br s.toList i with hn | ⟨p, q, hp, hq, okp, okq, hpq⟩
    · rw [hn] at HI1 HS1
      have ho : optF none = .tuple #[.agg #[.int .i64 0, .int .i64 0], .bool false] := rfl
      rw [ho] at HI1 HS1
      clear hn HH1
      go_wp2_with fail
      refine (HI1.out _).mono ?_
      rintro e w2 ⟨rfl, b2⟩
      have b12 := below_then b1 b1.size b2
      have bw := Box.new w2 26 #[.int .i64 0, .int .i64 0]
      have b12 := b12.alloc b12.size (.cells #[.int .i64 0, .int .i64 0] 26)
      go_wp2_with fail
      refine (HS1.out _).mono ?_
      rintro e w3 ⟨rfl, b3⟩
      have b13 := below_then b12 b12.size b3
      have bw := (bw.then b3).alloc (.cells #[.int .i64 0, .int .i64 0] 26)
      have bg := Box.new w3 26 #[.int .i64 0, .int .i64 0]
      have b13 := b13.alloc b13.size (.cells #[.int .i64 0, .int .i64 0] 26)
      have c0 := bw.cell 0
      have c1 := bw.cell 1
      have d0 := bg.cell 0
      have d1 := bg.cell 1
      go_wp2_with fail
      go_ret
      exact ⟨rfl, b13⟩
    · rw [hp] at HI1 HS1
      rw [hq] at HH1
      obtain ⟨⟨p1, p2⟩, p3⟩ := okF_is okp
      obtain ⟨⟨q1, q2⟩, q3⟩ := okF_is okq
      obtain ⟨x, y⟩ := p
      obtain ⟨u, v⟩ := q
      simp only at p1 p2 p3 q1 q2 q3 hpq
      have ho1 : optF (some (x, y)) = .tuple #[.agg #[.int .i64 (x : Int), .int .i64 (y : Int)], .bool true] := rfl
      have ho2 : optF (some (u, v)) = .tuple #[.agg #[.int .i64 (u : Int), .int .i64 (v : Int)], .bool true] := rfl
      rw [ho1] at HI1 HS1
      rw [ho2] at HH1
      have m1 := mul_ok p3 q3
      have m2 := mul_ok p2 q2
      have e1 : IntKind.i64.wrap ((x : Int) * (u : Int)) = ((x * u : Nat) : Int) := (IntWalk.i64_in _ (by rw [← Int.natCast_mul]; omega)).trans (Int.natCast_mul _ _).symm
      have e2 : IntKind.i64.wrap ((y : Int) * (v : Int)) = ((y * v : Nat) : Int) := (IntWalk.i64_in _ (by rw [← Int.natCast_mul]; omega)).trans (Int.natCast_mul _ _).symm
      rw [← hpq] at e2
      have HM := hide m1
      generalize x * u = z at *
      clear hpq hp hq okp okq ho1 ho2 p1 p2 p3 q1 q2 q3 m1 m2
      go_wp2_with fail
      refine (HI1.out _).mono ?_
      rintro e w2 ⟨rfl, b2⟩
      have b12 := below_then b1 b1.size b2
      have bw := Box.new w2 26 #[.int .i64 (x : Int), .int .i64 (y : Int)]
      have b12 := b12.alloc b12.size (.cells #[.int .i64 (x : Int), .int .i64 (y : Int)] 26)
      go_wp2_with fail
      refine (HS1.out _).mono ?_
      rintro e w3 ⟨rfl, b3⟩
      have b13 := below_then b12 b12.size b3
      have bw := (bw.then b3).alloc (.cells #[.int .i64 (x : Int), .int .i64 (y : Int)] 26)
      have bg := Box.new w3 26 #[.int .i64 (x : Int), .int .i64 (y : Int)]
      have b13 := b13.alloc b13.size (.cells #[.int .i64 (x : Int), .int .i64 (y : Int)] 26)
      have c0 := bw.cell 0
      have c1 := bw.cell 1
      have d0 := bg.cell 0
      have d1 := bg.cell 1
      go_wp2_with fail
      refine (HH1.out _).mono ?_
      rintro e w4 ⟨rfl, b4⟩
      have b14 := below_then b13 b13.size b4
      have bw := (bw.then b4).alloc (.cells #[.int .i64 (u : Int), .int .i64 (v : Int)] 26)
      have bh := Box.new w4 26 #[.int .i64 (u : Int), .int .i64 (v : Int)]
      have b14 := b14.alloc b14.size (.cells #[.int .i64 (u : Int), .int .i64 (v : Int)] 26)
      have g0 := bw.cell 0
      have g1 := bw.cell 1
      have h0 := bh.cell 0
      have h1 := bh.cell 1
      go_wp2_with fail
      go_ret
      exact ⟨rfl, b14⟩
end Go.Proofs.Ytoapmmmmdfmaeab

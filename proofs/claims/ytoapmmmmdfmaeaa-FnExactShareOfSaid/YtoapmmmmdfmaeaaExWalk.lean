
/-
  The walks of chapter 10's exact laws, off the contracts of the program's functions (given).
-/
import Derived.Test.YtoapmmmmdfmaeaaWalkD
import Derived.Test.YtoapmmmmdfmaeaaWalkG
import Derived.Test.YtoapmmmmdfmaeaaLawRW
namespace Go.Proofs.Ytoapmmmmdfmaeaa
open Go.RowKit
set_option linter.unusedVariables false

theorem optF_is (o : Option (Nat × Nat)) : ∃ p b, optF o = .tuple #[fracV p, .bool b] := by
  cases o with
  | none => exact ⟨(0, 0), false, rfl⟩
  | some p => exact ⟨p, true, rfl⟩
set_option maxHeartbeats 2000000 in
set_option maxRecDepth 100000 in
theorem exactWalkCount_w (HI : ∀ (bc : Int) (br : Int) (s : ByteArray) (i : Int) (k : Int) (m : Int) (w5 : World), Calls Try.prog 8 #[.int .i64 bc, .int .i64 br, .string s, .int .i64 i, .int .i64 k, .int .i64 m] w5 (Plain (.int .i64 (walkCV bc br s.toList i k m)) w5))
    (bc : Int) (br : Int) (s : ByteArray) (i : Int) (k : Int) (m : Int) (w : World) : Calls Try.prog 3 #[.int .i64 bc, .int .i64 br, .string s, .int .i64 i, .int .i64 k, .int .i64 m] w (Plain (.bool true) w) := by
  by_cases hlen : 1048576 < (s.size : Int)
  · go_enter Try.func3, Try.ntmps3
    go_wp2
    go_ret
    exact ⟨rfl, Below.refl _ _⟩
  · have H1 := hide (fun w5 => specWalkCount_c bc br s i k m w5)
    have H2 := hide (fun w5 => HI bc br s i k m w5)
    clear HI
    generalize walkCV bc br s.toList i k m = x at *
    have hx : (x != x) = false := by simp
    go_enter Try.func3, Try.ntmps3
    go_wp2_with fail
    refine (H1.out _).mono ?_
    rintro e w1 ⟨rfl, b1⟩
    go_wp2_with fail
    refine (H2.out _).mono ?_
    rintro e w2 ⟨rfl, b2⟩
    go_wp2_with fail
    go_ret
    exact ⟨rfl, below_then b1 b1.size b2⟩
set_option maxHeartbeats 2000000 in
set_option maxRecDepth 100000 in
theorem exactShareOf_w (HI : ∀ (bc : Int) (br : Int) (s : ByteArray) (i : Int) (w5 : World), Calls Try.prog 13 #[.int .i64 bc, .int .i64 br, .string s, .int .i64 i] w5 (Plain (optF (shareV bc br s.toList i)) w5))
    (bc : Int) (br : Int) (s : ByteArray) (i : Int) (w : World) : Calls Try.prog 6 #[.int .i64 bc, .int .i64 br, .string s, .int .i64 i] w (Plain (.bool true) w) := by
  by_cases hlen : 1048576 < (s.size : Int)
  · go_enter Try.func6, Try.ntmps6
    go_wp2
    go_ret
    exact ⟨rfl, Below.refl _ _⟩
  · have H1 := hide (fun w5 => specShareOf_c bc br s i w5)
    have H2 := hide (fun w5 => HI bc br s i w5)
    clear HI
    obtain ⟨p, b, ho⟩ := optF_is (shareV bc br s.toList i)
    rw [ho] at H1 H2
    clear ho
    have HQ := hide (fun w5 => eqFrac_c p w5)
    have hb : (b != b) = false := by simp
    go_enter Try.func6, Try.ntmps6
    go_wp2_with fail
    refine (H1.out _).mono ?_
    rintro e w1 ⟨rfl, b1⟩
    have bw := Box.new w1 32 #[.int .i64 (p.1 : Int), .int .i64 (p.2 : Int)]
    have b1 := b1.alloc b1.size (.cells #[.int .i64 (p.1 : Int), .int .i64 (p.2 : Int)] 32)
    go_wp2_with fail
    refine (H2.out _).mono ?_
    rintro e w2 ⟨rfl, b2⟩
    have bw := (bw.then b2).alloc (.cells #[.int .i64 (p.1 : Int), .int .i64 (p.2 : Int)] 32)
    have bg := Box.new w2 32 #[.int .i64 (p.1 : Int), .int .i64 (p.2 : Int)]
    have b12 := below_then b1 b1.size b2
    have b12 := b12.alloc b12.size (.cells #[.int .i64 (p.1 : Int), .int .i64 (p.2 : Int)] 32)
    have c0 := bw.cell 0
    have c1 := bw.cell 1
    have d0 := bg.cell 0
    have d1 := bg.cell 1
    go_wp2_with fail
    refine (HQ.out _).mono ?_
    rintro e w3 ⟨rfl, b3⟩
    have b13 := below_then b12 b12.size b3
    go_wp2_with fail
    go_ret
    exact ⟨rfl, b13⟩
end Go.Proofs.Ytoapmmmmdfmaeaa

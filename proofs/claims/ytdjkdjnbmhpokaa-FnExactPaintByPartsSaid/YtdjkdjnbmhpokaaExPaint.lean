
/-
  The walks of chapter 11's exact laws, off the contracts of the program's functions (given).
-/
import Derived.Test.YtdjkdjnbmhpokaaPaintD
import Derived.Test.YtdjkdjnbmhpokaaPaintE
import Derived.Test.YtdjkdjnbmhpokaaSpecM
namespace Go.Proofs.Ytdjkdjnbmhpokaa
open Go.RowKit
set_option linter.unusedVariables false

theorem loose_short (bc br : Int) (s : List UInt8) : (looseL bc br s).length ≤ 10 := by
  unfold looseL
  cases hk : smallK bc br s with
  | none => exact Nat.zero_le _
  | some p =>
    obtain ⟨ss, far⟩ := p
    obtain ⟨hS, hkk⟩ := smallK_some hk
    obtain ⟨n, hU⟩ := hue_of hS hkk
    have := hU.nine
    have := hU.len
    simp only [mapN_len]
    omega
theorem hue_short (bc br : Int) (s : List UInt8) : (hueL bc br s).length ≤ 9 := by
  unfold hueL
  cases hk : smallK bc br s with
  | none => exact Nat.zero_le _
  | some p =>
    obtain ⟨ss, far⟩ := p
    obtain ⟨hS, hkk⟩ := smallK_some hk
    obtain ⟨n, hU⟩ := hue_of hS hkk
    have := hU.nine
    have := hU.len
    simp only [firstC_len]
    omega
set_option maxHeartbeats 2000000 in
set_option maxRecDepth 100000 in
theorem exactPaintCount_w (HI : ∀ (bc br : Int) (s : ByteArray) (k : Int) (w5 : World), Calls Try.prog 8 #[.int .i64 bc, .int .i64 br, .string s, .int .i64 k] w5 (Plain (.int .i64 (paintV bc br s.toList k)) w5))
    (bc br : Int) (s : ByteArray) (k : Int) (w : World) : Calls Try.prog 3 #[.int .i64 bc, .int .i64 br, .string s, .int .i64 k] w (Plain (.bool true) w) := by
  by_cases hlen : 1048576 < (s.size : Int)
  · go_enter Try.func3, Try.ntmps3
    go_wp2
    go_ret
    exact ⟨rfl, Below.refl _ _⟩
  · have H1 := hide (fun w5 => specPaintCount_c bc br s k w5)
    have H2 := hide (fun w5 => HI bc br s k w5)
    clear HI
    generalize paintV bc br s.toList k = x at *
    have hx : (x != x) = false := by simp
    go_enter Try.func3, Try.ntmps3
    go_wp2_with fail
    refine (H1.out _).mono ?_
    rintro e w1 ⟨rfl, b1⟩
    go_wp2_with fail
    refine (H2.out _).mono ?_
    rintro e w2 ⟨rfl, b2⟩
    go_wp2_with fail
    go_ret
    exact ⟨rfl, below_then b1 b1.size b2⟩
set_option maxHeartbeats 2000000 in
set_option maxRecDepth 100000 in
theorem exactPaintByParts_w (HI : ∀ (bc br : Int) (s : ByteArray) (k : Int) (w5 : World), Calls Try.prog 10 #[.int .i64 bc, .int .i64 br, .string s, .int .i64 k] w5 (Plain (.int .i64 (paintV bc br s.toList k)) w5))
    (bc br : Int) (s : ByteArray) (k : Int) (w : World) : Calls Try.prog 4 #[.int .i64 bc, .int .i64 br, .string s, .int .i64 k] w (Plain (.bool true) w) := by
  by_cases hlen : 1048576 < (s.size : Int)
  · go_enter Try.func4, Try.ntmps4
    go_wp2
    go_ret
    exact ⟨rfl, Below.refl _ _⟩
  · have H1 := hide (fun w5 => specPaintByParts_c bc br s k w5)
    have H2 := hide (fun w5 => HI bc br s k w5)
    clear HI
    generalize paintV bc br s.toList k = x at *
    have hx : (x != x) = false := by simp
    go_enter Try.func4, Try.ntmps4
    go_wp2_with fail
    refine (H1.out _).mono ?_
    rintro e w1 ⟨rfl, b1⟩
    go_wp2_with fail
    refine (H2.out _).mono ?_
    rintro e w2 ⟨rfl, b2⟩
    go_wp2_with fail
    go_ret
    exact ⟨rfl, below_then b1 b1.size b2⟩
end Go.Proofs.Ytdjkdjnbmhpokaa

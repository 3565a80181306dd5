
/-
  The drawn arguments of the functions of chapter 9.
-/
import Derived.Test.YtakphmcelhbaiabDrawG
namespace Go.Proofs.Ytakphmcelhbaiab
open Go.RowKit
set_option linter.unusedVariables false

def DrawnPair (w : World) (e : Ending) (w' : World) : Prop := ∃ (x y i k : Int) (s : ByteArray), e = .returned (.tuple #[.int .i64 x, .int .i64 y, .string s, .int .i64 i, .int .i64 k]) ∧ (-1 ≤ x ∧ x ≤ 6) ∧ (-1 ≤ y ∧ y ≤ 6) ∧ (-1001 ≤ i ∧ i ≤ 1000) ∧ (-1001 ≤ k ∧ k ≤ 1000) ∧ s.size ≤ 6 ∧ Below w.heap.size w w'
set_option maxHeartbeats 1000000 in
theorem drawAlwaysCaught_c (A : Option Addr) (n c : Nat) (w : World) (h : Code w A n c) : Calls Try.prog 16 #[.slice A n c] w (DrawnBoard w) := by
  have HC := hide (newReader_c A n c w h)
  clear h
  go_enter Try.func16, Try.ntmps16
  go_wp2_with fail
  refine HC.out.mono ?_
  rintro e w1 ⟨R, rfl, rd, hb⟩
  have hR : w.heap.size ≤ R := by obtain ⟨_, _, _, _, _, _, _, h, _⟩ := rd; exact h
  go_wp2_with fail
  refine (smallBoard_c 9 R _ 0 w1 rd (by omega) (by omega) (by omega)).mono ?_
  rintro e w2 ⟨x, y, rfl, hx, hy, rd2, hg2⟩
  go_wp2_with fail
  refine (aKind_c R _ _ w2 rd2 (by omega)).mono ?_
  rintro e w3 ⟨s, rfl, hs, rd3, hg3⟩
  have hg3 := hg2.trans hg3
  go_wp2_with fail
  go_ret3
  exact ⟨x, y, s, rfl, hx, hy, hs, below_reader hb hR hg3⟩
set_option maxHeartbeats 1000000 in
theorem drawFoldOrder_c (A : Option Addr) (n c : Nat) (w : World) (h : Code w A n c) : Calls Try.prog 12 #[.slice A n c] w (DrawnBoard w) := by
  have HC := hide (newReader_c A n c w h)
  clear h
  go_enter Try.func12, Try.ntmps12
  go_wp2_with fail
  refine HC.out.mono ?_
  rintro e w1 ⟨R, rfl, rd, hb⟩
  have hR : w.heap.size ≤ R := by obtain ⟨_, _, _, _, _, _, _, h, _⟩ := rd; exact h
  go_wp2_with fail
  refine (smallBoard_c 9 R _ 0 w1 rd (by omega) (by omega) (by omega)).mono ?_
  rintro e w2 ⟨x, y, rfl, hx, hy, rd2, hg2⟩
  go_wp2_with fail
  refine (aKind_c R _ _ w2 rd2 (by omega)).mono ?_
  rintro e w3 ⟨s, rfl, hs, rd3, hg3⟩
  have hg3 := hg2.trans hg3
  go_wp2_with fail
  go_ret3
  exact ⟨x, y, s, rfl, hx, hy, hs, below_reader hb hR hg3⟩
end Go.Proofs.Ytakphmcelhbaiab

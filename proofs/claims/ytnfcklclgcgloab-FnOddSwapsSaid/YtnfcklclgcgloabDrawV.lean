
/-
  Drawn slides of ValidSlide.
-/
import Derived.Test.YtnfcklclgcgloabDrawS
namespace Go.Proofs.Ytnfcklclgcgloab
open Go.RowKit
set_option linter.unusedVariables false

theorem someSlide_i (n : Int) (h0 : 0 ≤ n) (h8 : n ≤ 8) (R B N : Nat) (w : World) (h : Reader w R B N) (hN : N ≤ 900000) : Calls Try.prog 17 #[.pointer (some ⟨R, 0, none⟩), .int .i64 n] w (SomeSlide n.toNat R B (N + 10) w) := by
  obtain ⟨m, rfl⟩ := Int.eq_ofNat_of_zero_le h0
  exact someSlide_c m (by omega) R B N w h hN
def DrawnSlide (w : World) (e : Ending) (w' : World) : Prop := ∃ (x y : Nat) (v : Value) (xs : List Int), e = .returned (.tuple #[.int .i64 (x : Int), .int .i64 (y : Int), v]) ∧ x ≤ 5 ∧ y ≤ 3 ∧ w'.ownsRow w.heap.size 3 1 v xs.length (ints xs) ∧ xs.length ≤ 8 ∧ Below w.heap.size w w'
set_option maxHeartbeats 1000000 in
theorem drawValidSlide_c (A : Option Addr) (n c : Nat) (w : World) (h : Code w A n c) : Calls Try.prog 6 #[.slice A n c] w (DrawnSlide w) := by
  have HC := hide (newReader_c A n c w h)
  clear h
  go_enter Try.func6, Try.ntmps6
  go_wp2_with fail
  refine HC.out.mono ?_
  rintro e w1 ⟨R, rfl, rd, hb⟩
  have hR : w.heap.size ≤ R := by obtain ⟨_, _, _, _, _, _, _, h, _⟩ := rd; exact h
  go_wp2_with fail
  refine (slideBoard_c R _ 0 w1 rd (by omega)).mono ?_
  rintro e w2 ⟨x, y, rfl, hx, hy, rd2, hg2⟩
  have hn15 : x * y ≤ 15 := Nat.mul_le_mul hx hy
  have emul : IntKind.i64.wrap ((x : Int) * (y : Int)) = ((x * y : Nat) : Int) := by rw [Int.natCast_mul]; exact IntWalk.i64_in _ (by rw [← Int.natCast_mul]; omega)
  generalize x * y = p at *
  have z := hb.size
  rcases Int.lt_or_le 8 (p : Int) with h8 | h8
  all_goals
    go_wp2_with fail
    refine (someSlide_i _ (by omega) (by omega) R _ _ w2 rd2 (by omega)).mono ?_
    rintro e w3 ⟨v, xs, rfl, hown, hl, rd3, hg3⟩
    have hown := own_mono hown (base' := w.heap.size) (by have := hg2.size; omega)
    have hg3 := hg2.trans hg3
    go_wp2_with fail
    go_ret3
    exact ⟨x, y, v, xs, rfl, hx, hy, hown, by omega, below_reader hb hR hg3⟩
end Go.Proofs.Ytnfcklclgcgloab

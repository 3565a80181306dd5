
/-
  The program's pegs: litBoard, of one set.
-/
import Derived.Test.YtgbbmnnpphkkbaaPPegA
namespace Go.Proofs.Ytgbbmnnpphkkbaa
open Go.RowKit
set_option linter.unusedVariables false

/-- litBoard, of one set. -/
theorem lit1_c (bc br s : Int) (W : World) :
    (∃ w h x : Nat, bc = (w : Int) ∧ br = (h : Int) ∧ s = (x : Int) ∧ (1 ≤ w ∧ w ≤ 5) ∧ (1 ≤ h ∧ h ≤ 5) ∧ w * h ≤ 12 ∧ x < 2 ^ (w * h) ∧ Calls Try.prog 28 #[.int .i64 bc, .int .i64 br, .slice (some ⟨W.heap.size, 0, none⟩) 1 1] (W.alloc (.cells #[.int .i64 s] 3)) (Plain (.tuple #[boardV (w : Int) (h : Int), .bool true]) (W.alloc (.cells #[.int .i64 s] 3)))) ∨
    (¬ PegS bc br s ∧ Calls Try.prog 28 #[.int .i64 bc, .int .i64 br, .slice (some ⟨W.heap.size, 0, none⟩) 1 1] (W.alloc (.cells #[.int .i64 s] 3)) (Plain (.tuple #[boardV 0 0, .bool false]) (W.alloc (.cells #[.int .i64 s] 3)))) := by
  rcases litBoard_cP bc br (some ⟨W.heap.size, 0, none⟩) 1 [s] (W.alloc (.cells #[.int .i64 s] 3)) (row_new W #[.int .i64 s] 3 rfl) (by simp) with ⟨w, h, rfl, rfl, hw, hh, h12, hS, hC⟩ | ⟨hN, hC⟩
  · left
    obtain ⟨s0, s1⟩ := hS 0 (by simp)
    simp only [List.getElem?_cons_zero, Option.getD_some] at s0 s1
    obtain ⟨x, rfl⟩ := Int.eq_ofNat_of_zero_le s0
    have := Nat.two_pow_pos (w * h)
    exact ⟨w, h, x, rfl, rfl, rfl, hw, hh, h12, by omega, hC⟩
  · right
    refine ⟨fun hP => ?_, hC⟩
    rcases hN with hN | hN
    · refine hN fun i hi => ?_
      have : i = 0 := by simpa using hi
      subst this
      exact hP
    · exact hN hP.1

end Go.Proofs.Ytgbbmnnpphkkbaa

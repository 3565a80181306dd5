
/-
  Drawn numbers and columns of queens.
-/
import Derived.Test.YtlccohoblplddadDrawC
import Derived.Test.YtlccohoblplddadQueenB
namespace Go.Proofs.Ytlccohoblplddad
open Go.RowKit
set_option linter.unusedVariables false

def DrawnN (w : World) (e : Ending) (w' : World) : Prop := ∃ n : Int, e = .returned (.int .i64 n) ∧ (0 ≤ n ∧ n ≤ 7) ∧ Below w.heap.size w w'
theorem drawQueensOf_c (A : Option Addr) (n c : Nat) (w : World) (h : Code w A n c) : Calls Try.prog 7 #[.slice A n c] w (DrawnN w) := by
  have HC := hide (newReader_c A n c w h)
  clear h
  go_enter Try.func7, Try.ntmps7
  go_wp2_with fail
  refine HC.out.mono ?_
  rintro e w1 ⟨R, rfl, rd, hb⟩
  have hR : w.heap.size ≤ R := by obtain ⟨_, _, _, _, _, _, _, h, _⟩ := rd; exact h
  go_wp2_with fail
  refine (one_new [4, 5, 6, 3, 2, 1, 0, 7] R _ 0 w1 rd (by omega) (by decide) (by decide)).mono ?_
  rintro e w2 ⟨x, rfl, hm, rd2, hg2⟩
  have hx : 0 ≤ x ∧ x ≤ 7 := by simp only [List.mem_cons, List.not_mem_nil, or_false] at hm; omega
  clear hm
  go_wp2_with fail
  go_ret
  exact ⟨x, rfl, hx, below_reader hb hR hg2⟩
theorem drawCountQueens_c (A : Option Addr) (n c : Nat) (w : World) (h : Code w A n c) : Calls Try.prog 16 #[.slice A n c] w (DrawnN w) := by
  have HC := hide (newReader_c A n c w h)
  clear h
  go_enter Try.func16, Try.ntmps16
  go_wp2_with fail
  refine HC.out.mono ?_
  rintro e w1 ⟨R, rfl, rd, hb⟩
  have hR : w.heap.size ≤ R := by obtain ⟨_, _, _, _, _, _, _, h, _⟩ := rd; exact h
  go_wp2_with fail
  refine (one_new [4, 5, 6, 3, 2, 1, 0, 7] R _ 0 w1 rd (by omega) (by decide) (by decide)).mono ?_
  rintro e w2 ⟨x, rfl, hm, rd2, hg2⟩
  have hx : 0 ≤ x ∧ x ≤ 7 := by simp only [List.mem_cons, List.not_mem_nil, or_false] at hm; omega
  clear hm
  go_wp2_with fail
  go_ret
  exact ⟨x, rfl, hx, below_reader hb hR hg2⟩
theorem drawKinds_c (A : Option Addr) (n c : Nat) (w : World) (h : Code w A n c) : Calls Try.prog 19 #[.slice A n c] w (DrawnN w) := by
  have HC := hide (newReader_c A n c w h)
  clear h
  go_enter Try.func19, Try.ntmps19
  go_wp2_with fail
  refine HC.out.mono ?_
  rintro e w1 ⟨R, rfl, rd, hb⟩
  have hR : w.heap.size ≤ R := by obtain ⟨_, _, _, _, _, _, _, h, _⟩ := rd; exact h
  go_wp2_with fail
  refine (one_new [4, 5, 6, 3, 2, 1, 0, 7] R _ 0 w1 rd (by omega) (by decide) (by decide)).mono ?_
  rintro e w2 ⟨x, rfl, hm, rd2, hg2⟩
  have hx : 0 ≤ x ∧ x ≤ 7 := by simp only [List.mem_cons, List.not_mem_nil, or_false] at hm; omega
  clear hm
  go_wp2_with fail
  go_ret
  exact ⟨x, rfl, hx, below_reader hb hR hg2⟩

theorem one_at (xs : List Int) (R B N g : Nat) (w : World) (hgz : w.heap.size = g) (h : Reader w R B N) (hN : N ≤ 1000000) (h0 : 0 < xs.length) (h1 : xs.length ≤ 1000) :
    Calls Try.prog 27 #[.pointer (some ⟨R, 0, none⟩), .slice (some ⟨g, 0, none⟩) xs.length xs.length] (w.alloc (.cells (ints xs).toArray 3)) (Drawn (· ∈ xs) R B (N + 1) w) := by
  subst hgz
  exact one_new xs R B N w h hN h0 h1
theorem set_intsQ (l : List Int) (i : Nat) (u : Int) : (ints l).set i (.int .i64 u) = ints (l.set i u) := by simp [ints, List.map_set]
def Seven (xs : List Int) : Prop := ∀ i, i < xs.length → 0 ≤ xs[i]?.getD 0 ∧ xs[i]?.getD 0 ≤ 7
theorem Seven.snoc {xs : List Int} {c : Int} (h : Seven xs) (h0 : 0 ≤ c) (h7 : c ≤ 7) : Seven (xs ++ [c]) := fun i hi => by
  by_cases e : i < xs.length
  · rw [List.getElem?_append_left e]; exact h i e
  · have : i = xs.length := by simp at hi; omega
    subst this
    simp; omega
theorem Seven.small {xs : List Int} (h : Seven xs) (hl : xs.length ≤ 7) : Small xs := ⟨hl, fun i hi => by have := h i hi; omega⟩
def SomeStand (R B N : Nat) (w : World) (e : Ending) (w' : World) : Prop := ∃ (n : Int) (v : Value) (xs : List Int), e = .returned (.tuple #[.int .i64 n, v]) ∧ (0 ≤ n ∧ n ≤ 7) ∧ w'.ownsRow w.heap.size 3 1 v (List.length xs) (ints xs) ∧ xs.length ≤ 7 ∧ Reader w' R B N ∧ w.grownBy w' (some R)
def DrawnStand (w : World) (e : Ending) (w' : World) : Prop := ∃ (n : Int) (v : Value) (xs : List Int), e = .returned (.tuple #[.int .i64 n, v]) ∧ (0 ≤ n ∧ n ≤ 7) ∧ w'.ownsRow w.heap.size 3 1 v (List.length xs) (ints xs) ∧ xs.length ≤ 7 ∧ Below w.heap.size w w'
end Go.Proofs.Ytlccohoblplddad

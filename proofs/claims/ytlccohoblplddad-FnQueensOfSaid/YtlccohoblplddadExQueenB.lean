
/-
  The walks of the laws FnExactQueensOf, FnExactEndsOf.
-/
import Derived.Test.YtlccohoblplddadQueenM
import Derived.Test.YtlccohoblplddadPEnds
namespace Go.Proofs.Ytlccohoblplddad
open Go.RowKit
set_option linter.unusedVariables false

theorem Rows1.reads {D : Nat} {W : World} {vs : List Value} {L : List (List Int)} (h : Rows1 D W vs L) : Reads W D vs L :=
  ⟨h.1, fun i hi => by
    obtain ⟨A, c, e, ho⟩ := h.2 i hi
    obtain ⟨A', c', he, n3, m3, r3, f3⟩ := own_row ho
    injection he with h1 h2 h3
    subst h1; subst h3
    exact ⟨A, c, e, r3, fun ad ea => by obtain ⟨g, rfl, hg, _⟩ := f3 ad ea; exact hg, n3, m3⟩⟩
theorem Rows1.below {D : Nat} {W W' : World} {vs : List Value} {L : List (List Int)} (h : Rows1 D W vs L) (hb : Below W.heap.size W W') : Rows1 D W' vs L :=
  h.same fun u hu g eg => by
    obtain ⟨x, A, c, _, ho⟩ := h.mem u hu
    exact hb.block g (ho.lt g eg).2
theorem Reads.lower {w w' : World} {B : Nat} {vs : List Value} {L : List (List Int)} (h : Reads w B vs L) (hb : Below w.heap.size w w') : Reads w' B vs L := h.below hb
/-- Rows from D on, and nothing else, have turned. -/
theorem Aside.below {vs : List Value} {w w' : World} {D : Nat} {L : List (List Int)} (h : Aside vs w w') (hrs : Rows1 D w vs L) (hD : D ≤ w.heap.size) : Below D w w' :=
  ⟨h.1, h.2.1, h.2.2.1, h.2.2.2.1, fun k hk => h.2.2.2.2 k (by omega) fun u hu e => by
    obtain ⟨x, A, c, _, ho⟩ := hrs.mem u hu
    have := (ho.lt k e).1
    omega⟩
theorem queensOfP_bd (n : Int) : (queensOfP n).length ≤ 46656 ∧ ∀ x ∈ queensOfP n, x.length ≤ 6 := by
  unfold queensOfP
  by_cases h : 1 ≤ n ∧ n ≤ 6
  · rw [if_pos h]
    have h6 : n.toNat ≤ 6 := by omega
    refine ⟨Nat.le_trans (queens_len _ _ _) (Nat.le_trans (Nat.pow_le_pow_left h6 _) (Nat.le_trans (Nat.pow_le_pow_right (n := 6) (by omega) h6) (by decide))), fun x hx => ?_⟩
    have := queens_rows _ _ _ x hx
    simp at this
    omega
  · rw [if_neg h]
    exact ⟨by simp, fun x hx => by cases hx⟩
end Go.Proofs.Ytlccohoblplddad

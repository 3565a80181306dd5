
/-
  Words of the exact law of QueensOf: rows of numbers marked, and marks that are held.
-/
import Derived.Test.YtlccohoblplddadPCollect
import Derived.Test.YtlccohoblplddadQueenL
namespace Go.Proofs.Ytlccohoblplddad
open Go.RowKit
set_option linter.unusedVariables false

def sumLen (L : List (List Int)) : Nat := (L.map List.length).sum
/-- The rows with marks in them, one after the other. -/
def marksOf : Int → List (List Int) → List (List Int)
  | _, [] => []
  | k, x :: L => marks k x.length :: marksOf (k + (x.length : Int)) L
theorem marksOf_len : ∀ (k : Int) (L : List (List Int)), (marksOf k L).length = L.length
  | _, [] => rfl
  | k, x :: L => by rw [marksOf, List.length_cons, List.length_cons, marksOf_len]
theorem sumLen_app (a b : List (List Int)) : sumLen (a ++ b) = sumLen a + sumLen b := by simp only [sumLen, List.map_append, List.sum_append]
theorem sumLen_take (L : List (List Int)) (i : Nat) (h : i < L.length) : sumLen (L.take (i + 1)) = sumLen (L.take i) + L[i].length := by
  rw [List.take_succ_eq_append_getElem h, sumLen_app]; simp [sumLen]
theorem marksOf_at : ∀ (k : Int) (L : List (List Int)) (i : Nat) (h : i < L.length), (marksOf k L)[i]? = some (marks (k + (sumLen (L.take i) : Int)) L[i].length)
  | k, x :: L, 0, _ => by simp [marksOf, sumLen]
  | k, x :: L, i + 1, h => by
    have := marksOf_at (k + (x.length : Int)) L i (by simpa using h)
    simp only [marksOf, List.getElem?_cons_succ, List.getElem_cons_succ, List.take_succ_cons] at this ⊢
    rw [this]
    simp [sumLen, Int.add_assoc]
theorem sumLen_le {L : List (List Int)} {b : Nat} (h : ∀ x ∈ L, x.length ≤ b) : sumLen L ≤ L.length * b := by
  induction L with
  | nil => simp [sumLen]
  | cons x L ih =>
    have h1 := ih (fun y hy => h y (List.mem_cons_of_mem _ hy))
    have h2 := h x (List.mem_cons_self ..)
    simp only [sumLen, List.map_cons, List.sum_cons, List.length_cons] at h1 ⊢
    rw [Nat.add_mul]; omega
theorem sumLen_take_le (L : List (List Int)) (i : Nat) : sumLen (L.take i) ≤ sumLen L := by
  have h := sumLen_app (L.take i) (L.drop i)
  rw [List.take_append_drop] at h
  omega
/-- The first i rows have marks, the others stand. -/
def markTo (k : Int) (L : List (List Int)) (i : Nat) : List (List Int) := (marksOf k L).take i ++ L.drop i
theorem markTo_len (k : Int) (L : List (List Int)) (i : Nat) : (markTo k L i).length = L.length := by
  simp only [markTo, List.length_append, List.length_take, List.length_drop, marksOf_len]; omega
theorem markTo_at (k : Int) (L : List (List Int)) (i j : Nat) (hj : j < L.length) : (markTo k L i)[j]? = if j < i then some (marks (k + (sumLen (L.take j) : Int)) L[j].length) else some L[j] := by
  by_cases h : j < i
  · rw [if_pos h, markTo, List.getElem?_append_left (by rw [List.length_take, marksOf_len]; omega), List.getElem?_take_of_lt h]; exact marksOf_at k L j hj
  · rw [if_neg h, markTo, List.getElem?_append_right (by rw [List.length_take]; omega), List.length_take, marksOf_len, List.getElem?_drop]
    by_cases hi : i ≤ L.length
    · rw [Nat.min_eq_left hi, show i + (j - i) = j by omega, List.getElem?_eq_getElem hj]
    · omega
/-- Nothing but the rows has turned. -/
def Aside (vs : List Value) (w w' : World) : Prop := w'.os = w.os ∧ w'.tape = w.tape ∧ w'.output = w.output ∧ w.heap.size ≤ w'.heap.size ∧ ∀ k, k < w.heap.size → (∀ u ∈ vs, u.ownBlock ≠ some k) → w'.heap[k]? = w.heap[k]?
theorem Aside.refl (vs : List Value) (w : World) : Aside vs w w := ⟨rfl, rfl, rfl, Nat.le_refl _, fun _ _ _ => rfl⟩
theorem Aside.step {vs : List Value} {w w1 w2 : World} {u : Value} (h : Aside vs w w1) (hu : u ∈ vs) (hg : w1.grownBy w2 u.ownBlock) : Aside vs w w2 :=
  ⟨hg.os.trans h.1, hg.tape.trans h.2.1, hg.output.trans h.2.2.1, Nat.le_trans h.2.2.2.1 hg.size, fun k hk hn => (hg.block k (by have := h.2.2.2.1; omega) (fun e => hn u hu e.symm)).trans (h.2.2.2.2 k hk hn)⟩
theorem Rows1.get {D : Nat} {W : World} {vs : List Value} {L : List (List Int)} (h : Rows1 D W vs L) {i : Nat} {x : List Int} (hx : L[i]? = some x) : ∃ A c, vs[i]? = some (.slice A x.length c) ∧ W.ownsRow D 3 1 (.slice A x.length c) x.length (ints x) := by
  obtain ⟨hi, rfl⟩ := List.getElem?_eq_some_iff.1 hx
  exact h.2 i hi
theorem Rows1.of {D : Nat} {W : World} {vs : List Value} {L : List (List Int)} (hl : vs.length = L.length) (h : ∀ (i : Nat) (x : List Int), L[i]? = some x → ∃ (A : Option Addr) (c : Nat), vs[i]? = some (.slice A x.length c) ∧ W.ownsRow D 3 1 (.slice A x.length c) x.length (ints x)) : Rows1 D W vs L :=
  ⟨hl, fun i hi => h i _ (List.getElem?_eq_getElem hi)⟩
/-- Marking one of them leaves the others. -/
theorem mark_one {D : Nat} {w w' : World} {vs : List Value} {k : Int} {L : List (List Int)} {i : Nat} {A : Option Addr} {c : Nat} (h : Rows1 D w vs (markTo k L i)) (hap : Apart vs) (hi : i < L.length) (hv : vs[i]? = some (.slice A L[i].length c))
    (hown : w'.ownsRow D 3 1 (.slice A L[i].length c) L[i].length (ints (marks (k + (sumLen (L.take i) : Int)) L[i].length))) (hg : w.grownBy w' (Value.slice A L[i].length c).ownBlock) : Rows1 D w' vs (markTo k L (i + 1)) := by
  have hl := h.1
  refine Rows1.of (by rw [hl, markTo_len, markTo_len]) fun j x hx => ?_
  have hj : j < L.length := by have := (List.getElem?_eq_some_iff.1 hx).1; rwa [markTo_len] at this
  rw [markTo_at k L (i + 1) j hj] at hx
  by_cases e : j = i
  · subst e
    rw [if_pos (by omega)] at hx
    injection hx with hx
    subst hx
    rw [marks_len]
    exact ⟨A, c, hv, hown⟩
  · have hx' : (markTo k L i)[j]? = some x := by
      rw [markTo_at k L i j hj, ← hx]
      by_cases hji : j < i
      · rw [if_pos hji, if_pos (by omega)]
      · rw [if_neg hji, if_neg (by omega)]
    obtain ⟨A', c', hv', ho'⟩ := h.get hx'
    refine ⟨A', c', hv', own_same ho' fun g eg => hg.block g (ho'.lt g eg).2 fun e' => e (hap j i _ _ g hv' hv eg e'.symm)⟩

end Go.Proofs.Ytlccohoblplddad

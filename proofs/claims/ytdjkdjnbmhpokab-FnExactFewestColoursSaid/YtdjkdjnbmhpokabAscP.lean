
/-
  Numbers put into their places one by one are sorted numbers: plain mathematics. Nothing of a program.
-/
import Derived.Test.YtdjkdjnbmhpokabReach
namespace Go.Proofs.Ytdjkdjnbmhpokab
open Go Go.RowKit

def insP (x : Int) : List Int → List Int
  | [] => [x]
  | y :: t => if y < x then y :: insP x t else x :: y :: t
def ascP (l : List Int) : List Int := l.foldl (fun o x => insP x o) []
theorem ins_at {x : Int} {out : List Int} {j : Nat} (h : ∀ m, m < j → out[m]?.getD 0 < x) (hj : j ≤ out.length) (he : j = out.length ∨ x ≤ out[j]?.getD 0) : out.take j ++ x :: out.drop j = insP x out := by
  induction out generalizing j with
  | nil => simp at hj; subst hj; simp [insP]
  | cons y t ih =>
    cases j with
    | zero =>
      simp only [List.length_cons, List.getElem?_cons_zero, Option.getD_some] at he
      have : ¬ y < x := by omega
      simp [insP, this]
    | succ j =>
      have h0 := h 0 (by omega)
      simp only [List.getElem?_cons_zero, Option.getD_some] at h0
      rw [insP, if_pos h0, ← ih (j := j) (fun m hm => by simpa using h (m + 1) (by omega)) (by simpa using hj) (by simpa using he)]
      simp
theorem ins_perm (x : Int) (out : List Int) : (insP x out).Perm (x :: out) := by
  induction out with
  | nil => exact List.Perm.refl _
  | cons y t ih =>
    unfold insP
    split
    · exact (List.Perm.cons y ih).trans (List.Perm.swap x y t)
    · exact List.Perm.refl _
theorem ins_sorted {x : Int} {out : List Int} (h : out.Pairwise (· ≤ ·)) : (insP x out).Pairwise (· ≤ ·) := by
  induction out with
  | nil => simp [insP]
  | cons y t ih =>
    rw [List.pairwise_cons] at h
    unfold insP
    split
    · rw [List.pairwise_cons]
      refine ⟨fun z hz => ?_, ih h.2⟩
      rcases List.mem_cons.1 ((ins_perm x t).mem_iff.1 hz) with rfl | hz
      · omega
      · exact h.1 z hz
    · rw [List.pairwise_cons]
      refine ⟨fun z hz => ?_, List.pairwise_cons.2 h⟩
      rcases List.mem_cons.1 hz with rfl | hz
      · omega
      · have := h.1 z hz; omega
theorem asc_fold (l o : List Int) (h : o.Pairwise (· ≤ ·)) : (l.foldl (fun o x => insP x o) o).Pairwise (· ≤ ·) ∧ (l.foldl (fun o x => insP x o) o).Perm (l ++ o) := by
  induction l generalizing o with
  | nil => exact ⟨h, List.Perm.refl _⟩
  | cons x l ih =>
    obtain ⟨h1, h2⟩ := ih (insP x o) (ins_sorted h)
    refine ⟨h1, h2.trans ?_⟩
    refine ((List.Perm.append_left l (ins_perm x o))).trans ?_
    exact List.perm_middle
theorem ascP_eq (l : List Int) : ascP l = l.mergeSort (fun x y => decide (x ≤ y)) := by
  obtain ⟨h1, h2⟩ := asc_fold l [] List.Pairwise.nil
  rw [List.append_nil] at h2
  refine List.Perm.eq_of_pairwise (le := (· ≤ ·)) (fun a b _ _ h h' => by omega) h1 ?_ (h2.trans (List.mergeSort_perm l _).symm)
  have := List.pairwise_mergeSort (le := fun x y : Int => decide (x ≤ y)) (fun a b c h h' => by simp at h h' ⊢; omega) (fun a b => by simp; omega) l
  exact this.imp (fun h => by simpa using h)
theorem asc_snoc (l : List Int) (k : Nat) (hk : k < l.length) : ascP (l.take (k + 1)) = insP (l[k]?.getD 0) (ascP (l.take k)) := by
  unfold ascP
  rw [take_snoc l k hk, List.foldl_append]
  rfl
theorem ins_len (x : Int) (out : List Int) : (insP x out).length = out.length + 1 := (ins_perm x out).length_eq
end Go.Proofs.Ytdjkdjnbmhpokab

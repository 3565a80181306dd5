
/-
  The model's queens: FirstImage.
-/
import Derived.Test.YtgcchpabmkdkhacQueenF
namespace Go.Proofs.Ytgcchpabmkdkhac
open Go.RowKit
set_option linter.unusedVariables false

/-- The first k are columns, each one once. -/
def OnceTo (l : List Int) (k : Nat) : Prop := ∀ i, i < k → (0 ≤ l[i]?.getD 0 ∧ l[i]?.getD 0 ≤ (l.length : Int) - 1) ∧ ¬ l[i]?.getD 0 ∈ l.take i
instance (l : List Int) (k : Nat) : Decidable (OnceTo l k) := by unfold OnceTo; infer_instance
def ImgOk (l : List Int) : Prop := (1 ≤ l.length ∧ l.length ≤ 6) ∧ OnceTo l l.length
instance (l : List Int) : Decidable (ImgOk l) := by unfold ImgOk; infer_instance
/-- The first one of k + 1 rows. -/
def bestTo (L : List (List Int)) : Nat → List Int
  | 0 => L[0]?.getD []
  | k + 1 => if lessP (L[k + 1]?.getD []) (bestTo L k) then L[k + 1]?.getD [] else bestTo L k
def firstP (l : List Int) : List Int := if ImgOk l then bestTo (imagesTo l 4) 7 else []
theorem ImgOk.cols {l : List Int} (h : ImgOk l) : Cols l.length l := ⟨rfl, fun i hi => by have := (h.2 i hi).1; omega⟩
theorem imagesTo_all {l : List Int} (h1 : 1 ≤ l.length) (h : Cols l.length l) : ∀ t, ∀ x ∈ imagesTo l t, x.length = l.length
  | 0, x, hx => by cases hx
  | t + 1, x, hx => by
    simp only [imagesTo, List.mem_append, List.mem_cons, List.not_mem_nil, or_false] at hx
    have := (nowAt_cols h1 h t).1
    rcases hx with hx | rfl | rfl
    · exact imagesTo_all h1 h t x hx
    · exact this
    · rw [List.length_reverse]; exact this
theorem Reads.at_ {w : World} {B : Nat} {vs : List Value} {L : List (List Int)} (h : Reads w B vs L) {i : Nat} (hi : i < L.length) : ∃ A c, vs[i]?.getD undef = .slice A (L[i]?.getD []).length c ∧ Row w A (ints (L[i]?.getD [])) ∧ From B A ∧ Room (L[i]?.getD []).length c := by
  obtain ⟨A, c, e, r, f, m⟩ := h.2 i hi
  exact ⟨A, c, by rw [e, List.getElem?_eq_getElem hi]; rfl, by rw [List.getElem?_eq_getElem hi]; exact r, f, by rw [List.getElem?_eq_getElem hi]; exact m⟩
/-- A row that is read, of the call's own. -/
def Image (l : List Int) (w : World) (e : Ending) (w' : World) : Prop := ∃ A c, e = .returned (.slice A l.length c) ∧ Row w' A (ints l) ∧ From w.heap.size A ∧ Below w.heap.size w w'

end Go.Proofs.Ytgcchpabmkdkhac

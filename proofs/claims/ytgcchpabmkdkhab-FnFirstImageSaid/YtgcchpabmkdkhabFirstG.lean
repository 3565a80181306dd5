
/-
  More facts on all orders of few numbers: their first images.
-/
import Derived.Test.YtgcchpabmkdkhabPFirst
namespace Go.Proofs.Ytgcchpabmkdkhab
open Go.RowKit
set_option linter.unusedVariables false

def imgFact2 (l : List Int) : Bool := (firstP (firstP l) == firstP l) && !(lessP l (firstP l)) && (firstP l.reverse == firstP l) && decide (ImgOk (firstP l))
theorem imgb1 : (injL 1 1).all imgFact2 = true := by decide +kernel
theorem imgb2 : (injL 2 2).all imgFact2 = true := by decide +kernel
theorem imgb3 : (injL 3 3).all imgFact2 = true := by decide +kernel
theorem imgb4 : (injL 4 4).all imgFact2 = true := by decide +kernel
theorem imgb5 : (injL 5 5).all imgFact2 = true := by decide +kernel
theorem imgb6 : (injL 6 6).all imgFact2 = true := by decide +kernel
theorem img_more {l : List Int} (h : ImgOk l) : firstP (firstP l) = firstP l ∧ lessP l (firstP l) = false ∧ firstP l.reverse = firstP l ∧ ImgOk (firstP l) := by
  have hm := ok_inj h
  have hf : imgFact2 l = true := by
    obtain ⟨h1, h6⟩ := h.1
    obtain e | e | e | e | e | e : l.length = 1 ∨ l.length = 2 ∨ l.length = 3 ∨ l.length = 4 ∨ l.length = 5 ∨ l.length = 6 := by omega
    all_goals rw [e] at hm
    · exact List.all_eq_true.1 imgb1 l hm
    · exact List.all_eq_true.1 imgb2 l hm
    · exact List.all_eq_true.1 imgb3 l hm
    · exact List.all_eq_true.1 imgb4 l hm
    · exact List.all_eq_true.1 imgb5 l hm
    · exact List.all_eq_true.1 imgb6 l hm
  simp only [imgFact2, Bool.and_eq_true, beq_iff_eq, Bool.not_eq_true', decide_eq_true_eq] at hf
  exact ⟨hf.1.1.1, hf.1.1.2, hf.1.2, hf.2⟩
end Go.Proofs.Ytgcchpabmkdkhab

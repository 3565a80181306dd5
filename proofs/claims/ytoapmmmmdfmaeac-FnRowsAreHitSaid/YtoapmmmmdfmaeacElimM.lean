/-
  ElimQ, ElimR in one text.
-/
import Derived.Test.YtoapmmmmdfmaeacElimP
import Derived.Test.YtoapmmmmdfmaeacWalkU
/-
  Walks by chance, purely: what the program tells is the table's, by the kernel (half of it).
-/
namespace Go.Proofs.Ytoapmmmmdfmaeac
set_option linter.unusedVariables false

theorem elim_a : (hitTab.take 16).all elimAll = true := by decide +kernel
theorem elim_16 : elimAll (hitTab[16]?.getD ([], [])) = true := by decide +kernel
theorem elim_17 : elimAll (hitTab[17]?.getD ([], [])) = true := by decide +kernel
theorem elim_18 : elimAll (hitTab[18]?.getD ([], [])) = true := by decide +kernel
theorem elim_19 : elimAll (hitTab[19]?.getD ([], [])) = true := by decide +kernel
theorem elim_20 : elimAll (hitTab[20]?.getD ([], [])) = true := by decide +kernel
theorem elim_21 : elimAll (hitTab[21]?.getD ([], [])) = true := by decide +kernel
end Go.Proofs.Ytoapmmmmdfmaeac

/-
  Walks by chance, purely: what the program tells is the table's, by the kernel (the other half); times back and shares.
-/
namespace Go.Proofs.Ytoapmmmmdfmaeac
set_option linter.unusedVariables false

theorem elim_22 : elimAll (hitTab[22]?.getD ([], [])) = true := by decide +kernel
theorem elim_23 : elimAll (hitTab[23]?.getD ([], [])) = true := by decide +kernel
theorem elim_24 : elimAll (hitTab[24]?.getD ([], [])) = true := by decide +kernel
theorem elim_25 : elimAll (hitTab[25]?.getD ([], [])) = true := by decide +kernel
theorem elim_26 : elimAll (hitTab[26]?.getD ([], [])) = true := by decide +kernel
theorem elim_27 : elimAll (hitTab[27]?.getD ([], [])) = true := by decide +kernel
theorem elim_all {e : List Nat × List (List (Nat × Nat))} (he : e ∈ hitTab) : elimAll e = true := by
  obtain ⟨j, hj, rfl⟩ := List.getElem_of_mem he
  have hl : hitTab.length = 28 := by decide +kernel
  by_cases h : j < 16
  · exact List.all_eq_true.1 elim_a _ (by
      have : hitTab[j] = (hitTab.take 16)[j]'(by rw [List.length_take]; omega) := (List.getElem_take ..).symm
      rw [this]
      exact List.getElem_mem _)
  · have key : ∀ i (hi : i < hitTab.length), elimAll (hitTab[i]?.getD ([], [])) = true → elimAll hitTab[i] = true := fun i hi h => by
      rwa [List.getElem?_eq_getElem hi] at h
    have hc : j = 16 ∨ j = 17 ∨ j = 18 ∨ j = 19 ∨ j = 20 ∨ j = 21 ∨ j = 22 ∨ j = 23 ∨ j = 24 ∨ j = 25 ∨ j = 26 ∨ j = 27 := by omega
    rcases hc with rfl | rfl | rfl | rfl | rfl | rfl | rfl | rfl | rfl | rfl | rfl | rfl
    · exact key _ hj elim_16
    · exact key _ hj elim_17
    · exact key _ hj elim_18
    · exact key _ hj elim_19
    · exact key _ hj elim_20
    · exact key _ hj elim_21
    · exact key _ hj elim_22
    · exact key _ hj elim_23
    · exact key _ hj elim_24
    · exact key _ hj elim_25
    · exact key _ hj elim_26
    · exact key _ hj elim_27
theorem elim_of {L : List Nat} {M : List (List (Nat × Nat))} (h : hitOf L = some M) {en : Nat} (he : en < L.length) : ElimIs L M en := elim_is (elim_all (hitOf_mem h)) he
/-- Times back and shares, as the program tells them. -/
def backsOk (e : List Nat × List (List (Nat × Nat))) : Bool := (List.range e.1.length).all fun c =>
  isF (backC e.1 e.2 c) && (backC e.1 e.2 c == backP e.1 e.2 c) && isF (sumB e.1 e.2 c e.1.length) && isF (quoC (pcN 9 (e.1[c]?.getD 0), 1) (degTo e.1 e.1.length, 1)) && (quoC (pcN 9 (e.1[c]?.getD 0), 1) (degTo e.1 e.1.length, 1) == shareP e.1 c)
theorem backs_all : hitTab.all backsOk = true := by decide +kernel
theorem backs_of {L : List Nat} {M : List (List (Nat × Nat))} (h : hitOf L = some M) {c : Nat} (hc : c < L.length) :
    isF (backC L M c) = true ∧ backC L M c = backP L M c ∧ isF (sumB L M c L.length) = true ∧ isF (quoC (pcN 9 (L[c]?.getD 0), 1) (degTo L L.length, 1)) = true ∧ quoC (pcN 9 (L[c]?.getD 0), 1) (degTo L L.length, 1) = shareP L c := by
  have h := List.all_eq_true.1 (List.all_eq_true.1 backs_all _ (hitOf_mem h)) c (List.mem_range.2 hc)
  simp only [Bool.and_eq_true, beq_iff_eq] at h
  exact ⟨h.1.1.1.1, h.1.1.1.2, h.1.1.2, h.1.2, h.2⟩
end Go.Proofs.Ytoapmmmmdfmaeac

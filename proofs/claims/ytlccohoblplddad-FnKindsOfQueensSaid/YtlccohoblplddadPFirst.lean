
/-
  The program's FirstImage.
-/
import Derived.Test.YtlccohoblplddadPImage
import Derived.Test.YtlccohoblplddadPCollect
namespace Go.Proofs.Ytlccohoblplddad
open Go.RowKit
set_option linter.unusedVariables false

/-! ### All orders of few numbers; facts on each of them by the kernel -/
def injL (n : Nat) : Nat → List (List Int)
  | 0 => [[]]
  | k + 1 => (injL n k).flatMap fun l => (List.range n).flatMap fun (c : Nat) => if (c : Int) ∈ l then [] else [l ++ [(c : Int)]]
theorem once_inj {l : List Int} {n : Nat} (hn : l.length = n) : ∀ k, k ≤ n → OnceTo l k → l.take k ∈ injL n k
  | 0, _, _ => by simp [injL]
  | k + 1, hk, h => by
    have ih := once_inj hn k (by omega) (fun i hi => h i (by omega))
    obtain ⟨⟨h0, h1⟩, h2⟩ := h k (by omega)
    obtain ⟨c, hc⟩ := Int.eq_ofNat_of_zero_le h0
    rw [take_snoc l k (by omega), injL, List.mem_flatMap]
    refine ⟨_, ih, ?_⟩
    rw [List.mem_flatMap]
    refine ⟨c, List.mem_range.2 (by omega), ?_⟩
    rw [if_neg (by rw [← hc]; exact h2), hc]
    exact List.mem_singleton.2 rfl
theorem ok_inj {l : List Int} (h : ImgOk l) : l ∈ injL l.length l.length := by
  have := once_inj rfl l.length (Nat.le_refl _) h.2
  rwa [List.take_of_length_le (Nat.le_refl _)] at this
/-- The images in the program's order. -/
def progTo (l : List Int) : Nat → List (List Int)
  | 0 => []
  | t + 1 => progTo l t ++ [(nowAt l t).reverse, nowAt l (t + 1)]
theorem progTo_len (l : List Int) : ∀ t, (progTo l t).length = 2 * t
  | 0 => rfl
  | t + 1 => by rw [progTo, List.length_append, progTo_len l t]; simp; omega
def imgFact (l : List Int) : Bool := (List.range 4).all (fun t => exTo l.length (nowAt l t).reverse l.length == nowAt l (t + 1)) && (bestTo (progTo l 4) 7 == bestTo (imagesTo l 4) 7)
theorem img1 : (injL 1 1).all imgFact = true := by decide +kernel
theorem img2 : (injL 2 2).all imgFact = true := by decide +kernel
theorem img3 : (injL 3 3).all imgFact = true := by decide +kernel
theorem img4 : (injL 4 4).all imgFact = true := by decide +kernel
theorem img5 : (injL 5 5).all imgFact = true := by decide +kernel
theorem img6 : (injL 6 6).all imgFact = true := by decide +kernel
theorem img_ok {l : List Int} (h : ImgOk l) : (∀ t, t < 4 → exTo l.length (nowAt l t).reverse l.length = nowAt l (t + 1)) ∧ bestTo (progTo l 4) 7 = firstP l := by
  have hm := ok_inj h
  have hf : imgFact l = true := by
    obtain ⟨h1, h6⟩ := h.1
    obtain e | e | e | e | e | e : l.length = 1 ∨ l.length = 2 ∨ l.length = 3 ∨ l.length = 4 ∨ l.length = 5 ∨ l.length = 6 := by omega
    all_goals rw [e] at hm
    · exact List.all_eq_true.1 img1 l hm
    · exact List.all_eq_true.1 img2 l hm
    · exact List.all_eq_true.1 img3 l hm
    · exact List.all_eq_true.1 img4 l hm
    · exact List.all_eq_true.1 img5 l hm
    · exact List.all_eq_true.1 img6 l hm
  rw [imgFact, Bool.and_eq_true] at hf
  refine ⟨fun t ht => ?_, ?_⟩
  · have := List.all_eq_true.1 hf.1 t (List.mem_range.2 ht)
    exact beq_iff_eq.1 this
  · rw [beq_iff_eq.1 hf.2]
    unfold firstP
    rw [if_pos h]
end Go.Proofs.Ytlccohoblplddad

/-
  Rays go back, past the same others; no cell is met twice: plain mathematics, the finite part reckoned by the kernel.
-/
import Derived.Test.YtljojjkaeclcfaaAllFacts
namespace Go.Proofs.Ytljojjkaeclcfaa
open Go Go.RowKit

/-- A ray up to the first of others, with it. -/
def trunc (others : List Int) : List Int → List Int
  | [] => []
  | x :: t => x :: (if others.contains x then [] else trunc others t)
theorem ray_trunc (bc br : Int) (far : Bool) (others : List Int) (dr dc : Int) (f : Nat) (x : Int) : rayA bc br far others dr dc f x = trunc others (rayA bc br far [] dr dc f x) := by
  induction f generalizing x with
  | zero => rfl
  | succ f ih =>
    cases far with
    | false => simp [rayA, trunc]
    | true =>
      cases hc : others.contains x with
      | true =>
        rw [rayA, if_neg (by rw [hc]; simp), rayA, if_pos ⟨rfl, rfl⟩, trunc, if_pos hc]
      | false =>
        rw [rayA, if_pos ⟨rfl, hc⟩, rayA, if_pos ⟨rfl, rfl⟩]
        cases nextP bc br dr dc x with
        | none => simp [trunc]
        | some y => simp only [trunc, hc]; rw [ih y]; simp
theorem goes_trunc (bc br : Int) (far : Bool) (others : List Int) (cell : Int) (p : Int × Int) : goesP bc br far others cell p = trunc others (goesP bc br far [] cell p) := by
  unfold goesP
  cases nextP bc br p.1 p.2 cell with
  | none => rfl
  | some y => exact ray_trunc ..
theorem trunc_sub (others l : List Int) : (trunc others l).Sublist l := by
  induction l with
  | nil => exact List.Sublist.refl _
  | cons x t ih =>
    unfold trunc
    split
    · exact List.Sublist.cons_cons x (List.nil_sublist _)
    · exact List.Sublist.cons_cons x ih
theorem trunc_mem {others l : List Int} {y : Int} : y ∈ trunc others l ↔ ∃ i : Nat, l[i]? = some y ∧ ∀ j : Nat, j < i → ∀ z, l[j]? = some z → others.contains z = false := by
  induction l with
  | nil => simp [trunc]
  | cons x t ih =>
    rw [trunc, List.mem_cons]
    constructor
    · rintro (rfl | h)
      · exact ⟨0, rfl, fun j h => absurd h (by omega)⟩
      · split at h
        · cases h
        · rename_i hc
          obtain ⟨i, h1, h2⟩ := ih.1 h
          refine ⟨i + 1, by simpa using h1, fun j hj z hz => ?_⟩
          cases j with
          | zero => simp only [List.getElem?_cons_zero, Option.some.injEq] at hz; subst hz; simpa using hc
          | succ j => exact h2 j (by omega) z (by simpa using hz)
    · rintro ⟨i, h1, h2⟩
      cases i with
      | zero => left; simpa using h1.symm
      | succ i =>
        right
        have := h2 0 (by omega) x rfl
        rw [if_neg (by rw [this]; simp)]
        exact ih.2 ⟨i, by simpa using h1, fun j hj z hz => h2 (j + 1) (by omega) z (by simpa using hz)⟩

def backOk (bc br : Int) (p : List (Int × Int) × Bool) (cell : Int) : Bool :=
  (cellsP bc br p.2 [] cell p.1).Nodup && !(cellsP bc br p.2 [] cell p.1).contains cell &&
  p.1.all fun s => let L := goesP bc br p.2 [] cell s
    p.1.contains (-s.1, -s.2) && (List.range L.length).all fun i =>
      let L' := goesP bc br p.2 [] (L[i]?.getD 0) (-s.1, -s.2)
      L'[i]? == some cell && (List.range i).all fun j => L'[j]? == L[i - 1 - j]?
def backAll (bc br : Int) : Bool := six.all fun p => (List.range (bc * br).toNat).all fun c => backOk bc br p c
set_option maxRecDepth 100000 in
theorem back_all : ∀ a : Fin 5, ∀ b : Fin 5, backAll ((a.val : Int) + 1) ((b.val : Int) + 1) = true := by decide +kernel

structure Back (bc br : Int) (far : Bool) (ss : List (Int × Int)) (cell : Int) : Prop where
  nodup : (cellsP bc br far [] cell ss).Nodup
  out : cell ∉ cellsP bc br far [] cell ss
  back : ∀ s ∈ ss, (-s.1, -s.2) ∈ ss ∧ ∀ i y, (goesP bc br far [] cell s)[i]? = some y → (goesP bc br far [] y (-s.1, -s.2))[i]? = some cell ∧ ∀ j, j < i → (goesP bc br far [] y (-s.1, -s.2))[j]? = (goesP bc br far [] cell s)[i - 1 - j]?
theorem back_of {bc br : Int} {far : Bool} {ss : List (Int × Int)} {cell : Int} (hB : Brd bc br) (h6 : (ss, far) ∈ six) (g1 : 0 ≤ cell) (g2 : cell < bc * br) : Back bc br far ss cell := by
  have h := boards (fun a b => backAll a b = true) back_all hB
  simp only [backAll, List.all_eq_true] at h
  have h := h _ h6 cell.toNat (by rw [List.mem_range]; omega)
  rw [show ((cell.toNat : Nat) : Int) = cell by omega] at h
  simp only [backOk, Bool.and_eq_true, List.all_eq_true, decide_eq_true_eq, Bool.not_eq_true', List.contains_eq_mem, decide_eq_false_iff_not, beq_iff_eq, List.mem_range] at h
  obtain ⟨⟨a, b⟩, c⟩ := h
  refine ⟨a, b, fun s hs => ⟨(c s hs).1, fun i y hy => ?_⟩⟩
  obtain ⟨hl, he⟩ := List.getElem?_eq_some_iff.1 hy
  have := (c s hs).2 i hl
  rw [hy, Option.getD_some] at this
  exact this
/-- Moves may be taken back, past the same others. -/
theorem cells_back {bc br : Int} {far : Bool} {ss : List (Int × Int)} {cell y : Int} {others : List Int} (h : Back bc br far ss cell) (hy : y ∈ cellsP bc br far others cell ss) : cell ∈ cellsP bc br far others y ss := by
  simp only [cellsP, List.mem_flatMap] at hy ⊢
  obtain ⟨s, hs, hy⟩ := hy
  rw [goes_trunc, trunc_mem] at hy
  obtain ⟨i, h1, h2⟩ := hy
  obtain ⟨b1, b2⟩ := h.back s hs
  obtain ⟨b3, b4⟩ := b2 i y h1
  refine ⟨_, b1, ?_⟩
  rw [goes_trunc, trunc_mem]
  refine ⟨i, b3, fun j hj z hz => ?_⟩
  rw [b4 j hj] at hz
  exact h2 _ (by omega) z hz
theorem cells_sub (bc br : Int) (far : Bool) (ss : List (Int × Int)) (cell : Int) (others : List Int) : (cellsP bc br far others cell ss).Sublist (cellsP bc br far [] cell ss) := by
  induction ss with
  | nil => exact List.Sublist.refl _
  | cons s l ih =>
    simp only [cellsP, List.flatMap_cons] at ih ⊢
    exact List.Sublist.append (by rw [goes_trunc]; exact trunc_sub _ _) ih
theorem reach_mem {bc br : Int} {far : Bool} {ss : List (Int × Int)} {cell y : Int} {others : List Int} : y ∈ reachP bc br far others cell ss ↔ y ∈ cellsP bc br far others cell ss := by
  unfold reachP
  exact List.mem_mergeSort
theorem reach_up {bc br : Int} {far : Bool} {ss : List (Int × Int)} {cell : Int} {others : List Int} (h : Back bc br far ss cell) (i : Nat) (hi : i + 1 < (reachP bc br far others cell ss).length) :
    (reachP bc br far others cell ss)[i]?.getD 0 < (reachP bc br far others cell ss)[i + 1]?.getD 0 := by
  have hn : (reachP bc br far others cell ss).Nodup := (List.mergeSort_perm _ _).symm.nodup ((cells_sub bc br far ss cell others).nodup h.nodup)
  have hs := List.pairwise_mergeSort (le := fun x y : Int => decide (x ≤ y)) (fun a b c h h' => by simp at h h' ⊢; omega) (fun a b => by simp; omega) (cellsP bc br far others cell ss)
  have e1 := List.pairwise_iff_getElem.1 hs i (i + 1) (by unfold reachP at hi; omega) (by unfold reachP at hi; omega) (by omega)
  have e2 := List.pairwise_iff_getElem.1 hn i (i + 1) (by omega) hi (by omega)
  simp only [decide_eq_true_eq] at e1
  rw [List.getElem?_eq_getElem hi, List.getElem?_eq_getElem (by omega)]
  simp only [Option.getD_some]
  unfold reachP at e2 ⊢
  omega
end Go.Proofs.Ytljojjkaeclcfaa


/-
  Rooks cell by cell, purely.
-/
import Derived.Test.YtlccohoblplddaaRookP
namespace Go.Proofs.Ytlccohoblplddaa
set_option linter.unusedVariables false

theorem rk_set : ∀ (R : List Nat) (i x t k : Nat), i < R.length → rk (R.set i x) t k = rk (x :: R.eraseIdx i) t k
  | [], _, _, _, _, h => by simp at h
  | a :: R, 0, x, t, k, _ => rfl
  | a :: R, i + 1, x, t, k, h => by
    simp only [List.set_cons_succ, List.eraseIdx_cons_succ]
    rw [rk_cons (fun t k => rk_set R i x t k (by simpa using h)) a, rk_swap]
theorem rk_nil_row (rs : List Nat) (t k : Nat) : rk (0 :: rs) t k = rk rs t k := by
  rw [rk_row, sum5_congr (g := fun _ => 0) (fun c _ => by simp), sum5_zero, Nat.add_zero]
theorem rk_none : ∀ (R : List Nat) (t k : Nat), (∀ i, i < R.length → R[i]?.getD 0 = 0) → rk R t k = if k = 0 then 1 else 0
  | [], _, _, _ => rfl
  | r :: R, t, k, h => by
    have h0 := h 0 (by simp)
    simp only [List.getElem?_cons_zero, Option.getD_some] at h0
    rw [h0, rk_nil_row]
    exact rk_none R t k (fun i hi => by simpa using h (i + 1) (by simpa using hi))
/-- x without column e. -/
def clr (e x : Nat) : Nat := x &&& (31 ^^^ 2 ^ e)
theorem clr_bit : ∀ x : Fin 32, ∀ e d : Fin 5, (clr e.val x.val).testBit d.val = (x.val.testBit d.val && decide (d.val ≠ e.val)) := by decide +kernel
theorem clr_le (e x : Nat) : clr e x ≤ x := Nat.and_le_left
theorem clr_lt : ∀ x : Fin 32, ∀ e : Fin 5, x.val.testBit e.val = true → clr e.val x.val < x.val ∧ x.val - 2 ^ e.val = clr e.val x.val ∧ 2 ^ e.val ≤ x.val := by decide +kernel
theorem high_bit {x d : Nat} (hx : x < 32) (hd : 5 ≤ d) : x.testBit d = false := Nat.testBit_lt_two_pow (Nat.lt_of_lt_of_le hx (Nat.le_trans (by decide : 32 ≤ 2 ^ 5) (Nat.pow_le_pow_right (by omega) hd)))
theorem clr_bits {x e : Nat} (hx : x < 32) (he : e < 5) (d : Nat) : (clr e x).testBit d = (x.testBit d && decide (d ≠ e)) := by
  by_cases hd : d < 5
  · exact clr_bit ⟨x, hx⟩ ⟨e, he⟩ ⟨d, hd⟩
  · rw [high_bit (Nat.lt_of_le_of_lt (clr_le e x) hx) (by omega), high_bit hx (by omega), Bool.false_and]
def linesP (R : List Nat) (i e : Nat) : List Nat := (R.set i 0).map (clr e)
def cellP (R : List Nat) (i e : Nat) : List Nat := R.set i (clr e (R[i]?.getD 0))
theorem map_at (f : Nat → Nat) (hf : f 0 = 0) (R : List Nat) (i : Nat) : (R.map f)[i]?.getD 0 = f (R[i]?.getD 0) := by
  rw [List.getElem?_map]
  cases R[i]? <;> simp [hf]
theorem erase_mem {R : List Nat} {i : Nat} {P : Nat → Prop} (h : ∀ x ∈ R, P x) : ∀ x ∈ R.eraseIdx i, P x := fun x hx => h x (List.mem_of_mem_eraseIdx hx)
theorem erase_map (f : Nat → Nat) : ∀ (R : List Nat) (i : Nat), (R.map f).eraseIdx i = (R.eraseIdx i).map f
  | [], i => by simp
  | a :: R, 0 => by simp
  | a :: R, i + 1 => by simp [erase_map f R i]
theorem erase_set : ∀ (R : List Nat) (i x : Nat), (R.set i x).eraseIdx i = R.eraseIdx i
  | [], i, x => by simp
  | a :: R, 0, x => by simp
  | a :: R, i + 1, x => by simp [erase_set R i x]
theorem set_self : ∀ (R : List Nat) (i : Nat), i < R.length → R.set i (R[i]?.getD 0) = R
  | [], i, h => by simp at h
  | a :: R, 0, _ => by simp
  | a :: R, i + 1, h => by
    have := set_self R i (by simpa using h)
    simp only [List.set_cons_succ, List.getElem?_cons_succ]
    rw [this]
/-- A cell taken or not. -/
theorem rk_at {R : List Nat} (hR : ∀ x ∈ R, x < 32) {i e : Nat} (hi : i < R.length) (he : e < 5) (hb : (R[i]?.getD 0).testBit e = true) (k : Nat) :
    rk R 0 (k + 1) = rk (cellP R i e) 0 (k + 1) + rk (linesP R i e) 0 k := by
  have hx : R[i]?.getD 0 < 32 := by
    rw [List.getElem?_eq_getElem hi]; exact hR _ (List.getElem_mem hi)
  have h1 : rk R 0 (k + 1) = rk (R[i]?.getD 0 :: R.eraseIdx i) 0 (k + 1) := by
    rw [← rk_set R i _ _ _ hi, set_self R i hi]
  have h2 : rk (cellP R i e) 0 (k + 1) = rk (clr e (R[i]?.getD 0) :: R.eraseIdx i) 0 (k + 1) := rk_set R i _ _ _ hi
  have h3 : rk (linesP R i e) 0 k = rk (R.eraseIdx i) (0 ||| 2 ^ e) k := by
    have ha : linesP R i e = (linesP R i e).set i 0 := by
      apply List.ext_getElem
      · simp
      · intro j j1 j2
        rw [List.getElem_set]
        split
        · rename_i hj
          subst hj
          simp [linesP, clr]
        · rfl
    rw [ha, rk_set _ _ _ _ _ (by simpa [linesP] using hi), rk_nil_row, linesP, erase_map, erase_set]
    refine rk_taken _ _ 0 (0 ||| 2 ^ e) k (by simp) fun j d => ?_
    rw [map_at _ (by simp [clr])]
    have hj : (R.eraseIdx i)[j]?.getD 0 < 32 := by
      cases h : (R.eraseIdx i)[j]? with
      | none => simp
      | some y => exact erase_mem (P := (· < 32)) hR y (List.mem_of_getElem? h)
    rw [clr_bits hj he, taken_bit]
    simp only [Nat.zero_testBit, Bool.false_or, Bool.not_false, Bool.and_true]
    by_cases hde : d = e
    · subst hde; simp
    · have : ¬ e = d := fun h => hde h.symm
      simp [hde, this]
  rw [h1, h2, h3]
  exact rk_cell _ e _ 0 k he hb _ (fun d => clr_bits hx he d) (Nat.zero_testBit e)

theorem sum_set : ∀ (R : List Nat) (i x : Nat), i < R.length → (R.set i x).sum + R[i]?.getD 0 = R.sum + x
  | [], _, _, h => by simp at h
  | a :: R, 0, x, _ => by simp; omega
  | a :: R, i + 1, x, h => by
    have := sum_set R i x (by simpa using h)
    simp only [List.set_cons_succ, List.sum_cons, List.getElem?_cons_succ]
    omega
theorem sum_map_le (f : Nat → Nat) (hf : ∀ x, f x ≤ x) : ∀ R : List Nat, (R.map f).sum ≤ R.sum
  | [] => by simp
  | a :: R => by
    have := sum_map_le f hf R
    have := hf a
    simp only [List.map_cons, List.sum_cons]
    omega
theorem cell_sum {R : List Nat} {i e : Nat} (hi : i < R.length) (hlt : clr e (R[i]?.getD 0) < R[i]?.getD 0) : (cellP R i e).sum < R.sum := by
  have := sum_set R i (clr e (R[i]?.getD 0)) hi
  unfold cellP
  omega
theorem lines_sum {R : List Nat} {i e : Nat} (hi : i < R.length) (hpos : 0 < R[i]?.getD 0) : (linesP R i e).sum < R.sum := by
  have h1 := sum_set R i 0 hi
  have h2 := sum_map_le (clr e) (clr_le e) (R.set i 0)
  unfold linesP
  omega
theorem cell_small {R : List Nat} {n : Nat} (hR : ∀ x ∈ R, x < n) (i e : Nat) : ∀ x ∈ cellP R i e, x < n := fun x hx => by
  unfold cellP at hx
  rcases List.mem_or_eq_of_mem_set hx with h | h
  · exact hR x h
  · subst h
    by_cases hi : i < R.length
    · rw [List.getElem?_eq_getElem hi]
      exact Nat.lt_of_le_of_lt (clr_le _ _) (hR _ (List.getElem_mem hi))
    · have : R.set i (clr e (R[i]?.getD 0)) = R := List.set_eq_of_length_le (by omega)
      rw [this] at hx
      exact hR _ hx
theorem lines_small {R : List Nat} {n : Nat} (hn : 0 < n) (hR : ∀ x ∈ R, x < n) (i e : Nat) : ∀ x ∈ linesP R i e, x < n := fun x hx => by
  unfold linesP at hx
  obtain ⟨y, hy, rfl⟩ := List.mem_map.1 hx
  refine Nat.lt_of_le_of_lt (clr_le _ _) ?_
  rcases List.mem_or_eq_of_mem_set hy with h | h
  · exact hR y h
  · omega
end Go.Proofs.Ytlccohoblplddaa


/-
  The parts of a board: as cells that no earlier one reaches, and as cells that no part met before holds; over all boards by the kernel. Plain mathematics.
-/
import Derived.Test.YtljojjkaeclcfaaMovesFacts
namespace Go.Proofs.Ytljojjkaeclcfaa
open Go Go.RowKit
set_option linter.unusedVariables false

/-- No cell before n is reached, by the row. -/
def firstP (row : List Int) (n : Nat) : Bool := (List.range n).all fun k => decide (row[k]?.getD 0 < 0)
def partsS (M : Nat → List Int) : Nat → Nat
  | 0 => 0
  | n + 1 => if firstP (M n) n then partsS M n + 1 else partsS M n
/-- The first j of N cells are met too, where the row comes to. -/
def metTo (row : List Int) (met : List Bool) (N j : Nat) : List Bool := (List.range N).map fun t => if t < j then met[t]?.getD false || decide (0 ≤ row[t]?.getD 0) else met[t]?.getD false
def partsI (M : Nat → List Int) (N : Nat) : Nat → List Bool × Nat
  | 0 => (List.replicate N false, 0)
  | k + 1 => if (partsI M N k).1[k]?.getD false then partsI M N k else (metTo (M k) (partsI M N k).1 N N, (partsI M N k).2 + 1)
theorem partsS_congr {M M' : Nat → List Int} : ∀ n, (∀ k, k < n → M k = M' k) → partsS M n = partsS M' n
  | 0, _ => rfl
  | n + 1, h => by rw [partsS, partsS, partsS_congr n (fun k hk => h k (by omega)), h n (by omega)]
theorem partsI_congr {M M' : Nat → List Int} (N : Nat) : ∀ n, (∀ k, k < n → M k = M' k) → partsI M N n = partsI M' N n
  | 0, _ => rfl
  | n + 1, h => by rw [partsI, partsI, partsI_congr N n (fun k hk => h k (by omega)), h n (by omega)]
theorem partsS_le (M : Nat → List Int) : ∀ n, partsS M n ≤ n
  | 0 => Nat.le_refl _
  | n + 1 => by have := partsS_le M n; rw [partsS]; split <;> omega
theorem partsI_le (M : Nat → List Int) (N : Nat) : ∀ n, (partsI M N n).2 ≤ n ∧ (partsI M N n).1.length = N
  | 0 => ⟨Nat.le_refl _, by simp [partsI]⟩
  | n + 1 => by
    have := partsI_le M N n
    rw [partsI]
    split
    · exact ⟨by omega, this.2⟩
    · exact ⟨by simp only; omega, by simp [metTo]⟩
theorem metTo_zero (row : List Int) (met : List Bool) (N : Nat) (h : met.length = N) : metTo row met N 0 = met := by
  apply List.ext_getElem
  · simp [metTo, h]
  · intro i h1 h2
    simp [metTo, List.getElem?_eq_getElem h2]
theorem metTo_len (row : List Int) (met : List Bool) (N j : Nat) : (metTo row met N j).length = N := by simp [metTo]
theorem metTo_at (row : List Int) (met : List Bool) (N j i : Nat) (hi : i < N) : (metTo row met N j)[i]?.getD false = if i < j then met[i]?.getD false || decide (0 ≤ row[i]?.getD 0) else met[i]?.getD false := by
  simp [metTo, List.getElem?_map, List.getElem?_range hi]
theorem metTo_succ (row : List Int) (met : List Bool) (N j : Nat) (hj : j < N) : metTo row met N (j + 1) = (metTo row met N j).set j (met[j]?.getD false || decide (0 ≤ row[j]?.getD 0)) := by
  apply List.ext_getElem
  · simp [metTo]
  · intro i h1 h2
    simp only [metTo, List.length_map, List.length_range] at h1
    simp only [metTo, List.getElem_map, List.getElem_range, List.getElem_set]
    by_cases hij : j = i
    · subst hij; simp
    · rw [if_neg hij]
      by_cases h3 : i < j
      · rw [if_pos (by omega), if_pos h3]
      · rw [if_neg (by omega), if_neg h3]
theorem first_step {row : List Int} {n k : Nat} : firstP row (k + 1) = (firstP row k && decide (row[k]?.getD 0 < 0)) := by
  simp [firstP, List.range_succ, List.all_append]

def pieceOk (bc br : Int) (p : List (Int × Int) × Bool) : Bool :=
  let N := (bc * br).toNat
  let T := tabP bc br p.2 p.1
  let L := (List.range N).map (movesT T N)
  let out := partsS (fun n => L[n]?.getD []) N
  (partsI (fun n => L[n]?.getD []) N N).2 == out && decide (1 ≤ out) && decide (out ≤ N) &&
    (if p == (slanted, true) then out == (if bc == 1 || br == 1 then N else 2) else p == (knights, false) || out == 1)
def pieceAll (p : List (Int × Int) × Bool) : Prop := ∀ a : Fin 5, ∀ b : Fin 5, pieceOk ((a.val : Int) + 1) ((b.val : Int) + 1) p = true
instance (p : List (Int × Int) × Bool) : Decidable (pieceAll p) := by unfold pieceAll; infer_instance
set_option maxRecDepth 100000 in
theorem pieces_step : pieceAll (straight, false) := by decide +kernel
set_option maxRecDepth 100000 in
theorem pieces_king : pieceAll (both, false) := by decide +kernel
set_option maxRecDepth 100000 in
theorem pieces_knight : pieceAll (knights, false) := by decide +kernel
set_option maxRecDepth 100000 in
theorem pieces_rook : pieceAll (straight, true) := by decide +kernel
set_option maxRecDepth 100000 in
theorem pieces_bishop : pieceAll (slanted, true) := by decide +kernel
set_option maxRecDepth 100000 in
theorem pieces_queen : pieceAll (both, true) := by decide +kernel
theorem pieces_all (p : List (Int × Int) × Bool) (h : p ∈ six) : pieceAll p := by
  simp only [six, List.mem_cons, List.not_mem_nil, or_false] at h
  rcases h with rfl | rfl | rfl | rfl | rfl | rfl
  · exact pieces_step
  · exact pieces_king
  · exact pieces_knight
  · exact pieces_rook
  · exact pieces_bishop
  · exact pieces_queen
end Go.Proofs.Ytljojjkaeclcfaa


/-
  The model's rooks from a row on: bit, rookFrom.
-/
import Derived.Test.YtlccohoblplddadSeatA
import Derived.Test.YtlccohoblplddadSpecC
import Derived.Test.YtlccohoblplddadOwnWords
import Derived.Test.YtlccohoblplddadRookP
import Derived.StillTailTactics
import Derived.OwnWalk
namespace Go.Proofs.Ytlccohoblplddad
open Go.RowKit
set_option linter.unusedVariables false

def bitV (x j : Nat) : Int := if x.testBit j then 1 else 0
theorem bit_val : ∀ x : Fin 64, ∀ j : Fin 6, ((x.val : Int) / ((2 ^ j.val : Nat) : Int)) % 2 = bitV x.val j.val := by decide +kernel
/-- What a call of rookFrom comes to: the numbers of sets, as long as there are any. -/
def RookL (rest : List Nat) (t : Nat) (w : World) (e : Ending) (w' : World) : Prop :=
  ∃ v L, e = .returned v ∧ w'.ownsRow w.heap.size 3 1 v (List.length L) (ints L) ∧ (1 ≤ L.length ∧ L.length ≤ rest.length + 1) ∧ Hid (∀ k : Nat, L[k]?.getD 0 = ((rk rest t k : Nat) : Int)) ∧ Below w.heap.size w w'
/-- The numbers when the first c columns of the row have come. -/
def partR (r : Nat) (rs : List Nat) (t c k : Nat) : Nat := rk rs t k + sum5 fun d => if decide (d < c) && (r.testBit d && !t.testBit d && decide (1 ≤ k)) then rk rs (t ||| 2 ^ d) (k - 1) else 0
theorem partR_zero (r : Nat) (rs : List Nat) (t k : Nat) : partR r rs t 0 k = rk rs t k := by
  unfold partR
  rw [sum5_congr (g := fun _ => 0) (fun d _ => by simp), sum5_zero, Nat.add_zero]
theorem partR_succ (r : Nat) (rs : List Nat) (t c k : Nat) (hc : c < 5) : partR r rs t (c + 1) k = partR r rs t c k + if r.testBit c && !t.testBit c && decide (1 ≤ k) then rk rs (t ||| 2 ^ c) (k - 1) else 0 := by
  unfold partR
  have : ∀ d, d < 5 → (if decide (d < c + 1) && (r.testBit d && !t.testBit d && decide (1 ≤ k)) then rk rs (t ||| 2 ^ d) (k - 1) else 0) = (if decide (d < c) && (r.testBit d && !t.testBit d && decide (1 ≤ k)) then rk rs (t ||| 2 ^ d) (k - 1) else 0) + (if d = c then (if r.testBit c && !t.testBit c && decide (1 ≤ k) then rk rs (t ||| 2 ^ c) (k - 1) else 0) else 0) := fun d _ => by
    by_cases e : d = c
    · subst e; simp
    · have : (d < c + 1) = (d < c) := by apply propext; omega
      simp [e, this]
  rw [sum5_congr this, sum5_add, ← Nat.add_assoc]
  congr 1
  unfold sum5
  obtain rfl | rfl | rfl | rfl | rfl : c = 0 ∨ c = 1 ∨ c = 2 ∨ c = 3 ∨ c = 4 := by omega
  all_goals simp
theorem partR_all (n r : Nat) (rs : List Nat) (t k : Nat) (h : ∀ d, r.testBit d = true → d < n) : partR r rs t n k = rk (r :: rs) t k := by
  rw [rk_row]
  unfold partR
  refine congrArg (_ + ·) (sum5_congr fun d _ => ?_)
  by_cases hr : r.testBit d = true
  · rw [decide_eq_true (h d hr), Bool.true_and]
  · rw [Bool.not_eq_true] at hr
    simp [hr]
theorem partR_bd (r : Nat) (rs : List Nat) (t c k : Nat) (h : rs.length ≤ 4) : partR r rs t c k ≤ 7776 := by
  have h6 : 6 ^ rs.length ≤ 1296 := Nat.le_trans (Nat.pow_le_pow_right (by omega) h) (by decide)
  have h1 := rk_bd rs t k
  have h2 : sum5 (fun d => if decide (d < c) && (r.testBit d && !t.testBit d && decide (1 ≤ k)) then rk rs (t ||| 2 ^ d) (k - 1) else 0) ≤ sum5 (fun _ => 1296) := sum5_le fun d _ => by
    split
    · exact Nat.le_trans (rk_bd rs _ _) h6
    · omega
  simp only [sum5] at h2
  unfold partR
  simp only [sum5]
  omega
theorem plus_or : ∀ t : Fin 32, ∀ c : Fin 5, t.val.testBit c.val = false → t.val + 2 ^ c.val = t.val ||| 2 ^ c.val := by decide +kernel
theorem pad_at (L : List Int) (k : Nat) : (L ++ [0])[k]?.getD 0 = L[k]?.getD 0 := by
  by_cases h : k < L.length
  · rw [List.getElem?_append_left h]
  · rw [List.getElem?_append_right (by omega), List.getElem?_eq_none (by omega : L.length ≤ k)]
    cases hk : k - L.length with
    | zero => simp
    | succ j => simp
theorem set_at (L : List Int) (j k : Nat) (u : Int) (hj : j < L.length) : (L.set j u)[k]?.getD 0 = if k = j then u else L[k]?.getD 0 := by
  by_cases e : k = j
  · subst e; rw [List.getElem?_set_self hj]; simp
  · rw [List.getElem?_set_ne (fun h => e h.symm)]; simp [e]
end Go.Proofs.Ytlccohoblplddad

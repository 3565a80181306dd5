
/-
  Full sets of rooks by the others: purely.
-/
import Derived.Test.YtlccohoblplddadRookP
namespace Go.Proofs.Ytlccohoblplddad
set_option linter.unusedVariables false

def sum5Z (f : Nat → Int) : Int := f 0 + f 1 + f 2 + f 3 + f 4
theorem sum5Z_congr {f g : Nat → Int} (h : ∀ c, c < 5 → f c = g c) : sum5Z f = sum5Z g := by
  unfold sum5Z; rw [h 0 (by omega), h 1 (by omega), h 2 (by omega), h 3 (by omega), h 4 (by omega)]
def sumK (f : Nat → Int) : Nat → Int
  | 0 => 0
  | k + 1 => sumK f k + f k
theorem sumK_congr {f g : Nat → Int} : ∀ m, (∀ k, k < m → f k = g k) → sumK f m = sumK g m
  | 0, _ => rfl
  | m + 1, h => by rw [sumK, sumK, sumK_congr m (fun k hk => h k (by omega)), h m (by omega)]
theorem sumK_add (f g : Nat → Int) : ∀ m, sumK (fun k => f k + g k) m = sumK f m + sumK g m
  | 0 => rfl
  | m + 1 => by simp only [sumK]; rw [sumK_add f g m]; omega
theorem sumK_shift (f : Nat → Int) : ∀ m, sumK f (m + 1) = f 0 + sumK (fun k => f (k + 1)) m
  | 0 => by simp [sumK]
  | m + 1 => by rw [sumK, sumK_shift f m, sumK]; omega
theorem sumK_zero : ∀ m, sumK (fun _ => 0) m = 0
  | 0 => rfl
  | m + 1 => by rw [sumK, sumK_zero m]; rfl
theorem sumK_neg (f : Nat → Int) : ∀ m, sumK (fun k => - f k) m = - sumK f m
  | 0 => rfl
  | m + 1 => by simp only [sumK]; rw [sumK_neg f m]; omega
theorem sumK_sum5 (F : Nat → Nat → Int) : ∀ m, sumK (fun k => sum5Z (fun c => F c k)) m = sum5Z (fun c => sumK (F c) m)
  | 0 => rfl
  | m + 1 => by simp only [sumK]; rw [sumK_sum5 F m]; simp only [sum5Z]; omega
def sgn (k : Nat) : Int := if k % 2 = 0 then 1 else -1
theorem sgn_succ (k : Nat) : sgn (k + 1) = - sgn k := by
  unfold sgn
  by_cases h : k % 2 = 0
  · rw [if_pos h, if_neg (by omega)]
  · rw [if_neg h, if_pos (by omega)]; rfl
theorem sum5_cast (s : Int) (f : Nat → Nat) (a : Nat) : s * ((sum5 f * a : Nat) : Int) = sum5Z (fun c => s * ((f c * a : Nat) : Int)) := by
  simp only [sum5, sum5Z, Nat.add_mul, Int.natCast_add, Int.mul_add]
theorem sumK_ite (p : Bool) (g a : Nat → Nat) (m : Nat) : sumK (fun k => sgn k * (((if p = true then g k else 0) * a k : Nat) : Int)) m = if p = true then sumK (fun k => sgn k * ((g k * a k : Nat) : Int)) m else 0 := by
  cases p with
  | true => rfl
  | false =>
    simp only [Bool.false_eq_true, if_false, Nat.zero_mul, Int.natCast_zero, Int.mul_zero]
    exact sumK_zero m

/-- The sum over all numbers of rooks, of the sets among the others. -/
def altE (m : Nat) (rs : List Nat) (t : Nat) : Int := sumK (fun k => sgn k * ((rk rs t k * fact (m - k) : Nat) : Int)) (m + 1)
theorem free_or {n t c : Nat} (h5 : c < 5) (hn : c < n) (ht : t.testBit c = false) : free n (t ||| 2 ^ c) + 1 = free n t := by
  unfold free
  have : ∀ d, d < 5 → (if decide (d < n) && !t.testBit d then 1 else 0) = (if decide (d < n) && !(t ||| 2 ^ c).testBit d then 1 else 0) + (if d = c then 1 else 0) := fun d _ => by
    rw [taken_bit]
    by_cases hcd : d = c
    · subst hcd; simp [ht, hn]
    · have : ¬ c = d := fun e => hcd e.symm
      simp [hcd, this]
  rw [sum5_congr this, sum5_add]
  congr 1
  unfold sum5
  obtain rfl | rfl | rfl | rfl | rfl : c = 0 ∨ c = 1 ∨ c = 2 ∨ c = 3 ∨ c = 4 := by omega
  all_goals simp
theorem alt_step (n m r : Nat) (rs : List Nat) (t : Nat) (hw : Within n (r :: rs)) (hl : rs.length = m) (hf : free n t = m + 1) :
    altE (m + 1) (r :: rs) t = sum5Z (fun c => if decide (c < n) && !t.testBit c then altE m rs (t ||| 2 ^ c) else 0) - sum5Z (fun c => if r.testBit c && !t.testBit c then altE m rs (t ||| 2 ^ c) else 0) := by
  have hws : Within n rs := fun r' hr' => hw r' (List.mem_cons_of_mem _ hr')
  have h1 : altE (m + 1) (r :: rs) t = sumK (fun k => sgn k * ((rk rs t k * fact (m + 1 - k) : Nat) : Int)) (m + 2)
      + sumK (fun k => sgn k * ((sum5 (fun c => if r.testBit c && !t.testBit c && decide (1 ≤ k) then rk rs (t ||| 2 ^ c) (k - 1) else 0) * fact (m + 1 - k) : Nat) : Int)) (m + 2) := by
    rw [← sumK_add]
    refine sumK_congr _ fun k _ => ?_
    rw [rk_row, Nat.add_mul, Int.natCast_add, Int.mul_add]
  have h2 : sumK (fun k => sgn k * ((sum5 (fun c => if r.testBit c && !t.testBit c && decide (1 ≤ k) then rk rs (t ||| 2 ^ c) (k - 1) else 0) * fact (m + 1 - k) : Nat) : Int)) (m + 2) = - sum5Z (fun c => if r.testBit c && !t.testBit c then altE m rs (t ||| 2 ^ c) else 0) := by
    rw [sumK_shift]
    have e0 : sum5 (fun c => if r.testBit c && !t.testBit c && decide (1 ≤ 0) then rk rs (t ||| 2 ^ c) (0 - 1) else 0) = 0 := by
      rw [sum5_congr (g := fun _ => 0) (fun c _ => by simp), sum5_zero]
    rw [e0, Nat.zero_mul, Int.natCast_zero, Int.mul_zero, Int.zero_add]
    have e1 : ∀ k, k < m + 1 → sgn (k + 1) * ((sum5 (fun c => if r.testBit c && !t.testBit c && decide (1 ≤ k + 1) then rk rs (t ||| 2 ^ c) (k + 1 - 1) else 0) * fact (m + 1 - (k + 1)) : Nat) : Int)
        = - sum5Z (fun c => sgn k * (((if (r.testBit c && !t.testBit c) = true then rk rs (t ||| 2 ^ c) k else 0) * fact (m - k) : Nat) : Int)) := fun k _ => by
      have e9 : m + 1 - (k + 1) = m - k := by omega
      rw [sgn_succ, Int.neg_mul, ← sum5_cast, e9]
      exact congrArg (fun x : Nat => -(sgn k * ((x * fact (m - k) : Nat) : Int))) (sum5_congr fun c _ => by simp)
    rw [sumK_congr _ e1, sumK_neg, sumK_sum5]
    congr 1
    exact sum5Z_congr fun c _ => sumK_ite _ _ _ _
  have h3 : sumK (fun k => sgn k * ((rk rs t k * fact (m + 1 - k) : Nat) : Int)) (m + 2) = sum5Z (fun c => if decide (c < n) && !t.testBit c then altE m rs (t ||| 2 ^ c) else 0) := by
    rw [sumK, rk_big rs t (m + 1) (by omega), Nat.zero_mul, Int.natCast_zero, Int.mul_zero, Int.add_zero]
    have e1 : ∀ k, k < m + 1 → sgn k * ((rk rs t k * fact (m + 1 - k) : Nat) : Int) = sum5Z (fun c => sgn k * (((if (decide (c < n) && !t.testBit c) = true then rk rs (t ||| 2 ^ c) k else 0) * fact (m - k) : Nat) : Int)) := fun k hk => by
      rw [← sum5_cast]
      have hl := rk_left n rs t k hws
      rw [hf] at hl
      have hfa : fact (m + 1 - k) = (m + 1 - k) * fact (m - k) := by
        obtain ⟨j, hj⟩ : ∃ j, m - k = j := ⟨_, rfl⟩
        rw [show m + 1 - k = j + 1 by omega, hj, fact]
      have hsum : sum5 (fun c => if (decide (c < n) && !t.testBit c) = true then rk rs (t ||| 2 ^ c) k else 0) = (m + 1 - k) * rk rs t k := by
        rw [Nat.sub_mul]
        omega
      rw [hsum, hfa]
      congr 2
      rw [Nat.mul_left_comm, Nat.mul_assoc]
    rw [sumK_congr _ e1, sumK_sum5]
    exact sum5Z_congr fun c _ => sumK_ite _ _ _ _
  rw [h1, h2, h3]
  omega
/-- FULL SETS ARE TOLD BY THE OTHERS. -/
theorem alt_full (n : Nat) (co : Nat → Nat) (hco : ∀ r c, c < 5 → (co r).testBit c = (decide (c < n) && !r.testBit c)) :
    ∀ (rs : List Nat) (t : Nat), Within n rs → free n t = rs.length → altE rs.length rs t = ((rk (rs.map co) t rs.length : Nat) : Int)
  | [], t, _, _ => by
    simp [altE, sumK, sgn, rk, fact]
  | r :: rs, t, hw, hf => by
    have hws : Within n rs := fun r' hr' => hw r' (List.mem_cons_of_mem _ hr')
    simp only [List.length_cons] at hf ⊢
    rw [alt_step n rs.length r rs t hw rfl hf, List.map_cons, rk_row, rk_big _ _ _ (by simp), Nat.zero_add]
    have e1 : ∀ c, c < 5 → (if decide (c < n) && !t.testBit c then altE rs.length rs (t ||| 2 ^ c) else 0) = (if r.testBit c && !t.testBit c then altE rs.length rs (t ||| 2 ^ c) else 0) + (((if (co r).testBit c && !t.testBit c && decide (1 ≤ rs.length + 1) then rk (rs.map co) (t ||| 2 ^ c) (rs.length + 1 - 1) else 0 : Nat)) : Int) := fun c hc => by
      rw [hco r c hc, Nat.add_sub_cancel]
      cases ht : t.testBit c with
      | true => simp
      | false =>
        by_cases hn : c < n
        · have hfr := free_or hc hn ht
          have ih := alt_full n co hco rs (t ||| 2 ^ c) hws (by omega)
          rw [ih]
          cases hr : r.testBit c <;> simp [hn]
        · have hr : r.testBit c = false := by
            cases h : r.testBit c with
            | false => rfl
            | true => exact absurd (hw r List.mem_cons_self c h) hn
          simp [hn, hr]
    rw [sum5Z_congr e1]
    simp only [sum5Z, sum5, Int.natCast_add]
    omega
end Go.Proofs.Ytlccohoblplddad

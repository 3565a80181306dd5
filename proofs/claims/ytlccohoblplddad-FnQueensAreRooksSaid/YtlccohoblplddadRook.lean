
/-
  Rooks, purely: how many sets of k rooks stand in rows with some columns taken; rows in any order; full sets by the others.
-/
namespace Go.Proofs.Ytlccohoblplddad

def sum5 (f : Nat → Nat) : Nat := f 0 + f 1 + f 2 + f 3 + f 4
theorem sum5_congr {f g : Nat → Nat} (h : ∀ c, c < 5 → f c = g c) : sum5 f = sum5 g := by
  unfold sum5; rw [h 0 (by omega), h 1 (by omega), h 2 (by omega), h 3 (by omega), h 4 (by omega)]
theorem sum5_le {f g : Nat → Nat} (h : ∀ c, c < 5 → f c ≤ g c) : sum5 f ≤ sum5 g := by
  unfold sum5
  have := h 0 (by omega); have := h 1 (by omega); have := h 2 (by omega); have := h 3 (by omega); have := h 4 (by omega)
  omega
theorem sum5_add (f g : Nat → Nat) : sum5 (fun c => f c + g c) = sum5 f + sum5 g := by simp only [sum5]; omega
theorem sum5_mul (a : Nat) (f : Nat → Nat) : sum5 (fun c => a * f c) = a * sum5 f := by simp only [sum5, Nat.mul_add]
theorem sum5_swap (F : Nat → Nat → Nat) : sum5 (fun c => sum5 (fun d => F c d)) = sum5 (fun d => sum5 (fun c => F c d)) := by
  simp only [sum5]; omega
theorem sum5_zero : sum5 (fun _ => 0) = 0 := rfl

/-- How many sets of k rooks stand in the rows, the columns t being taken. -/
def rk : List Nat → Nat → Nat → Nat
  | [], _, k => if k = 0 then 1 else 0
  | _ :: rs, t, 0 => rk rs t 0
  | r :: rs, t, k + 1 => rk rs t (k + 1) + sum5 fun c => if r.testBit c && !t.testBit c then rk rs (t ||| 2 ^ c) k else 0

theorem taken_bit (t c d : Nat) : (t ||| 2 ^ c).testBit d = (t.testBit d || decide (c = d)) := by
  rw [Nat.testBit_or, Nat.testBit_two_pow]
theorem or_comm' (t c d : Nat) : t ||| 2 ^ c ||| 2 ^ d = t ||| 2 ^ d ||| 2 ^ c := by
  rw [Nat.or_assoc, Nat.or_comm (2 ^ c), ← Nat.or_assoc]

theorem rk_zero : ∀ (rs : List Nat) (t : Nat), rk rs t 0 = 1
  | [], _ => rfl
  | _ :: rs, t => by rw [rk, rk_zero rs t]
theorem rk_big : ∀ (rs : List Nat) (t k : Nat), rs.length < k → rk rs t k = 0
  | [], _, k, h => by simp only [List.length_nil] at h; rw [rk, if_neg (by omega)]
  | _ :: _, _, 0, h => absurd h (by simp)
  | r :: rs, t, k + 1, h => by
    simp only [List.length_cons] at h
    rw [rk, rk_big rs t (k + 1) (by omega), sum5_congr (g := fun _ => 0) (fun c _ => by rw [rk_big rs _ k (by omega)]; simp)]
    rfl
/-- A row's place among two does not matter. -/
theorem rk_swap (a b : Nat) (rs : List Nat) (t k : Nat) : rk (a :: b :: rs) t k = rk (b :: a :: rs) t k := by
  rcases k with _ | _ | k
  · simp only [rk_zero]
  · simp only [rk, rk_zero]; unfold sum5; omega
  · have e : ∀ a b : Nat, rk (a :: b :: rs) t (k + 2) = rk rs t (k + 2) + sum5 (fun d => if b.testBit d && !t.testBit d then rk rs (t ||| 2 ^ d) (k + 1) else 0)
        + sum5 (fun c => if a.testBit c && !t.testBit c then rk rs (t ||| 2 ^ c) (k + 1) else 0)
        + sum5 (fun c => sum5 fun d => if a.testBit c && !t.testBit c && (b.testBit d && !t.testBit d) && decide (c ≠ d) then rk rs (t ||| 2 ^ c ||| 2 ^ d) k else 0) := fun a b => by
      rw [rk, rk, Nat.add_assoc (_ + _), ← sum5_add]
      refine congrArg _ (sum5_congr fun c _ => ?_)
      by_cases h : (a.testBit c && !t.testBit c) = true
      · rw [if_pos h, if_pos h, rk]
        congr 1
        refine sum5_congr fun d _ => ?_
        rw [h, taken_bit]
        by_cases hcd : c = d <;> simp [hcd]
      · rw [if_neg h, if_neg h]
        rw [Bool.not_eq_true] at h
        rw [h]
        rfl
    rw [e a b, e b a, sum5_swap]
    have : ∀ d c : Nat, (if a.testBit c && !t.testBit c && (b.testBit d && !t.testBit d) && decide (c ≠ d) then rk rs (t ||| 2 ^ c ||| 2 ^ d) k else 0) = (if b.testBit d && !t.testBit d && (a.testBit c && !t.testBit c) && decide (d ≠ c) then rk rs (t ||| 2 ^ d ||| 2 ^ c) k else 0) := fun d c => by
      rw [or_comm', Bool.and_comm (a.testBit c && !t.testBit c)]
      simp only [ne_comm (a := c)]
    simp only [this]
    omega
theorem rk_cons {xs ys : List Nat} (h : ∀ t k, rk xs t k = rk ys t k) (a t k : Nat) : rk (a :: xs) t k = rk (a :: ys) t k := by
  cases k with
  | zero => simp only [rk_zero]
  | succ k => rw [rk, rk, h]; congr 1; exact sum5_congr fun c _ => by rw [h]
/-- Rows come in any order. -/
theorem rk_perm {xs ys : List Nat} (h : xs.Perm ys) : ∀ t k, rk xs t k = rk ys t k := by
  induction h with
  | nil => intro t k; rfl
  | cons x _ ih => exact rk_cons ih x
  | swap x y l => exact fun t k => rk_swap y x l t k
  | trans _ _ i1 i2 => exact fun t k => (i1 t k).trans (i2 t k)
theorem rk_reverse (xs : List Nat) (t k : Nat) : rk xs.reverse t k = rk xs t k := rk_perm (List.reverse_perm xs) t k
/-- More seats have no fewer rooks. -/
theorem rk_mono : ∀ (xs ys : List Nat) (_ : xs.length = ys.length) (_ : ∀ i c : Nat, (xs[i]?.getD 0).testBit c = true → (ys[i]?.getD 0).testBit c = true) (t k : Nat), rk xs t k ≤ rk ys t k
  | [], [], _, _, _, _ => Nat.le_refl _
  | [], _ :: _, h, _, _, _ => by simp at h
  | _ :: _, [], h, _, _, _ => by simp at h
  | x :: xs, y :: ys, h, hb, t, 0 => by simp only [rk_zero]; exact Nat.le_refl _
  | x :: xs, y :: ys, h, hb, t, k + 1 => by
    have ih := fun t k => rk_mono xs ys (by simpa using h) (fun i c => by simpa using hb (i + 1) c) t k
    rw [rk, rk]
    refine Nat.add_le_add (ih _ _) (sum5_le fun c _ => ?_)
    have h0 := hb 0 c
    simp only [List.getElem?_cons_zero, Option.getD_some] at h0
    by_cases hx : x.testBit c = true
    · rw [hx, h0 hx]; split <;> simp [ih]
    · simp [hx]
/-- One rook: as many as cells. -/
def cellsOf (r : Nat) : Nat := sum5 fun c => if r.testBit c then 1 else 0
theorem rk_one : ∀ (rs : List Nat), rk rs 0 1 = (rs.map cellsOf).sum
  | [] => rfl
  | r :: rs => by
    rw [rk, rk_one rs, List.map_cons, List.sum_cons, Nat.add_comm]
    congr 1
    exact sum5_congr fun c _ => by simp [rk_zero]
/-- A row without a cell, and the rows without its lines: the first cell taken or not. -/
theorem rk_cell (r c : Nat) (rs : List Nat) (t k : Nat) (hc : c < 5) (h1 : r.testBit c = true) (r' : Nat) (hr : ∀ d, r'.testBit d = (r.testBit d && decide (d ≠ c))) (ht : t.testBit c = false) :
    rk (r :: rs) t (k + 1) = rk (r' :: rs) t (k + 1) + rk rs (t ||| 2 ^ c) k := by
  rw [rk, rk, Nat.add_assoc]
  congr 1
  have : ∀ d, d < 5 → (if r.testBit d && !t.testBit d then rk rs (t ||| 2 ^ d) k else 0) = (if r'.testBit d && !t.testBit d then rk rs (t ||| 2 ^ d) k else 0) + (if d = c then rk rs (t ||| 2 ^ c) k else 0) := fun d _ => by
    rw [hr]
    by_cases hd : d = c
    · subst hd; simp [h1, ht]
    · simp [hd]
  rw [sum5_congr this, sum5_add]
  congr 1
  unfold sum5
  obtain rfl | rfl | rfl | rfl | rfl : c = 0 ∨ c = 1 ∨ c = 2 ∨ c = 3 ∨ c = 4 := by omega
  all_goals simp
/-- Columns that are taken are columns that no row allows. -/
theorem rk_taken : ∀ (xs ys : List Nat) (t u k : Nat), xs.length = ys.length → (∀ i c : Nat, ((ys[i]?.getD 0).testBit c && !u.testBit c) = ((xs[i]?.getD 0).testBit c && !t.testBit c)) → rk xs t k = rk ys u k
  | [], [], _, _, _, _, _ => rfl
  | [], _ :: _, _, _, _, h, _ => by simp at h
  | _ :: _, [], _, _, _, h, _ => by simp at h
  | _ :: _, _ :: _, _, _, 0, _, _ => by simp only [rk_zero]
  | x :: xs, y :: ys, t, u, k + 1, h, hb => by
    have h0 : ∀ c, (y.testBit c && !u.testBit c) = (x.testBit c && !t.testBit c) := fun c => by simpa using hb 0 c
    have ht : ∀ i c : Nat, ((ys[i]?.getD 0).testBit c && !u.testBit c) = ((xs[i]?.getD 0).testBit c && !t.testBit c) := fun i c => by simpa using hb (i + 1) c
    rw [rk, rk, rk_taken xs ys t u (k + 1) (by simpa using h) ht]
    congr 1
    refine sum5_congr fun c _ => ?_
    rw [h0 c]
    split
    · refine rk_taken xs ys _ _ k (by simpa using h) fun i d => ?_
      rw [taken_bit, taken_bit]
      have := ht i d
      by_cases hcd : c = d
      · simp [hcd]
      · simpa [hcd] using this
    · rfl

/-! ### Full sets by the others -/
/-- How many of the first n columns are free. -/
def free (n t : Nat) : Nat := sum5 fun c => if decide (c < n) && !t.testBit c then 1 else 0
def Within (n : Nat) (rs : List Nat) : Prop := ∀ r ∈ rs, ∀ c, r.testBit c = true → c < n
theorem ite_and (p q : Bool) (x : Nat) : (if p && q then x else 0) = if p then (if q then x else 0) else 0 := by cases p <;> simp
/-- A column that a set of k rooks leaves free: as many as the free columns less k. -/
theorem rk_left (n : Nat) : ∀ (rs : List Nat) (t k : Nat), Within n rs →
    sum5 (fun c => if decide (c < n) && !t.testBit c then rk rs (t ||| 2 ^ c) k else 0) + k * rk rs t k = free n t * rk rs t k
  | [], t, k, _ => by
    simp only [rk]
    by_cases hk : k = 0
    · simp only [hk, if_true]; unfold free; omega
    · simp only [hk, if_false]; rw [sum5_congr (g := fun _ => 0) (fun c _ => by simp), sum5_zero]; omega
  | r :: rs, t, 0, h => by
    simp only [rk_zero]; unfold free; omega
  | r :: rs, t, k + 1, h => by
    have hrs : Within n rs := fun r' hr' => h r' (List.mem_cons_of_mem _ hr')
    have i1 := rk_left n rs t (k + 1) hrs
    have i2 := fun d => rk_left n rs (t ||| 2 ^ d) k hrs
    -- the sum over the free columns, the row's rook apart
    have e1 : sum5 (fun c => if decide (c < n) && !t.testBit c then rk (r :: rs) (t ||| 2 ^ c) (k + 1) else 0)
        = sum5 (fun c => if decide (c < n) && !t.testBit c then rk rs (t ||| 2 ^ c) (k + 1) else 0)
        + sum5 (fun c => sum5 fun d => if (decide (c < n) && !t.testBit c) && ((r.testBit d && !t.testBit d) && decide (c ≠ d)) then rk rs (t ||| 2 ^ c ||| 2 ^ d) k else 0) := by
      rw [← sum5_add]
      refine sum5_congr fun c _ => ?_
      by_cases hc : (decide (c < n) && !t.testBit c) = true
      · rw [if_pos hc, if_pos hc, rk, hc]
        congr 1
        refine sum5_congr fun d _ => ?_
        rw [taken_bit]
        by_cases hcd : c = d <;> simp [hcd]
      · rw [if_neg hc, if_neg hc]
        rw [Bool.not_eq_true] at hc
        rw [hc]; rfl
    have e2 : ∀ d, sum5 (fun c => if (decide (c < n) && !t.testBit c) && ((r.testBit d && !t.testBit d) && decide (c ≠ d)) then rk rs (t ||| 2 ^ c ||| 2 ^ d) k else 0)
        = if r.testBit d && !t.testBit d then sum5 (fun c => if decide (c < n) && !(t ||| 2 ^ d).testBit c then rk rs (t ||| 2 ^ d ||| 2 ^ c) k else 0) else 0 := fun d => by
      by_cases hd : (r.testBit d && !t.testBit d) = true
      · rw [if_pos hd, hd]
        refine sum5_congr fun c _ => ?_
        rw [taken_bit, or_comm']
        by_cases hcd : c = d
        · subst hcd; simp
        · have : ¬ d = c := fun e => hcd e.symm
          simp [hcd, this]
      · rw [if_neg hd]
        rw [Bool.not_eq_true] at hd
        rw [hd]
        exact (sum5_congr (g := fun _ => 0) (fun c _ => by simp)).trans sum5_zero
    -- a free column taken
    have e3 : ∀ d, d < 5 → r.testBit d = true → t.testBit d = false → free n (t ||| 2 ^ d) + 1 = free n t := fun d h5 hr ht => by
      have hn : d < n := h r (List.mem_cons_self) d hr
      unfold free
      have : ∀ c, c < 5 → (if decide (c < n) && !t.testBit c then 1 else 0) = (if decide (c < n) && !(t ||| 2 ^ d).testBit c then 1 else 0) + (if c = d then 1 else 0) := fun c _ => by
        rw [taken_bit]
        by_cases hcd : c = d
        · subst hcd; simp [ht, hn]
        · have : ¬ d = c := fun e => hcd e.symm
          simp [hcd, this]
      rw [sum5_congr this, sum5_add]
      congr 1
      unfold sum5
      obtain rfl | rfl | rfl | rfl | rfl : d = 0 ∨ d = 1 ∨ d = 2 ∨ d = 3 ∨ d = 4 := by omega
      all_goals simp
    have e4 : sum5 (fun d => (if r.testBit d && !t.testBit d then sum5 (fun c => if decide (c < n) && !(t ||| 2 ^ d).testBit c then rk rs (t ||| 2 ^ d ||| 2 ^ c) k else 0) else 0) + (k + 1) * (if r.testBit d && !t.testBit d then rk rs (t ||| 2 ^ d) k else 0))
        = sum5 (fun d => free n t * (if r.testBit d && !t.testBit d then rk rs (t ||| 2 ^ d) k else 0)) := by
      refine sum5_congr fun d h5 => ?_
      by_cases hd : (r.testBit d && !t.testBit d) = true
      · rw [if_pos hd, if_pos hd]
        simp only [Bool.and_eq_true, Bool.not_eq_true'] at hd
        have a := i2 d
        have b := e3 d h5 hd.1 hd.2
        rw [← b, Nat.add_mul, Nat.add_mul, ← a]
        omega
      · rw [if_neg hd, if_neg hd]; simp
    rw [sum5_add, sum5_mul, sum5_mul] at e4
    rw [e1, sum5_swap, sum5_congr (fun d _ => e2 d), rk, Nat.mul_add, Nat.mul_add, ← e4, ← i1]
    omega

def fact : Nat → Nat
  | 0 => 1
  | n + 1 => (n + 1) * fact n
/-- The others' sum, from the rooks k on. -/
def alt (rs : List Nat) (t m : Nat) : Nat → Int
  | 0 => (rk rs t 0 * fact m : Nat)
  | k + 1 => alt rs t m k + (if (k + 1) % 2 = 0 then (1 : Int) else -1) * (rk rs t (k + 1) * fact (m - (k + 1)) : Nat)
end Go.Proofs.Ytlccohoblplddad

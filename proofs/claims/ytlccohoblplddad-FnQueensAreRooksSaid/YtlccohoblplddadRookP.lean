
/-
  Rooks, purely: bounds; rows by the columns that are taken: weights of the 32 sets of columns.
-/
import Derived.Test.YtlccohoblplddadRook
namespace Go.Proofs.Ytlccohoblplddad

theorem rk_bd : ∀ (rs : List Nat) (t k : Nat), rk rs t k ≤ 6 ^ rs.length
  | [], t, k => by rw [rk]; split <;> simp
  | _ :: rs, t, 0 => by rw [rk_zero]; exact Nat.one_le_pow _ _ (by omega)
  | r :: rs, t, k + 1 => by
    have h1 := rk_bd rs t (k + 1)
    have h2 : sum5 (fun c => if r.testBit c && !t.testBit c then rk rs (t ||| 2 ^ c) k else 0) ≤ sum5 (fun _ => 6 ^ rs.length) := sum5_le fun c _ => by
      split
      · exact rk_bd rs _ k
      · exact Nat.zero_le _
    rw [rk, List.length_cons, Nat.pow_succ]
    unfold sum5 at h2
    simp only [sum5] at *
    omega

def sum32 (f : Nat → Nat) : Nat := ((List.range 32).map f).sum
theorem sum_map_congr {f g : Nat → Nat} : ∀ l : List Nat, (∀ t ∈ l, f t = g t) → (l.map f).sum = (l.map g).sum
  | [], _ => rfl
  | a :: l, h => by simp only [List.map_cons, List.sum_cons]; rw [h a (List.mem_cons_self), sum_map_congr l (fun t ht => h t (List.mem_cons_of_mem _ ht))]
theorem sum32_congr {f g : Nat → Nat} (h : ∀ t, t < 32 → f t = g t) : sum32 f = sum32 g := sum_map_congr _ fun t ht => h t (List.mem_range.1 ht)
theorem sum_map_add (f g : Nat → Nat) : ∀ l : List Nat, (l.map (fun t => f t + g t)).sum = (l.map f).sum + (l.map g).sum
  | [] => rfl
  | a :: l => by simp only [List.map_cons, List.sum_cons]; rw [sum_map_add f g l]; omega
theorem sum32_add (f g : Nat → Nat) : sum32 (fun t => f t + g t) = sum32 f + sum32 g := sum_map_add f g _
theorem sum_map_one (x : Nat) (c : Nat) : ∀ l : List Nat, l.Nodup → (l.map (fun t => if t = x then c else 0)).sum = if x ∈ l then c else 0
  | [], _ => by simp
  | a :: l, h => by
    have hn := List.nodup_cons.1 h
    simp only [List.map_cons, List.sum_cons]
    rw [sum_map_one x c l hn.2]
    by_cases e : a = x
    · subst e; simp [hn.1]
    · have e' : ¬ x = a := fun h => e h.symm
      simp [e, e']
theorem sum32_one (x c : Nat) (hx : x < 32) : sum32 (fun t => if t = x then c else 0) = c := by
  rw [sum32, sum_map_one x c _ List.nodup_range, if_pos (List.mem_range.2 hx)]
theorem sum32_le {f : Nat → Nat} {B : Nat} (h : ∀ t, t < 32 → f t ≤ B) : sum32 f ≤ 32 * B := by
  have : ∀ l : List Nat, (∀ t ∈ l, f t ≤ B) → (l.map f).sum ≤ l.length * B := by
    intro l
    induction l with
    | nil => intro _; simp
    | cons a l ih =>
      intro hl
      have := ih (fun t ht => hl t (List.mem_cons_of_mem _ ht))
      have := hl a (List.mem_cons_self)
      simp only [List.map_cons, List.sum_cons, List.length_cons, Nat.add_mul, Nat.one_mul]
      omega
  have := this (List.range 32) (fun t ht => h t (List.mem_range.1 ht))
  rwa [List.length_range] at this
theorem sum32_single (f : Nat → Nat) (x : Nat) (hx : x < 32) : f x ≤ sum32 f := by
  have h1 : sum32 f = sum32 (fun t => (if t = x then 0 else f t) + (if t = x then f x else 0)) := sum32_congr fun t _ => by
    by_cases e : t = x
    · subst e; simp
    · simp [e]
  rw [h1, sum32_add, sum32_one x _ hx]
  omega

/-- How many columns are taken. -/
def pc (t : Nat) : Nat := sum5 fun c => if t.testBit c then 1 else 0
/-- One row later: the same sets, and those with one column more of the row's. -/
def stepW (r : Nat) (W : Nat → Nat) (u : Nat) : Nat := W u + sum5 fun c => if r.testBit c && u.testBit c then W (u ^^^ 2 ^ c) else 0
theorem pc_or : ∀ t c : Nat, t < 32 → c < 5 → t.testBit c = false → pc (t ||| 2 ^ c) = pc t + 1 := by
  intro t c ht hc
  exact (by decide +kernel : ∀ t : Fin 32, ∀ c : Fin 5, t.val.testBit c.val = false → pc (t.val ||| 2 ^ c.val) = pc t.val + 1) ⟨t, ht⟩ ⟨c, hc⟩
theorem or_lt : ∀ t c : Nat, t < 32 → c < 5 → t ||| 2 ^ c < 32 := by
  intro t c ht hc
  exact (by decide +kernel : ∀ t : Fin 32, ∀ c : Fin 5, t.val ||| 2 ^ c.val < 32) ⟨t, ht⟩ ⟨c, hc⟩
/-- The sets with a column are those without it, the column taken. -/
theorem sum32_shift (c : Nat) (hc : c < 5) (F : Nat → Nat → Nat) : sum32 (fun u => if u.testBit c then F (u ^^^ 2 ^ c) u else 0) = sum32 (fun t => if t.testBit c then 0 else F t (t ||| 2 ^ c)) := by
  have e : List.range 32 = [0, 1, 2, 3, 4, 5, 6, 7, 8, 9, 10, 11, 12, 13, 14, 15, 16, 17, 18, 19, 20, 21, 22, 23, 24, 25, 26, 27, 28, 29, 30, 31] := by decide
  unfold sum32
  rw [e]
  obtain rfl | rfl | rfl | rfl | rfl : c = 0 ∨ c = 1 ∨ c = 2 ∨ c = 3 ∨ c = 4 := by omega
  all_goals
    simp only [List.map_cons, List.map_nil, List.sum_cons, List.sum_nil]
    simp (decide := true) only [Nat.reducePow, Nat.reduceXor, Nat.reduceOr, if_true, if_false]
    simp
    try omega
theorem sum32_sum5 (F : Nat → Nat → Nat) : sum32 (fun t => sum5 (fun c => F t c)) = sum5 (fun c => sum32 (fun t => F t c)) := by
  simp only [sum5, sum32_add]

/-- Sets of k rooks, the first rows' columns being weighed. -/
def Wsum (W : Nat → Nat) (rs : List Nat) (k : Nat) : Nat := sum32 fun t => if pc t ≤ k then W t * rk rs t (k - pc t) else 0
theorem rk_row (r : Nat) (rs : List Nat) (t j : Nat) : rk (r :: rs) t j = rk rs t j + sum5 (fun c => if r.testBit c && !t.testBit c && decide (1 ≤ j) then rk rs (t ||| 2 ^ c) (j - 1) else 0) := by
  cases j with
  | zero =>
    rw [rk, sum5_congr (g := fun _ => 0) (fun c _ => by simp), sum5_zero, Nat.add_zero]
  | succ j =>
    rw [rk]
    congr 1
    exact sum5_congr fun c _ => by simp
theorem Wsum_step (r : Nat) (rs : List Nat) (W : Nat → Nat) (k : Nat) : Wsum (stepW r W) rs k = Wsum W (r :: rs) k := by
  have h1 : Wsum (stepW r W) rs k = sum32 (fun u => if pc u ≤ k then W u * rk rs u (k - pc u) else 0) + sum5 (fun c => sum32 (fun u => if u.testBit c then (if r.testBit c then (if pc u ≤ k then W (u ^^^ 2 ^ c) * rk rs u (k - pc u) else 0) else 0) else 0)) := by
    rw [← sum32_sum5, ← sum32_add]
    refine sum32_congr fun u _ => ?_
    by_cases hk : pc u ≤ k
    · simp only [hk, if_true, stepW, Nat.add_mul]
      congr 1
      rw [Nat.mul_comm, ← sum5_mul]
      refine sum5_congr fun c _ => ?_
      cases u.testBit c <;> cases r.testBit c <;> simp [Nat.mul_comm]
    · simp only [hk, if_false]
      rw [sum5_congr (g := fun _ => 0) (fun c _ => by simp), sum5_zero]
  rw [h1, sum5_congr (fun c hc => sum32_shift c hc (fun t u => if r.testBit c then (if pc u ≤ k then W t * rk rs u (k - pc u) else 0) else 0)), ← sum32_sum5, ← sum32_add]
  unfold Wsum
  refine sum32_congr fun t ht => ?_
  by_cases hk : pc t ≤ k
  · simp only [hk, if_true]
    rw [rk_row, Nat.mul_add, ← sum5_mul]
    refine congrArg (_ + ·) (sum5_congr fun c hc => ?_)
    cases htc : t.testBit c with
    | true => simp
    | false =>
      rw [pc_or t c ht hc htc]
      cases r.testBit c with
      | false => simp
      | true =>
        by_cases h : pc t + 1 ≤ k
        · have h1 : 1 ≤ k - pc t := by omega
          simp [h, h1, show k - (pc t + 1) = k - pc t - 1 by omega]
        · have h1 : ¬ 1 ≤ k - pc t := by omega
          simp [h, h1]
  · simp only [hk, if_false]
    rw [sum5_congr (g := fun _ => 0) (fun c hc => by
      cases htc : t.testBit c with
      | true => simp
      | false =>
        rw [pc_or t c ht hc htc, if_neg (show ¬ pc t + 1 ≤ k by omega)]
        simp), sum5_zero]
def W0 (t : Nat) : Nat := if t = 0 then 1 else 0
theorem Wsum_start (rs : List Nat) (k : Nat) : Wsum W0 rs k = rk rs 0 k := by
  have : Wsum W0 rs k = sum32 (fun t => if t = 0 then rk rs 0 k else 0) := sum32_congr fun t _ => by
    by_cases h : t = 0
    · subst h
      have : pc 0 = 0 := by decide
      simp [W0, this]
    · simp [W0, h]
  rw [this, sum32_one 0 _ (by omega)]
/-- The weights behind the rows. -/
def Wrows : List Nat → (Nat → Nat) → Nat → Nat
  | [], W => W
  | r :: rs, W => Wrows rs (stepW r W)
theorem Wrows_sum : ∀ (rs : List Nat) (W : Nat → Nat) (k : Nat), Wsum (Wrows rs W) [] k = Wsum W rs k
  | [], _, _ => rfl
  | r :: rs, W, k => by rw [Wrows, Wrows_sum rs, Wsum_step]
theorem Wrows_snoc (rs : List Nat) (r : Nat) : ∀ W, Wrows (rs ++ [r]) W = stepW r (Wrows rs W) := by
  induction rs with
  | nil => intro W; rfl
  | cons a rs ih => intro W; rw [List.cons_append, Wrows, ih, Wrows]
theorem Wrows_end (rs : List Nat) (k : Nat) : sum32 (fun t => if pc t = k then Wrows rs W0 t else 0) = rk rs 0 k := by
  rw [← Wsum_start, ← Wrows_sum]
  refine sum32_congr fun t _ => ?_
  rw [rk]
  by_cases h : pc t = k
  · simp [h]
  · by_cases h2 : pc t ≤ k
    · have : ¬ k - pc t = 0 := by omega
      simp [h, h2, this]
    · simp [h, h2]
theorem stepW_bd (r : Nat) (W : Nat → Nat) (B : Nat) (h : ∀ u, u < 32 → W u ≤ B) (u : Nat) (hu : u < 32) : stepW r W u ≤ 6 * B := by
  have h2 : sum5 (fun c => if r.testBit c && u.testBit c then W (u ^^^ 2 ^ c) else 0) ≤ sum5 (fun _ => B) := sum5_le fun c hc => by
    split
    · exact h _ ((by decide +kernel : ∀ t : Fin 32, ∀ c : Fin 5, t.val ^^^ 2 ^ c.val < 32) ⟨u, hu⟩ ⟨c, hc⟩)
    · exact Nat.zero_le _
  have := h u hu
  simp only [sum5] at h2
  unfold stepW
  simp only [sum5]
  omega
/-- While a set's columns come one by one: what is added for those that have come (f: those that are still to come). -/
def addW (base : Nat → Nat) (c x r f : Nat) (u : Nat) : Nat := base u + (if u = x then c else 0) + sum5 fun d => if r.testBit d && !x.testBit d && !f.testBit d && decide (u = x ||| 2 ^ d) then c else 0
theorem addW_first (base : Nat → Nat) (c x r f : Nat) (hf : ∀ d, d < 5 → f.testBit d = (r.testBit d && !x.testBit d)) (u : Nat) : addW base c x r f u = base u + if u = x then c else 0 := by
  unfold addW
  rw [sum5_congr (g := fun _ => 0) (fun d hd => by rw [hf d hd]; cases r.testBit d <;> cases x.testBit d <;> simp), sum5_zero]
  omega
theorem addW_step (base : Nat → Nat) (c x r f e : Nat) (he : e < 5) (h1 : f.testBit e = true) (h2 : r.testBit e = true) (h3 : x.testBit e = false) (u : Nat) :
    addW base c x r (f ^^^ 2 ^ e) u = addW base c x r f u + if u = x ||| 2 ^ e then c else 0 := by
  unfold addW
  rw [Nat.add_assoc (base u + _)]
  congr 1
  have : ∀ d, d < 5 → (if r.testBit d && !x.testBit d && !(f ^^^ 2 ^ e).testBit d && decide (u = x ||| 2 ^ d) then c else 0) = (if r.testBit d && !x.testBit d && !f.testBit d && decide (u = x ||| 2 ^ d) then c else 0) + (if d = e then (if u = x ||| 2 ^ e then c else 0) else 0) := fun d _ => by
    rw [Nat.testBit_xor, Nat.testBit_two_pow]
    by_cases hd : d = e
    · subst hd; simp [h1, h2, h3]
    · have : ¬ e = d := fun h => hd h.symm
      simp [hd, this]
  rw [sum5_congr this, sum5_add]
  congr 1
  unfold sum5
  obtain rfl | rfl | rfl | rfl | rfl : e = 0 ∨ e = 1 ∨ e = 2 ∨ e = 3 ∨ e = 4 := by omega
  all_goals simp
theorem addW_end (W1 : Nat → Nat) (c x r : Nat) (hx : x < 32) (u : Nat) (hu : u < 32) : addW (stepW r W1) c x r 0 u = stepW r (fun t => W1 t + if t = x then c else 0) u := by
  unfold addW stepW
  dsimp only
  have : ∀ d, d < 5 → (if r.testBit d && u.testBit d then W1 (u ^^^ 2 ^ d) + (if u ^^^ 2 ^ d = x then c else 0) else 0) = (if r.testBit d && u.testBit d then W1 (u ^^^ 2 ^ d) else 0) + (if r.testBit d && !x.testBit d && !(0 : Nat).testBit d && decide (u = x ||| 2 ^ d) then c else 0) := fun d hd => by
    have e := (by decide +kernel : ∀ u x : Fin 32, ∀ d : Fin 5, (u.val.testBit d.val && decide (u.val ^^^ 2 ^ d.val = x.val)) = (!x.val.testBit d.val && decide (u.val = x.val ||| 2 ^ d.val))) ⟨u, hu⟩ ⟨x, hx⟩ ⟨d, hd⟩
    simp only at e
    rw [Nat.zero_testBit]
    cases r.testBit d with
    | false => simp
    | true =>
      cases h1 : u.testBit d with
      | true =>
        rw [h1] at e
        simp only [Bool.true_and] at e
        simp only [Bool.true_and, if_true, Bool.not_false, Bool.and_true, ← e]
        by_cases h2 : u ^^^ 2 ^ d = x <;> simp [h2]
      | false =>
        rw [h1] at e
        simp only [Bool.false_and] at e
        simp only [Bool.true_and, Bool.and_false, Bool.not_false, Bool.and_true, ← e]
        simp
  rw [sum5_congr this, sum5_add]
  ac_rfl
end Go.Proofs.Ytlccohoblplddad

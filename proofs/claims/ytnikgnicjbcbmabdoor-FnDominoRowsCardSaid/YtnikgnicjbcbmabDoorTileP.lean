
/-
  Covers by pieces of two cells, purely: any cell may be covered first; boards that are alike have as many covers. Nothing of a program.
-/
import Derived.Test.YtnikgnicjbcbmabDoorBase
namespace Go.Proofs.YtnikgnicjbcbmabDoor
set_option linter.unusedVariables false

def sumN (f : Nat → Nat) : Nat → Nat
  | 0 => 0
  | n + 1 => sumN f n + f n
theorem sumN_congr {f g : Nat → Nat} : ∀ n, (∀ i, i < n → f i = g i) → sumN f n = sumN g n
  | 0, _ => rfl
  | n + 1, h => by simp only [sumN]; rw [sumN_congr n (fun i hi => h i (by omega)), h n (by omega)]
theorem sumN_zero : ∀ n, sumN (fun _ => 0) n = 0
  | 0 => rfl
  | n + 1 => by simp only [sumN]; rw [sumN_zero n]
theorem sumN_add (f g : Nat → Nat) : ∀ n, sumN (fun i => f i + g i) n = sumN f n + sumN g n
  | 0 => rfl
  | n + 1 => by simp only [sumN]; rw [sumN_add f g n]; omega
theorem sumN_swap (f : Nat → Nat → Nat) (m : Nat) : ∀ n, sumN (fun i => sumN (f i) m) n = sumN (fun j => sumN (fun i => f i j) n) m
  | 0 => by simp only [sumN]; rw [sumN_zero]
  | n + 1 => by simp only [sumN]; rw [sumN_swap f m n, sumN_add]
theorem sumN_one {f : Nat → Nat} (x : Nat) : ∀ n, x < n → (∀ i, i < n → i ≠ x → f i = 0) → sumN f n = f x
  | n + 1, hx, h => by
    simp only [sumN]
    by_cases e : x = n
    · subst e
      rw [sumN_congr x (g := fun _ => 0) (fun i hi => h i (by omega) (by omega)), sumN_zero]
      omega
    · rw [sumN_one x n (by omega) (fun i hi => h i (by omega)), h n (by omega) (by omega)]
      rfl
/-- One term taken out. -/
theorem sumN_out (f : Nat → Nat) (x n : Nat) (hx : x < n) : sumN f n = f x + sumN (fun i => if i = x then 0 else f i) n := by
  have h : sumN f n = sumN (fun i => (if i = x then f x else 0) + (if i = x then 0 else f i)) n := sumN_congr n fun i _ => by
    by_cases e : i = x
    · subst e; simp
    · simp [e]
  rw [h, sumN_add, sumN_one x n hx (fun i _ hi => by simp [hi])]
  simp
theorem sumN_list (f : Nat → Nat) : ∀ n, sumN f n = ((List.range n).map f).sum
  | 0 => rfl
  | n + 1 => by simp only [sumN]; rw [List.range_succ, List.map_append, List.sum_append, sumN_list f n]; simp
theorem sumN_perm {f : Nat → Nat} {φ : Nat → Nat} {n : Nat} (h : ((List.range n).map φ).Perm (List.range n)) : sumN (fun i => f (φ i)) n = sumN f n := by
  rw [sumN_list, sumN_list]
  have := (h.map f).sum_nat
  rw [List.map_map] at this
  exact this

/-- Two cells covered more. -/
def cov (c : Nat → Bool) (x y : Nat) : Nat → Bool := fun i => c i || i == x || i == y
theorem cov_swap (c : Nat → Bool) (x y : Nat) : cov c x y = cov c y x := funext fun i => by simp only [cov]; cases c i <;> cases i == x <;> cases i == y <;> rfl
theorem cov_four (c : Nat → Bool) (a y x z : Nat) : cov (cov c a y) x z = cov (cov c x z) a y := funext fun i => by simp only [cov]; cases c i <;> cases i == x <;> cases i == y <;> cases i == a <;> cases i == z <;> rfl
theorem cov_true {c : Nat → Bool} {x y i : Nat} (h : c i = true) : cov c x y i = true := by simp [cov, h]
theorem cov_l (c : Nat → Bool) (x y : Nat) : cov c x y x = true := by simp [cov]
theorem cov_r (c : Nat → Bool) (x y : Nat) : cov c x y y = true := by simp [cov]
theorem cov_ne {c : Nat → Bool} {x y i : Nat} (hx : i ≠ x) (hy : i ≠ y) : cov c x y i = c i := by
  unfold cov
  rw [beq_eq_false_iff_ne.2 hx, beq_eq_false_iff_ne.2 hy, Bool.or_false, Bool.or_false]
/-- x may be covered together with y. -/
def okP (adj : Nat → Nat → Bool) (c : Nat → Bool) (x y : Nat) : Bool := adj x y && !c y && !(y == x)
/-- How many ways there are to cover the last k of n cells, the cells before being covered. -/
def ways (adj : Nat → Nat → Bool) (n : Nat) : Nat → (Nat → Bool) → Nat
  | 0, _ => 1
  | k + 1, c => if c (n - (k + 1)) then ways adj n k c else sumN (fun y => if okP adj c (n - (k + 1)) y then ways adj n k (cov c (n - (k + 1)) y) else 0) n
theorem ways_skip {adj : Nat → Nat → Bool} {n k : Nat} {c : Nat → Bool} (h : c (n - (k + 1)) = true) : ways adj n (k + 1) c = ways adj n k c := by
  simp only [ways]; rw [if_pos h]
theorem ways_free {adj : Nat → Nat → Bool} {n k : Nat} {c : Nat → Bool} (h : c (n - (k + 1)) = false) : ways adj n (k + 1) c = sumN (fun y => if okP adj c (n - (k + 1)) y then ways adj n k (cov c (n - (k + 1)) y) else 0) n := by
  simp only [ways]; rw [if_neg (by rw [h]; decide)]
theorem ways_full {adj : Nat → Nat → Bool} {n : Nat} : ∀ (k : Nat) (c : Nat → Bool), (∀ i, i < n → c i = true) → k ≤ n → ways adj n k c = 1
  | 0, _, _, _ => rfl
  | k + 1, c, h, hk => by rw [ways_skip (h _ (by omega))]; exact ways_full k c h (by omega)
/-- From any earlier cell on it is the same if those are covered. -/
theorem ways_from {adj : Nat → Nat → Bool} {n : Nat} {c : Nat → Bool} : ∀ (k j : Nat), j ≤ k → k ≤ n → (∀ i, i < n - j → c i = true) → ways adj n k c = ways adj n j c
  | 0, j, hj, _, _ => by obtain rfl : j = 0 := by omega
                         rfl
  | k + 1, j, hj, hk, h => by
    by_cases e : j = k + 1
    · subst e; rfl
    · rw [ways_skip (h _ (by omega))]
      exact ways_from k j (by omega) (by omega) h

/-- ANY CELL MAY BE COVERED FIRST. -/
theorem ways_any {adj : Nat → Nat → Bool} {n : Nat} (hs : ∀ i j, adj i j = adj j i) : ∀ (k : Nat) (c : Nat → Bool) (x : Nat), k ≤ n → (∀ i, i < n - k → c i = true) → x < n → c x = false →
    ways adj n k c = sumN (fun y => if okP adj c x y then ways adj n k (cov c x y) else 0) n
  | 0, c, x, _, h, hx, hc => by rw [h x (by omega)] at hc; cases hc
  | k + 1, c, x, hk, h, hx, hc => by
    obtain ⟨a, ha⟩ : ∃ a, n - (k + 1) = a := ⟨_, rfl⟩
    have hak : n - k = a + 1 := by omega
    cases hca : c a with
    | true =>
      rw [ways_skip (by rw [ha]; exact hca), ways_any hs k c x (by omega) (fun i hi => by
        by_cases e : i = a
        · subst e; exact hca
        · exact h i (by omega)) hx hc]
      exact sumN_congr n fun y _ => by
        split
        · rw [ways_skip (by rw [ha]; exact cov_true hca)]
        · rfl
    | false =>
      by_cases e : x = a
      · subst e
        rw [ways_free (by rw [ha]; exact hca), ha]
        exact sumN_congr n fun y _ => by
          split
          · rw [ways_skip (by rw [ha]; exact cov_l c x y)]
          · rfl
      · have hxa : a < x := by
          rcases Nat.lt_or_ge x a with h' | h'
          · rw [h x (by omega)] at hc; cases hc
          · omega
        have han : a < n := by omega
        have hcov : ∀ y i, i < n - k → cov c a y i = true := fun y i hi => by
          by_cases e' : i = a
          · subst e'; exact cov_l c i y
          · exact cov_true (h i (by omega))
        rw [ways_free (by rw [ha]; exact hca), ha]
        -- the left side, y = x taken out
        rw [sumN_out _ x n hx]
        -- the right side, z = a taken out
        rw [sumN_out (fun y => if okP adj c x y then ways adj n (k + 1) (cov c x y) else 0) a n han]
        have h1 : (if okP adj c a x then ways adj n k (cov c a x) else 0) = if okP adj c x a then ways adj n (k + 1) (cov c x a) else 0 := by
          have : okP adj c a x = okP adj c x a := by
            unfold okP
            rw [hs a x, hc, hca, show (x == a) = false by simp [e], show (a == x) = false by rw [beq_eq_false_iff_ne]; exact fun h => e h.symm]
          rw [this]
          split
          · rw [ways_skip (by rw [ha]; exact cov_r c x a), cov_swap]
          · rfl
        have h2 : sumN (fun y => if y = x then 0 else if okP adj c a y then ways adj n k (cov c a y) else 0) n =
            sumN (fun y => sumN (fun z => if z = a ∨ y = x ∨ y = z then 0 else if okP adj c a y && okP adj c x z then ways adj n k (cov (cov c a y) x z) else 0) n) n := sumN_congr n fun y hy => by
          by_cases e1 : y = x
          · rw [if_pos e1]
            rw [sumN_congr n (g := fun _ => 0) (fun z _ => by rw [if_pos (.inr (.inl e1))]), sumN_zero]
          · rw [if_neg e1]
            cases ho : okP adj c a y with
            | false =>
              rw [if_neg (by decide), sumN_congr n (g := fun _ => 0) (fun z _ => by rw [Bool.false_and]; split <;> rfl), sumN_zero]
            | true =>
              rw [if_pos rfl, ways_any hs k (cov c a y) x (by omega) (hcov y) hx (by rw [cov_ne e (fun h => e1 h.symm)]; exact hc)]
              refine sumN_congr n fun z hz => ?_
              by_cases e2 : z = a
              · rw [show ∀ X : Nat, (if z = a ∨ y = x ∨ y = z then 0 else X) = 0 from fun X => if_pos (.inl e2)]
                have ho : okP adj (cov c a y) x z = false := by
                  unfold okP
                  rw [e2, cov_l]
                  simp
                rw [ho, if_neg (by decide)]
              · by_cases e3 : y = z
                · rw [show ∀ X : Nat, (if z = a ∨ y = x ∨ y = z then 0 else X) = 0 from fun X => if_pos (.inr (.inr e3))]
                  have ho : okP adj (cov c a y) x z = false := by
                    unfold okP
                    rw [← e3, cov_r]
                    simp
                  rw [ho, if_neg (by decide)]
                · rw [show ∀ X : Nat, (if z = a ∨ y = x ∨ y = z then 0 else X) = X from fun X => if_neg (by rintro (h | h | h) <;> contradiction)]
                  have : okP adj (cov c a y) x z = okP adj c x z := by
                    unfold okP
                    rw [cov_ne e2 (fun h => e3 h.symm)]
                  rw [this, Bool.true_and]
        have h3 : sumN (fun z => if z = a then 0 else if okP adj c x z then ways adj n (k + 1) (cov c x z) else 0) n =
            sumN (fun z => sumN (fun y => if z = a ∨ y = x ∨ y = z then 0 else if okP adj c a y && okP adj c x z then ways adj n k (cov (cov c a y) x z) else 0) n) n := sumN_congr n fun z hz => by
          by_cases e1 : z = a
          · rw [if_pos e1]
            rw [sumN_congr n (g := fun _ => 0) (fun y _ => by rw [if_pos (.inl e1)]), sumN_zero]
          · rw [if_neg e1]
            cases ho : okP adj c x z with
            | false =>
              rw [if_neg (by decide), sumN_congr n (g := fun _ => 0) (fun y _ => by rw [Bool.and_false]; split <;> rfl), sumN_zero]
            | true =>
              rw [if_pos rfl, ways_free (by rw [ha, cov_ne (fun h => e h.symm) (fun h => e1 h.symm)]; exact hca), ha]
              refine sumN_congr n fun y hy => ?_
              by_cases e2 : y = x
              · rw [show ∀ X : Nat, (if z = a ∨ y = x ∨ y = z then 0 else X) = 0 from fun X => if_pos (.inr (.inl e2))]
                have : okP adj (cov c x z) a y = false := by
                  unfold okP
                  rw [e2, cov_l]
                  simp
                rw [this]; rfl
              · by_cases e3 : y = z
                · rw [show ∀ X : Nat, (if z = a ∨ y = x ∨ y = z then 0 else X) = 0 from fun X => if_pos (.inr (.inr e3))]
                  have : okP adj (cov c x z) a y = false := by
                    unfold okP
                    rw [e3, cov_r]
                    simp
                  rw [this]; rfl
                · rw [show ∀ X : Nat, (if z = a ∨ y = x ∨ y = z then 0 else X) = X from fun X => if_neg (by rintro (h | h | h) <;> contradiction)]
                  have : okP adj (cov c x z) a y = okP adj c a y := by
                    unfold okP
                    rw [cov_ne e2 e3]
                  rw [this, Bool.and_true, cov_four c a y x z]
        rw [h1, h2, h3, sumN_swap]

/-- BOARDS THAT ARE ALIKE HAVE AS MANY COVERS. -/
theorem ways_alike {adj adj' : Nat → Nat → Bool} {n : Nat} {φ : Nat → Nat} (hs' : ∀ i j, adj' i j = adj' j i) (hp : ((List.range n).map φ).Perm (List.range n)) (hφ : ∀ i, i < n → φ i < n)
    (hi : ∀ i j, i < n → j < n → (φ i == φ j) = (i == j)) (ha : ∀ i j, i < n → j < n → adj' (φ i) (φ j) = adj i j) : ∀ (k : Nat) (c c' : Nat → Bool), k ≤ n → (∀ i, i < n - k → c i = true) → (∀ i, i < n → c' (φ i) = c i) →
    ways adj n k c = ways adj' n n c'
  | 0, c, c', _, h, hc => by
    symm
    refine ways_full n c' (fun i hin => ?_) (Nat.le_refl _)
    have hm : i ∈ (List.range n).map φ := hp.mem_iff.2 (List.mem_range.2 hin)
    obtain ⟨j, hj, rfl⟩ := List.mem_map.1 hm
    have hj := List.mem_range.1 hj
    rw [hc j hj]
    exact h j (by omega)
  | k + 1, c, c', hk, h, hc => by
    obtain ⟨a, haa⟩ : ∃ a, n - (k + 1) = a := ⟨_, rfl⟩
    have hak : n - k = a + 1 := by omega
    cases hca : c a with
    | true =>
      rw [ways_skip (by rw [haa]; exact hca)]
      exact ways_alike hs' hp hφ hi ha k c c' (by omega) (fun i hin => by
        by_cases e : i = a
        · subst e; exact hca
        · exact h i (by omega)) hc
    | false =>
      have han : a < n := by omega
      rw [ways_free (by rw [haa]; exact hca), haa, ways_any hs' n c' (φ a) (Nat.le_refl _) (fun i hi => absurd hi (by omega)) (hφ a han) (by rw [hc a han]; exact hca)]
      refine Eq.trans ?_ (sumN_perm (f := fun z => if okP adj' c' (φ a) z then ways adj' n n (cov c' (φ a) z) else 0) hp)
      refine sumN_congr n fun y hy => ?_
      have : okP adj' c' (φ a) (φ y) = okP adj c a y := by
        unfold okP
        rw [ha a y han hy, hc y hy, hi y a hy han]
      rw [this]
      split
      · refine ways_alike hs' hp hφ hi ha k _ _ (by omega) (fun i hin => ?_) (fun i hin => ?_)
        · by_cases e : i = a
          · subst e; exact cov_l c i y
          · exact cov_true (h i (by omega))
        · simp only [cov]
          rw [hc i hin, hi i a hin han, hi i y hin hy]
      · rfl
end Go.Proofs.YtnikgnicjbcbmabDoor

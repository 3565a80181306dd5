
/-
  Covers of boards, purely: colours; covers cell by cell; boards that are turned.
-/
import Derived.Test.YtnikgnicjbcbmabDoorTileP
namespace Go.Proofs.YtnikgnicjbcbmabDoor
set_option linter.unusedVariables false

/-- How many cells below n of a colour are not covered. -/
def freeN (col c : Nat → Bool) (n : Nat) : Nat := sumN (fun i => if col i && !c i then 1 else 0) n
theorem free_cov {col c : Nat → Bool} {n x y : Nat} (hx : x < n) (hy : y < n) (hne : x ≠ y) (fx : c x = false) (fy : c y = false) : freeN col c n = freeN col (cov c x y) n + ((if col x then 1 else 0) + if col y then 1 else 0) := by
  unfold freeN
  have h : sumN (fun i => if col i && !c i then 1 else 0) n = sumN (fun i => (if col i && !(cov c x y) i then 1 else 0) + ((if i = x then (if col x then 1 else 0) else 0) + if i = y then (if col y then 1 else 0) else 0)) n := sumN_congr n fun i _ => by
    by_cases e1 : i = x
    · subst e1
      rw [cov_l, fx, if_pos rfl, if_neg hne]
      simp
    · by_cases e2 : i = y
      · subst e2
        rw [cov_r, fy, if_neg e1, if_pos rfl]
        simp
      · rw [cov_ne e1 e2, if_neg e1, if_neg e2]
        rfl
  rw [h, sumN_add, sumN_add, sumN_one (f := fun i => if i = x then (if col x then 1 else 0) else 0) x n hx (fun i _ hi => if_neg hi), sumN_one (f := fun i => if i = y then (if col y then 1 else 0) else 0) y n hy (fun i _ hi => if_neg hi)]
  simp
/-- Each piece covers one cell of either colour. -/
theorem ways_colours {adj : Nat → Nat → Bool} {col : Nat → Bool} {n : Nat} (hc : ∀ i j, i < n → j < n → adj i j = true → col j = !col i) : ∀ (k : Nat) (c : Nat → Bool), k ≤ n → (∀ i, i < n - k → c i = true) → freeN col c n ≠ freeN (fun i => !col i) c n → ways adj n k c = 0
  | 0, c, _, h, hne => by
    refine absurd ?_ hne
    unfold freeN
    exact sumN_congr n fun i hi => by rw [h i (by omega)]; simp
  | k + 1, c, hk, h, hne => by
    obtain ⟨a, haa⟩ : ∃ a, n - (k + 1) = a := ⟨_, rfl⟩
    have hak : n - k = a + 1 := by omega
    cases hca : c a with
    | true =>
      rw [ways_skip (by rw [haa]; exact hca)]
      exact ways_colours hc k c (by omega) (fun i hin => by
        by_cases e : i = a
        · subst e; exact hca
        · exact h i (by omega)) hne
    | false =>
      rw [ways_free (by rw [haa]; exact hca), haa, sumN_congr n (g := fun _ => 0) (fun y hy => ?_), sumN_zero]
      cases ho : okP adj c a y with
      | false => rfl
      | true =>
        rw [if_pos rfl]
        unfold okP at ho
        simp only [Bool.and_eq_true, Bool.not_eq_true', beq_eq_false_iff_ne] at ho
        obtain ⟨⟨o1, o2⟩, o3⟩ := ho
        refine ways_colours hc k _ (by omega) (fun i hin => ?_) (fun e => hne ?_)
        · by_cases e : i = a
          · subst e; exact cov_l c i y
          · exact cov_true (h i (by omega))
        · rw [free_cov (col := col) (by omega) hy (fun e => o3 e.symm) hca o2, free_cov (col := fun i => !col i) (by omega) hy (fun e => o3 e.symm) hca o2, e, hc a y (by omega) hy o1]
          cases col a <;> simp
/-- With two neighbours covered there are no more ways. -/
theorem ways_less {adj : Nat → Nat → Bool} {n : Nat} (hs : ∀ i j, adj i j = adj j i) {k : Nat} {c : Nat → Bool} {x y : Nat} (hk : k ≤ n) (h : ∀ i, i < n - k → c i = true) (hx : x < n) (hy : y < n) (hc : c x = false) (ho : okP adj c x y = true) : ways adj n k (cov c x y) ≤ ways adj n k c := by
  rw [ways_any hs k c x hk h hx hc, sumN_out _ y n hy, if_pos ho]
  omega

/-- Cells that are beside each other. -/
def adjG (w i j : Nat) : Bool := (i / w == j / w && (j == i + 1 || i == j + 1)) || (i % w == j % w && (j == i + w || i == j + w))
theorem adjG_sym (w i j : Nat) : adjG w i j = adjG w j i := by
  unfold adjG
  rw [Bool.or_comm (j == i + 1), Bool.or_comm (j == i + w), show (i / w == j / w) = (j / w == i / w) from BEq.comm, show (i % w == j % w) = (j % w == i % w) from BEq.comm]
/-- Cell by cell. -/
def tileT (w n : Nat) : Nat → (Nat → Bool) → Nat
  | 0, _ => 1
  | k + 1, c =>
    let a := n - (k + 1)
    if c a then tileT w n k c else
      (if a % w + 1 < w && !c (a + 1) then tileT w n k (cov c a (a + 1)) else 0) + (if decide (a + w < n) && !c (a + w) then tileT w n k (cov c a (a + w)) else 0)
theorem next_row {a w : Nat} (hw : 1 ≤ w) : (a / w = (a + 1) / w) ↔ a % w + 1 < w := by
  have h1 := Nat.div_add_mod a w
  have h2 := Nat.mod_lt a (show w > 0 by omega)
  have h3 := Nat.div_add_mod (a + 1) w
  have h4 := Nat.mod_lt (a + 1) (show w > 0 by omega)
  constructor
  · intro e
    rw [← e] at h3
    omega
  · intro h
    exact ((Nat.div_eq_of_lt_le (by rw [Nat.mul_comm]; omega) (by rw [Nat.add_mul, Nat.mul_comm]; omega)) : (a + 1) / w = a / w).symm
theorem tile_ways {w h n : Nat} (hn : n = w * h) (hw : 1 ≤ w) : ∀ (k : Nat) (c : Nat → Bool), k ≤ n → (∀ i, i < n - k → c i = true) → ways (adjG w) n k c = tileT w n k c
  | 0, _, _, _ => rfl
  | k + 1, c, hk, h' => by
    obtain ⟨a, haa⟩ : ∃ a, n - (k + 1) = a := ⟨_, rfl⟩
    have hak : n - k = a + 1 := by omega
    have han : a < n := by omega
    unfold tileT
    simp only [haa]
    cases hca : c a with
    | true =>
      rw [ways_skip (by rw [haa]; exact hca), if_pos rfl]
      exact tile_ways hn hw k c (by omega) (fun i hin => by
        by_cases e : i = a
        · subst e; exact hca
        · exact h' i (by omega))
    | false =>
      have hP : ∀ y i, i < n - k → cov c a y i = true := fun y i hin => by
        by_cases e : i = a
        · subst e; exact cov_l c i y
        · exact cov_true (h' i (by omega))
      have hr : a % w + 1 < w → a + 1 < n := fun hlt => by
        have h1 := Nat.div_add_mod a w
        have h2 : a / w < h := Nat.div_lt_of_lt_mul (by rw [← hn]; exact han)
        have h3 : w * (a / w + 1) ≤ w * h := Nat.mul_le_mul_left w h2
        rw [Nat.mul_add, Nat.mul_one] at h3
        omega
      rw [ways_free (by rw [haa]; exact hca), haa, if_neg (by decide)]
      have hsum : sumN (fun y => if okP (adjG w) c a y then ways (adjG w) n k (cov c a y) else 0) n =
          sumN (fun y => (if y = a + 1 then (if a % w + 1 < w && !c (a + 1) then tileT w n k (cov c a (a + 1)) else 0) else 0) + (if y = a + w then (if decide (a + w < n) && !c (a + w) then tileT w n k (cov c a (a + w)) else 0) else 0)) n := sumN_congr n fun y hy => by
        rw [tile_ways hn hw k _ (by omega) (hP y)]
        by_cases hya : y ≤ a
        · have ho : okP (adjG w) c a y = false := by
            unfold okP
            by_cases e : y = a
            · simp [e]
            · rw [h' y (by omega)]; simp
          rw [ho, if_neg (by decide), if_neg (show ¬ y = a + 1 by omega), if_neg (show ¬ y = a + w by omega)]
        · have ho : okP (adjG w) c a y = (((decide (a % w + 1 < w) && (y == a + 1)) || (y == a + w)) && !c y) := by
            unfold okP adjG
            rw [show (y == a) = false by simp; omega, show (a == y + 1) = false by simp; omega, show (a == y + w) = false by simp; omega]
            simp only [Bool.or_false, Bool.not_false, Bool.and_true]
            congr 2
            · by_cases e : y = a + 1
              · subst e
                rw [show (a / w == (a + 1) / w) = decide (a % w + 1 < w) from by
                  rw [Bool.eq_iff_iff]; simp [next_row hw]]
              · rw [show (y == a + 1) = false by simp [e]]; simp
            · by_cases e : y = a + w
              · subst e; simp
              · rw [show (y == a + w) = false by simp [e]]; simp
          rw [ho]
          by_cases e1 : y = a + 1
          · subst e1
            rw [if_pos rfl]
            by_cases e2 : a % w + 1 < w
            · have hw2 : ¬ a + 1 = a + w := fun e => by
                have := Nat.mod_lt a (show w > 0 by omega)
                omega
              rw [if_neg hw2]
              simp [e2]
            · by_cases e3 : a + 1 = a + w
              · rw [if_pos e3, ← e3]
                simp [e2, hy]
              · rw [if_neg e3, show (a + 1 == a + w) = false from beq_eq_false_iff_ne.2 e3]
                simp [e2]
          · rw [if_neg e1]
            by_cases e3 : y = a + w
            · subst e3
              rw [if_pos rfl]
              simp [hy]
            · rw [if_neg e3]
              simp [e1, e3]
      rw [hsum, sumN_add]
      congr 1
      · by_cases e2 : a % w + 1 < w
        · rw [sumN_one (a + 1) n (hr e2) (fun i _ hi => if_neg hi), if_pos rfl]
        · rw [sumN_congr n (g := fun _ => 0) (fun y _ => by split <;> simp [e2]), sumN_zero]
          simp [e2]
      · by_cases e2 : a + w < n
        · rw [sumN_one (a + w) n e2 (fun i _ hi => if_neg hi), if_pos rfl]
        · rw [sumN_congr n (g := fun _ => 0) (fun y hy => by rw [if_neg (by omega)]), sumN_zero]
          simp [e2]

/-- The cell of a turned board. -/
def turnC (w h i : Nat) : Nat := i % w * h + i / w
def turnOk (w h : Nat) : Bool := ((List.range (w * h)).map (turnC w h)).isPerm (List.range (w * h)) && (List.range (w * h)).all fun i => decide (turnC w h i < w * h) && (List.range (w * h)).all fun j => (turnC w h i == turnC w h j) == (i == j) && adjG h (turnC w h i) (turnC w h j) == adjG w i j
theorem turn_ok : ∀ a : Fin 5, ∀ b : Fin 5, turnOk (a.val + 1) (b.val + 1) = true := by decide +kernel
theorem ways_turn {w h : Nat} (hw : 1 ≤ w ∧ w ≤ 5) (hh : 1 ≤ h ∧ h ≤ 5) {c c' : Nat → Bool} (hc : ∀ i, i < w * h → c' (turnC w h i) = c i) : ways (adjG w) (w * h) (w * h) c = ways (adjG h) (w * h) (w * h) c' := by
  have ht := turn_ok ⟨w - 1, by omega⟩ ⟨h - 1, by omega⟩
  simp only [show w - 1 + 1 = w by omega, show h - 1 + 1 = h by omega] at ht
  unfold turnOk at ht
  simp only [Bool.and_eq_true, List.all_eq_true, List.mem_range, decide_eq_true_eq, beq_iff_eq] at ht
  obtain ⟨t1, t2⟩ := ht
  exact ways_alike (fun i j => adjG_sym h i j) (List.isPerm_iff.1 t1) (fun i hi => (t2 i hi).1) (fun i j hi hj => ((t2 i hi).2 j hj).1) (fun i j hi hj => ((t2 i hi).2 j hj).2) _ _ _ (Nat.le_refl _) (fun i hi => absurd hi (by omega)) hc
end Go.Proofs.YtnikgnicjbcbmabDoor

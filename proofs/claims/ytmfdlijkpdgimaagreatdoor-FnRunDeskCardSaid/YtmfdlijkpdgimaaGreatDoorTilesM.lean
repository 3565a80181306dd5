/-
  TileP, TileQ, TileR, TileF, TileD, TileK, TileM, TileN, TileO in one text.
-/
import Derived.Test.YtmfdlijkpdgimaaGreatDoorBase
import Derived.Test.YtmfdlijkpdgimaaGreatDoorBitM
import Derived.Test.YtmfdlijkpdgimaaGreatDoorSpecM
import Derived.WalkMore
/-
  Covers by pieces of two cells, purely: any cell may be covered first; boards that are alike have as many covers. Nothing of a program.
-/
namespace Go.Proofs.YtmfdlijkpdgimaaGreatDoor
set_option linter.unusedVariables false

def sumN (f : Nat → Nat) : Nat → Nat
  | 0 => 0
  | n + 1 => sumN f n + f n
theorem sumN_congr {f g : Nat → Nat} : ∀ n, (∀ i, i < n → f i = g i) → sumN f n = sumN g n
  | 0, _ => rfl
  | n + 1, h => by simp only [sumN]; rw [sumN_congr n (fun i hi => h i (by omega)), h n (by omega)]
theorem sumN_zero : ∀ n, sumN (fun _ => 0) n = 0
  | 0 => rfl
  | n + 1 => by simp only [sumN]; rw [sumN_zero n]
theorem sumN_add (f g : Nat → Nat) : ∀ n, sumN (fun i => f i + g i) n = sumN f n + sumN g n
  | 0 => rfl
  | n + 1 => by simp only [sumN]; rw [sumN_add f g n]; omega
theorem sumN_swap (f : Nat → Nat → Nat) (m : Nat) : ∀ n, sumN (fun i => sumN (f i) m) n = sumN (fun j => sumN (fun i => f i j) n) m
  | 0 => by simp only [sumN]; rw [sumN_zero]
  | n + 1 => by simp only [sumN]; rw [sumN_swap f m n, sumN_add]
theorem sumN_one {f : Nat → Nat} (x : Nat) : ∀ n, x < n → (∀ i, i < n → i ≠ x → f i = 0) → sumN f n = f x
  | n + 1, hx, h => by
    simp only [sumN]
    by_cases e : x = n
    · subst e
      rw [sumN_congr x (g := fun _ => 0) (fun i hi => h i (by omega) (by omega)), sumN_zero]
      omega
    · rw [sumN_one x n (by omega) (fun i hi => h i (by omega)), h n (by omega) (by omega)]
      rfl
/-- One term taken out. -/
theorem sumN_out (f : Nat → Nat) (x n : Nat) (hx : x < n) : sumN f n = f x + sumN (fun i => if i = x then 0 else f i) n := by
  have h : sumN f n = sumN (fun i => (if i = x then f x else 0) + (if i = x then 0 else f i)) n := sumN_congr n fun i _ => by
    by_cases e : i = x
    · subst e; simp
    · simp [e]
  rw [h, sumN_add, sumN_one x n hx (fun i _ hi => by simp [hi])]
  simp
theorem sumN_list (f : Nat → Nat) : ∀ n, sumN f n = ((List.range n).map f).sum
  | 0 => rfl
  | n + 1 => by simp only [sumN]; rw [List.range_succ, List.map_append, List.sum_append, sumN_list f n]; simp
theorem sumN_perm {f : Nat → Nat} {φ : Nat → Nat} {n : Nat} (h : ((List.range n).map φ).Perm (List.range n)) : sumN (fun i => f (φ i)) n = sumN f n := by
  rw [sumN_list, sumN_list]
  have := (h.map f).sum_nat
  rw [List.map_map] at this
  exact this

/-- Two cells covered more. -/
def cov (c : Nat → Bool) (x y : Nat) : Nat → Bool := fun i => c i || i == x || i == y
theorem cov_swap (c : Nat → Bool) (x y : Nat) : cov c x y = cov c y x := funext fun i => by simp only [cov]; cases c i <;> cases i == x <;> cases i == y <;> rfl
theorem cov_four (c : Nat → Bool) (a y x z : Nat) : cov (cov c a y) x z = cov (cov c x z) a y := funext fun i => by simp only [cov]; cases c i <;> cases i == x <;> cases i == y <;> cases i == a <;> cases i == z <;> rfl
theorem cov_true {c : Nat → Bool} {x y i : Nat} (h : c i = true) : cov c x y i = true := by simp [cov, h]
theorem cov_l (c : Nat → Bool) (x y : Nat) : cov c x y x = true := by simp [cov]
theorem cov_r (c : Nat → Bool) (x y : Nat) : cov c x y y = true := by simp [cov]
theorem cov_ne {c : Nat → Bool} {x y i : Nat} (hx : i ≠ x) (hy : i ≠ y) : cov c x y i = c i := by
  unfold cov
  rw [beq_eq_false_iff_ne.2 hx, beq_eq_false_iff_ne.2 hy, Bool.or_false, Bool.or_false]
/-- x may be covered together with y. -/
def okP (adj : Nat → Nat → Bool) (c : Nat → Bool) (x y : Nat) : Bool := adj x y && !c y && !(y == x)
/-- How many ways there are to cover the last k of n cells, the cells before being covered. -/
def ways (adj : Nat → Nat → Bool) (n : Nat) : Nat → (Nat → Bool) → Nat
  | 0, _ => 1
  | k + 1, c => if c (n - (k + 1)) then ways adj n k c else sumN (fun y => if okP adj c (n - (k + 1)) y then ways adj n k (cov c (n - (k + 1)) y) else 0) n
theorem ways_skip {adj : Nat → Nat → Bool} {n k : Nat} {c : Nat → Bool} (h : c (n - (k + 1)) = true) : ways adj n (k + 1) c = ways adj n k c := by
  simp only [ways]; rw [if_pos h]
theorem ways_free {adj : Nat → Nat → Bool} {n k : Nat} {c : Nat → Bool} (h : c (n - (k + 1)) = false) : ways adj n (k + 1) c = sumN (fun y => if okP adj c (n - (k + 1)) y then ways adj n k (cov c (n - (k + 1)) y) else 0) n := by
  simp only [ways]; rw [if_neg (by rw [h]; decide)]
theorem ways_full {adj : Nat → Nat → Bool} {n : Nat} : ∀ (k : Nat) (c : Nat → Bool), (∀ i, i < n → c i = true) → k ≤ n → ways adj n k c = 1
  | 0, _, _, _ => rfl
  | k + 1, c, h, hk => by rw [ways_skip (h _ (by omega))]; exact ways_full k c h (by omega)
/-- From any earlier cell on it is the same if those are covered. -/
theorem ways_from {adj : Nat → Nat → Bool} {n : Nat} {c : Nat → Bool} : ∀ (k j : Nat), j ≤ k → k ≤ n → (∀ i, i < n - j → c i = true) → ways adj n k c = ways adj n j c
  | 0, j, hj, _, _ => by obtain rfl : j = 0 := by omega
                         rfl
  | k + 1, j, hj, hk, h => by
    by_cases e : j = k + 1
    · subst e; rfl
    · rw [ways_skip (h _ (by omega))]
      exact ways_from k j (by omega) (by omega) h

/-- ANY CELL MAY BE COVERED FIRST. -/
theorem ways_any {adj : Nat → Nat → Bool} {n : Nat} (hs : ∀ i j, adj i j = adj j i) : ∀ (k : Nat) (c : Nat → Bool) (x : Nat), k ≤ n → (∀ i, i < n - k → c i = true) → x < n → c x = false →
    ways adj n k c = sumN (fun y => if okP adj c x y then ways adj n k (cov c x y) else 0) n
  | 0, c, x, _, h, hx, hc => by rw [h x (by omega)] at hc; cases hc
  | k + 1, c, x, hk, h, hx, hc => by
    obtain ⟨a, ha⟩ : ∃ a, n - (k + 1) = a := ⟨_, rfl⟩
    have hak : n - k = a + 1 := by omega
    cases hca : c a with
    | true =>
      rw [ways_skip (by rw [ha]; exact hca), ways_any hs k c x (by omega) (fun i hi => by
        by_cases e : i = a
        · subst e; exact hca
        · exact h i (by omega)) hx hc]
      exact sumN_congr n fun y _ => by
        split
        · rw [ways_skip (by rw [ha]; exact cov_true hca)]
        · rfl
    | false =>
      by_cases e : x = a
      · subst e
        rw [ways_free (by rw [ha]; exact hca), ha]
        exact sumN_congr n fun y _ => by
          split
          · rw [ways_skip (by rw [ha]; exact cov_l c x y)]
          · rfl
      · have hxa : a < x := by
          rcases Nat.lt_or_ge x a with h' | h'
          · rw [h x (by omega)] at hc; cases hc
          · omega
        have han : a < n := by omega
        have hcov : ∀ y i, i < n - k → cov c a y i = true := fun y i hi => by
          by_cases e' : i = a
          · subst e'; exact cov_l c i y
          · exact cov_true (h i (by omega))
        rw [ways_free (by rw [ha]; exact hca), ha]
        -- the left side, y = x taken out
        rw [sumN_out _ x n hx]
        -- the right side, z = a taken out
        rw [sumN_out (fun y => if okP adj c x y then ways adj n (k + 1) (cov c x y) else 0) a n han]
        have h1 : (if okP adj c a x then ways adj n k (cov c a x) else 0) = if okP adj c x a then ways adj n (k + 1) (cov c x a) else 0 := by
          have : okP adj c a x = okP adj c x a := by
            unfold okP
            rw [hs a x, hc, hca, show (x == a) = false by simp [e], show (a == x) = false by rw [beq_eq_false_iff_ne]; exact fun h => e h.symm]
          rw [this]
          split
          · rw [ways_skip (by rw [ha]; exact cov_r c x a), cov_swap]
          · rfl
        have h2 : sumN (fun y => if y = x then 0 else if okP adj c a y then ways adj n k (cov c a y) else 0) n =
            sumN (fun y => sumN (fun z => if z = a ∨ y = x ∨ y = z then 0 else if okP adj c a y && okP adj c x z then ways adj n k (cov (cov c a y) x z) else 0) n) n := sumN_congr n fun y hy => by
          by_cases e1 : y = x
          · rw [if_pos e1]
            rw [sumN_congr n (g := fun _ => 0) (fun z _ => by rw [if_pos (.inr (.inl e1))]), sumN_zero]
          · rw [if_neg e1]
            cases ho : okP adj c a y with
            | false =>
              rw [if_neg (by decide), sumN_congr n (g := fun _ => 0) (fun z _ => by rw [Bool.false_and]; split <;> rfl), sumN_zero]
            | true =>
              rw [if_pos rfl, ways_any hs k (cov c a y) x (by omega) (hcov y) hx (by rw [cov_ne e (fun h => e1 h.symm)]; exact hc)]
              refine sumN_congr n fun z hz => ?_
              by_cases e2 : z = a
              · rw [show ∀ X : Nat, (if z = a ∨ y = x ∨ y = z then 0 else X) = 0 from fun X => if_pos (.inl e2)]
                have ho : okP adj (cov c a y) x z = false := by
                  unfold okP
                  rw [e2, cov_l]
                  simp
                rw [ho, if_neg (by decide)]
              · by_cases e3 : y = z
                · rw [show ∀ X : Nat, (if z = a ∨ y = x ∨ y = z then 0 else X) = 0 from fun X => if_pos (.inr (.inr e3))]
                  have ho : okP adj (cov c a y) x z = false := by
                    unfold okP
                    rw [← e3, cov_r]
                    simp
                  rw [ho, if_neg (by decide)]
                · rw [show ∀ X : Nat, (if z = a ∨ y = x ∨ y = z then 0 else X) = X from fun X => if_neg (by rintro (h | h | h) <;> contradiction)]
                  have : okP adj (cov c a y) x z = okP adj c x z := by
                    unfold okP
                    rw [cov_ne e2 (fun h => e3 h.symm)]
                  rw [this, Bool.true_and]
        have h3 : sumN (fun z => if z = a then 0 else if okP adj c x z then ways adj n (k + 1) (cov c x z) else 0) n =
            sumN (fun z => sumN (fun y => if z = a ∨ y = x ∨ y = z then 0 else if okP adj c a y && okP adj c x z then ways adj n k (cov (cov c a y) x z) else 0) n) n := sumN_congr n fun z hz => by
          by_cases e1 : z = a
          · rw [if_pos e1]
            rw [sumN_congr n (g := fun _ => 0) (fun y _ => by rw [if_pos (.inl e1)]), sumN_zero]
          · rw [if_neg e1]
            cases ho : okP adj c x z with
            | false =>
              rw [if_neg (by decide), sumN_congr n (g := fun _ => 0) (fun y _ => by rw [Bool.and_false]; split <;> rfl), sumN_zero]
            | true =>
              rw [if_pos rfl, ways_free (by rw [ha, cov_ne (fun h => e h.symm) (fun h => e1 h.symm)]; exact hca), ha]
              refine sumN_congr n fun y hy => ?_
              by_cases e2 : y = x
              · rw [show ∀ X : Nat, (if z = a ∨ y = x ∨ y = z then 0 else X) = 0 from fun X => if_pos (.inr (.inl e2))]
                have : okP adj (cov c x z) a y = false := by
                  unfold okP
                  rw [e2, cov_l]
                  simp
                rw [this]; rfl
              · by_cases e3 : y = z
                · rw [show ∀ X : Nat, (if z = a ∨ y = x ∨ y = z then 0 else X) = 0 from fun X => if_pos (.inr (.inr e3))]
                  have : okP adj (cov c x z) a y = false := by
                    unfold okP
                    rw [e3, cov_r]
                    simp
                  rw [this]; rfl
                · rw [show ∀ X : Nat, (if z = a ∨ y = x ∨ y = z then 0 else X) = X from fun X => if_neg (by rintro (h | h | h) <;> contradiction)]
                  have : okP adj (cov c x z) a y = okP adj c a y := by
                    unfold okP
                    rw [cov_ne e2 e3]
                  rw [this, Bool.and_true, cov_four c a y x z]
        rw [h1, h2, h3, sumN_swap]

/-- BOARDS THAT ARE ALIKE HAVE AS MANY COVERS. -/
theorem ways_alike {adj adj' : Nat → Nat → Bool} {n : Nat} {φ : Nat → Nat} (hs' : ∀ i j, adj' i j = adj' j i) (hp : ((List.range n).map φ).Perm (List.range n)) (hφ : ∀ i, i < n → φ i < n)
    (hi : ∀ i j, i < n → j < n → (φ i == φ j) = (i == j)) (ha : ∀ i j, i < n → j < n → adj' (φ i) (φ j) = adj i j) : ∀ (k : Nat) (c c' : Nat → Bool), k ≤ n → (∀ i, i < n - k → c i = true) → (∀ i, i < n → c' (φ i) = c i) →
    ways adj n k c = ways adj' n n c'
  | 0, c, c', _, h, hc => by
    symm
    refine ways_full n c' (fun i hin => ?_) (Nat.le_refl _)
    have hm : i ∈ (List.range n).map φ := hp.mem_iff.2 (List.mem_range.2 hin)
    obtain ⟨j, hj, rfl⟩ := List.mem_map.1 hm
    have hj := List.mem_range.1 hj
    rw [hc j hj]
    exact h j (by omega)
  | k + 1, c, c', hk, h, hc => by
    obtain ⟨a, haa⟩ : ∃ a, n - (k + 1) = a := ⟨_, rfl⟩
    have hak : n - k = a + 1 := by omega
    cases hca : c a with
    | true =>
      rw [ways_skip (by rw [haa]; exact hca)]
      exact ways_alike hs' hp hφ hi ha k c c' (by omega) (fun i hin => by
        by_cases e : i = a
        · subst e; exact hca
        · exact h i (by omega)) hc
    | false =>
      have han : a < n := by omega
      rw [ways_free (by rw [haa]; exact hca), haa, ways_any hs' n c' (φ a) (Nat.le_refl _) (fun i hi => absurd hi (by omega)) (hφ a han) (by rw [hc a han]; exact hca)]
      refine Eq.trans ?_ (sumN_perm (f := fun z => if okP adj' c' (φ a) z then ways adj' n n (cov c' (φ a) z) else 0) hp)
      refine sumN_congr n fun y hy => ?_
      have : okP adj' c' (φ a) (φ y) = okP adj c a y := by
        unfold okP
        rw [ha a y han hy, hc y hy, hi y a hy han]
      rw [this]
      split
      · refine ways_alike hs' hp hφ hi ha k _ _ (by omega) (fun i hin => ?_) (fun i hin => ?_)
        · by_cases e : i = a
          · subst e; exact cov_l c i y
          · exact cov_true (h i (by omega))
        · simp only [cov]
          rw [hc i hin, hi i a hin han, hi i y hin hy]
      · rfl
end Go.Proofs.YtmfdlijkpdgimaaGreatDoor

/-
  Covers of boards, purely: colours; covers cell by cell; boards that are turned.
-/
namespace Go.Proofs.YtmfdlijkpdgimaaGreatDoor
set_option linter.unusedVariables false

/-- How many cells below n of a colour are not covered. -/
def freeN (col c : Nat → Bool) (n : Nat) : Nat := sumN (fun i => if col i && !c i then 1 else 0) n
theorem free_cov {col c : Nat → Bool} {n x y : Nat} (hx : x < n) (hy : y < n) (hne : x ≠ y) (fx : c x = false) (fy : c y = false) : freeN col c n = freeN col (cov c x y) n + ((if col x then 1 else 0) + if col y then 1 else 0) := by
  unfold freeN
  have h : sumN (fun i => if col i && !c i then 1 else 0) n = sumN (fun i => (if col i && !(cov c x y) i then 1 else 0) + ((if i = x then (if col x then 1 else 0) else 0) + if i = y then (if col y then 1 else 0) else 0)) n := sumN_congr n fun i _ => by
    by_cases e1 : i = x
    · subst e1
      rw [cov_l, fx, if_pos rfl, if_neg hne]
      simp
    · by_cases e2 : i = y
      · subst e2
        rw [cov_r, fy, if_neg e1, if_pos rfl]
        simp
      · rw [cov_ne e1 e2, if_neg e1, if_neg e2]
        rfl
  rw [h, sumN_add, sumN_add, sumN_one (f := fun i => if i = x then (if col x then 1 else 0) else 0) x n hx (fun i _ hi => if_neg hi), sumN_one (f := fun i => if i = y then (if col y then 1 else 0) else 0) y n hy (fun i _ hi => if_neg hi)]
  simp
/-- Each piece covers one cell of either colour. -/
theorem ways_colours {adj : Nat → Nat → Bool} {col : Nat → Bool} {n : Nat} (hc : ∀ i j, i < n → j < n → adj i j = true → col j = !col i) : ∀ (k : Nat) (c : Nat → Bool), k ≤ n → (∀ i, i < n - k → c i = true) → freeN col c n ≠ freeN (fun i => !col i) c n → ways adj n k c = 0
  | 0, c, _, h, hne => by
    refine absurd ?_ hne
    unfold freeN
    exact sumN_congr n fun i hi => by rw [h i (by omega)]; simp
  | k + 1, c, hk, h, hne => by
    obtain ⟨a, haa⟩ : ∃ a, n - (k + 1) = a := ⟨_, rfl⟩
    have hak : n - k = a + 1 := by omega
    cases hca : c a with
    | true =>
      rw [ways_skip (by rw [haa]; exact hca)]
      exact ways_colours hc k c (by omega) (fun i hin => by
        by_cases e : i = a
        · subst e; exact hca
        · exact h i (by omega)) hne
    | false =>
      rw [ways_free (by rw [haa]; exact hca), haa, sumN_congr n (g := fun _ => 0) (fun y hy => ?_), sumN_zero]
      cases ho : okP adj c a y with
      | false => rfl
      | true =>
        rw [if_pos rfl]
        unfold okP at ho
        simp only [Bool.and_eq_true, Bool.not_eq_true', beq_eq_false_iff_ne] at ho
        obtain ⟨⟨o1, o2⟩, o3⟩ := ho
        refine ways_colours hc k _ (by omega) (fun i hin => ?_) (fun e => hne ?_)
        · by_cases e : i = a
          · subst e; exact cov_l c i y
          · exact cov_true (h i (by omega))
        · rw [free_cov (col := col) (by omega) hy (fun e => o3 e.symm) hca o2, free_cov (col := fun i => !col i) (by omega) hy (fun e => o3 e.symm) hca o2, e, hc a y (by omega) hy o1]
          cases col a <;> simp
/-- With two neighbours covered there are no more ways. -/
theorem ways_less {adj : Nat → Nat → Bool} {n : Nat} (hs : ∀ i j, adj i j = adj j i) {k : Nat} {c : Nat → Bool} {x y : Nat} (hk : k ≤ n) (h : ∀ i, i < n - k → c i = true) (hx : x < n) (hy : y < n) (hc : c x = false) (ho : okP adj c x y = true) : ways adj n k (cov c x y) ≤ ways adj n k c := by
  rw [ways_any hs k c x hk h hx hc, sumN_out _ y n hy, if_pos ho]
  omega

/-- Cells that are beside each other. -/
def adjG (w i j : Nat) : Bool := (i / w == j / w && (j == i + 1 || i == j + 1)) || (i % w == j % w && (j == i + w || i == j + w))
theorem adjG_sym (w i j : Nat) : adjG w i j = adjG w j i := by
  unfold adjG
  rw [Bool.or_comm (j == i + 1), Bool.or_comm (j == i + w), show (i / w == j / w) = (j / w == i / w) from BEq.comm, show (i % w == j % w) = (j % w == i % w) from BEq.comm]
/-- Cell by cell. -/
def tileT (w n : Nat) : Nat → (Nat → Bool) → Nat
  | 0, _ => 1
  | k + 1, c =>
    let a := n - (k + 1)
    if c a then tileT w n k c else
      (if a % w + 1 < w && !c (a + 1) then tileT w n k (cov c a (a + 1)) else 0) + (if decide (a + w < n) && !c (a + w) then tileT w n k (cov c a (a + w)) else 0)
theorem next_row {a w : Nat} (hw : 1 ≤ w) : (a / w = (a + 1) / w) ↔ a % w + 1 < w := by
  have h1 := Nat.div_add_mod a w
  have h2 := Nat.mod_lt a (show w > 0 by omega)
  have h3 := Nat.div_add_mod (a + 1) w
  have h4 := Nat.mod_lt (a + 1) (show w > 0 by omega)
  constructor
  · intro e
    rw [← e] at h3
    omega
  · intro h
    exact ((Nat.div_eq_of_lt_le (by rw [Nat.mul_comm]; omega) (by rw [Nat.add_mul, Nat.mul_comm]; omega)) : (a + 1) / w = a / w).symm
theorem tile_ways {w h n : Nat} (hn : n = w * h) (hw : 1 ≤ w) : ∀ (k : Nat) (c : Nat → Bool), k ≤ n → (∀ i, i < n - k → c i = true) → ways (adjG w) n k c = tileT w n k c
  | 0, _, _, _ => rfl
  | k + 1, c, hk, h' => by
    obtain ⟨a, haa⟩ : ∃ a, n - (k + 1) = a := ⟨_, rfl⟩
    have hak : n - k = a + 1 := by omega
    have han : a < n := by omega
    unfold tileT
    simp only [haa]
    cases hca : c a with
    | true =>
      rw [ways_skip (by rw [haa]; exact hca), if_pos rfl]
      exact tile_ways hn hw k c (by omega) (fun i hin => by
        by_cases e : i = a
        · subst e; exact hca
        · exact h' i (by omega))
    | false =>
      have hP : ∀ y i, i < n - k → cov c a y i = true := fun y i hin => by
        by_cases e : i = a
        · subst e; exact cov_l c i y
        · exact cov_true (h' i (by omega))
      have hr : a % w + 1 < w → a + 1 < n := fun hlt => by
        have h1 := Nat.div_add_mod a w
        have h2 : a / w < h := Nat.div_lt_of_lt_mul (by rw [← hn]; exact han)
        have h3 : w * (a / w + 1) ≤ w * h := Nat.mul_le_mul_left w h2
        rw [Nat.mul_add, Nat.mul_one] at h3
        omega
      rw [ways_free (by rw [haa]; exact hca), haa, if_neg (by decide)]
      have hsum : sumN (fun y => if okP (adjG w) c a y then ways (adjG w) n k (cov c a y) else 0) n =
          sumN (fun y => (if y = a + 1 then (if a % w + 1 < w && !c (a + 1) then tileT w n k (cov c a (a + 1)) else 0) else 0) + (if y = a + w then (if decide (a + w < n) && !c (a + w) then tileT w n k (cov c a (a + w)) else 0) else 0)) n := sumN_congr n fun y hy => by
        rw [tile_ways hn hw k _ (by omega) (hP y)]
        by_cases hya : y ≤ a
        · have ho : okP (adjG w) c a y = false := by
            unfold okP
            by_cases e : y = a
            · simp [e]
            · rw [h' y (by omega)]; simp
          rw [ho, if_neg (by decide), if_neg (show ¬ y = a + 1 by omega), if_neg (show ¬ y = a + w by omega)]
        · have ho : okP (adjG w) c a y = (((decide (a % w + 1 < w) && (y == a + 1)) || (y == a + w)) && !c y) := by
            unfold okP adjG
            rw [show (y == a) = false by simp; omega, show (a == y + 1) = false by simp; omega, show (a == y + w) = false by simp; omega]
            simp only [Bool.or_false, Bool.not_false, Bool.and_true]
            congr 2
            · by_cases e : y = a + 1
              · subst e
                rw [show (a / w == (a + 1) / w) = decide (a % w + 1 < w) from by
                  rw [Bool.eq_iff_iff]; simp [next_row hw]]
              · rw [show (y == a + 1) = false by simp [e]]; simp
            · by_cases e : y = a + w
              · subst e; simp
              · rw [show (y == a + w) = false by simp [e]]; simp
          rw [ho]
          by_cases e1 : y = a + 1
          · subst e1
            rw [if_pos rfl]
            by_cases e2 : a % w + 1 < w
            · have hw2 : ¬ a + 1 = a + w := fun e => by
                have := Nat.mod_lt a (show w > 0 by omega)
                omega
              rw [if_neg hw2]
              simp [e2]
            · by_cases e3 : a + 1 = a + w
              · rw [if_pos e3, ← e3]
                simp [e2, hy]
              · rw [if_neg e3, show (a + 1 == a + w) = false from beq_eq_false_iff_ne.2 e3]
                simp [e2]
          · rw [if_neg e1]
            by_cases e3 : y = a + w
            · subst e3
              rw [if_pos rfl]
              simp [hy]
            · rw [if_neg e3]
              simp [e1, e3]
      rw [hsum, sumN_add]
      congr 1
      · by_cases e2 : a % w + 1 < w
        · rw [sumN_one (a + 1) n (hr e2) (fun i _ hi => if_neg hi), if_pos rfl]
        · rw [sumN_congr n (g := fun _ => 0) (fun y _ => by split <;> simp [e2]), sumN_zero]
          simp [e2]
      · by_cases e2 : a + w < n
        · rw [sumN_one (a + w) n e2 (fun i _ hi => if_neg hi), if_pos rfl]
        · rw [sumN_congr n (g := fun _ => 0) (fun y hy => by rw [if_neg (by omega)]), sumN_zero]
          simp [e2]

/-- The cell of a turned board. -/
def turnC (w h i : Nat) : Nat := i % w * h + i / w
def turnOk (w h : Nat) : Bool := ((List.range (w * h)).map (turnC w h)).isPerm (List.range (w * h)) && (List.range (w * h)).all fun i => decide (turnC w h i < w * h) && (List.range (w * h)).all fun j => (turnC w h i == turnC w h j) == (i == j) && adjG h (turnC w h i) (turnC w h j) == adjG w i j
theorem turn_ok : ∀ a : Fin 5, ∀ b : Fin 5, turnOk (a.val + 1) (b.val + 1) = true := by decide +kernel
theorem ways_turn {w h : Nat} (hw : 1 ≤ w ∧ w ≤ 5) (hh : 1 ≤ h ∧ h ≤ 5) {c c' : Nat → Bool} (hc : ∀ i, i < w * h → c' (turnC w h i) = c i) : ways (adjG w) (w * h) (w * h) c = ways (adjG h) (w * h) (w * h) c' := by
  have ht := turn_ok ⟨w - 1, by omega⟩ ⟨h - 1, by omega⟩
  simp only [show w - 1 + 1 = w by omega, show h - 1 + 1 = h by omega] at ht
  unfold turnOk at ht
  simp only [Bool.and_eq_true, List.all_eq_true, List.mem_range, decide_eq_true_eq, beq_iff_eq] at ht
  obtain ⟨t1, t2⟩ := ht
  exact ways_alike (fun i j => adjG_sym h i j) (List.isPerm_iff.1 t1) (fun i hi => (t2 i hi).1) (fun i j hi hj => ((t2 i hi).2 j hj).1) (fun i j hi hj => ((t2 i hi).2 j hj).2) _ _ _ (Nat.le_refl _) (fun i hi => absurd hi (by omega)) hc
end Go.Proofs.YtmfdlijkpdgimaaGreatDoor

/-
  Covers of boards, purely: row by row it is the same as cell by cell.
-/
namespace Go.Proofs.YtmfdlijkpdgimaaGreatDoor
set_option linter.unusedVariables false

theorem bit_zero (i : Nat) : bitN 0 i = 0 := by simp [bitN]
theorem bit_set : ∀ c : Fin 5, ∀ d : Fin 32, d.val < 2 ^ c.val → ∀ i : Fin 5, bitN (d.val + 2 ^ c.val) i.val = if i.val = c.val then 1 else bitN d.val i.val := by decide +kernel
theorem bit_high : ∀ c : Fin 6, ∀ d : Fin 32, d.val < 2 ^ c.val → ∀ i : Fin 6, c.val ≤ i.val → bitN d.val i.val = 0 := by decide +kernel
theorem bit_none : ∀ d : Fin 32, (∀ i : Fin 5, bitN d.val i.val = 0) → d.val = 0 := by decide +kernel

/-- The ways of a row with the cells s covered from the row ahead: j columns are left, d is what is covered in the next row. -/
def spr (w : Nat) (g : Nat → Bool) (s : Nat) (next : Nat → Nat) : Nat → Nat → Nat
  | 0, d => next d
  | 1, d => if g (w - 1) then (if bitN s (w - 1) = 0 then next d else 0) else if bitN s (w - 1) = 1 then next d else next (d + 2 ^ (w - 1))
  | j + 2, d =>
    let c := w - (j + 2)
    if g c then (if bitN s c = 0 then spr w g s next (j + 1) d else 0) else if bitN s c = 1 then spr w g s next (j + 1) d else
      spr w g s next (j + 1) (d + 2 ^ c) + if !g (c + 1) && bitN s (c + 1) == 0 then spr w g s next j d else 0
theorem spr_two (w : Nat) (g : Nat → Bool) (s : Nat) (next : Nat → Nat) (j d : Nat) : spr w g s next (j + 2) d =
    if g (w - (j + 2)) then (if bitN s (w - (j + 2)) = 0 then spr w g s next (j + 1) d else 0) else if bitN s (w - (j + 2)) = 1 then spr w g s next (j + 1) d else
      spr w g s next (j + 1) (d + 2 ^ (w - (j + 2))) + if !g (w - (j + 2) + 1) && bitN s (w - (j + 2) + 1) == 0 then spr w g s next j d else 0 := rfl
def rowG (w r : Nat) (g : Nat → Bool) : Nat → Bool := fun c => g (r * w + c)
/-- The ways of the last m of h rows. -/
def rowsT (w h : Nat) (g : Nat → Bool) : Nat → Nat → Nat
  | 0, s => if s = 0 then 1 else 0
  | m + 1, s => spr w (rowG w (h - (m + 1)) g) s (rowsT w h g m) w 0

/-- What cannot be covered in the next row leaves no way. -/
theorem spr_bad {w : Nat} {g : Nat → Bool} {s : Nat} {next : Nat → Nat} {c0 : Nat} (hw : w ≤ 5) (hn : ∀ e, e < 2 ^ w → bitN e c0 = 1 → next e = 0) : ∀ (j d : Nat), j ≤ w → c0 < w - j → d < 2 ^ (w - j) → bitN d c0 = 1 → spr w g s next j d = 0
  | 0, d, _, _, hd, hb => hn d hd hb
  | 1, d, hj, hc, hd, hb => by
    have h1 : 2 ^ w = 2 * 2 ^ (w - 1) := by rw [← Nat.pow_succ']; congr 1; omega
    have e1 : next d = 0 := hn d (by omega) hb
    have e2 : next (d + 2 ^ (w - 1)) = 0 := hn _ (by omega) (by
      have := bit_set ⟨w - 1, by omega⟩ ⟨d, Nat.lt_of_lt_of_le hd (Nat.pow_le_pow_right (n := 2) (by omega) (show w - 1 ≤ 5 by omega))⟩ hd ⟨c0, by omega⟩
      simp only at this
      rw [this, if_neg (by omega)]
      exact hb)
    unfold spr
    rw [e1, e2]
    split <;> split <;> rfl
  | j + 2, d, hj, hc, hd, hb => by
    have h1 : 2 ^ (w - (j + 1)) = 2 * 2 ^ (w - (j + 2)) := by rw [← Nat.pow_succ']; congr 1; omega
    have h2 : 2 ^ (w - j) = 2 * 2 ^ (w - (j + 1)) := by rw [← Nat.pow_succ']; congr 1; omega
    have e1 := spr_bad hw hn (g := g) (s := s) (j + 1) d (by omega) (by omega) (by omega) hb
    have e2 := spr_bad hw hn (g := g) (s := s) j d (by omega) (by omega) (by omega) hb
    have e3 := spr_bad hw hn (g := g) (s := s) (j + 1) (d + 2 ^ (w - (j + 2))) (by omega) (by omega) (by omega) (by
      have := bit_set ⟨w - (j + 2), by omega⟩ ⟨d, Nat.lt_of_lt_of_le hd (Nat.pow_le_pow_right (n := 2) (by omega) (show w - (j + 2) ≤ 5 by omega))⟩ hd ⟨c0, by omega⟩
      simp only at this
      rw [this, if_neg (by omega)]
      exact hb)
    unfold spr
    simp only [e1, e2, e3]
    split <;> split <;> simp
/-- A hole that is covered from the row ahead leaves no way. -/
theorem spr_hole {w : Nat} {g : Nat → Bool} {s : Nat} {next : Nat → Nat} {c0 : Nat} (hc : c0 < w) (hg : g c0 = true) (hb : bitN s c0 = 1) : ∀ (j d : Nat), j ≤ w → w - j ≤ c0 → spr w g s next j d = 0
  | 0, d, _, h => by omega
  | 1, d, _, h => by
    obtain rfl : c0 = w - 1 := by omega
    unfold spr
    rw [if_pos hg, if_neg (by omega)]
  | j + 2, d, hj, h => by
    unfold spr
    by_cases e : c0 = w - (j + 2)
    · subst e
      simp only [hg, if_true]
      rw [if_neg (by omega)]
    · have e1 := fun d => spr_hole (s := s) (next := next) hc hg hb (j + 1) d (by omega) (by omega)
      simp only [e1]
      by_cases e2 : c0 = w - (j + 2) + 1
      · rw [← e2, hg]
        simp
      · rw [spr_hole (s := s) (next := next) hc hg hb j d (by omega) (by omega)]
        simp
theorem rows_hole {w h : Nat} {g : Nat → Bool} {m s c0 : Nat} (hc : c0 < w) (hb : bitN s c0 = 1) (hg : 0 < m → g ((h - m) * w + c0) = true) : rowsT w h g m s = 0 := by
  cases m with
  | zero =>
    unfold rowsT
    rw [if_neg]
    intro e
    subst e
    rw [bit_zero] at hb
    cases hb
  | succ m =>
    unfold rowsT
    exact spr_hole hc (hg (by omega)) hb w 0 (Nat.le_refl _) (by omega)

/-- The cells that are covered: holes, those before, those that rows ahead cover. -/
def stT (w : Nat) (g : Nat → Bool) (r c s d : Nat) : Nat → Bool := fun i => g i || decide (i < r * w + c) || (decide (i / w = r) && bitN s (i % w) == 1) || (decide (i / w = r + 1) && bitN d (i % w) == 1)
theorem cell_div {w r c : Nat} (h : c < w) : (r * w + c) / w = r ∧ (r * w + c) % w = c := by
  have hw : 0 < w := by omega
  rw [Nat.mul_comm, Nat.mul_add_div hw, Nat.div_eq_of_lt h, Nat.mul_add_mod, Nat.mod_eq_of_lt h]
  exact ⟨rfl, rfl⟩
theorem st_nextT {w : Nat} (hw : 0 < w) (g : Nat → Bool) (r s d : Nat) : stT w g r w s d = stT w g (r + 1) 0 d 0 := funext fun i => by
  unfold stT
  have e : r * w + w = (r + 1) * w + 0 := by rw [Nat.add_mul]; omega
  rw [e]
  by_cases h : i < (r + 1) * w + 0
  · rw [decide_eq_true h]
    simp only [Bool.or_true, Bool.true_or]
  · have hd : ¬ i / w = r := fun h' => h (by
      have h1 := Nat.div_add_mod i w
      have h2 := Nat.mod_lt i hw
      rw [h', Nat.mul_comm] at h1
      rw [Nat.add_mul]
      omega)
    rw [decide_eq_false h, decide_eq_false hd, bit_zero]
    simp
theorem st_skip {w : Nat} {g : Nat → Bool} {r c s d : Nat} (h : stT w g r c s d (r * w + c) = true) : stT w g r c s d = stT w g r (c + 1) s d := funext fun i => by
  by_cases e : i = r * w + c
  · rw [e, h]
    unfold stT
    rw [decide_eq_true (show r * w + c < r * w + (c + 1) by omega)]
    simp
  · unfold stT
    rw [show decide (i < r * w + (c + 1)) = decide (i < r * w + c) by
      by_cases h' : i < r * w + c
      · rw [decide_eq_true h', decide_eq_true (by omega)]
      · rw [decide_eq_false h', decide_eq_false (by omega)]]
theorem st_right {w : Nat} {g : Nat → Bool} {r c s d : Nat} : cov (stT w g r c s d) (r * w + c) (r * w + c + 1) = stT w g r (c + 2) s d := funext fun i => by
  unfold cov stT
  by_cases e1 : i = r * w + c
  · subst e1
    rw [decide_eq_true (show r * w + c < r * w + (c + 2) by omega)]
    simp
  · by_cases e2 : i = r * w + c + 1
    · subst e2
      rw [decide_eq_true (show r * w + c + 1 < r * w + (c + 2) by omega)]
      simp
    · rw [beq_eq_false_iff_ne.2 e1, beq_eq_false_iff_ne.2 e2, show decide (i < r * w + (c + 2)) = decide (i < r * w + c) by
        by_cases h' : i < r * w + c
        · rw [decide_eq_true h', decide_eq_true (by omega)]
        · rw [decide_eq_false h', decide_eq_false (by omega)]]
      simp
theorem st_down {w : Nat} {g : Nat → Bool} {r c s d : Nat} (hw : w ≤ 5) (hc : c < w) (hd : d < 2 ^ c) : cov (stT w g r c s d) (r * w + c) (r * w + c + w) = stT w g r (c + 1) s (d + 2 ^ c) := funext fun i => by
  unfold cov stT
  have hd32 : d < 32 := Nat.lt_of_lt_of_le hd (Nat.pow_le_pow_right (n := 2) (by omega) (show c ≤ 5 by omega))
  have hcell : r * w + c + w = (r + 1) * w + c := by rw [Nat.add_mul]; omega
  by_cases e1 : i = r * w + c
  · subst e1
    rw [decide_eq_true (show r * w + c < r * w + (c + 1) by omega)]
    simp
  · rw [beq_eq_false_iff_ne.2 e1, show decide (i < r * w + (c + 1)) = decide (i < r * w + c) by
      by_cases h' : i < r * w + c
      · rw [decide_eq_true h', decide_eq_true (by omega)]
      · rw [decide_eq_false h', decide_eq_false (by omega)]]
    by_cases hr : i / w = r + 1
    · have hm := Nat.mod_lt i (show 0 < w by omega)
      have hb := bit_set ⟨c, by omega⟩ ⟨d, hd32⟩ hd ⟨i % w, by omega⟩
      simp only at hb
      rw [hb]
      have hdm := Nat.div_add_mod i w
      rw [hr, Nat.mul_comm] at hdm
      by_cases e2 : i % w = c
      · have e3 : i = r * w + c + w := by rw [hcell]; omega
        rw [if_pos e2, show (i == r * w + c + w) = true from beq_iff_eq.2 e3]
        simp [hr]
      · have e3 : i ≠ r * w + c + w := by rw [hcell]; omega
        rw [if_neg e2, beq_eq_false_iff_ne.2 e3]
        simp
    · have e3 : i ≠ r * w + c + w := fun e => hr (by rw [e, hcell]; exact (cell_div hc).1)
      rw [beq_eq_false_iff_ne.2 e3, decide_eq_false hr]
      simp

theorem tile_step (w n k : Nat) (c : Nat → Bool) : tileT w n (k + 1) c = if c (n - (k + 1)) then tileT w n k c else
    (if decide ((n - (k + 1)) % w + 1 < w) && !c (n - (k + 1) + 1) then tileT w n k (cov c (n - (k + 1)) (n - (k + 1) + 1)) else 0) + (if decide (n - (k + 1) + w < n) && !c (n - (k + 1) + w) then tileT w n k (cov c (n - (k + 1)) (n - (k + 1) + w)) else 0) := rfl
theorem st_free {w : Nat} {g : Nat → Bool} {r c s d i : Nat} (h1 : r * w + c ≤ i) : stT w g r c s d i = (g i || (decide (i / w = r) && bitN s (i % w) == 1) || (decide (i / w = r + 1) && bitN d (i % w) == 1)) := by
  unfold stT
  rw [decide_eq_false (show ¬ i < r * w + c by omega), Bool.or_false]

/-- IN A ROW: cell by cell is column by column. -/
theorem tile_row {w h : Nat} {g : Nat → Bool} (hw : 1 ≤ w ∧ w ≤ 5) {r : Nat} (hr : r < h) {next : Nat → Nat}
    (hnext : ∀ d, d < 2 ^ w → (∀ i, i < w → bitN d i = 1 → r + 1 < h ∧ g ((r + 1) * w + i) = false) → tileT w (w * h) (w * h - (r + 1) * w) (stT w g (r + 1) 0 d 0) = next d)
    (hbad : ∀ d i, i < w → bitN d i = 1 → (r + 1 < h → g ((r + 1) * w + i) = true) → next d = 0) {s : Nat} (hs : ∀ i, i < w → bitN s i = 1 → g (r * w + i) = false) :
    ∀ (j d : Nat), j ≤ w → d < 2 ^ (w - j) → (∀ i, i < w → bitN d i = 1 → r + 1 < h ∧ g ((r + 1) * w + i) = false) →
      tileT w (w * h) (w * h - (r * w + (w - j))) (stT w g r (w - j) s d) = spr w (rowG w r g) s next j d := by
  have hwh : r * w + w ≤ w * h := by
    have := Nat.mul_le_mul_right w (show r + 1 ≤ h from hr)
    rw [Nat.add_mul, Nat.mul_comm h w] at this
    omega
  -- one step at a column: the tile's step, said by the states
  have step : ∀ (j d : Nat), j + 1 ≤ w → d < 2 ^ (w - (j + 1)) → (∀ i, i < w → bitN d i = 1 → r + 1 < h ∧ g ((r + 1) * w + i) = false) →
      tileT w (w * h) (w * h - (r * w + (w - (j + 1)))) (stT w g r (w - (j + 1)) s d) =
        if rowG w r g (w - (j + 1)) || bitN s (w - (j + 1)) == 1 then tileT w (w * h) (w * h - (r * w + (w - j))) (stT w g r (w - j) s d)
        else (if decide (1 ≤ j) && !(rowG w r g (w - j)) && !(bitN s (w - j) == 1) then tileT w (w * h) (w * h - (r * w + (w - j))) (stT w g r (w - j + 1) s d) else 0) +
          (if decide (r + 1 < h) && !(g ((r + 1) * w + (w - (j + 1)))) then tileT w (w * h) (w * h - (r * w + (w - j))) (stT w g r (w - j) s (d + 2 ^ (w - (j + 1)))) else 0) := fun j d hj hd hdd => by
    obtain ⟨c, hc⟩ : ∃ c, w - (j + 1) = c := ⟨_, rfl⟩
    have hcj : w - j = c + 1 := by omega
    have hcw : c < w := by omega
    rw [hc, hcj]
    obtain ⟨k, hk⟩ : ∃ k, w * h - (r * w + c) = k + 1 := ⟨w * h - (r * w + c) - 1, by omega⟩
    have hk' : w * h - (r * w + (c + 1)) = k := by omega
    have ha : w * h - (k + 1) = r * w + c := by omega
    obtain ⟨cd, cm⟩ := cell_div (r := r) hcw
    have hdc : d < 2 ^ c := by rw [← hc]; exact hd
    have hd32 : d < 32 := Nat.lt_of_lt_of_le hdc (Nat.le_trans (Nat.pow_le_pow_right (by omega) (show c ≤ 5 by omega)) (by decide))
    have hbd : bitN d c = 0 := bit_high ⟨c, by omega⟩ ⟨d, hd32⟩ hdc ⟨c, by omega⟩ (Nat.le_refl _)
    have hst : stT w g r c s d (r * w + c) = (rowG w r g c || bitN s c == 1) := by
      rw [st_free (Nat.le_refl _), cd, cm]
      simp [rowG]
    rw [hk, hk', tile_step]
    simp only [ha, hst]
    by_cases hcov : (rowG w r g c || bitN s c == 1) = true
    · rw [if_pos hcov, if_pos hcov]
      rw [hcov] at hst
      rw [← st_skip hst]
    · rw [if_neg hcov, if_neg hcov, st_right, st_down hw.2 hcw hdc, cm]
      congr 1
      · by_cases h1 : c + 1 < w
        · obtain ⟨cd1, cm1⟩ := cell_div (r := r) h1
          rw [show r * w + c + 1 = r * w + (c + 1) by omega, st_free (by omega), cd1, cm1, decide_eq_true h1, decide_eq_true (show 1 ≤ j by omega)]
          simp [rowG]
        · rw [decide_eq_false h1, decide_eq_false (show ¬ 1 ≤ j by omega)]
          simp
      · by_cases h1 : r + 1 < h
        · have h2 : r * w + c + w = (r + 1) * w + c := by rw [Nat.add_mul]; omega
          obtain ⟨cd1, cm1⟩ := cell_div (r := r + 1) hcw
          have h3 : (r + 1) * w + c < w * h := by
            have := Nat.mul_le_mul_right w (show r + 1 + 1 ≤ h from h1)
            rw [Nat.add_mul (r + 1), Nat.mul_comm h w] at this
            omega
          rw [h2, st_free (by rw [Nat.add_mul]; omega), cd1, cm1, decide_eq_true h3, decide_eq_true h1, hbd]
          simp
        · have h3 : ¬ r * w + c + w < w * h := by
            have : h = r + 1 := by omega
            subst this
            rw [Nat.mul_comm w (r + 1), Nat.add_mul]
            omega
          rw [decide_eq_false h3, decide_eq_false h1]
          simp
  have down : ∀ (j d : Nat), j + 1 ≤ w → d < 2 ^ (w - (j + 1)) → (∀ i, i < w → bitN d i = 1 → r + 1 < h ∧ g ((r + 1) * w + i) = false) →
      (tileT w (w * h) (w * h - (r * w + (w - j))) (stT w g r (w - j) s (d + 2 ^ (w - (j + 1)))) = spr w (rowG w r g) s next j (d + 2 ^ (w - (j + 1))) ∨ ¬ (r + 1 < h ∧ g ((r + 1) * w + (w - (j + 1))) = false)) →
      (if decide (r + 1 < h) && !(g ((r + 1) * w + (w - (j + 1)))) then tileT w (w * h) (w * h - (r * w + (w - j))) (stT w g r (w - j) s (d + 2 ^ (w - (j + 1)))) else 0) = spr w (rowG w r g) s next j (d + 2 ^ (w - (j + 1))) := fun j d hj hd hdd hor => by
    by_cases h1 : r + 1 < h ∧ g ((r + 1) * w + (w - (j + 1))) = false
    · rw [decide_eq_true h1.1, h1.2, if_pos (by decide)]
      rcases hor with h' | h'
      · exact h'
      · exact absurd h1 h'
    · rw [if_neg (fun h' => h1 (by simpa using h'))]
      symm
      refine spr_bad (c0 := w - (j + 1)) hw.2 (fun e he hb => hbad e (w - (j + 1)) (by omega) hb (fun h2 => ?_)) j _ (by omega) (by omega) ?_ ?_
      · cases hg : g ((r + 1) * w + (w - (j + 1))) with
        | true => rfl
        | false => exact absurd ⟨h2, hg⟩ h1
      · have h2 : 2 ^ (w - j) = 2 * 2 ^ (w - (j + 1)) := by rw [← Nat.pow_succ']; congr 1; omega
        omega
      · have := bit_set ⟨w - (j + 1), by omega⟩ ⟨d, Nat.lt_of_lt_of_le hd (Nat.le_trans (Nat.pow_le_pow_right (by omega) (show w - (j + 1) ≤ 5 by omega)) (by decide))⟩ hd ⟨w - (j + 1), by omega⟩
        simp only at this
        rw [this]
        exact if_pos trivial
  have more : ∀ (j d : Nat), j + 1 ≤ w → d < 2 ^ (w - (j + 1)) → (∀ i, i < w → bitN d i = 1 → r + 1 < h ∧ g ((r + 1) * w + i) = false) → r + 1 < h ∧ g ((r + 1) * w + (w - (j + 1))) = false → d + 2 ^ (w - (j + 1)) < 2 ^ (w - j) ∧ ∀ i, i < w → bitN (d + 2 ^ (w - (j + 1))) i = 1 → r + 1 < h ∧ g ((r + 1) * w + i) = false := fun j d hj hd hdd h1 => by
    have h2 : 2 ^ (w - j) = 2 * 2 ^ (w - (j + 1)) := by rw [← Nat.pow_succ']; congr 1; omega
    refine ⟨by omega, fun i hi hb => ?_⟩
    have := bit_set ⟨w - (j + 1), by omega⟩ ⟨d, Nat.lt_of_lt_of_le hd (Nat.le_trans (Nat.pow_le_pow_right (by omega) (show w - (j + 1) ≤ 5 by omega)) (by decide))⟩ hd ⟨i, by omega⟩
    simp only at this
    rw [this] at hb
    by_cases e : i = w - (j + 1)
    · rw [e]; exact h1
    · rw [if_neg e] at hb
      exact hdd i hi hb
  have grow : ∀ (j d : Nat), j + 1 ≤ w → d < 2 ^ (w - (j + 1)) → d < 2 ^ (w - j) := fun j d hj hd => Nat.lt_of_lt_of_le hd (Nat.pow_le_pow_right (by omega) (by omega))
  have zero : ∀ d, d < 2 ^ (w - 0) → (∀ i, i < w → bitN d i = 1 → r + 1 < h ∧ g ((r + 1) * w + i) = false) → tileT w (w * h) (w * h - (r * w + (w - 0))) (stT w g r (w - 0) s d) = spr w (rowG w r g) s next 0 d := fun d hd hdd => by
    rw [Nat.sub_zero, st_nextT (by omega), show r * w + w = (r + 1) * w by rw [Nat.add_mul]; omega]
    exact hnext d hd hdd
  have one : ∀ d, 1 ≤ w → d < 2 ^ (w - 1) → (∀ i, i < w → bitN d i = 1 → r + 1 < h ∧ g ((r + 1) * w + i) = false) → tileT w (w * h) (w * h - (r * w + (w - 1))) (stT w g r (w - 1) s d) = spr w (rowG w r g) s next 1 d := fun d h1 hd hdd => by
    rw [step 0 d h1 hd hdd]
    have hz := zero d (grow 0 d h1 hd) hdd
    have hdn := down 0 d h1 hd hdd (by
      by_cases hq : r + 1 < h ∧ g ((r + 1) * w + (w - (0 + 1))) = false
      · obtain ⟨m1, m2⟩ := more 0 d h1 hd hdd hq
        exact .inl (zero _ m1 m2)
      · exact .inr hq)
    rw [hz, hdn]
    simp only [Nat.zero_add, decide_eq_false (show ¬ (1 ≤ 0) by omega), Bool.false_and, Bool.false_eq_true, if_false]
    unfold spr
    cases hg : rowG w r g (w - 1) with
    | true =>
      have hb : bitN s (w - 1) = 0 := by
        rcases bitN_two s (w - 1) with hb | hb
        · exact hb
        · have := hs (w - 1) (by omega) hb
          unfold rowG at hg
          rw [this] at hg; cases hg
      simp [hb]
    | false =>
      rcases bitN_two s (w - 1) with hb | hb <;> simp [hb]
  intro j
  induction j using Nat.strongRecOn with
  | _ j ih =>
    intro d hj hd hdd
    match j, ih, hj, hd with
    | 0, _, _, hd => exact zero d hd hdd
    | 1, _, hj, hd => exact one d hj hd hdd
    | j + 2, ih, hj, hd =>
      rw [step (j + 1) d hj hd hdd, ih (j + 1) (by omega) d (by omega) (grow (j + 1) d hj hd) hdd, down (j + 1) d hj hd hdd (by
        by_cases hq : r + 1 < h ∧ g ((r + 1) * w + (w - (j + 1 + 1))) = false
        · obtain ⟨m1, m2⟩ := more (j + 1) d hj hd hdd hq
          exact .inl (ih (j + 1) (by omega) _ (by omega) m1 m2)
        · exact .inr hq)]
      have hc1 : w - (j + 2) + 1 = w - (j + 1) := by omega
      rw [spr_two, hc1]
      cases hg : rowG w r g (w - (j + 2)) with
      | true =>
        have hb : bitN s (w - (j + 2)) = 0 := by
          rcases bitN_two s (w - (j + 2)) with hb | hb
          · exact hb
          · have := hs (w - (j + 2)) (by omega) hb
            unfold rowG at hg
            rw [this] at hg; cases hg
        simp [hb]
      | false =>
        rcases bitN_two s (w - (j + 2)) with hb | hb
        · rw [hb]
          simp only [Bool.or_false, show ((0 : Nat) == 1) = false from rfl, Bool.false_eq_true, if_false, decide_eq_true (show 1 ≤ j + 1 by omega), Bool.true_and, show ¬ ((0 : Nat) = 1) by decide]
          rw [Nat.add_comm]
          congr 1
          cases hg1 : rowG w r g (w - (j + 1)) with
          | true => simp
          | false =>
            rcases bitN_two s (w - (j + 1)) with hb1 | hb1
            · rw [hb1]
              simp only [Bool.not_false, Bool.true_and, show ((0 : Nat) == 1) = false from rfl, show ((0 : Nat) == 0) = true from rfl, if_true]
              obtain ⟨k, hk⟩ : ∃ k, w * h - (r * w + (w - (j + 1))) = k + 1 := ⟨w * h - (r * w + (w - (j + 1))) - 1, by omega⟩
              have hk' : w * h - (r * w + (w - j)) = k := by omega
              have ha : w * h - (k + 1) = r * w + (w - (j + 1)) := by omega
              have hst : stT w g r (w - (j + 1) + 1) s d (r * w + (w - (j + 1))) = true := by
                unfold stT
                rw [decide_eq_true (show r * w + (w - (j + 1)) < r * w + (w - (j + 1) + 1) by omega)]
                simp
              rw [hk, tile_step, ha, if_pos hst, ← hk', show w - (j + 1) + 1 = w - j by omega]
              exact ih j (by omega) d (by omega) (grow j d (by omega) (grow (j + 1) d hj hd)) hdd
            · rw [hb1]; simp
        · rw [hb]; simp

theorem no_bits {w s : Nat} (hw : w ≤ 5) (hs : s < 2 ^ w) (h : ∀ i, i < w → bitN s i = 0) : s = 0 := by
  have h32 : s < 32 := Nat.lt_of_lt_of_le hs (Nat.le_trans (Nat.pow_le_pow_right (by omega) hw) (by decide))
  refine bit_none ⟨s, h32⟩ fun i => ?_
  by_cases hi : i.val < w
  · exact h i.val hi
  · exact bit_high ⟨w, by omega⟩ ⟨s, h32⟩ hs ⟨i.val, by omega⟩ (Nat.le_of_not_lt hi)
/-- FROM A ROW ON. -/
theorem rows_from {w h : Nat} {g : Nat → Bool} (hw : 1 ≤ w ∧ w ≤ 5) : ∀ (m s : Nat), m ≤ h → s < 2 ^ w → (∀ i, i < w → bitN s i = 1 → 1 ≤ m ∧ g ((h - m) * w + i) = false) →
    tileT w (w * h) (w * h - (h - m) * w) (stT w g (h - m) 0 s 0) = rowsT w h g m s
  | 0, s, _, hs, hb => by
    have h0 : s = 0 := no_bits hw.2 hs (fun i hi => by
      rcases bitN_two s i with e | e
      · exact e
      · have := (hb i hi e).1; omega)
    subst h0
    rw [Nat.sub_zero, show w * h - h * w = 0 by rw [Nat.mul_comm w h, Nat.sub_self]]
    rfl
  | m + 1, s, hm, hs, hb => by
    have hr : h - (m + 1) + 1 = h - m := by omega
    have := tile_row (w := w) (h := h) (g := g) hw (r := h - (m + 1)) (by omega) (next := rowsT w h g m) (fun d hd hdd => by
      rw [hr]
      refine rows_from hw m d (by omega) hd (fun i hi hbi => ?_)
      obtain ⟨h1, h2⟩ := hdd i hi hbi
      rw [hr] at h2
      exact ⟨by omega, h2⟩) (fun d i hi hbi hg => by
      refine rows_hole hi hbi (fun hm0 => ?_)
      have := hg (by omega)
      rwa [hr] at this) (s := s) (fun i hi hbi => (hb i hi hbi).2) w 0 (Nat.le_refl _) (Nat.pow_pos (by omega)) (fun i _ hbi => by rw [bit_zero] at hbi; cases hbi)
    rw [Nat.sub_self, Nat.add_zero] at this
    rw [this]
    rfl
/-- COVERS BY CELLS ARE COVERS BY ROWS. -/
theorem tile_rows {w h : Nat} {g : Nat → Bool} (hw : 1 ≤ w ∧ w ≤ 5) : tileT w (w * h) (w * h) g = rowsT w h g h 0 := by
  have := rows_from (h := h) (g := g) hw h 0 (Nat.le_refl _) (Nat.pow_pos (by omega)) (fun i _ hbi => by rw [bit_zero] at hbi; cases hbi)
  rw [Nat.sub_self, Nat.zero_mul, Nat.sub_zero] at this
  rw [← this]
  congr 1
  funext i
  unfold stT
  simp [bit_zero]
end Go.Proofs.YtmfdlijkpdgimaaGreatDoor

/-
  The first way to cover a board, purely.
-/
namespace Go.Proofs.YtmfdlijkpdgimaaGreatDoor
set_option linter.unusedVariables false

theorem tile_from {w n : Nat} {c : Nat → Bool} : ∀ (k j : Nat), j ≤ k → k ≤ n → (∀ i, i < n - j → c i = true) → tileT w n k c = tileT w n j c
  | 0, j, hj, _, _ => by obtain rfl : j = 0 := by omega
                         rfl
  | k + 1, j, hj, hk, h => by
    by_cases e : j = k + 1
    · subst e; rfl
    · rw [tile_step, if_pos (h _ (by omega))]
      exact tile_from k j (by omega) (by omega) h
/-- The mate of the first cell that is not covered. -/
def toG (w n : Nat) (g : Nat → Bool) (a : Nat) : Nat := if decide (a % w + 1 < w) && !g (a + 1) && decide (0 < tileT w n n (cov g a (a + 1))) then a + 1 else a + w
def firstG (w n : Nat) : Nat → (Nat → Bool) → (Nat → Int) → Nat → (Nat → Int) × Nat
  | 0, _, o, m => (o, m)
  | k + 1, g, o, m =>
    if g (n - (k + 1)) then firstG w n k g o m else
      firstG w n k (cov g (n - (k + 1)) (toG w n g (n - (k + 1)))) (fun i => if i = n - (k + 1) ∨ i = toG w n g (n - (k + 1)) then (m : Int) else o i) (m + 1)
theorem first_skip {w n k : Nat} {g : Nat → Bool} {o : Nat → Int} {m : Nat} (h : g (n - (k + 1)) = true) : firstG w n (k + 1) g o m = firstG w n k g o m := by
  show (if g (n - (k + 1)) then _ else _) = _
  rw [if_pos h]
theorem first_step {w n k a : Nat} {g : Nat → Bool} {o : Nat → Int} {m : Nat} (ha : n - (k + 1) = a) (h : g a = false) : firstG w n (k + 1) g o m = firstG w n k (cov g a (toG w n g a)) (fun i => if i = a ∨ i = toG w n g a then (m : Int) else o i) (m + 1) := by
  subst ha
  show (if g (n - (k + 1)) then _ else _) = _
  rw [if_neg (by rw [h]; decide)]
/-- There is a mate where there is a way. -/
theorem mate {w h n k a : Nat} {g : Nat → Bool} (hn : n = w * h) (hw : 1 ≤ w) (hk : k + 1 ≤ n) (ha : n - (k + 1) = a) (hg : ∀ i, i < a → g i = true) (hc : g a = false) (hp : 0 < tileT w n n g) :
    a < toG w n g a ∧ toG w n g a < n ∧ g (toG w n g a) = false ∧ adjG w a (toG w n g a) = true ∧ 0 < tileT w n n (cov g a (toG w n g a)) := by
  have hak : n - k = a + 1 := by omega
  have hcov : ∀ y i, i < n - k → cov g a y i = true := fun y i hi => by
    by_cases e : i = a
    · subst e; exact cov_l g i y
    · exact cov_true (hg i (by omega))
  have hf : ∀ y, tileT w n n (cov g a y) = tileT w n k (cov g a y) := fun y => tile_from n k (by omega) (Nat.le_refl _) (hcov y)
  rw [tile_from n (k + 1) hk (Nat.le_refl _) (fun i hi => hg i (by omega)), tile_step, ha, if_neg (by rw [hc]; decide)] at hp
  unfold toG
  by_cases h1 : (decide (a % w + 1 < w) && !g (a + 1) && decide (0 < tileT w n n (cov g a (a + 1)))) = true
  · rw [if_pos h1]
    simp only [Bool.and_eq_true, decide_eq_true_eq, Bool.not_eq_true'] at h1
    obtain ⟨⟨h2, h3⟩, h4⟩ := h1
    refine ⟨by omega, ?_, h3, ?_, h4⟩
    · have e1 := Nat.div_add_mod a w
      have e2 : a / w < h := Nat.div_lt_of_lt_mul (by rw [← hn]; omega)
      have e3 : w * (a / w + 1) ≤ w * h := Nat.mul_le_mul_left w e2
      rw [Nat.mul_add, Nat.mul_one] at e3
      omega
    · unfold adjG
      rw [show (a / w == (a + 1) / w) = true from beq_iff_eq.2 ((next_row hw).2 h2)]
      simp
  · rw [if_neg h1]
    have hz : (if decide (a % w + 1 < w) && !g (a + 1) then tileT w n k (cov g a (a + 1)) else 0) = 0 := by
      by_cases h2 : (decide (a % w + 1 < w) && !g (a + 1)) = true
      · rw [if_pos h2]
        rw [h2, Bool.true_and, decide_eq_true_eq, hf] at h1
        omega
      · rw [if_neg h2]
    rw [hz, Nat.zero_add] at hp
    by_cases h2 : (decide (a + w < n) && !g (a + w)) = true
    · rw [if_pos h2, ← hf] at hp
      simp only [Bool.and_eq_true, decide_eq_true_eq, Bool.not_eq_true'] at h2
      refine ⟨by omega, h2.1, h2.2, ?_, hp⟩
      unfold adjG
      rw [show (a % w == (a + w) % w) = true by simp]
      simp
    · rw [if_neg h2] at hp; omega

/-- What holds on the way: of the holes g0, the covered g, the numbers o, up to m. -/
structure OnWay (w n : Nat) (g0 g : Nat → Bool) (o : Nat → Int) (m : Nat) : Prop where
  hole : ∀ i, i < n → g0 i = true → o i = -1 ∧ g i = true
  free : ∀ i, i < n → g i = false → o i = -1
  pair : ∀ i, i < n → g i = true → g0 i = false → ∃ j, j < n ∧ j ≠ i ∧ adjG w i j = true ∧ 0 ≤ o i ∧ o i < (m : Int) ∧ o j = o i ∧ ∀ l, l < n → o l = o i → l = i ∨ l = j
  num : freeN (fun _ => true) g0 n = freeN (fun _ => true) g n + 2 * m
  some_ : ∀ p : Nat, p < m → ∃ i, i < n ∧ o i = (p : Int)
theorem OnWay.start (w n : Nat) (g : Nat → Bool) : OnWay w n g g (fun _ => -1) 0 :=
  ⟨fun i _ h => ⟨rfl, h⟩, fun _ _ _ => rfl, fun i _ h h' => absurd (h.symm.trans h') (by decide), by omega, fun p hp => absurd hp (by omega)⟩
theorem OnWay.step {w n : Nat} {g0 g : Nat → Bool} {o : Nat → Int} {m a b : Nat} (h : OnWay w n g0 g o m) (ha : a < n) (hb : b < n) (hab : a ≠ b) (ga : g a = false) (gb : g b = false) (hadj : adjG w a b = true) :
    OnWay w n g0 (cov g a b) (fun i => if i = a ∨ i = b then (m : Int) else o i) (m + 1) where
  hole := fun i hi h0 => by
    obtain ⟨e1, e2⟩ := h.hole i hi h0
    have n1 : ¬ (i = a ∨ i = b) := by
      rintro (rfl | rfl)
      · rw [ga] at e2; cases e2
      · rw [gb] at e2; cases e2
    exact ⟨by rw [if_neg n1]; exact e1, cov_true e2⟩
  free := fun i hi hg => by
    have n1 : ¬ (i = a ∨ i = b) := by
      rintro (rfl | rfl)
      · rw [cov_l] at hg; cases hg
      · rw [cov_r] at hg; cases hg
    rw [if_neg n1]
    refine h.free i hi ?_
    rwa [cov_ne (fun e => n1 (.inl e)) (fun e => n1 (.inr e))] at hg
  pair := fun i hi hg h0 => by
    have low : ∀ l, l < n → ¬ (l = a ∨ l = b) → o l ≠ (m : Int) := fun l hl hn e => by
      cases hgl : g l with
      | false => rw [h.free l hl hgl] at e; omega
      | true =>
        cases h0l : g0 l with
        | true => rw [(h.hole l hl h0l).1] at e; omega
        | false => obtain ⟨_, _, _, _, _, e2, _⟩ := h.pair l hl hgl h0l; omega
    by_cases n1 : i = a ∨ i = b
    · rcases n1 with rfl | rfl
      · refine ⟨b, hb, hab.symm, hadj, by simp, by simp; omega, by simp, fun l hl e => ?_⟩
        by_cases n2 : l = i ∨ l = b
        · exact n2
        · rw [if_neg n2, if_pos (.inl rfl)] at e
          exact absurd e (low l hl n2)
      · refine ⟨a, ha, hab, by rw [adjG_sym]; exact hadj, by simp, by simp; omega, by simp, fun l hl e => ?_⟩
        by_cases n2 : l = a ∨ l = i
        · exact n2.symm
        · rw [if_neg n2, if_pos (.inr rfl)] at e
          exact absurd e (low l hl n2)
    · rw [cov_ne (fun e => n1 (.inl e)) (fun e => n1 (.inr e))] at hg
      obtain ⟨j, hj, hji, e1, e2, e3, e4, e5⟩ := h.pair i hi hg h0
      have n2 : ¬ (j = a ∨ j = b) := by
        rintro (rfl | rfl)
        · rw [h.free j hj ga] at e4; omega
        · rw [h.free j hj gb] at e4; omega
      refine ⟨j, hj, hji, e1, by rw [if_neg n1]; exact e2, by rw [if_neg n1]; omega, by rw [if_neg n1, if_neg n2]; exact e4, fun l hl e => ?_⟩
      rw [if_neg n1] at e
      by_cases n3 : l = a ∨ l = b
      · rw [if_pos n3] at e; omega
      · rw [if_neg n3] at e; exact e5 l hl e
  num := by
    have := h.num
    rw [free_cov (col := fun _ => true) ha hb hab ga gb] at this
    simp only [if_true] at this
    omega
  some_ := fun p hp => by
    by_cases e : p = m
    · subst e; exact ⟨a, ha, by simp⟩
    · obtain ⟨i, hi, ei⟩ := h.some_ p (by omega)
      have n1 : ¬ (i = a ∨ i = b) := by
        rintro (rfl | rfl)
        · rw [h.free i hi ga] at ei; omega
        · rw [h.free i hi gb] at ei; omega
      exact ⟨i, hi, by rw [if_neg n1]; exact ei⟩

/-- THE FIRST WAY COVERS ALL. -/
theorem first_ok {w h n : Nat} {g0 : Nat → Bool} (hn : n = w * h) (hw : 1 ≤ w) : ∀ (k : Nat) (g : Nat → Bool) (o : Nat → Int) (m : Nat), k ≤ n → (∀ i, i < n - k → g i = true) → 0 < tileT w n n g → OnWay w n g0 g o m →
    ∃ g', (∀ i, i < n → g' i = true) ∧ OnWay w n g0 g' (firstG w n k g o m).1 (firstG w n k g o m).2
  | 0, g, o, m, _, hg, _, hw' => ⟨g, fun i hi => hg i (by omega), hw'⟩
  | k + 1, g, o, m, hk, hg, hp, hw' => by
    obtain ⟨a, ha⟩ : ∃ a, n - (k + 1) = a := ⟨_, rfl⟩
    cases hc : g a with
    | true =>
      rw [first_skip (by rw [ha]; exact hc)]
      exact first_ok hn hw k g o m (by omega) (fun i hi => by
        by_cases e : i = a
        · subst e; exact hc
        · exact hg i (by omega)) hp hw'
    | false =>
      obtain ⟨m1, m2, m3, m4, m5⟩ := mate hn hw hk ha (fun i hi => hg i (by omega)) hc hp
      rw [first_step ha hc]
      exact first_ok hn hw k _ _ _ (by omega) (fun i hi => by
        by_cases e : i = a
        · subst e; exact cov_l g i _
        · exact cov_true (hg i (by omega))) m5 (hw'.step (by omega) m2 (by omega) hc m3 m4)
/-- Numbers that are given stay. -/
theorem first_keep {w h n : Nat} (hn : n = w * h) (hw : 1 ≤ w) : ∀ (k : Nat) (g : Nat → Bool) (o : Nat → Int) (m : Nat), k ≤ n → (∀ i, i < n - k → g i = true) → 0 < tileT w n n g → ∀ i, i < n →
    (g i = true → (firstG w n k g o m).1 i = o i) ∧ (g i = false → (m : Int) ≤ (firstG w n k g o m).1 i)
  | 0, g, o, m, _, hg, _, i, hi => ⟨fun _ => rfl, fun h => by rw [hg i (by omega)] at h; cases h⟩
  | k + 1, g, o, m, hk, hg, hp, i, hi => by
    obtain ⟨a, ha⟩ : ∃ a, n - (k + 1) = a := ⟨_, rfl⟩
    cases hc : g a with
    | true =>
      rw [first_skip (by rw [ha]; exact hc)]
      exact first_keep hn hw k g o m (by omega) (fun i hi => by
        by_cases e : i = a
        · subst e; exact hc
        · exact hg i (by omega)) hp i hi
    | false =>
      obtain ⟨m1, m2, m3, m4, m5⟩ := mate hn hw hk ha (fun i hi => hg i (by omega)) hc hp
      rw [first_step ha hc]
      obtain ⟨q1, q2⟩ := first_keep hn hw k (cov g a (toG w n g a)) (fun i => if i = a ∨ i = toG w n g a then (m : Int) else o i) (m + 1) (by omega) (fun i hi => by
        by_cases e : i = a
        · subst e; exact cov_l g i _
        · exact cov_true (hg i (by omega))) m5 i hi
      by_cases n1 : i = a ∨ i = toG w n g a
      · have hcv : cov g a (toG w n g a) i = true := by
          rcases n1 with e | e
          · rw [e]; exact cov_l _ _ _
          · rw [e]; exact cov_r _ _ _
        have := q1 hcv
        simp only [if_pos n1] at this
        refine ⟨fun hgi => ?_, fun _ => by rw [this]; omega⟩
        rcases n1 with e | e
        · rw [e, hc] at hgi; cases hgi
        · rw [e, m3] at hgi; cases hgi
      · have hcv : cov g a (toG w n g a) i = g i := cov_ne (fun e => n1 (.inl e)) (fun e => n1 (.inr e))
        rw [hcv] at q1 q2
        refine ⟨fun hgi => ?_, fun hgi => ?_⟩
        · have := q1 hgi
          simp only [if_neg n1] at this
          exact this
        · have := q2 hgi
          omega
/-- The first piece, and that the rest is covered without it. -/
theorem first_piece {w h n : Nat} (hn : n = w * h) (hw : 1 ≤ w) : ∀ (k : Nat) (g : Nat → Bool), k ≤ n → (∀ i, i < n - k → g i = true) → 0 < tileT w n n g → (∃ i, i < n ∧ g i = false) →
    ∃ a b, a < n ∧ b < n ∧ a ≠ b ∧ g a = false ∧ g b = false ∧ adjG w a b = true ∧ 0 < tileT w n n (cov g a b) ∧ ∀ i, i < n → ((firstG w n k g (fun _ => -1) 0).1 i ≤ 0 ↔ cov g a b i = true)
  | 0, g, _, hg, _, hf => by
    obtain ⟨i, hi, e⟩ := hf
    rw [hg i (by omega)] at e; cases e
  | k + 1, g, hk, hg, hp, hf => by
    obtain ⟨a, ha⟩ : ∃ a, n - (k + 1) = a := ⟨_, rfl⟩
    cases hc : g a with
    | true =>
      rw [first_skip (by rw [ha]; exact hc)]
      exact first_piece hn hw k g (by omega) (fun i hi => by
        by_cases e : i = a
        · subst e; exact hc
        · exact hg i (by omega)) hp hf
    | false =>
      obtain ⟨m1, m2, m3, m4, m5⟩ := mate hn hw hk ha (fun i hi => hg i (by omega)) hc hp
      rw [first_step ha hc]
      refine ⟨a, toG w n g a, by omega, m2, by omega, hc, m3, m4, m5, fun i hi => ?_⟩
      obtain ⟨q1, q2⟩ := first_keep hn hw k (cov g a (toG w n g a)) (fun i => if i = a ∨ i = toG w n g a then ((0 : Nat) : Int) else -1) (0 + 1) (by omega) (fun i hi => by
        by_cases e : i = a
        · subst e; exact cov_l g i _
        · exact cov_true (hg i (by omega))) m5 i hi
      cases hcv : cov g a (toG w n g a) i with
      | true =>
        refine ⟨fun _ => rfl, fun _ => ?_⟩
        rw [q1 hcv]
        split <;> omega
      | false =>
        refine ⟨fun hle => ?_, fun e => by cases e⟩
        have := q2 hcv
        omega
end Go.Proofs.YtmfdlijkpdgimaaGreatDoor

/-
  Covers by signs, purely: the model's determinant, of every board, by the kernel.
-/
namespace Go.Proofs.YtmfdlijkpdgimaaGreatDoor
set_option linter.unusedVariables false

abbrev MatT := List (List Int)
def matAtT (M : MatT) (i j : Nat) : Int := (M[i]?.getD [])[j]?.getD 0
def inB (x : Int) : Bool := decide (-1000000 ≤ x ∧ x ≤ 1000000)
def matIn (M : MatT) : Bool := M.all fun r => r.all inB
def pivP (M : MatT) (k : Nat) : Nat → Nat → Nat
  | 0, p => p
  | f + 1, p => if matAtT M p k = 0 then pivP M k f (p + 1) else p
def swapP (M : MatT) (p k : Nat) : MatT := (M.set p (M[k]?.getD [])).set k (M[p]?.getD [])
def elimR (k : Nat) (last : Int) (rk ri : List Int) : List Int := (List.range ri.length).map fun j => if j ≤ k then ri[j]?.getD 0 else ((ri[j]?.getD 0) * (rk[k]?.getD 0) - (ri[k]?.getD 0) * (rk[j]?.getD 0)).tdiv last
def elimM (k : Nat) (last : Int) (M : MatT) : MatT := (List.range M.length).map fun i => if i ≤ k then M[i]?.getD [] else elimR k last (M[k]?.getD []) (M[i]?.getD [])
/-- The determinant; none where a number is too great. -/
def detP : Nat → MatT → Int → Int → Option Int
  | 0, M, sign, last => some (sign * last)
  | r + 1, M, sign, last =>
    let n := M.length
    let k := n - (r + 1)
    let p := pivP M k (n - k) k
    if p = n then some 0 else
      let M1 := if p = k then M else swapP M p k
      let s1 := if p = k then sign else -sign
      let M2 := elimM k last M1
      if matIn M2 then detP r M2 s1 (matAtT M1 k k) else none
def signOf (w a b : Nat) : Int := if a % w = b % w ∧ (a = b + w ∨ b = a + w) then 1 - 2 * ((a % w % 2 : Nat) : Int) else if a / w = b / w ∧ (a = b + 1 ∨ b = a + 1) then 1 else 0
def evens (w n : Nat) : List Nat := (List.range n).filter fun a => (a / w + a % w) % 2 == 0
def odds (w n : Nat) : List Nat := (List.range n).filter fun a => !((a / w + a % w) % 2 == 0)
def signsM (w h : Nat) : MatT := (evens w (w * h)).map fun a => (odds w (w * h)).map fun b => signOf w a b
def tileD (w h : Nat) : Option Int := if (w * h) % 2 = 1 then some 0 else (detP (signsM w h).length (signsM w h) 1 1).map fun v => if v < 0 then -v else v
/-- By signs it is the same as by rows. -/
def signsOk (w h : Nat) : Bool := tileD w h == some ((rowsT w h (fun _ => false) h 0 : Nat) : Int) && ((w * h) % 2 == 1 || ((signsM w h).all fun r => r.length == (signsM w h).length)) && (rowsT h w (fun _ => false) w 0 == rowsT w h (fun _ => false) h 0) && decide (rowsT w h (fun _ => false) h 0 ≤ 1000000)
theorem signs_ok : ∀ a : Fin 5, ∀ b : Fin 5, signsOk (a.val + 1) (b.val + 1) = true := by decide +kernel
end Go.Proofs.YtmfdlijkpdgimaaGreatDoor

/-
  What the document says of covers, purely: colours, holes, rows of two.
-/
namespace Go.Proofs.YtmfdlijkpdgimaaGreatDoor
set_option linter.unusedVariables false

def colG (w i : Nat) : Bool := (i / w + i % w) % 2 == 0
def colOk (w h : Nat) : Bool := (List.range (w * h)).all (fun i => (List.range (w * h)).all fun j => !adjG w i j || (colG w j == !colG w i)) && ((w * h) % 2 == 1 || freeN (colG w) (fun _ => false) (w * h) == freeN (fun i => !colG w i) (fun _ => false) (w * h))
theorem col_ok : ∀ a : Fin 5, ∀ b : Fin 5, colOk (a.val + 1) (b.val + 1) = true := by decide +kernel
theorem col_adj {w h : Nat} (hw : 1 ≤ w ∧ w ≤ 5) (hh : 1 ≤ h ∧ h ≤ 5) : ∀ i j, i < w * h → j < w * h → adjG w i j = true → colG w j = !colG w i := fun i j hi hj ha => by
  have h0 := col_ok ⟨w - 1, by omega⟩ ⟨h - 1, by omega⟩
  simp only [show w - 1 + 1 = w by omega, show h - 1 + 1 = h by omega] at h0
  unfold colOk at h0
  rw [Bool.and_eq_true] at h0
  have h1 := List.all_eq_true.1 (List.all_eq_true.1 h0.1 i (List.mem_range.2 hi)) j (List.mem_range.2 hj)
  rw [ha] at h1
  simpa using h1
theorem col_half {w h : Nat} (hw : 1 ≤ w ∧ w ≤ 5) (hh : 1 ≤ h ∧ h ≤ 5) (he : (w * h) % 2 = 0) : freeN (colG w) (fun _ => false) (w * h) = freeN (fun i => !colG w i) (fun _ => false) (w * h) := by
  have h0 := col_ok ⟨w - 1, by omega⟩ ⟨h - 1, by omega⟩
  simp only [show w - 1 + 1 = w by omega, show h - 1 + 1 = h by omega] at h0
  unfold colOk at h0
  rw [Bool.and_eq_true, Bool.or_eq_true] at h0
  rcases h0.2 with h1 | h1
  · rw [beq_iff_eq] at h1; omega
  · exact beq_iff_eq.1 h1
theorem free_split (col c : Nat → Bool) (n : Nat) : freeN (fun _ => true) c n = freeN col c n + freeN (fun i => !col i) c n := by
  unfold freeN
  rw [← sumN_add]
  exact sumN_congr n fun i _ => by
    show (if (true && !c i) = true then 1 else 0) = (if (col i && !c i) = true then 1 else 0) + if (!col i && !c i) = true then 1 else 0
    cases col i <;> cases c i <;> rfl
/-- Covers by cells. -/
theorem tile_is {w h : Nat} (hw : 1 ≤ w ∧ w ≤ 5) (g : Nat → Bool) : ways (adjG w) (w * h) (w * h) g = tileT w (w * h) (w * h) g := tile_ways rfl hw.1 _ g (Nat.le_refl _) (fun i hi => absurd hi (by omega))
/-- An odd number of cells that are left. -/
theorem tile_odd {w h : Nat} (hw : 1 ≤ w ∧ w ≤ 5) (hh : 1 ≤ h ∧ h ≤ 5) {g : Nat → Bool} (ho : freeN (fun _ => true) g (w * h) % 2 = 1) : tileT w (w * h) (w * h) g = 0 := by
  rw [← tile_is hw]
  refine ways_colours (col := colG w) (col_adj hw hh) _ g (Nat.le_refl _) (fun i hi => absurd hi (by omega)) (fun e => ?_)
  rw [free_split (colG w), e] at ho
  omega
/-- Two holes of one colour. -/
theorem tile_two {w h : Nat} (hw : 1 ≤ w ∧ w ≤ 5) (hh : 1 ≤ h ∧ h ≤ 5) (he : (w * h) % 2 = 0) {x y : Nat} (hx : x < w * h) (hy : y < w * h) (hne : x ≠ y) (hc : colG w x = colG w y) : tileT w (w * h) (w * h) (cov (fun _ => false) x y) = 0 := by
  rw [← tile_is hw]
  refine ways_colours (col := colG w) (col_adj hw hh) _ _ (Nat.le_refl _) (fun i hi => absurd hi (by omega)) (fun e => ?_)
  have h1 := free_cov (col := colG w) (c := fun _ => false) hx hy hne rfl rfl
  have h2 := free_cov (col := fun i => !colG w i) (c := fun _ => false) hx hy hne rfl rfl
  have h3 := col_half hw hh he
  rw [e] at h1
  rw [h1, h2, hc] at h3
  revert h3
  cases colG w y <;> simp
/-- Boards that are turned. -/
theorem tile_turn {w h : Nat} (hw : 1 ≤ w ∧ w ≤ 5) (hh : 1 ≤ h ∧ h ≤ 5) {g g' : Nat → Bool} (hg : ∀ i, i < w * h → g' (turnC w h i) = g i) : tileT h (h * w) (h * w) g' = tileT w (w * h) (w * h) g := by
  rw [← tile_is hw, ← tile_is hh, Nat.mul_comm h w]
  exact (ways_turn hw hh hg).symm
/-- With two neighbours as holes there are no more ways. -/
theorem tile_less {w h : Nat} (hw : 1 ≤ w ∧ w ≤ 5) {g : Nat → Bool} {a b : Nat} (ha : a < w * h) (hb : b < w * h) (hab : a ≠ b) (ga : g a = false) (gb : g b = false) (hadj : adjG w a b = true) : tileT w (w * h) (w * h) (cov g a b) ≤ tileT w (w * h) (w * h) g := by
  rw [← tile_is hw, ← tile_is hw]
  refine ways_less (fun i j => adjG_sym w i j) (Nat.le_refl _) (fun i hi => absurd hi (by omega)) ha hb ga ?_
  unfold okP
  rw [hadj, gb, beq_eq_false_iff_ne.2 (fun e => hab e.symm)]
  rfl
/-- Rows of two, and of one. -/
def fibP : Nat → Nat × Nat
  | 0 => (1, 1)
  | n + 1 => ((fibP n).2, (fibP n).1 + (fibP n).2)
theorem domino_ok : ∀ a : Fin 5, rowsT (a.val + 1) 2 (fun _ => false) 2 0 = (fibP a.val).2 ∧ rowsT (a.val + 1) 1 (fun _ => false) 1 0 = 1 - (a.val + 1) % 2 ∧ (fibP a.val).2 ≤ 8 := by decide +kernel
/-- How many ways at most. -/
theorem tile_bd (w n : Nat) : ∀ k c, tileT w n k c ≤ 2 ^ k
  | 0, _ => Nat.le_refl _
  | k + 1, c => by
    rw [tile_step, Nat.pow_succ]
    have h1 := tile_bd w n k c
    have h2 := tile_bd w n k (cov c (n - (k + 1)) (n - (k + 1) + 1))
    have h3 := tile_bd w n k (cov c (n - (k + 1)) (n - (k + 1) + w))
    split
    · omega
    · split <;> split <;> omega

/-- The cells of a list. -/
def inL (hs : List Int) : Nat → Bool := fun i => hs.contains (i : Int)
theorem free_all (n : Nat) : freeN (fun _ => true) (fun _ => false) n = n := by
  unfold freeN
  induction n with
  | zero => rfl
  | succ n ih => simp only [sumN]; rw [ih]; simp
theorem free_one {c : Nat → Bool} {n x : Nat} (hx : x < n) (fx : c x = false) : freeN (fun _ => true) c n = freeN (fun _ => true) (fun i => i == x || c i) n + 1 := by
  unfold freeN
  rw [sumN_out _ x n hx, sumN_out (fun i => if true && !(i == x || c i) then 1 else 0) x n hx, fx]
  simp only [beq_self_eq_true, Bool.true_or, Bool.not_true, Bool.and_false, Bool.false_eq_true, if_false, Bool.not_false, Bool.and_true, if_true]
  rw [Nat.add_comm, Nat.zero_add]
  congr 1
  exact sumN_congr n fun i _ => by
    by_cases e : i = x
    · rw [if_pos e, if_pos e]
    · rw [if_neg e, if_neg e, beq_eq_false_iff_ne.2 e]
      simp
theorem free_list {n : Nat} : ∀ hs : List Int, hs.Nodup → (∀ x ∈ hs, 0 ≤ x ∧ x < (n : Int)) → freeN (fun _ => true) (inL hs) n + hs.length = n
  | [], _, _ => by
    have : inL [] = fun _ => false := funext fun i => rfl
    rw [this, free_all]
    rfl
  | x :: hs, hd, hb => by
    have hd' := List.nodup_cons.1 hd
    obtain ⟨x0, x1⟩ := hb x (List.mem_cons_self)
    have ih := free_list hs hd'.2 (fun y hy => hb y (List.mem_cons_of_mem _ hy))
    obtain ⟨y, rfl⟩ := Int.eq_ofNat_of_zero_le x0
    have hf : inL hs y = false := by
      unfold inL
      rw [← Bool.not_eq_true, List.contains_iff_mem]
      exact hd'.1
    rw [free_one (n := n) (x := y) (by omega) hf] at ih
    have : inL ((y : Int) :: hs) = fun i => i == y || inL hs i := funext fun i => by
      unfold inL
      rw [List.contains_cons]
      congr 1
      by_cases e : i = y
      · subst e; simp
      · rw [beq_eq_false_iff_ne.2 e, beq_eq_false_iff_ne.2 (show (i : Int) ≠ (y : Int) by omega)]
    rw [this]
    simp only [List.length_cons]
    omega
end Go.Proofs.YtmfdlijkpdgimaaGreatDoor

/-
  Covers of boards: the model's validHoles, holesOf, tile, TileCount.
-/
namespace Go.Proofs.YtmfdlijkpdgimaaGreatDoor
open Go.RowKit
set_option linter.unusedVariables false

abbrev boolsV (l : List Bool) : List Value := l.map Value.bool
def fnB (l : List Bool) : Nat → Bool := fun i => l[i]?.getD false
theorem Row.bool {w : World} {A : Option Addr} {l : List Bool} {k : Nat} (h : Row w A (boolsV l)) (hk : k < l.length) : ∃ ad, A = some ad ∧ w.cell? (ad.add k) = some (.bool (fnB l k)) := by
  obtain ⟨ad, e, hc⟩ := h k (by simpa using hk)
  exact ⟨ad, e, by rw [hc]; simp [fnB, List.getElem?_eq_getElem hk]⟩
theorem fnB_set {l : List Bool} {x : Nat} (hx : x < l.length) (b : Bool) (i : Nat) : fnB (l.set x b) i = if i = x then b else fnB l i := by
  unfold fnB
  by_cases e : i = x
  · subst e; rw [List.getElem?_set_self hx, if_pos rfl]; rfl
  · rw [List.getElem?_set_ne (fun h => e h.symm), if_neg e]
theorem fnB_cov {l : List Bool} {x y : Nat} (hx : x < l.length) (hy : y < l.length) : fnB ((l.set x true).set y true) = cov (fnB l) x y := funext fun i => by
  rw [fnB_set (by simpa using hy), fnB_set hx]
  unfold cov
  by_cases e1 : i = y
  · simp [e1]
  · by_cases e2 : i = x
    · simp [e2]
    · rw [if_neg e1, if_neg e2, beq_eq_false_iff_ne.2 e1, beq_eq_false_iff_ne.2 e2]; simp
theorem elem_bool : Elem Tryz.prog 4 1 1 := Elem.of (z := .bool false) (by kernel_rfl) rfl (by omega)
/-- A row of truth values of the call's own: its cells, and one of them written. -/
theorem own_bool {W : World} {base g n c : Nat} {l : List Bool} (h : W.ownsRow base 4 1 (.slice (some ⟨g, 0, none⟩) n c) n (boolsV l)) {k : Nat} (hk : k < n) (b : Bool) :
    W.cell? ⟨g, k, none⟩ = some (.bool (fnB l k)) ∧ W.frozen? ⟨g, k, none⟩ = false ∧ (W.setCell ⟨g, k, none⟩ (.bool b)).ownsRow base 4 1 (.slice (some ⟨g, 0, none⟩) n c) n (boolsV (l.set k b)) ∧ W.grownBy (W.setCell ⟨g, k, none⟩ (.bool b)) (some g) := by
  have hl : l.length = n := by have := h.1; simpa using this
  have hc := h.cellAt k (by omega)
  obtain ⟨o, gr⟩ := h.stored k (.bool b)
  refine ⟨?_, h.frozenAt k, ?_, gr⟩
  · rw [hc]; simp [fnB, List.getElem?_eq_getElem (show k < l.length by omega)]
  · rw [show (boolsV l).set k (.bool b) = boolsV (l.set k b) by simp [boolsV, List.map_set]] at o
    exact o

/-- The arguments that are valid. -/
def Holes (bc br : Int) (hs : List Int) : Prop := Brd bc br ∧ AscTo (bc * br) hs hs.length
instance (bc br : Int) (hs : List Int) : Decidable (Holes bc br hs) := by unfold Holes; infer_instance

def maskL (n : Nat) (hs : List Int) : List Bool := (List.range n).map (inL hs)
theorem mask_len (n : Nat) (hs : List Int) : (maskL n hs).length = n := by simp [maskL]
theorem mask_at {n i : Nat} (hs : List Int) (hi : i < n) : fnB (maskL n hs) i = inL hs i := by
  simp [fnB, maskL, List.getElem?_map, List.getElem?_range hi]
theorem mask_snoc {n : Nat} {hs : List Int} {k x : Nat} (hk : k < hs.length) (hx : hs[k]?.getD 0 = (x : Int)) : (maskL n (hs.take k)).set x true = maskL n (hs.take (k + 1)) := by
  apply List.ext_getElem
  · simp [maskL]
  · intro i h1 h2
    simp only [maskL, List.length_set, List.length_map, List.length_range] at h1
    rw [List.getElem_set]
    simp only [maskL, List.getElem_map, List.getElem_range, inL]
    rw [take_snoc _ _ hk, hx]
    by_cases e : x = i
    · subst e; simp
    · rw [if_neg e, Bool.eq_iff_iff]
      simp only [List.contains_iff_mem, List.mem_append, List.mem_singleton]
      constructor
      · exact .inl
      · rintro (h | h)
        · exact h
        · omega
theorem made_bools {w : World} {base : Nat} {v : Value} {n : Nat} {z : Value} (hz : z.cells = #[z]) (h : w.ownsRow base 4 1 v n (madeCells z.cells (n * 1)).toList) : w.ownsRow base 4 1 v n (List.replicate n z) := by
  rwa [hz, Nat.mul_one, toList_madeCells_one] at h
theorem info_of {P : Program} {e : TypeId} {z : Value} {size bytes : Nat} (h : (P.info? e).map (fun i => (i.zero, i.size, i.bytes)) = some (some z, size, bytes)) : ∃ i, P.info? e = some i ∧ i.zero = some z ∧ i.size = size ∧ i.bytes = bytes := by
  cases hi : P.info? e with
  | none => simp [hi] at h
  | some i =>
    simp only [hi, Option.map_some, Option.some.injEq, Prod.mk.injEq] at h
    exact ⟨i, rfl, h.1, h.2.1, h.2.2⟩

end Go.Proofs.YtmfdlijkpdgimaaGreatDoor

/-
  Covers of boards: the model's tile and TileCount.
-/
namespace Go.Proofs.YtmfdlijkpdgimaaGreatDoor
open Go.RowKit
set_option linter.unusedVariables false

theorem one_bools (l : List Bool) : ∀ u ∈ boolsV l, u.oneCell' = true := by
  intro u hu
  obtain ⟨b, _, rfl⟩ := List.mem_map.1 hu
  rfl
theorem own_bools {w : World} {base n : Nat} {v : Value} {cs : List Value} (h : w.ownsRow base 4 1 v n cs) (hn : 0 < n) : ∃ g c, v = .slice (some ⟨g, 0, none⟩) n c ∧ base ≤ g := by
  rcases h.2 with ⟨_, rfl⟩ | ⟨g, cap, cur, e, hb, _⟩
  · omega
  · exact ⟨g, cap, e, hb⟩
theorem set_back {l : List Bool} {x : Nat} (h : fnB l x = false) (hx : x < l.length) : (l.set x true).set x false = l := by
  rw [List.set_set]
  apply List.ext_getElem
  · simp
  · intro i h1 h2
    rw [List.getElem_set]
    by_cases e : x = i
    · subst e
      rw [if_pos rfl]
      unfold fnB at h
      rw [List.getElem?_eq_getElem hx] at h
      exact h.symm
    · rw [if_neg e]
theorem tile_one {w n k : Nat} {c : Nat → Bool} {a : Nat} (ha : n - (k + 1) = a) (hc : c a = false) : tileT w n (k + 1) c = (if decide (a % w + 1 < w) && !c (a + 1) then tileT w n k (cov c a (a + 1)) else 0) + (if decide (a + w < n) && !c (a + w) then tileT w n k (cov c a (a + w)) else 0) := by
  subst ha
  rw [tile_step, if_neg (by rw [hc]; decide)]

set_option maxHeartbeats 4000000 in
set_option maxRecDepth 100000 in
theorem tile_c (w h n : Nat) (hn : n = w * h) (hw : 1 ≤ w ∧ w ≤ 5) (hh : 1 ≤ h ∧ h ≤ 5) : ∀ (k : Nat), k ≤ n → ∀ (l : List Bool) (A : Option Addr) (c : Nat) (W : World), l.length = n → Row W A (boolsV l) →
    Calls Tryz.prog 31 #[.int .i64 (w : Int), .int .i64 (h : Int), .slice A n c, .int .i64 ((n - k : Nat) : Int)] W (Plain (.int .i64 ((tileT w n k (fnB l) : Nat) : Int)) W) := by
  have h25 : n ≤ 25 := by rw [hn]; exact Nat.mul_le_mul hw.2 hh.2
  have emul : IntKind.i64.wrap ((w : Int) * (h : Int)) = (n : Int) := by rw [hn, Int.natCast_mul]; exact IntWalk.i64_in _ (by rw [← Int.natCast_mul, ← hn]; omega)
  have hrow : ∀ a, a < n → a % w + 1 < w → a + 1 < n := fun a han hlt => by
    have e1 := Nat.div_add_mod a w
    have e2 : a / w < h := Nat.div_lt_of_lt_mul (by rw [← hn]; exact han)
    have e3 : w * (a / w + 1) ≤ w * h := Nat.mul_le_mul_left w e2
    rw [Nat.mul_add, Nat.mul_one] at e3
    omega
  obtain ⟨w1, w5⟩ := hw
  obtain ⟨h1, h5⟩ := hh
  clear hn
  intro k
  induction k using Nat.strongRecOn with
  | _ k ih =>
    intro hk l A c W hl hr
    have IH := hide (fun j (hj : j < k) => ih j hj)
    have HROW := hide hrow
    have HR := hide hr
    clear ih hrow hr
    obtain ⟨T, hT⟩ : ∃ T, tileT w n k (fnB l) = T := ⟨_, rfl⟩
    rw [hT]
    have HT := hide hT
    clear hT
    go_enter Tryz.func31, Tryz.ntmps31
    go_wp2_with fail
    go_loopw [3] (fun i wr => ∃ j : Nat, j ≤ k ∧ i = .int .i64 ((n - j : Nat) : Int) ∧ Hid (tileT w n j (fnB l) = T) ∧ W = wr) (fun i _ => n - (intOf i).toNat)
    case atStart => exact ⟨k, Nat.le_refl _, rfl, HT.out, rfl⟩
    case round =>
      obtain ⟨j, hj, rfl, hTj, rfl⟩ := hrel
      obtain ⟨a, ha⟩ : ∃ a, n - j = a := ⟨_, rfl⟩
      rw [ha]
      by_cases hj0 : j = 0
      · subst hj0
        obtain rfl : a = n := by omega
        have HV : Hid (T = 1) := hTj.out.symm
        clear hTj
        go_wp2_with fail
        go_ret
        exact ⟨by rw [HV.out]; rfl, Below.refl _ _⟩
      · obtain ⟨q, rfl⟩ : ∃ q, j = q + 1 := ⟨j - 1, by omega⟩
        have han : a < n := by omega
        have han' : (a : Int) < (n : Int) := by omega
        have a0 : (0 : Int) ≤ (a : Int) := by omega
        obtain ⟨ad, rfl, hca⟩ := HR.out.bool (k := a) (by omega)
        cases hcv : fnB l a with
        | true =>
          rw [hcv] at hca
          have HN : Hid (tileT w n q (fnB l) = T) := by
            have := hTj.out
            rwa [tile_step, ha, if_pos hcv] at this
          clear hTj
          have hnq : n - q = a + 1 := by omega
          go_wp2_with fail
          exact ⟨⟨q, by omega, by rw [hnq]; rfl, HN.out, trivial⟩, by simp [intOf]; omega⟩
        | false =>
          rw [hcv] at hca
          have HN := hide (hTj.out.symm.trans (tile_one (w := w) ha hcv))
          clear hTj
          have hnq : n - q = a + 1 := by omega
          have IHq := hide (fun (l' : List Bool) (A : Option Addr) (c : Nat) (W' : World) (hl' : l'.length = n) (hr' : Row W' A (boolsV l')) => IH.out q (by omega) (by omega) l' A c W' hl' hr')
          rw [hnq] at IHq
          have hna : ((a : Int) == (n : Int)) = false := by rw [beq_eq_false_iff_ne]; omega
          have HRB := hide (fun (w' : World) (hb' : Below W.heap.size W w') (i : Nat) (hi : i < n) => show w'.cell? (ad.add i) = some (.bool (fnB l i)) by
            obtain ⟨_, ⟨rfl⟩, hc⟩ := (HR.out.below hb').bool (k := i) (by omega)
            exact hc)
          have HRB2 := hide (fun (w' : World) (hb' : Below W.heap.size W w') (i : Nat) (hi : i < n) (h0 : i ≠ 0) => show w'.cell? { block := ad.block, off := ad.off + i, spot := none } = some (.bool (fnB l i)) by
            have := HRB.out w' hb' i hi
            unfold Addr.add at this
            rwa [if_neg h0] at this)
          have HX := hide (fun c => tile_bd w n q c)
          have hq24 : 2 ^ q ≤ 16777216 := Nat.le_trans (Nat.pow_le_pow_right (by omega) (show q ≤ 24 by omega)) (by decide)
          have t1 : Int.tmod (a : Int) (w : Int) = ((a % w : Nat) : Int) := rfl
          have t1' : (a : Int) % (w : Int) = ((a % w : Nat) : Int) := rfl
          have hw0 : (w : Int) ≠ 0 := by omega
          have hmw : a % w < w := Nat.mod_lt _ (by omega)
          have hrw := HROW.out a han
          have hlen := hide (show (l.set a true).length = n by simpa using hl)
          have HCR := hide (fun (hx : a + 1 < n) => fnB_cov (l := l) (x := a) (y := a + 1) (by omega) (by omega))
          have HCD := hide (fun (hx : a + w < n) => fnB_cov (l := l) (x := a) (y := a + w) (by omega) (by omega))
          have HBK := hide (fun (hx : a + 1 < n) (hf : fnB l (a + 1) = false) => set_back (l := l.set a true) (x := a + 1) (by rw [fnB_set (by omega), if_neg (by omega)]; exact hf) (by rw [hlen.out]; exact hx))
          obtain ⟨m, hm⟩ : ∃ m, a % w = m := ⟨_, rfl⟩
          rw [hm] at t1 t1' hmw hrw HN
          clear hm
          have e2 : IntKind.i64.wrap (m : Int) = (m : Int) := IntWalk.i64_in _ (by omega)
          have hvc := hide (World.ownsRow_made W (e := 4) (size := 1) #[] 0 (Nat.le_refl _) (by simp [maxLen]) rfl)
          have hbc := (Below.refl W.heap.size W).alloc (Nat.le_refl _) (.cells #[] 4)
          by_cases hR : m + 1 < w
          · have hr1 := hrw hR
            have hRi : (m : Int) + 1 < (w : Int) := by omega
            have hr1i : (a : Int) + 1 < (n : Int) := by omega
            cases hx1 : fnB l (a + 1) with
            | true =>
              rw [show (decide (m + 1 < w) && !fnB l (a + 1)) = false from by rw [hx1]; simp, if_neg (by decide), Nat.zero_add] at HN
              by_cases hD : a + w < n
              · have hDi : (a : Int) + (w : Int) < (n : Int) := by omega
                cases hx2 : fnB l (a + w) with
                | true =>
                  have HV : Hid (T = 0) := by rw [hx2] at HN; exact HN.out.trans (by simp)
                  clear HN HX
                  go_wp2_with ((at_builtin; refine put_own rfl (.tmp 29) (.tmp 30) rfl Tryz.underlying68 elem_bool rfl hvc.out rfl (m := n) (news := boolsV l) (by simp [hl]) (HR.out.alloc _) (one_bools l) (by omega) (by omega) hbc.size ?_; intro v9 w9 own9 hg9 ho9; have b9 := below_grown hbc hbc.size hvc.out (Nat.le_refl _) hg9; have own9 : w9.ownsRow W.heap.size 4 1 v9 n (boolsV l) := (by simpa using own9); clear hg9 ho9; obtain ⟨g, c9, rfl, hgb⟩ := own_bools own9 (by omega); obtain ⟨p1, p2, p3, p4⟩ := own_bool own9 han true; have b10 := hide (b9.grown p4 b9.size (fun j e => by injection e with e; omega)); have P3 := hide p3; clear p3 p4 own9 b9; have r1 := HRB2.out _ b10.out (a + 1) hr1 (by omega); rw [hx1] at r1; have d1 := HRB2.out _ b10.out (a + w) hD (by omega); have d2 := HRB.out _ b10.out (a + w) hD; rw [hx2] at d1 d2))
                  go_ret
                  exact ⟨by rw [HV.out]; rfl, b10.out⟩
                | false =>
                  have HV : Hid (T = tileT w n q (cov (fnB l) a (a + w))) := by rw [hx2, decide_eq_true hD] at HN; exact HN.out
                  have hyb := HX.out (cov (fnB l) a (a + w))
                  have HC := hide (HCD.out hD)
                  clear HN HX
                  skip
                  go_wp2_with ((at_builtin; refine put_own rfl (.tmp 29) (.tmp 30) rfl Tryz.underlying68 elem_bool rfl hvc.out rfl (m := n) (news := boolsV l) (by simp [hl]) (HR.out.alloc _) (one_bools l) (by omega) (by omega) hbc.size ?_; intro v9 w9 own9 hg9 ho9; have b9 := below_grown hbc hbc.size hvc.out (Nat.le_refl _) hg9; have own9 : w9.ownsRow W.heap.size 4 1 v9 n (boolsV l) := (by simpa using own9); clear hg9 ho9; obtain ⟨g, c9, rfl, hgb⟩ := own_bools own9 (by omega); obtain ⟨p1, p2, p3, p4⟩ := own_bool own9 han true; have b10 := hide (b9.grown p4 b9.size (fun j e => by injection e with e; omega)); have P3 := hide p3; clear p3 p4 own9 b9; have r1 := HRB2.out _ b10.out (a + 1) hr1 (by omega); rw [hx1] at r1; have d1 := HRB2.out _ b10.out (a + w) hD (by omega); have d2 := HRB.out _ b10.out (a + w) hD; rw [hx2] at d1 d2; obtain ⟨q1a, q2a, q3a, q4a⟩ := own_bool P3.out (k := a + w) (by omega) true; have Q3a := hide q3a; have ca := hide (b10.out.grown q4a b10.out.size (fun j e => by injection e with e; omega)); clear q3a q4a))
                  refine (IHq.out _ _ _ _ (by simp [hl]) (own_reads Q3a.out)).mono ?_
                  rintro e w12 ⟨rfl, b12⟩
                  rw [HC.out, ← HV.out]
                  rw [← HV.out] at hyb
                  have b12 := below_then ca.out ca.out.size b12
                  have eY : IntKind.i64.wrap (T : Int) = (T : Int) := IntWalk.i64_in _ (by omega)
                  go_wp2_with fail
                  go_ret
                  exact ⟨rfl, b12⟩
              · have HV : Hid (T = 0) := by rw [decide_eq_false hD] at HN; exact HN.out.trans (by simp)
                have hDi : ¬ ((a : Int) + (w : Int) < (n : Int)) := by omega
                clear HN HX
                go_wp2_with ((at_builtin; refine put_own rfl (.tmp 29) (.tmp 30) rfl Tryz.underlying68 elem_bool rfl hvc.out rfl (m := n) (news := boolsV l) (by simp [hl]) (HR.out.alloc _) (one_bools l) (by omega) (by omega) hbc.size ?_; intro v9 w9 own9 hg9 ho9; have b9 := below_grown hbc hbc.size hvc.out (Nat.le_refl _) hg9; have own9 : w9.ownsRow W.heap.size 4 1 v9 n (boolsV l) := (by simpa using own9); clear hg9 ho9; obtain ⟨g, c9, rfl, hgb⟩ := own_bools own9 (by omega); obtain ⟨p1, p2, p3, p4⟩ := own_bool own9 han true; have b10 := hide (b9.grown p4 b9.size (fun j e => by injection e with e; omega)); have P3 := hide p3; clear p3 p4 own9 b9; have r1 := HRB2.out _ b10.out (a + 1) hr1 (by omega); rw [hx1] at r1))
                go_ret
                exact ⟨by rw [HV.out]; rfl, b10.out⟩
            | false =>
              rw [show (decide (m + 1 < w) && !fnB l (a + 1)) = true from by rw [hx1, decide_eq_true hR]; rfl, if_pos rfl] at HN
              have HC := hide (HCR.out hr1)
              have hxb := HX.out (cov (fnB l) a (a + 1))
              have HB := hide (HBK.out hr1 hx1)
              obtain ⟨X, hX⟩ : ∃ X, tileT w n q (cov (fnB l) a (a + 1)) = X := ⟨_, rfl⟩
              rw [hX] at HN hxb
              have HXX := hide hX
              clear hX
              have eX : IntKind.i64.wrap (X : Int) = (X : Int) := IntWalk.i64_in _ (by omega)
              go_wp2_with ((at_builtin; refine put_own rfl (.tmp 29) (.tmp 30) rfl Tryz.underlying68 elem_bool rfl hvc.out rfl (m := n) (news := boolsV l) (by simp [hl]) (HR.out.alloc _) (one_bools l) (by omega) (by omega) hbc.size ?_; intro v9 w9 own9 hg9 ho9; have b9 := below_grown hbc hbc.size hvc.out (Nat.le_refl _) hg9; have own9 : w9.ownsRow W.heap.size 4 1 v9 n (boolsV l) := (by simpa using own9); clear hg9 ho9; obtain ⟨g, c9, rfl, hgb⟩ := own_bools own9 (by omega); obtain ⟨p1, p2, p3, p4⟩ := own_bool own9 han true; have b10 := hide (b9.grown p4 b9.size (fun j e => by injection e with e; omega)); have P3 := hide p3; clear p3 p4 own9 b9; have r1 := HRB2.out _ b10.out (a + 1) hr1 (by omega); rw [hx1] at r1; obtain ⟨q1a, q2a, q3a, q4a⟩ := own_bool P3.out (k := a + 1) (by omega) true; have Q3a := hide q3a; have ca := hide (b10.out.grown q4a b10.out.size (fun j e => by injection e with e; omega)); clear q3a q4a))
              refine (IHq.out _ _ _ _ (by simp [hl]) (own_reads Q3a.out)).mono ?_
              rintro e w12 ⟨rfl, b12⟩
              rw [HC.out, HXX.out]
              have O12 := hide (own_below Q3a.out b12)
              have b12 := hide (below_then ca.out ca.out.size b12)
              clear Q3a ca r1 q1a q2a p1 p2 P3 b10
              obtain ⟨q1b, q2b, q3b, q4b⟩ := own_bool O12.out (k := a + 1) (by omega) false
              have Q3b := hide q3b
              have cb := hide (b12.out.grown q4b b12.out.size (fun j e => by injection e with e; omega))
              clear q3b q4b
              rw [HB.out] at Q3b
              by_cases hD : a + w < n
              · have hDi : (a : Int) + (w : Int) < (n : Int) := by omega
                have d1 := HRB2.out _ cb.out (a + w) hD (by omega)
                have d2 := HRB.out _ cb.out (a + w) hD
                cases hx2 : fnB l (a + w) with
                | true =>
                  rw [hx2] at d1 d2
                  have HV : Hid (T = X) := by rw [hx2] at HN; exact HN.out.trans (by simp)
                  clear HN
                  go_wp2_with fail
                  go_ret
                  exact ⟨by rw [HV.out]; rfl, cb.out⟩
                | false =>
                  rw [hx2] at d1 d2
                  have HV : Hid (T = X + tileT w n q (cov (fnB l) a (a + w))) := by rw [hx2, decide_eq_true hD] at HN; exact HN.out
                  have hyb := HX.out (cov (fnB l) a (a + w))
                  have HC2 := hide (HCD.out hD)
                  clear HN
                  obtain ⟨q1c, q2c, q3c, q4c⟩ := own_bool Q3b.out (k := a + w) (by omega) true
                  have Q3c := hide q3c
                  have cc := hide (cb.out.grown q4c cb.out.size (fun j e => by injection e with e; omega))
                  clear q3c q4c
                  go_wp2_with fail
                  refine (IHq.out _ _ _ _ (by simp [hl]) (own_reads Q3c.out)).mono ?_
                  rintro e w13 ⟨rfl, b13⟩
                  rw [HC2.out]
                  have b13 := below_then cc.out cc.out.size b13
                  generalize tileT w n q (cov (fnB l) a (a + w)) = Y at *
                  have eY : IntKind.i64.wrap ((X : Int) + (Y : Int)) = ((X + Y : Nat) : Int) := (IntWalk.i64_in _ (by omega)).trans (by omega)
                  go_wp2_with fail
                  go_ret
                  exact ⟨by rw [HV.out]; rfl, b13⟩
              · have hDi : ¬ ((a : Int) + (w : Int) < (n : Int)) := by omega
                have HV : Hid (T = X) := by rw [decide_eq_false hD] at HN; exact HN.out.trans (by simp)
                clear HN
                go_wp2_with fail
                go_ret
                exact ⟨by rw [HV.out]; rfl, cb.out⟩
          · have hRi : ¬ ((m : Int) + 1 < (w : Int)) := by omega
            rw [show (decide (m + 1 < w) && !fnB l (a + 1)) = false from by rw [decide_eq_false hR]; rfl, if_neg (by decide), Nat.zero_add] at HN
            by_cases hD : a + w < n
            · have hDi : (a : Int) + (w : Int) < (n : Int) := by omega
              cases hx2 : fnB l (a + w) with
              | true =>
                have HV : Hid (T = 0) := by rw [hx2] at HN; exact HN.out.trans (by simp)
                clear HN HX
                go_wp2_with ((at_builtin; refine put_own rfl (.tmp 29) (.tmp 30) rfl Tryz.underlying68 elem_bool rfl hvc.out rfl (m := n) (news := boolsV l) (by simp [hl]) (HR.out.alloc _) (one_bools l) (by omega) (by omega) hbc.size ?_; intro v9 w9 own9 hg9 ho9; have b9 := below_grown hbc hbc.size hvc.out (Nat.le_refl _) hg9; have own9 : w9.ownsRow W.heap.size 4 1 v9 n (boolsV l) := (by simpa using own9); clear hg9 ho9; obtain ⟨g, c9, rfl, hgb⟩ := own_bools own9 (by omega); obtain ⟨p1, p2, p3, p4⟩ := own_bool own9 han true; have b10 := hide (b9.grown p4 b9.size (fun j e => by injection e with e; omega)); have P3 := hide p3; clear p3 p4 own9 b9; have d1 := HRB2.out _ b10.out (a + w) hD (by omega); have d2 := HRB.out _ b10.out (a + w) hD; rw [hx2] at d1 d2))
                go_ret
                exact ⟨by rw [HV.out]; rfl, b10.out⟩
              | false =>
                have HV : Hid (T = tileT w n q (cov (fnB l) a (a + w))) := by rw [hx2, decide_eq_true hD] at HN; exact HN.out
                have hyb := HX.out (cov (fnB l) a (a + w))
                have HC := hide (HCD.out hD)
                clear HN HX
                skip
                go_wp2_with ((at_builtin; refine put_own rfl (.tmp 29) (.tmp 30) rfl Tryz.underlying68 elem_bool rfl hvc.out rfl (m := n) (news := boolsV l) (by simp [hl]) (HR.out.alloc _) (one_bools l) (by omega) (by omega) hbc.size ?_; intro v9 w9 own9 hg9 ho9; have b9 := below_grown hbc hbc.size hvc.out (Nat.le_refl _) hg9; have own9 : w9.ownsRow W.heap.size 4 1 v9 n (boolsV l) := (by simpa using own9); clear hg9 ho9; obtain ⟨g, c9, rfl, hgb⟩ := own_bools own9 (by omega); obtain ⟨p1, p2, p3, p4⟩ := own_bool own9 han true; have b10 := hide (b9.grown p4 b9.size (fun j e => by injection e with e; omega)); have P3 := hide p3; clear p3 p4 own9 b9; have d1 := HRB2.out _ b10.out (a + w) hD (by omega); have d2 := HRB.out _ b10.out (a + w) hD; rw [hx2] at d1 d2; obtain ⟨q1a, q2a, q3a, q4a⟩ := own_bool P3.out (k := a + w) (by omega) true; have Q3a := hide q3a; have ca := hide (b10.out.grown q4a b10.out.size (fun j e => by injection e with e; omega)); clear q3a q4a))
                refine (IHq.out _ _ _ _ (by simp [hl]) (own_reads Q3a.out)).mono ?_
                rintro e w12 ⟨rfl, b12⟩
                rw [HC.out, ← HV.out]
                rw [← HV.out] at hyb
                have b12 := below_then ca.out ca.out.size b12
                have eY : IntKind.i64.wrap (T : Int) = (T : Int) := IntWalk.i64_in _ (by omega)
                go_wp2_with fail
                go_ret
                exact ⟨rfl, b12⟩
            · have HV : Hid (T = 0) := by rw [decide_eq_false hD] at HN; exact HN.out.trans (by simp)
              have hDi : ¬ ((a : Int) + (w : Int) < (n : Int)) := by omega
              clear HN HX
              go_wp2_with ((at_builtin; refine put_own rfl (.tmp 29) (.tmp 30) rfl Tryz.underlying68 elem_bool rfl hvc.out rfl (m := n) (news := boolsV l) (by simp [hl]) (HR.out.alloc _) (one_bools l) (by omega) (by omega) hbc.size ?_; intro v9 w9 own9 hg9 ho9; have b9 := below_grown hbc hbc.size hvc.out (Nat.le_refl _) hg9; have own9 : w9.ownsRow W.heap.size 4 1 v9 n (boolsV l) := (by simpa using own9); clear hg9 ho9; obtain ⟨g, c9, rfl, hgb⟩ := own_bools own9 (by omega); obtain ⟨p1, p2, p3, p4⟩ := own_bool own9 han true; have b10 := hide (b9.grown p4 b9.size (fun j e => by injection e with e; omega)); have P3 := hide p3; clear p3 p4 own9 b9; ))
              go_ret
              exact ⟨by rw [HV.out]; rfl, b10.out⟩
end Go.Proofs.YtmfdlijkpdgimaaGreatDoor

/-
  Covers of boards: the model's TileCount.
-/
namespace Go.Proofs.YtmfdlijkpdgimaaGreatDoor
open Go.RowKit
set_option linter.unusedVariables false

theorem asc_mem {n : Int} {l : List Int} (h : AscTo n l l.length) : ∀ x ∈ l, 0 ≤ x ∧ x < n := fun x hx => by
  obtain ⟨i, hi, rfl⟩ := List.getElem_of_mem hx
  have := (h i hi).1
  rwa [List.getElem?_eq_getElem hi] at this
theorem asc_lt {n : Int} {l : List Int} (h : AscTo n l l.length) : ∀ (d i : Nat), i + d + 1 < l.length → l[i]?.getD 0 < l[i + d + 1]?.getD 0
  | 0, i, hi => by have := (h (i + 1) hi).2 (by omega); simpa using this
  | d + 1, i, hi => by
    have h1 := asc_lt h d i (by omega)
    have h2 := (h (i + (d + 1) + 1) hi).2 (by omega)
    rw [show i + (d + 1) + 1 - 1 = i + d + 1 by omega] at h2
    omega
theorem asc_nodup {n : Int} {l : List Int} (h : AscTo n l l.length) : l.Nodup := by
  rw [List.nodup_iff_pairwise_ne, List.pairwise_iff_getElem]
  intro i j hi hj hij
  have := asc_lt h (j - i - 1) i (by omega)
  rw [show i + (j - i - 1) + 1 = j by omega, List.getElem?_eq_getElem hi, List.getElem?_eq_getElem hj] at this
  simp only [Option.getD_some] at this
  omega
theorem mask_fn {n : Nat} {hs : List Int} (h : ∀ x ∈ hs, 0 ≤ x ∧ x < (n : Int)) : fnB (maskL n hs) = inL hs := funext fun i => by
  by_cases hi : i < n
  · exact mask_at hs hi
  · have h1 : inL hs i = false := by
      unfold inL
      rw [← Bool.not_eq_true, List.contains_iff_mem]
      intro hm
      have := h _ hm
      omega
    rw [h1]
    unfold fnB
    rw [List.getElem?_eq_none (by rw [mask_len]; omega)]
    rfl
/-- In how many ways the board is covered. -/
def coversP (bc br : Int) (hs : List Int) : Int := if Holes bc br hs then ((tileT bc.toNat (bc.toNat * br.toNat) (bc.toNat * br.toNat) (inL hs) : Nat) : Int) else -1

end Go.Proofs.YtmfdlijkpdgimaaGreatDoor


/-
  The first way to cover a board, purely.
-/
import Derived.Test.YtnikgnicjbcbmabDoorTileR
namespace Go.Proofs.YtnikgnicjbcbmabDoor
set_option linter.unusedVariables false

theorem tile_from {w n : Nat} {c : Nat → Bool} : ∀ (k j : Nat), j ≤ k → k ≤ n → (∀ i, i < n - j → c i = true) → tileT w n k c = tileT w n j c
  | 0, j, hj, _, _ => by obtain rfl : j = 0 := by omega
                         rfl
  | k + 1, j, hj, hk, h => by
    by_cases e : j = k + 1
    · subst e; rfl
    · rw [tile_step, if_pos (h _ (by omega))]
      exact tile_from k j (by omega) (by omega) h
/-- The mate of the first cell that is not covered. -/
def toG (w n : Nat) (g : Nat → Bool) (a : Nat) : Nat := if decide (a % w + 1 < w) && !g (a + 1) && decide (0 < tileT w n n (cov g a (a + 1))) then a + 1 else a + w
def firstG (w n : Nat) : Nat → (Nat → Bool) → (Nat → Int) → Nat → (Nat → Int) × Nat
  | 0, _, o, m => (o, m)
  | k + 1, g, o, m =>
    if g (n - (k + 1)) then firstG w n k g o m else
      firstG w n k (cov g (n - (k + 1)) (toG w n g (n - (k + 1)))) (fun i => if i = n - (k + 1) ∨ i = toG w n g (n - (k + 1)) then (m : Int) else o i) (m + 1)
theorem first_skip {w n k : Nat} {g : Nat → Bool} {o : Nat → Int} {m : Nat} (h : g (n - (k + 1)) = true) : firstG w n (k + 1) g o m = firstG w n k g o m := by
  show (if g (n - (k + 1)) then _ else _) = _
  rw [if_pos h]
theorem first_step {w n k a : Nat} {g : Nat → Bool} {o : Nat → Int} {m : Nat} (ha : n - (k + 1) = a) (h : g a = false) : firstG w n (k + 1) g o m = firstG w n k (cov g a (toG w n g a)) (fun i => if i = a ∨ i = toG w n g a then (m : Int) else o i) (m + 1) := by
  subst ha
  show (if g (n - (k + 1)) then _ else _) = _
  rw [if_neg (by rw [h]; decide)]
/-- There is a mate where there is a way. -/
theorem mate {w h n k a : Nat} {g : Nat → Bool} (hn : n = w * h) (hw : 1 ≤ w) (hk : k + 1 ≤ n) (ha : n - (k + 1) = a) (hg : ∀ i, i < a → g i = true) (hc : g a = false) (hp : 0 < tileT w n n g) :
    a < toG w n g a ∧ toG w n g a < n ∧ g (toG w n g a) = false ∧ adjG w a (toG w n g a) = true ∧ 0 < tileT w n n (cov g a (toG w n g a)) := by
  have hak : n - k = a + 1 := by omega
  have hcov : ∀ y i, i < n - k → cov g a y i = true := fun y i hi => by
    by_cases e : i = a
    · subst e; exact cov_l g i y
    · exact cov_true (hg i (by omega))
  have hf : ∀ y, tileT w n n (cov g a y) = tileT w n k (cov g a y) := fun y => tile_from n k (by omega) (Nat.le_refl _) (hcov y)
  rw [tile_from n (k + 1) hk (Nat.le_refl _) (fun i hi => hg i (by omega)), tile_step, ha, if_neg (by rw [hc]; decide)] at hp
  unfold toG
  by_cases h1 : (decide (a % w + 1 < w) && !g (a + 1) && decide (0 < tileT w n n (cov g a (a + 1)))) = true
  · rw [if_pos h1]
    simp only [Bool.and_eq_true, decide_eq_true_eq, Bool.not_eq_true'] at h1
    obtain ⟨⟨h2, h3⟩, h4⟩ := h1
    refine ⟨by omega, ?_, h3, ?_, h4⟩
    · have e1 := Nat.div_add_mod a w
      have e2 : a / w < h := Nat.div_lt_of_lt_mul (by rw [← hn]; omega)
      have e3 : w * (a / w + 1) ≤ w * h := Nat.mul_le_mul_left w e2
      rw [Nat.mul_add, Nat.mul_one] at e3
      omega
    · unfold adjG
      rw [show (a / w == (a + 1) / w) = true from beq_iff_eq.2 ((next_row hw).2 h2)]
      simp
  · rw [if_neg h1]
    have hz : (if decide (a % w + 1 < w) && !g (a + 1) then tileT w n k (cov g a (a + 1)) else 0) = 0 := by
      by_cases h2 : (decide (a % w + 1 < w) && !g (a + 1)) = true
      · rw [if_pos h2]
        rw [h2, Bool.true_and, decide_eq_true_eq, hf] at h1
        omega
      · rw [if_neg h2]
    rw [hz, Nat.zero_add] at hp
    by_cases h2 : (decide (a + w < n) && !g (a + w)) = true
    · rw [if_pos h2, ← hf] at hp
      simp only [Bool.and_eq_true, decide_eq_true_eq, Bool.not_eq_true'] at h2
      refine ⟨by omega, h2.1, h2.2, ?_, hp⟩
      unfold adjG
      rw [show (a % w == (a + w) % w) = true by simp]
      simp
    · rw [if_neg h2] at hp; omega

/-- What holds on the way: of the holes g0, the covered g, the numbers o, up to m. -/
structure OnWay (w n : Nat) (g0 g : Nat → Bool) (o : Nat → Int) (m : Nat) : Prop where
  hole : ∀ i, i < n → g0 i = true → o i = -1 ∧ g i = true
  free : ∀ i, i < n → g i = false → o i = -1
  pair : ∀ i, i < n → g i = true → g0 i = false → ∃ j, j < n ∧ j ≠ i ∧ adjG w i j = true ∧ 0 ≤ o i ∧ o i < (m : Int) ∧ o j = o i ∧ ∀ l, l < n → o l = o i → l = i ∨ l = j
  num : freeN (fun _ => true) g0 n = freeN (fun _ => true) g n + 2 * m
  some_ : ∀ p : Nat, p < m → ∃ i, i < n ∧ o i = (p : Int)
theorem OnWay.start (w n : Nat) (g : Nat → Bool) : OnWay w n g g (fun _ => -1) 0 :=
  ⟨fun i _ h => ⟨rfl, h⟩, fun _ _ _ => rfl, fun i _ h h' => absurd (h.symm.trans h') (by decide), by omega, fun p hp => absurd hp (by omega)⟩
theorem OnWay.step {w n : Nat} {g0 g : Nat → Bool} {o : Nat → Int} {m a b : Nat} (h : OnWay w n g0 g o m) (ha : a < n) (hb : b < n) (hab : a ≠ b) (ga : g a = false) (gb : g b = false) (hadj : adjG w a b = true) :
    OnWay w n g0 (cov g a b) (fun i => if i = a ∨ i = b then (m : Int) else o i) (m + 1) where
  hole := fun i hi h0 => by
    obtain ⟨e1, e2⟩ := h.hole i hi h0
    have n1 : ¬ (i = a ∨ i = b) := by
      rintro (rfl | rfl)
      · rw [ga] at e2; cases e2
      · rw [gb] at e2; cases e2
    exact ⟨by rw [if_neg n1]; exact e1, cov_true e2⟩
  free := fun i hi hg => by
    have n1 : ¬ (i = a ∨ i = b) := by
      rintro (rfl | rfl)
      · rw [cov_l] at hg; cases hg
      · rw [cov_r] at hg; cases hg
    rw [if_neg n1]
    refine h.free i hi ?_
    rwa [cov_ne (fun e => n1 (.inl e)) (fun e => n1 (.inr e))] at hg
  pair := fun i hi hg h0 => by
    have low : ∀ l, l < n → ¬ (l = a ∨ l = b) → o l ≠ (m : Int) := fun l hl hn e => by
      cases hgl : g l with
      | false => rw [h.free l hl hgl] at e; omega
      | true =>
        cases h0l : g0 l with
        | true => rw [(h.hole l hl h0l).1] at e; omega
        | false => obtain ⟨_, _, _, _, _, e2, _⟩ := h.pair l hl hgl h0l; omega
    by_cases n1 : i = a ∨ i = b
    · rcases n1 with rfl | rfl
      · refine ⟨b, hb, hab.symm, hadj, by simp, by simp; omega, by simp, fun l hl e => ?_⟩
        by_cases n2 : l = i ∨ l = b
        · exact n2
        · rw [if_neg n2, if_pos (.inl rfl)] at e
          exact absurd e (low l hl n2)
      · refine ⟨a, ha, hab, by rw [adjG_sym]; exact hadj, by simp, by simp; omega, by simp, fun l hl e => ?_⟩
        by_cases n2 : l = a ∨ l = i
        · exact n2.symm
        · rw [if_neg n2, if_pos (.inr rfl)] at e
          exact absurd e (low l hl n2)
    · rw [cov_ne (fun e => n1 (.inl e)) (fun e => n1 (.inr e))] at hg
      obtain ⟨j, hj, hji, e1, e2, e3, e4, e5⟩ := h.pair i hi hg h0
      have n2 : ¬ (j = a ∨ j = b) := by
        rintro (rfl | rfl)
        · rw [h.free j hj ga] at e4; omega
        · rw [h.free j hj gb] at e4; omega
      refine ⟨j, hj, hji, e1, by rw [if_neg n1]; exact e2, by rw [if_neg n1]; omega, by rw [if_neg n1, if_neg n2]; exact e4, fun l hl e => ?_⟩
      rw [if_neg n1] at e
      by_cases n3 : l = a ∨ l = b
      · rw [if_pos n3] at e; omega
      · rw [if_neg n3] at e; exact e5 l hl e
  num := by
    have := h.num
    rw [free_cov (col := fun _ => true) ha hb hab ga gb] at this
    simp only [if_true] at this
    omega
  some_ := fun p hp => by
    by_cases e : p = m
    · subst e; exact ⟨a, ha, by simp⟩
    · obtain ⟨i, hi, ei⟩ := h.some_ p (by omega)
      have n1 : ¬ (i = a ∨ i = b) := by
        rintro (rfl | rfl)
        · rw [h.free i hi ga] at ei; omega
        · rw [h.free i hi gb] at ei; omega
      exact ⟨i, hi, by rw [if_neg n1]; exact ei⟩

/-- THE FIRST WAY COVERS ALL. -/
theorem first_ok {w h n : Nat} {g0 : Nat → Bool} (hn : n = w * h) (hw : 1 ≤ w) : ∀ (k : Nat) (g : Nat → Bool) (o : Nat → Int) (m : Nat), k ≤ n → (∀ i, i < n - k → g i = true) → 0 < tileT w n n g → OnWay w n g0 g o m →
    ∃ g', (∀ i, i < n → g' i = true) ∧ OnWay w n g0 g' (firstG w n k g o m).1 (firstG w n k g o m).2
  | 0, g, o, m, _, hg, _, hw' => ⟨g, fun i hi => hg i (by omega), hw'⟩
  | k + 1, g, o, m, hk, hg, hp, hw' => by
    obtain ⟨a, ha⟩ : ∃ a, n - (k + 1) = a := ⟨_, rfl⟩
    cases hc : g a with
    | true =>
      rw [first_skip (by rw [ha]; exact hc)]
      exact first_ok hn hw k g o m (by omega) (fun i hi => by
        by_cases e : i = a
        · subst e; exact hc
        · exact hg i (by omega)) hp hw'
    | false =>
      obtain ⟨m1, m2, m3, m4, m5⟩ := mate hn hw hk ha (fun i hi => hg i (by omega)) hc hp
      rw [first_step ha hc]
      exact first_ok hn hw k _ _ _ (by omega) (fun i hi => by
        by_cases e : i = a
        · subst e; exact cov_l g i _
        · exact cov_true (hg i (by omega))) m5 (hw'.step (by omega) m2 (by omega) hc m3 m4)
/-- Numbers that are given stay. -/
theorem first_keep {w h n : Nat} (hn : n = w * h) (hw : 1 ≤ w) : ∀ (k : Nat) (g : Nat → Bool) (o : Nat → Int) (m : Nat), k ≤ n → (∀ i, i < n - k → g i = true) → 0 < tileT w n n g → ∀ i, i < n →
    (g i = true → (firstG w n k g o m).1 i = o i) ∧ (g i = false → (m : Int) ≤ (firstG w n k g o m).1 i)
  | 0, g, o, m, _, hg, _, i, hi => ⟨fun _ => rfl, fun h => by rw [hg i (by omega)] at h; cases h⟩
  | k + 1, g, o, m, hk, hg, hp, i, hi => by
    obtain ⟨a, ha⟩ : ∃ a, n - (k + 1) = a := ⟨_, rfl⟩
    cases hc : g a with
    | true =>
      rw [first_skip (by rw [ha]; exact hc)]
      exact first_keep hn hw k g o m (by omega) (fun i hi => by
        by_cases e : i = a
        · subst e; exact hc
        · exact hg i (by omega)) hp i hi
    | false =>
      obtain ⟨m1, m2, m3, m4, m5⟩ := mate hn hw hk ha (fun i hi => hg i (by omega)) hc hp
      rw [first_step ha hc]
      obtain ⟨q1, q2⟩ := first_keep hn hw k (cov g a (toG w n g a)) (fun i => if i = a ∨ i = toG w n g a then (m : Int) else o i) (m + 1) (by omega) (fun i hi => by
        by_cases e : i = a
        · subst e; exact cov_l g i _
        · exact cov_true (hg i (by omega))) m5 i hi
      by_cases n1 : i = a ∨ i = toG w n g a
      · have hcv : cov g a (toG w n g a) i = true := by
          rcases n1 with e | e
          · rw [e]; exact cov_l _ _ _
          · rw [e]; exact cov_r _ _ _
        have := q1 hcv
        simp only [if_pos n1] at this
        refine ⟨fun hgi => ?_, fun _ => by rw [this]; omega⟩
        rcases n1 with e | e
        · rw [e, hc] at hgi; cases hgi
        · rw [e, m3] at hgi; cases hgi
      · have hcv : cov g a (toG w n g a) i = g i := cov_ne (fun e => n1 (.inl e)) (fun e => n1 (.inr e))
        rw [hcv] at q1 q2
        refine ⟨fun hgi => ?_, fun hgi => ?_⟩
        · have := q1 hgi
          simp only [if_neg n1] at this
          exact this
        · have := q2 hgi
          omega
/-- The first piece, and that the rest is covered without it. -/
theorem first_piece {w h n : Nat} (hn : n = w * h) (hw : 1 ≤ w) : ∀ (k : Nat) (g : Nat → Bool), k ≤ n → (∀ i, i < n - k → g i = true) → 0 < tileT w n n g → (∃ i, i < n ∧ g i = false) →
    ∃ a b, a < n ∧ b < n ∧ a ≠ b ∧ g a = false ∧ g b = false ∧ adjG w a b = true ∧ 0 < tileT w n n (cov g a b) ∧ ∀ i, i < n → ((firstG w n k g (fun _ => -1) 0).1 i ≤ 0 ↔ cov g a b i = true)
  | 0, g, _, hg, _, hf => by
    obtain ⟨i, hi, e⟩ := hf
    rw [hg i (by omega)] at e; cases e
  | k + 1, g, hk, hg, hp, hf => by
    obtain ⟨a, ha⟩ : ∃ a, n - (k + 1) = a := ⟨_, rfl⟩
    cases hc : g a with
    | true =>
      rw [first_skip (by rw [ha]; exact hc)]
      exact first_piece hn hw k g (by omega) (fun i hi => by
        by_cases e : i = a
        · subst e; exact hc
        · exact hg i (by omega)) hp hf
    | false =>
      obtain ⟨m1, m2, m3, m4, m5⟩ := mate hn hw hk ha (fun i hi => hg i (by omega)) hc hp
      rw [first_step ha hc]
      refine ⟨a, toG w n g a, by omega, m2, by omega, hc, m3, m4, m5, fun i hi => ?_⟩
      obtain ⟨q1, q2⟩ := first_keep hn hw k (cov g a (toG w n g a)) (fun i => if i = a ∨ i = toG w n g a then ((0 : Nat) : Int) else -1) (0 + 1) (by omega) (fun i hi => by
        by_cases e : i = a
        · subst e; exact cov_l g i _
        · exact cov_true (hg i (by omega))) m5 i hi
      cases hcv : cov g a (toG w n g a) i with
      | true =>
        refine ⟨fun _ => rfl, fun _ => ?_⟩
        rw [q1 hcv]
        split <;> omega
      | false =>
        refine ⟨fun hle => ?_, fun e => by cases e⟩
        have := q2 hcv
        omega
end Go.Proofs.YtnikgnicjbcbmabDoor

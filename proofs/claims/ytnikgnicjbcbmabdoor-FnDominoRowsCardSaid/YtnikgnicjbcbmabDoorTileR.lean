
/-
  Covers of boards, purely: row by row it is the same as cell by cell.
-/
import Derived.Test.YtnikgnicjbcbmabDoorTileQ
import Derived.Test.YtnikgnicjbcbmabDoorBitP
namespace Go.Proofs.YtnikgnicjbcbmabDoor
set_option linter.unusedVariables false

theorem bit_zero (i : Nat) : bitN 0 i = 0 := by simp [bitN]
theorem bit_set : ∀ c : Fin 5, ∀ d : Fin 32, d.val < 2 ^ c.val → ∀ i : Fin 5, bitN (d.val + 2 ^ c.val) i.val = if i.val = c.val then 1 else bitN d.val i.val := by decide +kernel
theorem bit_high : ∀ c : Fin 6, ∀ d : Fin 32, d.val < 2 ^ c.val → ∀ i : Fin 6, c.val ≤ i.val → bitN d.val i.val = 0 := by decide +kernel
theorem bit_none : ∀ d : Fin 32, (∀ i : Fin 5, bitN d.val i.val = 0) → d.val = 0 := by decide +kernel

/-- The ways of a row with the cells s covered from the row ahead: j columns are left, d is what is covered in the next row. -/
def spr (w : Nat) (g : Nat → Bool) (s : Nat) (next : Nat → Nat) : Nat → Nat → Nat
  | 0, d => next d
  | 1, d => if g (w - 1) then (if bitN s (w - 1) = 0 then next d else 0) else if bitN s (w - 1) = 1 then next d else next (d + 2 ^ (w - 1))
  | j + 2, d =>
    let c := w - (j + 2)
    if g c then (if bitN s c = 0 then spr w g s next (j + 1) d else 0) else if bitN s c = 1 then spr w g s next (j + 1) d else
      spr w g s next (j + 1) (d + 2 ^ c) + if !g (c + 1) && bitN s (c + 1) == 0 then spr w g s next j d else 0
theorem spr_two (w : Nat) (g : Nat → Bool) (s : Nat) (next : Nat → Nat) (j d : Nat) : spr w g s next (j + 2) d =
    if g (w - (j + 2)) then (if bitN s (w - (j + 2)) = 0 then spr w g s next (j + 1) d else 0) else if bitN s (w - (j + 2)) = 1 then spr w g s next (j + 1) d else
      spr w g s next (j + 1) (d + 2 ^ (w - (j + 2))) + if !g (w - (j + 2) + 1) && bitN s (w - (j + 2) + 1) == 0 then spr w g s next j d else 0 := rfl
def rowG (w r : Nat) (g : Nat → Bool) : Nat → Bool := fun c => g (r * w + c)
/-- The ways of the last m of h rows. -/
def rowsT (w h : Nat) (g : Nat → Bool) : Nat → Nat → Nat
  | 0, s => if s = 0 then 1 else 0
  | m + 1, s => spr w (rowG w (h - (m + 1)) g) s (rowsT w h g m) w 0

/-- What cannot be covered in the next row leaves no way. -/
theorem spr_bad {w : Nat} {g : Nat → Bool} {s : Nat} {next : Nat → Nat} {c0 : Nat} (hw : w ≤ 5) (hn : ∀ e, e < 2 ^ w → bitN e c0 = 1 → next e = 0) : ∀ (j d : Nat), j ≤ w → c0 < w - j → d < 2 ^ (w - j) → bitN d c0 = 1 → spr w g s next j d = 0
  | 0, d, _, _, hd, hb => hn d hd hb
  | 1, d, hj, hc, hd, hb => by
    have h1 : 2 ^ w = 2 * 2 ^ (w - 1) := by rw [← Nat.pow_succ']; congr 1; omega
    have e1 : next d = 0 := hn d (by omega) hb
    have e2 : next (d + 2 ^ (w - 1)) = 0 := hn _ (by omega) (by
      have := bit_set ⟨w - 1, by omega⟩ ⟨d, Nat.lt_of_lt_of_le hd (Nat.pow_le_pow_right (n := 2) (by omega) (show w - 1 ≤ 5 by omega))⟩ hd ⟨c0, by omega⟩
      simp only at this
      rw [this, if_neg (by omega)]
      exact hb)
    unfold spr
    rw [e1, e2]
    split <;> split <;> rfl
  | j + 2, d, hj, hc, hd, hb => by
    have h1 : 2 ^ (w - (j + 1)) = 2 * 2 ^ (w - (j + 2)) := by rw [← Nat.pow_succ']; congr 1; omega
    have h2 : 2 ^ (w - j) = 2 * 2 ^ (w - (j + 1)) := by rw [← Nat.pow_succ']; congr 1; omega
    have e1 := spr_bad hw hn (g := g) (s := s) (j + 1) d (by omega) (by omega) (by omega) hb
    have e2 := spr_bad hw hn (g := g) (s := s) j d (by omega) (by omega) (by omega) hb
    have e3 := spr_bad hw hn (g := g) (s := s) (j + 1) (d + 2 ^ (w - (j + 2))) (by omega) (by omega) (by omega) (by
      have := bit_set ⟨w - (j + 2), by omega⟩ ⟨d, Nat.lt_of_lt_of_le hd (Nat.pow_le_pow_right (n := 2) (by omega) (show w - (j + 2) ≤ 5 by omega))⟩ hd ⟨c0, by omega⟩
      simp only at this
      rw [this, if_neg (by omega)]
      exact hb)
    unfold spr
    simp only [e1, e2, e3]
    split <;> split <;> simp
/-- A hole that is covered from the row ahead leaves no way. -/
theorem spr_hole {w : Nat} {g : Nat → Bool} {s : Nat} {next : Nat → Nat} {c0 : Nat} (hc : c0 < w) (hg : g c0 = true) (hb : bitN s c0 = 1) : ∀ (j d : Nat), j ≤ w → w - j ≤ c0 → spr w g s next j d = 0
  | 0, d, _, h => by omega
  | 1, d, _, h => by
    obtain rfl : c0 = w - 1 := by omega
    unfold spr
    rw [if_pos hg, if_neg (by omega)]
  | j + 2, d, hj, h => by
    unfold spr
    by_cases e : c0 = w - (j + 2)
    · subst e
      simp only [hg, if_true]
      rw [if_neg (by omega)]
    · have e1 := fun d => spr_hole (s := s) (next := next) hc hg hb (j + 1) d (by omega) (by omega)
      simp only [e1]
      by_cases e2 : c0 = w - (j + 2) + 1
      · rw [← e2, hg]
        simp
      · rw [spr_hole (s := s) (next := next) hc hg hb j d (by omega) (by omega)]
        simp
theorem rows_hole {w h : Nat} {g : Nat → Bool} {m s c0 : Nat} (hc : c0 < w) (hb : bitN s c0 = 1) (hg : 0 < m → g ((h - m) * w + c0) = true) : rowsT w h g m s = 0 := by
  cases m with
  | zero =>
    unfold rowsT
    rw [if_neg]
    intro e
    subst e
    rw [bit_zero] at hb
    cases hb
  | succ m =>
    unfold rowsT
    exact spr_hole hc (hg (by omega)) hb w 0 (Nat.le_refl _) (by omega)

/-- The cells that are covered: holes, those before, those that rows ahead cover. -/
def stT (w : Nat) (g : Nat → Bool) (r c s d : Nat) : Nat → Bool := fun i => g i || decide (i < r * w + c) || (decide (i / w = r) && bitN s (i % w) == 1) || (decide (i / w = r + 1) && bitN d (i % w) == 1)
theorem cell_div {w r c : Nat} (h : c < w) : (r * w + c) / w = r ∧ (r * w + c) % w = c := by
  have hw : 0 < w := by omega
  rw [Nat.mul_comm, Nat.mul_add_div hw, Nat.div_eq_of_lt h, Nat.mul_add_mod, Nat.mod_eq_of_lt h]
  exact ⟨rfl, rfl⟩
theorem st_next {w : Nat} (hw : 0 < w) (g : Nat → Bool) (r s d : Nat) : stT w g r w s d = stT w g (r + 1) 0 d 0 := funext fun i => by
  unfold stT
  have e : r * w + w = (r + 1) * w + 0 := by rw [Nat.add_mul]; omega
  rw [e]
  by_cases h : i < (r + 1) * w + 0
  · rw [decide_eq_true h]
    simp only [Bool.or_true, Bool.true_or]
  · have hd : ¬ i / w = r := fun h' => h (by
      have h1 := Nat.div_add_mod i w
      have h2 := Nat.mod_lt i hw
      rw [h', Nat.mul_comm] at h1
      rw [Nat.add_mul]
      omega)
    rw [decide_eq_false h, decide_eq_false hd, bit_zero]
    simp
theorem st_skip {w : Nat} {g : Nat → Bool} {r c s d : Nat} (h : stT w g r c s d (r * w + c) = true) : stT w g r c s d = stT w g r (c + 1) s d := funext fun i => by
  by_cases e : i = r * w + c
  · rw [e, h]
    unfold stT
    rw [decide_eq_true (show r * w + c < r * w + (c + 1) by omega)]
    simp
  · unfold stT
    rw [show decide (i < r * w + (c + 1)) = decide (i < r * w + c) by
      by_cases h' : i < r * w + c
      · rw [decide_eq_true h', decide_eq_true (by omega)]
      · rw [decide_eq_false h', decide_eq_false (by omega)]]
theorem st_right {w : Nat} {g : Nat → Bool} {r c s d : Nat} : cov (stT w g r c s d) (r * w + c) (r * w + c + 1) = stT w g r (c + 2) s d := funext fun i => by
  unfold cov stT
  by_cases e1 : i = r * w + c
  · subst e1
    rw [decide_eq_true (show r * w + c < r * w + (c + 2) by omega)]
    simp
  · by_cases e2 : i = r * w + c + 1
    · subst e2
      rw [decide_eq_true (show r * w + c + 1 < r * w + (c + 2) by omega)]
      simp
    · rw [beq_eq_false_iff_ne.2 e1, beq_eq_false_iff_ne.2 e2, show decide (i < r * w + (c + 2)) = decide (i < r * w + c) by
        by_cases h' : i < r * w + c
        · rw [decide_eq_true h', decide_eq_true (by omega)]
        · rw [decide_eq_false h', decide_eq_false (by omega)]]
      simp
theorem st_down {w : Nat} {g : Nat → Bool} {r c s d : Nat} (hw : w ≤ 5) (hc : c < w) (hd : d < 2 ^ c) : cov (stT w g r c s d) (r * w + c) (r * w + c + w) = stT w g r (c + 1) s (d + 2 ^ c) := funext fun i => by
  unfold cov stT
  have hd32 : d < 32 := Nat.lt_of_lt_of_le hd (Nat.pow_le_pow_right (n := 2) (by omega) (show c ≤ 5 by omega))
  have hcell : r * w + c + w = (r + 1) * w + c := by rw [Nat.add_mul]; omega
  by_cases e1 : i = r * w + c
  · subst e1
    rw [decide_eq_true (show r * w + c < r * w + (c + 1) by omega)]
    simp
  · rw [beq_eq_false_iff_ne.2 e1, show decide (i < r * w + (c + 1)) = decide (i < r * w + c) by
      by_cases h' : i < r * w + c
      · rw [decide_eq_true h', decide_eq_true (by omega)]
      · rw [decide_eq_false h', decide_eq_false (by omega)]]
    by_cases hr : i / w = r + 1
    · have hm := Nat.mod_lt i (show 0 < w by omega)
      have hb := bit_set ⟨c, by omega⟩ ⟨d, hd32⟩ hd ⟨i % w, by omega⟩
      simp only at hb
      rw [hb]
      have hdm := Nat.div_add_mod i w
      rw [hr, Nat.mul_comm] at hdm
      by_cases e2 : i % w = c
      · have e3 : i = r * w + c + w := by rw [hcell]; omega
        rw [if_pos e2, show (i == r * w + c + w) = true from beq_iff_eq.2 e3]
        simp [hr]
      · have e3 : i ≠ r * w + c + w := by rw [hcell]; omega
        rw [if_neg e2, beq_eq_false_iff_ne.2 e3]
        simp
    · have e3 : i ≠ r * w + c + w := fun e => hr (by rw [e, hcell]; exact (cell_div hc).1)
      rw [beq_eq_false_iff_ne.2 e3, decide_eq_false hr]
      simp

theorem tile_step (w n k : Nat) (c : Nat → Bool) : tileT w n (k + 1) c = if c (n - (k + 1)) then tileT w n k c else
    (if decide ((n - (k + 1)) % w + 1 < w) && !c (n - (k + 1) + 1) then tileT w n k (cov c (n - (k + 1)) (n - (k + 1) + 1)) else 0) + (if decide (n - (k + 1) + w < n) && !c (n - (k + 1) + w) then tileT w n k (cov c (n - (k + 1)) (n - (k + 1) + w)) else 0) := rfl
theorem st_free {w : Nat} {g : Nat → Bool} {r c s d i : Nat} (h1 : r * w + c ≤ i) : stT w g r c s d i = (g i || (decide (i / w = r) && bitN s (i % w) == 1) || (decide (i / w = r + 1) && bitN d (i % w) == 1)) := by
  unfold stT
  rw [decide_eq_false (show ¬ i < r * w + c by omega), Bool.or_false]

/-- IN A ROW: cell by cell is column by column. -/
theorem tile_row {w h : Nat} {g : Nat → Bool} (hw : 1 ≤ w ∧ w ≤ 5) {r : Nat} (hr : r < h) {next : Nat → Nat}
    (hnext : ∀ d, d < 2 ^ w → (∀ i, i < w → bitN d i = 1 → r + 1 < h ∧ g ((r + 1) * w + i) = false) → tileT w (w * h) (w * h - (r + 1) * w) (stT w g (r + 1) 0 d 0) = next d)
    (hbad : ∀ d i, i < w → bitN d i = 1 → (r + 1 < h → g ((r + 1) * w + i) = true) → next d = 0) {s : Nat} (hs : ∀ i, i < w → bitN s i = 1 → g (r * w + i) = false) :
    ∀ (j d : Nat), j ≤ w → d < 2 ^ (w - j) → (∀ i, i < w → bitN d i = 1 → r + 1 < h ∧ g ((r + 1) * w + i) = false) →
      tileT w (w * h) (w * h - (r * w + (w - j))) (stT w g r (w - j) s d) = spr w (rowG w r g) s next j d := by
  have hwh : r * w + w ≤ w * h := by
    have := Nat.mul_le_mul_right w (show r + 1 ≤ h from hr)
    rw [Nat.add_mul, Nat.mul_comm h w] at this
    omega
  -- one step at a column: the tile's step, said by the states
  have step : ∀ (j d : Nat), j + 1 ≤ w → d < 2 ^ (w - (j + 1)) → (∀ i, i < w → bitN d i = 1 → r + 1 < h ∧ g ((r + 1) * w + i) = false) →
      tileT w (w * h) (w * h - (r * w + (w - (j + 1)))) (stT w g r (w - (j + 1)) s d) =
        if rowG w r g (w - (j + 1)) || bitN s (w - (j + 1)) == 1 then tileT w (w * h) (w * h - (r * w + (w - j))) (stT w g r (w - j) s d)
        else (if decide (1 ≤ j) && !(rowG w r g (w - j)) && !(bitN s (w - j) == 1) then tileT w (w * h) (w * h - (r * w + (w - j))) (stT w g r (w - j + 1) s d) else 0) +
          (if decide (r + 1 < h) && !(g ((r + 1) * w + (w - (j + 1)))) then tileT w (w * h) (w * h - (r * w + (w - j))) (stT w g r (w - j) s (d + 2 ^ (w - (j + 1)))) else 0) := fun j d hj hd hdd => by
    obtain ⟨c, hc⟩ : ∃ c, w - (j + 1) = c := ⟨_, rfl⟩
    have hcj : w - j = c + 1 := by omega
    have hcw : c < w := by omega
    rw [hc, hcj]
    obtain ⟨k, hk⟩ : ∃ k, w * h - (r * w + c) = k + 1 := ⟨w * h - (r * w + c) - 1, by omega⟩
    have hk' : w * h - (r * w + (c + 1)) = k := by omega
    have ha : w * h - (k + 1) = r * w + c := by omega
    obtain ⟨cd, cm⟩ := cell_div (r := r) hcw
    have hdc : d < 2 ^ c := by rw [← hc]; exact hd
    have hd32 : d < 32 := Nat.lt_of_lt_of_le hdc (Nat.le_trans (Nat.pow_le_pow_right (by omega) (show c ≤ 5 by omega)) (by decide))
    have hbd : bitN d c = 0 := bit_high ⟨c, by omega⟩ ⟨d, hd32⟩ hdc ⟨c, by omega⟩ (Nat.le_refl _)
    have hst : stT w g r c s d (r * w + c) = (rowG w r g c || bitN s c == 1) := by
      rw [st_free (Nat.le_refl _), cd, cm]
      simp [rowG]
    rw [hk, hk', tile_step]
    simp only [ha, hst]
    by_cases hcov : (rowG w r g c || bitN s c == 1) = true
    · rw [if_pos hcov, if_pos hcov]
      rw [hcov] at hst
      rw [← st_skip hst]
    · rw [if_neg hcov, if_neg hcov, st_right, st_down hw.2 hcw hdc, cm]
      congr 1
      · by_cases h1 : c + 1 < w
        · obtain ⟨cd1, cm1⟩ := cell_div (r := r) h1
          rw [show r * w + c + 1 = r * w + (c + 1) by omega, st_free (by omega), cd1, cm1, decide_eq_true h1, decide_eq_true (show 1 ≤ j by omega)]
          simp [rowG]
        · rw [decide_eq_false h1, decide_eq_false (show ¬ 1 ≤ j by omega)]
          simp
      · by_cases h1 : r + 1 < h
        · have h2 : r * w + c + w = (r + 1) * w + c := by rw [Nat.add_mul]; omega
          obtain ⟨cd1, cm1⟩ := cell_div (r := r + 1) hcw
          have h3 : (r + 1) * w + c < w * h := by
            have := Nat.mul_le_mul_right w (show r + 1 + 1 ≤ h from h1)
            rw [Nat.add_mul (r + 1), Nat.mul_comm h w] at this
            omega
          rw [h2, st_free (by rw [Nat.add_mul]; omega), cd1, cm1, decide_eq_true h3, decide_eq_true h1, hbd]
          simp
        · have h3 : ¬ r * w + c + w < w * h := by
            have : h = r + 1 := by omega
            subst this
            rw [Nat.mul_comm w (r + 1), Nat.add_mul]
            omega
          rw [decide_eq_false h3, decide_eq_false h1]
          simp
  have down : ∀ (j d : Nat), j + 1 ≤ w → d < 2 ^ (w - (j + 1)) → (∀ i, i < w → bitN d i = 1 → r + 1 < h ∧ g ((r + 1) * w + i) = false) →
      (tileT w (w * h) (w * h - (r * w + (w - j))) (stT w g r (w - j) s (d + 2 ^ (w - (j + 1)))) = spr w (rowG w r g) s next j (d + 2 ^ (w - (j + 1))) ∨ ¬ (r + 1 < h ∧ g ((r + 1) * w + (w - (j + 1))) = false)) →
      (if decide (r + 1 < h) && !(g ((r + 1) * w + (w - (j + 1)))) then tileT w (w * h) (w * h - (r * w + (w - j))) (stT w g r (w - j) s (d + 2 ^ (w - (j + 1)))) else 0) = spr w (rowG w r g) s next j (d + 2 ^ (w - (j + 1))) := fun j d hj hd hdd hor => by
    by_cases h1 : r + 1 < h ∧ g ((r + 1) * w + (w - (j + 1))) = false
    · rw [decide_eq_true h1.1, h1.2, if_pos (by decide)]
      rcases hor with h' | h'
      · exact h'
      · exact absurd h1 h'
    · rw [if_neg (fun h' => h1 (by simpa using h'))]
      symm
      refine spr_bad (c0 := w - (j + 1)) hw.2 (fun e he hb => hbad e (w - (j + 1)) (by omega) hb (fun h2 => ?_)) j _ (by omega) (by omega) ?_ ?_
      · cases hg : g ((r + 1) * w + (w - (j + 1))) with
        | true => rfl
        | false => exact absurd ⟨h2, hg⟩ h1
      · have h2 : 2 ^ (w - j) = 2 * 2 ^ (w - (j + 1)) := by rw [← Nat.pow_succ']; congr 1; omega
        omega
      · have := bit_set ⟨w - (j + 1), by omega⟩ ⟨d, Nat.lt_of_lt_of_le hd (Nat.le_trans (Nat.pow_le_pow_right (by omega) (show w - (j + 1) ≤ 5 by omega)) (by decide))⟩ hd ⟨w - (j + 1), by omega⟩
        simp only at this
        rw [this]
        exact if_pos trivial
  have more : ∀ (j d : Nat), j + 1 ≤ w → d < 2 ^ (w - (j + 1)) → (∀ i, i < w → bitN d i = 1 → r + 1 < h ∧ g ((r + 1) * w + i) = false) → r + 1 < h ∧ g ((r + 1) * w + (w - (j + 1))) = false → d + 2 ^ (w - (j + 1)) < 2 ^ (w - j) ∧ ∀ i, i < w → bitN (d + 2 ^ (w - (j + 1))) i = 1 → r + 1 < h ∧ g ((r + 1) * w + i) = false := fun j d hj hd hdd h1 => by
    have h2 : 2 ^ (w - j) = 2 * 2 ^ (w - (j + 1)) := by rw [← Nat.pow_succ']; congr 1; omega
    refine ⟨by omega, fun i hi hb => ?_⟩
    have := bit_set ⟨w - (j + 1), by omega⟩ ⟨d, Nat.lt_of_lt_of_le hd (Nat.le_trans (Nat.pow_le_pow_right (by omega) (show w - (j + 1) ≤ 5 by omega)) (by decide))⟩ hd ⟨i, by omega⟩
    simp only at this
    rw [this] at hb
    by_cases e : i = w - (j + 1)
    · rw [e]; exact h1
    · rw [if_neg e] at hb
      exact hdd i hi hb
  have grow : ∀ (j d : Nat), j + 1 ≤ w → d < 2 ^ (w - (j + 1)) → d < 2 ^ (w - j) := fun j d hj hd => Nat.lt_of_lt_of_le hd (Nat.pow_le_pow_right (by omega) (by omega))
  have zero : ∀ d, d < 2 ^ (w - 0) → (∀ i, i < w → bitN d i = 1 → r + 1 < h ∧ g ((r + 1) * w + i) = false) → tileT w (w * h) (w * h - (r * w + (w - 0))) (stT w g r (w - 0) s d) = spr w (rowG w r g) s next 0 d := fun d hd hdd => by
    rw [Nat.sub_zero, st_next (by omega), show r * w + w = (r + 1) * w by rw [Nat.add_mul]; omega]
    exact hnext d hd hdd
  have one : ∀ d, 1 ≤ w → d < 2 ^ (w - 1) → (∀ i, i < w → bitN d i = 1 → r + 1 < h ∧ g ((r + 1) * w + i) = false) → tileT w (w * h) (w * h - (r * w + (w - 1))) (stT w g r (w - 1) s d) = spr w (rowG w r g) s next 1 d := fun d h1 hd hdd => by
    rw [step 0 d h1 hd hdd]
    have hz := zero d (grow 0 d h1 hd) hdd
    have hdn := down 0 d h1 hd hdd (by
      by_cases hq : r + 1 < h ∧ g ((r + 1) * w + (w - (0 + 1))) = false
      · obtain ⟨m1, m2⟩ := more 0 d h1 hd hdd hq
        exact .inl (zero _ m1 m2)
      · exact .inr hq)
    rw [hz, hdn]
    simp only [Nat.zero_add, decide_eq_false (show ¬ (1 ≤ 0) by omega), Bool.false_and, Bool.false_eq_true, if_false]
    unfold spr
    cases hg : rowG w r g (w - 1) with
    | true =>
      have hb : bitN s (w - 1) = 0 := by
        rcases bitN_two s (w - 1) with hb | hb
        · exact hb
        · have := hs (w - 1) (by omega) hb
          unfold rowG at hg
          rw [this] at hg; cases hg
      simp [hb]
    | false =>
      rcases bitN_two s (w - 1) with hb | hb <;> simp [hb]
  intro j
  induction j using Nat.strongRecOn with
  | _ j ih =>
    intro d hj hd hdd
    match j, ih, hj, hd with
    | 0, _, _, hd => exact zero d hd hdd
    | 1, _, hj, hd => exact one d hj hd hdd
    | j + 2, ih, hj, hd =>
      rw [step (j + 1) d hj hd hdd, ih (j + 1) (by omega) d (by omega) (grow (j + 1) d hj hd) hdd, down (j + 1) d hj hd hdd (by
        by_cases hq : r + 1 < h ∧ g ((r + 1) * w + (w - (j + 1 + 1))) = false
        · obtain ⟨m1, m2⟩ := more (j + 1) d hj hd hdd hq
          exact .inl (ih (j + 1) (by omega) _ (by omega) m1 m2)
        · exact .inr hq)]
      have hc1 : w - (j + 2) + 1 = w - (j + 1) := by omega
      rw [spr_two, hc1]
      cases hg : rowG w r g (w - (j + 2)) with
      | true =>
        have hb : bitN s (w - (j + 2)) = 0 := by
          rcases bitN_two s (w - (j + 2)) with hb | hb
          · exact hb
          · have := hs (w - (j + 2)) (by omega) hb
            unfold rowG at hg
            rw [this] at hg; cases hg
        simp [hb]
      | false =>
        rcases bitN_two s (w - (j + 2)) with hb | hb
        · rw [hb]
          simp only [Bool.or_false, show ((0 : Nat) == 1) = false from rfl, Bool.false_eq_true, if_false, decide_eq_true (show 1 ≤ j + 1 by omega), Bool.true_and, show ¬ ((0 : Nat) = 1) by decide]
          rw [Nat.add_comm]
          congr 1
          cases hg1 : rowG w r g (w - (j + 1)) with
          | true => simp
          | false =>
            rcases bitN_two s (w - (j + 1)) with hb1 | hb1
            · rw [hb1]
              simp only [Bool.not_false, Bool.true_and, show ((0 : Nat) == 1) = false from rfl, show ((0 : Nat) == 0) = true from rfl, if_true]
              obtain ⟨k, hk⟩ : ∃ k, w * h - (r * w + (w - (j + 1))) = k + 1 := ⟨w * h - (r * w + (w - (j + 1))) - 1, by omega⟩
              have hk' : w * h - (r * w + (w - j)) = k := by omega
              have ha : w * h - (k + 1) = r * w + (w - (j + 1)) := by omega
              have hst : stT w g r (w - (j + 1) + 1) s d (r * w + (w - (j + 1))) = true := by
                unfold stT
                rw [decide_eq_true (show r * w + (w - (j + 1)) < r * w + (w - (j + 1) + 1) by omega)]
                simp
              rw [hk, tile_step, ha, if_pos hst, ← hk', show w - (j + 1) + 1 = w - j by omega]
              exact ih j (by omega) d (by omega) (grow j d (by omega) (grow (j + 1) d hj hd)) hdd
            · rw [hb1]; simp
        · rw [hb]; simp

theorem no_bits {w s : Nat} (hw : w ≤ 5) (hs : s < 2 ^ w) (h : ∀ i, i < w → bitN s i = 0) : s = 0 := by
  have h32 : s < 32 := Nat.lt_of_lt_of_le hs (Nat.le_trans (Nat.pow_le_pow_right (by omega) hw) (by decide))
  refine bit_none ⟨s, h32⟩ fun i => ?_
  by_cases hi : i.val < w
  · exact h i.val hi
  · exact bit_high ⟨w, by omega⟩ ⟨s, h32⟩ hs ⟨i.val, by omega⟩ (Nat.le_of_not_lt hi)
/-- FROM A ROW ON. -/
theorem rows_from {w h : Nat} {g : Nat → Bool} (hw : 1 ≤ w ∧ w ≤ 5) : ∀ (m s : Nat), m ≤ h → s < 2 ^ w → (∀ i, i < w → bitN s i = 1 → 1 ≤ m ∧ g ((h - m) * w + i) = false) →
    tileT w (w * h) (w * h - (h - m) * w) (stT w g (h - m) 0 s 0) = rowsT w h g m s
  | 0, s, _, hs, hb => by
    have h0 : s = 0 := no_bits hw.2 hs (fun i hi => by
      rcases bitN_two s i with e | e
      · exact e
      · have := (hb i hi e).1; omega)
    subst h0
    rw [Nat.sub_zero, show w * h - h * w = 0 by rw [Nat.mul_comm w h, Nat.sub_self]]
    rfl
  | m + 1, s, hm, hs, hb => by
    have hr : h - (m + 1) + 1 = h - m := by omega
    have := tile_row (w := w) (h := h) (g := g) hw (r := h - (m + 1)) (by omega) (next := rowsT w h g m) (fun d hd hdd => by
      rw [hr]
      refine rows_from hw m d (by omega) hd (fun i hi hbi => ?_)
      obtain ⟨h1, h2⟩ := hdd i hi hbi
      rw [hr] at h2
      exact ⟨by omega, h2⟩) (fun d i hi hbi hg => by
      refine rows_hole hi hbi (fun hm0 => ?_)
      have := hg (by omega)
      rwa [hr] at this) (s := s) (fun i hi hbi => (hb i hi hbi).2) w 0 (Nat.le_refl _) (Nat.pow_pos (by omega)) (fun i _ hbi => by rw [bit_zero] at hbi; cases hbi)
    rw [Nat.sub_self, Nat.add_zero] at this
    rw [this]
    rfl
/-- COVERS BY CELLS ARE COVERS BY ROWS. -/
theorem tile_rows {w h : Nat} {g : Nat → Bool} (hw : 1 ≤ w ∧ w ≤ 5) : tileT w (w * h) (w * h) g = rowsT w h g h 0 := by
  have := rows_from (h := h) (g := g) hw h 0 (Nat.le_refl _) (Nat.pow_pos (by omega)) (fun i _ hbi => by rw [bit_zero] at hbi; cases hbi)
  rw [Nat.sub_self, Nat.zero_mul, Nat.sub_zero] at this
  rw [← this]
  congr 1
  funext i
  unfold stT
  simp [bit_zero]
end Go.Proofs.YtnikgnicjbcbmabDoor

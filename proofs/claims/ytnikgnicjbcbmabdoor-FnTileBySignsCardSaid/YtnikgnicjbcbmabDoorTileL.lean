
/-
  Covers row by row, purely: the ways to each set of cells that are covered from the row ahead.
-/
import Derived.Test.YtnikgnicjbcbmabDoorTileR
namespace Go.Proofs.YtnikgnicjbcbmabDoor
set_option linter.unusedVariables false

def ind (t d : Nat) : Nat := if d = t then 1 else 0
theorem sumN_mul (f : Nat → Nat) (a : Nat) : ∀ n, sumN (fun i => a * f i) n = a * sumN f n
  | 0 => rfl
  | n + 1 => by simp only [sumN]; rw [sumN_mul f a n, Nat.mul_add]
theorem sumN_mulr (f : Nat → Nat) (a : Nat) : ∀ n, sumN (fun i => f i * a) n = sumN f n * a
  | 0 => by simp [sumN]
  | n + 1 => by simp only [sumN]; rw [sumN_mulr f a n, Nat.add_mul]
theorem sumN_le {f : Nat → Nat} {b : Nat} : ∀ n, (∀ i, i < n → f i ≤ b) → sumN f n ≤ n * b
  | 0, _ => by simp [sumN]
  | n + 1, h => by
    simp only [sumN]
    have h1 := sumN_le n (fun i hi => h i (by omega))
    have h2 := h n (by omega)
    rw [Nat.add_mul]
    omega
theorem spr_one (w : Nat) (g : Nat → Bool) (s : Nat) (next : Nat → Nat) (d : Nat) : spr w g s next 1 d = if g (w - 1) then (if bitN s (w - 1) = 0 then next d else 0) else if bitN s (w - 1) = 1 then next d else next (d + 2 ^ (w - 1)) := rfl
/-- It is a sum over what is covered at last. -/
theorem spr_lin {w : Nat} (hw : w ≤ 5) (g : Nat → Bool) (s : Nat) (next : Nat → Nat) : ∀ (j d : Nat), j ≤ w → d < 2 ^ (w - j) → spr w g s next j d = sumN (fun t => spr w g s (ind t) j d * next t) (2 ^ w)
  | 0, d, _, hd => by
    show next d = sumN (fun t => ind t d * next t) (2 ^ w)
    rw [sumN_one d (2 ^ w) hd (fun i _ hi => by unfold ind; rw [if_neg (fun e => hi e.symm)]; simp)]
    simp [ind]
  | 1, d, hj, hd => by
    have h1 : 2 ^ w = 2 * 2 ^ (w - 1) := by rw [← Nat.pow_succ']; congr 1; omega
    have e1 : next d = sumN (fun t => ind t d * next t) (2 ^ w) := spr_lin hw g s next 0 d (by omega) (by rw [Nat.sub_zero]; omega)
    have e2 : next (d + 2 ^ (w - 1)) = sumN (fun t => ind t (d + 2 ^ (w - 1)) * next t) (2 ^ w) := spr_lin hw g s next 0 _ (by omega) (by rw [Nat.sub_zero]; omega)
    rw [spr_one]
    simp only [spr_one]
    rw [e1, e2]
    split
    · split
      · rfl
      · simp only [Nat.zero_mul]; rw [sumN_zero]
    · split <;> rfl
  | j + 2, d, hj, hd => by
    have h1 : 2 ^ (w - (j + 1)) = 2 * 2 ^ (w - (j + 2)) := by rw [← Nat.pow_succ']; congr 1; omega
    have h2 : 2 ^ (w - j) = 2 * 2 ^ (w - (j + 1)) := by rw [← Nat.pow_succ']; congr 1; omega
    have e1 := spr_lin hw g s next (j + 1) d (by omega) (by omega)
    have e2 := spr_lin hw g s next (j + 1) (d + 2 ^ (w - (j + 2))) (by omega) (by omega)
    have e3 := spr_lin hw g s next j d (by omega) (by omega)
    rw [spr_two]
    simp only [spr_two]
    rw [e1, e2, e3]
    split
    · split
      · rfl
      · simp only [Nat.zero_mul]; rw [sumN_zero]
    · split
      · rfl
      · split
        · rw [← sumN_add]
          exact sumN_congr _ fun i _ => by rw [Nat.add_mul]
        · rfl
theorem spr_bd {w : Nat} (g : Nat → Bool) (s t : Nat) : ∀ (j d : Nat), spr w g s (ind t) j d ≤ 2 ^ j
  | 0, d => by
    show ind t d ≤ 1
    unfold ind
    split <;> omega
  | 1, d => by
    have h : ∀ d, ind t d ≤ 1 := fun d => by unfold ind; split <;> omega
    have h1 := h d
    have h2 := h (d + 2 ^ (w - 1))
    rw [spr_one]
    split
    · split <;> omega
    · split <;> omega
  | j + 2, d => by
    have h1 := spr_bd (w := w) g s t (j + 1) d
    have h2 := spr_bd (w := w) g s t (j + 1) (d + 2 ^ (w - (j + 2)))
    have h3 := spr_bd (w := w) g s t j d
    have e1 : 2 ^ (j + 2) = 2 * 2 ^ (j + 1) := Nat.pow_succ'
    have e2 : 2 ^ (j + 1) = 2 * 2 ^ j := Nat.pow_succ'
    rw [spr_two]
    split
    · split <;> omega
    · split
      · omega
      · split <;> omega
/-- The ways to each set of the next row, by the first S sets of this one. -/
def nextT (w : Nat) (g : Nat → Bool) (now : Nat → Nat) (S : Nat) : Nat → Nat := fun t => sumN (fun s => now s * spr w g s (ind t) w 0) S
def nowT (w : Nat) (g : Nat → Bool) : Nat → Nat → Nat
  | 0 => fun s => if s = 0 then 1 else 0
  | r + 1 => nextT w (rowG w r g) (nowT w g r) (2 ^ w)
theorem now_bd {w : Nat} (hw : w ≤ 5) (g : Nat → Bool) : ∀ r t, nowT w g r t ≤ 1024 ^ r
  | 0, t => by show (if t = 0 then 1 else 0) ≤ 1; split <;> omega
  | r + 1, t => by
    have h1 := sumN_le (f := fun s => nowT w g r s * spr w (rowG w r g) s (ind t) w 0) (b := 1024 ^ r * 32) (2 ^ w) (fun i _ => Nat.mul_le_mul (now_bd hw g r i) (Nat.le_trans (spr_bd _ _ _ w 0) (Nat.le_trans (Nat.pow_le_pow_right (by omega) hw) (by decide))))
    have h2 : 2 ^ w ≤ 32 := Nat.le_trans (Nat.pow_le_pow_right (by omega) hw) (by decide)
    have h3 : 2 ^ w * (1024 ^ r * 32) ≤ 32 * (1024 ^ r * 32) := Nat.mul_le_mul_right _ h2
    show sumN (fun s => nowT w g r s * spr w (rowG w r g) s (ind t) w 0) (2 ^ w) ≤ 1024 ^ (r + 1)
    rw [Nat.pow_succ]
    omega
theorem part_bd {w : Nat} (hw : w ≤ 5) (g : Nat → Bool) (r S t : Nat) (hS : S ≤ 2 ^ w) : nextT w (rowG w r g) (nowT w g r) S t ≤ 1024 ^ (r + 1) := by
  have h1 := sumN_le (f := fun s => nowT w g r s * spr w (rowG w r g) s (ind t) w 0) (b := 1024 ^ r * 32) S (fun i _ => Nat.mul_le_mul (now_bd hw g r i) (Nat.le_trans (spr_bd _ _ _ w 0) (Nat.le_trans (Nat.pow_le_pow_right (by omega) hw) (by decide))))
  have h2 : S ≤ 32 := Nat.le_trans hS (Nat.le_trans (Nat.pow_le_pow_right (by omega) hw) (by decide))
  have h3 : S * (1024 ^ r * 32) ≤ 32 * (1024 ^ r * 32) := Nat.mul_le_mul_right _ h2
  show sumN (fun s => nowT w g r s * spr w (rowG w r g) s (ind t) w 0) S ≤ 1024 ^ (r + 1)
  rw [Nat.pow_succ]
  omega
/-- What is ahead, times what is to come, is all. -/
theorem now_all {w h : Nat} (hw : w ≤ 5) (g : Nat → Bool) : ∀ r, r ≤ h → sumN (fun s => nowT w g r s * rowsT w h g (h - r) s) (2 ^ w) = rowsT w h g h 0
  | 0, _ => by
    rw [sumN_one 0 (2 ^ w) (Nat.pow_pos (by omega)) (fun i _ hi => by show (if i = 0 then 1 else 0) * _ = 0; rw [if_neg hi]; simp)]
    show (if 0 = 0 then 1 else 0) * _ = _
    simp
  | r + 1, hr => by
    rw [← now_all hw g r (by omega)]
    obtain ⟨m, hm⟩ : ∃ m, h - r = m + 1 := ⟨h - r - 1, by omega⟩
    have hm' : h - (r + 1) = m := by omega
    have hr' : h - (m + 1) = r := by omega
    rw [hm, hm']
    have e1 : sumN (fun s => nowT w g (r + 1) s * rowsT w h g m s) (2 ^ w) = sumN (fun s => sumN (fun s' => nowT w g r s' * spr w (rowG w r g) s' (ind s) w 0 * rowsT w h g m s) (2 ^ w)) (2 ^ w) := sumN_congr _ fun s _ => by
      rw [sumN_mulr]
      rfl
    rw [e1, sumN_swap]
    refine sumN_congr _ fun s' _ => ?_
    have e2 : rowsT w h g (m + 1) s' = spr w (rowG w r g) s' (rowsT w h g m) w 0 := by
      show spr w (rowG w (h - (m + 1)) g) s' (rowsT w h g m) w 0 = _
      rw [hr']
    rw [e2, spr_lin hw _ _ _ w 0 (Nat.le_refl _) (Nat.pow_pos (by omega)), ← sumN_mul]
    exact sumN_congr _ fun s _ => by rw [Nat.mul_assoc]
theorem now_end {w h : Nat} (hw : w ≤ 5) (g : Nat → Bool) : nowT w g h 0 = rowsT w h g h 0 := by
  rw [← now_all hw g h (Nat.le_refl _), Nat.sub_self, sumN_one 0 (2 ^ w) (Nat.pow_pos (by omega)) (fun i _ hi => by show _ * (if i = 0 then 1 else 0) = 0; rw [if_neg hi]; simp)]
  show _ = _ * (if 0 = 0 then 1 else 0)
  simp
end Go.Proofs.YtnikgnicjbcbmabDoor

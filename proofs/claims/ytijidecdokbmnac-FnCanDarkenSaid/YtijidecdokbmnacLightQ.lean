
/-
  Presses purely: twice pressed is not pressed; what holds of all boards and lights, put together from the kernel's facts.
-/
import Derived.Test.YtijidecdokbmnacLightF
namespace Go.Proofs.Ytijidecdokbmnac
open Go.RowKit
set_option linter.unusedVariables false

theorem press_out (L : List Nat) (x s : Nat) : ∀ k, pressTo L x s k = x ^^^ pressTo L 0 s k
  | 0 => by simp [pressTo]
  | k + 1 => by
    simp only [pressTo]
    split
    · rw [press_out L x s k, Nat.xor_assoc]
    · exact press_out L x s k
theorem bitN_xor (a b k : Nat) : bitN (a ^^^ b) k = (bitN a k + bitN b k) % 2 := by
  unfold bitN
  rw [show (a ^^^ b) / 2 ^ k = a / 2 ^ k ^^^ b / 2 ^ k by rw [← Nat.shiftRight_eq_div_pow, ← Nat.shiftRight_eq_div_pow, ← Nat.shiftRight_eq_div_pow, Nat.shiftRight_xor_distrib]]
  exact mod2_xor _ _
theorem press_add (L : List Nat) (a b : Nat) : ∀ k, pressTo L 0 (a ^^^ b) k = pressTo L 0 a k ^^^ pressTo L 0 b k
  | 0 => by simp [pressTo]
  | k + 1 => by
    have ih := press_add L a b k
    have h := bitN_xor a b k
    simp only [pressTo]
    rw [ih, h]
    rcases bitN_two a k with e | e <;> rcases bitN_two b k with e' | e' <;> rw [e, e'] <;> simp
    · rw [Nat.xor_assoc]
    · rw [Nat.xor_assoc, Nat.xor_assoc]
      congr 1
      rw [Nat.xor_comm]
    · have := xor_swap (pressTo L 0 a k) (L[k]?.getD 0) (pressTo L 0 b k) (L[k]?.getD 0)
      rw [this, Nat.xor_self, Nat.xor_zero]
theorem press_self (L : List Nat) (x s n : Nat) : pressTo L (pressTo L x s n) s n = x := by
  rw [press_out L (pressTo L x s n), press_out L x, Nat.xor_assoc, Nat.xor_self, Nat.xor_zero]
theorem press_mixed (L : List Nat) (x s n : Nat) : pressTo L (pressTo L x x n) s n = pressTo L x (x ^^^ s) n := by
  rw [press_out L (pressTo L x x n), press_out L x x, press_out L x (x ^^^ s), press_add, Nat.xor_assoc]
theorem press_lt {L : List Nat} {x m : Nat} (s : Nat) (hL : ∀ k : Nat, L[k]?.getD 0 < 2 ^ m) (hx : x < 2 ^ m) : ∀ k, pressTo L x s k < 2 ^ m
  | 0 => hx
  | k + 1 => by
    simp only [pressTo]
    split
    · exact Nat.xor_lt_two_pow (press_lt s hL hx k) (hL k)
    · exact press_lt s hL hx k
theorem all_lt {L : List Nat} {m : Nat} (h : (L.all fun x => decide (x < m)) = true) (hm : 0 < m) (k : Nat) : L[k]?.getD 0 < m := by
  rcases Nat.lt_or_ge k L.length with hk | hk
  · rw [List.getElem?_eq_getElem hk, Option.getD_some]
    exact of_decide_eq_true (List.all_eq_true.1 h _ (List.getElem_mem hk))
  · rw [List.getElem?_eq_none hk, Option.getD_none]; exact hm
theorem all_lt2 {M : List Row2} {m : Nat} (h : (M.all fun p => decide (p.1 < m) && decide (p.2 < m)) = true) (hm : 0 < m) (k : Nat) : (M[k]?.getD (0, 0)).1 < m ∧ (M[k]?.getD (0, 0)).2 < m := by
  rcases Nat.lt_or_ge k M.length with hk | hk
  · rw [List.getElem?_eq_getElem hk, Option.getD_some]
    have := List.all_eq_true.1 h _ (List.getElem_mem hk)
    rw [Bool.and_eq_true, decide_eq_true_eq, decide_eq_true_eq] at this
    exact this
  · rw [List.getElem?_eq_none hk, Option.getD_none]; exact ⟨hm, hm⟩
theorem less_lt {M : List Row2} {r : Row2} {m : Nat} (hM : ∀ k : Nat, (M[k]?.getD (0, 0)).1 < 2 ^ m ∧ (M[k]?.getD (0, 0)).2 < 2 ^ m) (hr : r.1 < 2 ^ m ∧ r.2 < 2 ^ m) : ∀ k, (lessTo M r k).1 < 2 ^ m ∧ (lessTo M r k).2 < 2 ^ m
  | 0 => hr
  | k + 1 => by
    simp only [lessTo]
    split
    · exact less_lt hM hr k
    · have := less_lt hM hr k
      exact ⟨Nat.xor_lt_two_pow this.1 (hM k).1, Nat.xor_lt_two_pow this.2 (hM k).2⟩
theorem chase_lt {L : List Nat} {w x m : Nat} (hL : ∀ k : Nat, L[k]?.getD 0 < 2 ^ m) (hx : x < 2 ^ m) : ∀ k, (chaseTo L w x k).1 < 2 ^ k ∧ (chaseTo L w x k).2 < 2 ^ m
  | 0 => ⟨by simp [chaseTo], hx⟩
  | k + 1 => by
    have := chase_lt hL hx (w := w) k
    simp only [chaseTo]
    split
    · exact ⟨by rw [Nat.pow_succ]; omega, Nat.xor_lt_two_pow this.2 (hL k)⟩
    · exact ⟨by rw [Nat.pow_succ]; omega, this.2⟩

/-- What the tables hold. -/
structure DatIs (w h : Nat) : Prop where
  lit : litL w h = (datL w h).lit
  leads : leadTo (rowsP (datL w h).lit) (w * h) = ((datL w h).leads, (datL w h).quiet)
  elim : solvedM (datL w h).lit = ⟨(datL w h).rows, (datL w h).masks, (datL w h).lead⟩
  bd : ∀ k : Nat, (datL w h).lit[k]?.getD 0 < 2 ^ (w * h)
  leadbd : ∀ k : Nat, ((datL w h).leads[k]?.getD (0, 0)).1 < 2 ^ (w * h) ∧ ((datL w h).leads[k]?.getD (0, 0)).2 < 2 ^ (w * h)
  quietbd : ∀ k : Nat, (datL w h).quiet[k]?.getD 0 < 2 ^ (w * h)
  rowsbd : ∀ k : Nat, (datL w h).rows[k]?.getD 0 < 2 ^ (w * h)
  leadlt : ∀ k : Nat, (datL w h).lead[k]?.getD 0 < w * h
  quietbd' : ∀ k : Nat, (quietTo (datL w h).rows (datL w h).lead (w * h))[k]?.getD 0 < 2 ^ (w * h)
  quietlen : (quietTo (datL w h).rows (datL w h).lead (w * h)).length = (datL w h).quiet.length
  three : (datL w h).quiet.length ≤ 3
  leadlen : (datL w h).lead.length ≤ w * h
  len : (datL w h).lit.length = w * h
  up : ∀ k : Nat, k < w * h → w ≤ k → bitN ((datL w h).lit[k]?.getD 0) (k - w) = 1 ∧ ((datL w h).lit[k]?.getD 0) % 2 ^ (k - w) = 0
  low : ∀ k : Nat, k < (datL w h).leads.length → lowS ((datL w h).leads[k]?.getD (0, 0)).2 = 2 ^ (lowS ((datL w h).leads[k]?.getD (0, 0)).2).log2
theorem dat_is {w h : Nat} (hw : 1 ≤ w ∧ w ≤ 5) (hh : 1 ≤ h ∧ h ≤ 5) (h12 : w * h ≤ 12) : DatIs w h := by
  obtain ⟨a, rfl⟩ : ∃ a, w = a + 1 := ⟨w - 1, by omega⟩
  obtain ⟨b, rfl⟩ : ∃ b, h = b + 1 := ⟨h - 1, by omega⟩
  have H := dat_ok ⟨a, by omega⟩ ⟨b, by omega⟩ h12
  have hpos : 0 < (a + 1) * (b + 1) := Nat.mul_pos (by omega) (by omega)
  simp only [datOk, Bool.and_eq_true, beq_iff_eq, decide_eq_true_eq] at H
  obtain ⟨⟨⟨⟨⟨⟨⟨⟨⟨⟨⟨⟨⟨⟨⟨⟨⟨h1, h2⟩, h3⟩, h4⟩, h5⟩, h6⟩, h7⟩, h8⟩, h9⟩, h10⟩, h11⟩, h12⟩, h13⟩, h14⟩, h15⟩, h16⟩, h17⟩, h18⟩ := H
  have p := Nat.two_pow_pos ((a + 1) * (b + 1))
  refine ⟨h1, ?_, ?_, all_lt h7 p, all_lt2 h8 p, all_lt h9 p, all_lt h10 p, all_lt h11 hpos, all_lt h12 p, h13, h14, h15, h16, fun k hk hw => ?_, fun k hk => ?_⟩
  · rw [← eqRow2_eq h2, ← h3]
  · rw [← h4, ← h5, ← h6]
  · have := List.all_eq_true.1 h17 k (List.mem_range.2 hk)
    rw [decide_eq_false (by omega), Bool.false_or, Bool.and_eq_true, beq_iff_eq, beq_iff_eq] at this
    exact this
  · have := List.all_eq_true.1 h18 _ (List.getElem_mem hk)
    rw [List.getElem?_eq_getElem hk, Option.getD_some]
    simpa using this
/-! Chases. -/
theorem bit_plus {s k j : Nat} (hs : s < 2 ^ k) : bitN (s + 2 ^ k) j = if j = k then 1 else bitN s j := by
  have e : ∀ x i, bitN x i = (x.testBit i).toNat := fun x i => by
    rw [Nat.testBit_eq_decide_div_mod_eq]
    unfold bitN
    rcases Nat.mod_two_eq_zero_or_one (x / 2 ^ i) with h | h <;> rw [h] <;> rfl
  rw [e, e, Nat.add_comm]
  by_cases h : j = k
  · subst h
    rw [if_pos rfl, Nat.testBit_two_pow_add_eq, Nat.testBit_lt_two_pow hs]
    rfl
  · rw [if_neg h]
    rcases Nat.lt_or_gt_of_ne h with h' | h'
    · rw [Nat.testBit_two_pow_add_gt h']
    · rw [Nat.testBit_lt_two_pow (show s < 2 ^ j from Nat.lt_trans hs (Nat.pow_lt_pow_right (by omega) h')), Nat.testBit_lt_two_pow]
      have : 2 ^ (k + 1) ≤ 2 ^ j := Nat.pow_le_pow_right (by omega) h'
      rw [Nat.pow_succ] at this
      omega
theorem press_same {L : List Nat} {x s t : Nat} : ∀ k, (∀ j, j < k → bitN s j = bitN t j) → pressTo L x s k = pressTo L x t k
  | 0, _ => rfl
  | k + 1, h => by simp only [pressTo]; rw [press_same k (fun j hj => h j (by omega)), h k (by omega)]
theorem bit_none {s k : Nat} (hs : s < 2 ^ k) : bitN s k = 0 := by
  unfold bitN
  rw [Nat.div_eq_of_lt hs]
/-- The lights that are left are those behind the presses. -/
theorem chase_press (L : List Nat) (w x : Nat) : ∀ k, (chaseTo L w x k).1 < 2 ^ k ∧ pressTo L x (chaseTo L w x k).1 k = (chaseTo L w x k).2
  | 0 => ⟨by simp [chaseTo], rfl⟩
  | k + 1 => by
    obtain ⟨h1, h2⟩ := chase_press L w x k
    simp only [chaseTo]
    split
    · refine ⟨by rw [Nat.pow_succ]; omega, ?_⟩
      simp only [pressTo]
      rw [bit_plus h1, if_pos rfl, if_pos rfl, press_same (t := (chaseTo L w x k).1) k (fun j hj => by rw [bit_plus h1, if_neg (by omega)]), h2]
    · refine ⟨by rw [Nat.pow_succ]; omega, ?_⟩
      simp only [pressTo]
      rw [bit_none h1, if_neg (by omega), h2]
/-- No cell of the first row is pressed. -/
theorem chase_first (L : List Nat) (w x : Nat) : ∀ k, (chaseTo L w x k).1 % 2 ^ w = 0
  | 0 => rfl
  | k + 1 => by
    have ih := chase_first L w x k
    simp only [chaseTo]
    split
    · rename_i h
      obtain ⟨d, hd⟩ : ∃ d, k = w + d := ⟨k - w, by omega⟩
      simp only
      rw [hd, Nat.pow_add, Nat.add_mul_mod_self_left]
      rwa [hd] at ih
    · exact ih
/-- What is left lies in the last row. -/
theorem chase_left {L : List Nat} {w x n : Nat} (hup : ∀ k : Nat, k < n → w ≤ k → bitN (L[k]?.getD 0) (k - w) = 1 ∧ (L[k]?.getD 0) % 2 ^ (k - w) = 0) : ∀ k, k ≤ n → ∀ j, j + w < k → bitN (chaseTo L w x k).2 j = 0
  | 0, _, j, h => by omega
  | k + 1, hk, j, h => by
    have ih := chase_left hup (x := x) k (by omega)
    have hlow : ∀ (y i m : Nat), i < m → y % 2 ^ m = 0 → bitN y i = 0 := fun y i m hi h0 => by
      have h1 : y.testBit i = (y % 2 ^ m).testBit i := by rw [Nat.testBit_mod_two_pow, decide_eq_true hi, Bool.true_and]
      rw [h0, Nat.zero_testBit, Nat.testBit_eq_decide_div_mod_eq] at h1
      unfold bitN
      simp only [decide_eq_false_iff_not] at h1
      omega
    simp only [chaseTo]
    split
    · rename_i hc
      obtain ⟨u1, u2⟩ := hup k (by omega) hc.1
      simp only
      rw [bitN_xor]
      by_cases e : j = k - w
      · subst e; rw [u1, hc.2]
      · rw [ih j (by omega), hlow _ j (k - w) (by omega) u2]
    · rename_i hc
      by_cases e : j = k - w
      · subst e
        rcases bitN_two (chaseTo L w x k).2 (k - w) with h0 | h1
        · exact h0
        · exact absurd ⟨by omega, h1⟩ hc
      · exact ih j (by omega)
theorem bits_none {y m : Nat} (h : ∀ j, j < m → bitN y j = 0) : y % 2 ^ m = 0 := Nat.eq_of_testBit_eq fun i => by
  rw [Nat.testBit_mod_two_pow, Nat.zero_testBit]
  by_cases hi : i < m
  · have := h i hi
    rw [decide_eq_true hi, Bool.true_and, Nat.testBit_eq_decide_div_mod_eq]
    unfold bitN at this
    rw [this]
    rfl
  · rw [decide_eq_false hi, Bool.false_and]
theorem chase_again {L : List Nat} {w y n : Nat} (h : ∀ j, j + w < n → bitN y j = 0) : ∀ k, k ≤ n → chaseTo L w y k = (0, y)
  | 0, _ => rfl
  | k + 1, hk => by
    simp only [chaseTo]
    rw [chase_again h k (by omega)]
    split
    · rename_i hc
      have := h (k - w) (by omega)
      rw [this] at hc
      omega
    · rfl
end Go.Proofs.Ytijidecdokbmnac

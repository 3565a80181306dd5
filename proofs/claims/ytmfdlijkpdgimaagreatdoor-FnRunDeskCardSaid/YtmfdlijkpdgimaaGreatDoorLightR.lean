
/-
  Lights: what the kernel says of all lights of a board: what the program and the model find, and how many presses.
-/
import Derived.Test.YtmfdlijkpdgimaaGreatDoorLightsM
namespace Go.Proofs.YtmfdlijkpdgimaaGreatDoor
open Go.RowKit
set_option linter.unusedVariables false

def allB (f : Nat → Bool) : Nat → Nat → Bool
  | 0, a => f a
  | k + 1, a => allB f k a && allB f k (a + 2 ^ k)
theorem allB_at {f : Nat → Bool} : ∀ {k a x : Nat}, allB f k a = true → a ≤ x → x < a + 2 ^ k → f x = true
  | 0, a, x, h, h1, h2 => by
    obtain rfl : x = a := by simp at h2; omega
    exact h
  | k + 1, a, x, h, h1, h2 => by
    simp only [allB, Bool.and_eq_true] at h
    rw [Nat.pow_succ] at h2
    by_cases e : x < a + 2 ^ k
    · exact allB_at h.1 h1 e
    · exact allB_at h.2 (by omega) (by omega)
/-- What holds of lights x on one board. -/
def okX (n : Nat) (D : DatL) (x : Nat) : Bool :=
  (fewI n D.leads D.quiet x == fewM D.lit ⟨D.rows, D.masks.map (sideN x), D.lead⟩) &&
  (match fewI n D.leads D.quiet (pressTo D.lit 0 x n) with | some k => decide (k ≤ pcN 12 x) | none => false) &&
  ((fewI n D.leads D.quiet x == some 0) == (x == 0))
def okAll (w h : Nat) : Bool := allB (okX (w * h) (datL w h)) (w * h) 0
theorem lights_ok1 : ∀ a : Fin 5, ∀ b : Fin 5, (a.val + 1) * (b.val + 1) ≤ 9 → okAll (a.val + 1) (b.val + 1) = true := by decide +kernel
theorem lights_2_5 : okAll 2 5 = true := by decide +kernel
theorem lights_5_2 : okAll 5 2 = true := by decide +kernel
/-- What holds of one cell on a board of twelve. -/
def okC (D : DatL) (k : Nat) : Bool :=
  ((lessP D.leads (0, 2 ^ k)).2 == 0) && ((lessP D.leads (0, pressTo D.lit 0 (2 ^ k) 12)).1 == 2 ^ k) && (pressTo D.lit 0 (lessP D.leads (0, 2 ^ k)).1 12 == 2 ^ k) &&
  (List.range 12).all fun i => sideN (2 ^ k) (D.masks[i]?.getD 0) == bitN (lessP D.leads (0, 2 ^ k)).1 i
def okTwelve (D : DatL) : Bool := (List.range 12).all (okC D) && (D.lead == List.range 12) && (D.quiet == []) && (quietTo D.rows D.lead 12 == []) && (D.masks.length == 12) && (D.lit.length == 12)
theorem twelve_3_4 : okTwelve (datL 3 4) = true := by decide +kernel
theorem twelve_4_3 : okTwelve (datL 4 3) = true := by decide +kernel

theorem lin_ind {P : Nat → Prop} (h0 : P 0) (hx : ∀ x y, P x → P y → P (x ^^^ y)) : ∀ n, (∀ k, k < n → P (2 ^ k)) → ∀ x, x < 2 ^ n → P x
  | 0, _, x, h => by
    obtain rfl : x = 0 := by simp at h; omega
    exact h0
  | n + 1, hk, x, h => by
    by_cases e : x < 2 ^ n
    · exact lin_ind h0 hx n (fun k h' => hk k (by omega)) x e
    · have ht : x.testBit n = true := Nat.testBit_of_two_pow_le_and_two_pow_add_one_gt (by omega) h
      have hy : x ^^^ 2 ^ n < 2 ^ n := Nat.lt_pow_two_of_testBit _ fun i hi => by
        rw [Nat.testBit_xor, Nat.testBit_two_pow]
        by_cases e' : n = i
        · subst e'; rw [ht, decide_eq_true rfl]; rfl
        · rw [decide_eq_false e', Nat.testBit_lt_two_pow (Nat.lt_of_lt_of_le h (Nat.pow_le_pow_right (n := 2) (by omega) (by omega)))]; rfl
      have := hx _ _ (lin_ind h0 hx n (fun k h' => hk k (by omega)) _ hy) (hk n (by omega))
      rwa [Nat.xor_assoc, Nat.xor_self, Nat.xor_zero] at this
theorem less_lin {M : List Row2} (hM : ∀ k : Nat, k < M.length → ∃ j, lowS (M[k]?.getD (0, 0)).2 = 2 ^ j) (r q : Row2) : ∀ k, k ≤ M.length → lessTo M (plus2 r q) k = plus2 (lessTo M r k) (lessTo M q k)
  | 0, _ => rfl
  | k + 1, hk => by
    have ih := less_lin hM r q k (by omega)
    obtain ⟨j, hj⟩ := hM k (by omega)
    simp only [lessTo]
    rw [ih, hj]
    generalize lessTo M r k = a
    generalize lessTo M q k = b
    generalize M[k]?.getD (0, 0) = c
    have p := Nat.two_pow_pos j
    have hz : ∀ x : Nat, (x &&& 2 ^ j = 0) ↔ x.testBit j = false := fun x => by
      constructor
      · intro h
        have := congrArg (fun y => y.testBit j) h
        simpa [Nat.testBit_and, Nat.testBit_two_pow] using this
      · intro h
        refine Nat.eq_of_testBit_eq fun i => ?_
        rw [Nat.testBit_and, Nat.testBit_two_pow, Nat.zero_testBit]
        by_cases e : j = i
        · subst e; rw [h]; rfl
        · rw [decide_eq_false e, Bool.and_false]
    simp only [hz]
    have hb : (plus2 a b).2.testBit j = (a.2.testBit j ^^ b.2.testBit j) := by show (a.2 ^^^ b.2).testBit j = _; rw [Nat.testBit_xor]
    rw [hb]
    obtain ⟨a1, a2⟩ := a
    obtain ⟨b1, b2⟩ := b
    obtain ⟨c1, c2⟩ := c
    simp only [plus2]
    cases a2.testBit j <;> cases b2.testBit j <;> simp
    · constructor <;> ac_rfl
    · constructor <;> ac_rfl
    · constructor
      · rw [xor_swap, Nat.xor_self, Nat.xor_zero]
      · rw [xor_swap, Nat.xor_self, Nat.xor_zero]
theorem less_none (M : List Row2) : ∀ k, lessTo M (0, 0) k = (0, 0)
  | 0 => rfl
  | k + 1 => by
    simp only [lessTo]
    rw [less_none M k]
    simp
theorem pc_zero : ∀ (f x : Nat), x < 2 ^ f → pcN f x = 0 → x = 0
  | 0, x, h, _ => by simp at h; omega
  | f + 1, x, h, h0 => by
    simp only [pcN] at h0
    have := pc_zero f (x / 2) (by rw [Nat.pow_succ] at h; omega) (by omega)
    omega
theorem bits_sum (y : Nat) : ∀ (n : Nat) (R ld : List Nat), (∀ i, i < n → R[i]?.getD 0 = bitN y i) → (∀ i, i < n → ld[i]?.getD 0 = i) → sumToL R ld n = y % 2 ^ n
  | 0, _, _, _, _ => by simp [sumToL, Nat.mod_one]
  | n + 1, R, ld, h1, h2 => by
    rw [sumToL, bits_sum y n R ld (fun i hi => h1 i (by omega)) (fun i hi => h2 i (by omega)), h1 n (by omega), h2 n (by omega), Nat.mod_pow_succ]
    unfold bitN
    rw [Nat.mul_comm]

structure LightsIs (w h x : Nat) : Prop where
  few : fewI (w * h) (datL w h).leads (datL w h).quiet x = fewM (datL w h).lit ⟨(datL w h).rows, (datL w h).masks.map (sideN x), (datL w h).lead⟩
  back : ∃ k, fewI (w * h) (datL w h).leads (datL w h).quiet (pressTo (datL w h).lit 0 x (w * h)) = some k ∧ k ≤ pcN 12 x
  zero : fewI (w * h) (datL w h).leads (datL w h).quiet x = some 0 ↔ x = 0
theorem lights_small {w h x : Nat} (hx : x < 2 ^ (w * h)) (hb : okAll w h = true) : LightsIs w h x := by
  have H : okX (w * h) (datL w h) x = true := allB_at (k := w * h) (a := 0) hb (Nat.zero_le _) (by omega)
  simp only [okX, Bool.and_eq_true, beq_iff_eq] at H
  obtain ⟨⟨h1, h2⟩, h3⟩ := H
  refine ⟨h1, ?_, ?_⟩
  · revert h2
    cases fewI (w * h) (datL w h).leads (datL w h).quiet (pressTo (datL w h).lit 0 x (w * h)) with
    | none => intro h2; cases h2
    | some k => intro h2; exact ⟨k, rfl, of_decide_eq_true h2⟩
  · constructor
    · intro e
      rw [e] at h3
      simpa using h3.symm
    · intro e
      subst e
      simpa using h3
theorem lights_twelve {w h x : Nat} (hx : x < 2 ^ (w * h)) (hn : w * h = 12) (hD : DatIs w h) (hT : okTwelve (datL w h) = true) : LightsIs w h x := by
  have hlow : ∀ k, k < (datL w h).leads.length → ∃ j, lowS ((datL w h).leads[k]?.getD (0, 0)).2 = 2 ^ j := fun k hk => ⟨_, hD.low k hk⟩
  rw [hn] at hx
  simp only [okTwelve, Bool.and_eq_true, beq_iff_eq] at hT
  obtain ⟨⟨⟨⟨⟨hc, hl⟩, hq⟩, hqt⟩, hml⟩, hll⟩ := hT
  have hC : ∀ k, k < 12 → ((lessP (datL w h).leads (0, 2 ^ k)).2 = 0 ∧ (lessP (datL w h).leads (0, pressTo (datL w h).lit 0 (2 ^ k) 12)).1 = 2 ^ k ∧ pressTo (datL w h).lit 0 (lessP (datL w h).leads (0, 2 ^ k)).1 12 = 2 ^ k ∧
      ∀ i, i < 12 → sideN (2 ^ k) ((datL w h).masks[i]?.getD 0) = bitN (lessP (datL w h).leads (0, 2 ^ k)).1 i) := fun k hk => by
    have := List.all_eq_true.1 hc k (List.mem_range.2 hk)
    simp only [okC, Bool.and_eq_true, beq_iff_eq] at this
    obtain ⟨⟨⟨a, b⟩, c⟩, d⟩ := this
    exact ⟨a, b, c, fun i hi => by simpa using List.all_eq_true.1 d i (List.mem_range.2 hi)⟩
  have hadd : ∀ x y, lessP (datL w h).leads (0, x ^^^ y) = plus2 (lessP (datL w h).leads (0, x)) (lessP (datL w h).leads (0, y)) := fun x y => by
    have := less_lin hlow (0, x) (0, y) _ (Nat.le_refl _)
    simpa [plus2, lessP] using this
  have h00 : lessP (datL w h).leads (0, 0) = (0, 0) := less_none _ _
  have hp0 : ∀ k, pressTo (datL w h).lit 0 0 k = 0 := fun k => by
    have := press_add (datL w h).lit 0 0 k
    rw [Nat.xor_self] at this
    rw [this, Nat.xor_self]
  have F1 : ∀ x, x < 2 ^ 12 → (lessP (datL w h).leads (0, x)).2 = 0 := lin_ind (by rw [h00]) (fun x y a b => by rw [hadd]; simp only [plus2]; rw [a, b]; rfl) 12 (fun k hk => (hC k hk).1)
  have F2 : ∀ x, x < 2 ^ 12 → (lessP (datL w h).leads (0, pressTo (datL w h).lit 0 x 12)).1 = x := lin_ind (by rw [hp0, h00]) (fun x y a b => by rw [press_add, hadd]; simp only [plus2]; rw [a, b]) 12 (fun k hk => (hC k hk).2.1)
  have F3 : ∀ x, x < 2 ^ 12 → pressTo (datL w h).lit 0 (lessP (datL w h).leads (0, x)).1 12 = x := lin_ind (by rw [h00, hp0]) (fun x y a b => by rw [hadd]; simp only [plus2]; rw [press_add, a, b]) 12 (fun k hk => (hC k hk).2.2.1)
  have F4 : ∀ x, x < 2 ^ 12 → ∀ i, i < 12 → sideN x ((datL w h).masks[i]?.getD 0) = bitN (lessP (datL w h).leads (0, x)).1 i := lin_ind (fun i hi => by rw [h00]; unfold sideN; rw [Nat.and_zero]; simp [bitN, parN])
    (fun x y a b i hi => by
      rw [hadd]
      simp only [plus2]
      rw [bitN_xor, ← a i hi, ← b i hi]
      unfold sideN
      rw [Nat.and_xor_distrib_left, par_xor]) 12 (fun k hk => (hC k hk).2.2.2)
  have hfi : ∀ x, x < 2 ^ 12 → fewI (w * h) (datL w h).leads (datL w h).quiet x = some (min 12 (pcN 12 (lessP (datL w h).leads (0, x)).1)) := fun x hx => by
    unfold fewI
    rw [if_pos (F1 x hx), hq, hn]
    simp [dblTo, minTo]
  have hbd : ∀ x, x < 2 ^ 12 → (lessP (datL w h).leads (0, x)).1 < 2 ^ 12 := fun x hx => by
    have := less_lt (M := (datL w h).leads) (r := (0, x)) (m := 12) (by have := hD.leadbd; rw [hn] at this; exact this) ⟨by simp, hx⟩ (datL w h).leads.length
    exact this.1
  have hpl : pressTo (datL w h).lit 0 x 12 < 2 ^ 12 := press_lt x (by have := hD.bd; rw [hn] at this; exact this) (by simp) 12
  refine ⟨?_, ⟨_, by rw [hn, ← hn, hfi _ (by rw [hn]; exact hpl)], ?_⟩, ?_⟩
  · rw [hfi x hx]
    have hs : sumToL ((datL w h).masks.map (sideN x)) (datL w h).lead 12 = (lessP (datL w h).leads (0, x)).1 := by
      rw [bits_sum (lessP (datL w h).leads (0, x)).1 12 _ _ (fun i hi => by
        rw [map_at (f := sideN x) (d := 0) (d' := 0) (by simp [sideN, parN]), F4 x hx i hi]) (fun i hi => by rw [hl, List.getElem?_range hi]; rfl)]
      exact Nat.mod_eq_of_lt (hbd x hx)
    unfold fewM
    simp only [hll, hqt]
    rw [show (datL w h).lead.length = 12 by rw [hl, List.length_range], hs]
    simp [goodTo, minM, pressTo]
  · rw [hn, F2 x hx]
    exact Nat.min_le_right _ _
  · rw [hfi x hx]
    constructor
    · intro e
      have hz : pcN 12 (lessP (datL w h).leads (0, x)).1 = 0 := by injection e with e; omega
      have := pc_zero 12 _ (hbd x hx) hz
      have h3 := F3 x hx
      rw [this, hp0] at h3
      exact h3.symm
    · intro e
      subst e
      rw [h00]
      rfl
theorem lights_at {w h : Nat} (hw : 1 ≤ w ∧ w ≤ 5) (hh : 1 ≤ h ∧ h ≤ 5) (h12 : w * h ≤ 12) {x : Nat} (hx : x < 2 ^ (w * h)) : LightsIs w h x := by
  have hD := dat_is hw hh h12
  obtain ⟨a, rfl⟩ : ∃ a, w = a + 1 := ⟨w - 1, by omega⟩
  obtain ⟨b, rfl⟩ : ∃ b, h = b + 1 := ⟨h - 1, by omega⟩
  by_cases h9 : (a + 1) * (b + 1) ≤ 9
  · exact lights_small hx (lights_ok1 ⟨a, by omega⟩ ⟨b, by omega⟩ h9)
  · obtain ⟨h1, h2⟩ := hw
    obtain ⟨h3, h4⟩ := hh
    have ha : a = 0 ∨ a = 1 ∨ a = 2 ∨ a = 3 ∨ a = 4 := by omega
    have hb : b = 0 ∨ b = 1 ∨ b = 2 ∨ b = 3 ∨ b = 4 := by omega
    have key : (a = 1 ∧ b = 4) ∨ (a = 4 ∧ b = 1) ∨ (a = 2 ∧ b = 3) ∨ (a = 3 ∧ b = 2) := by
      rcases ha with rfl | rfl | rfl | rfl | rfl <;> rcases hb with rfl | rfl | rfl | rfl | rfl <;> first | (exfalso; omega) | decide
    rcases key with ⟨rfl, rfl⟩ | ⟨rfl, rfl⟩ | ⟨rfl, rfl⟩ | ⟨rfl, rfl⟩
    · exact lights_small hx lights_2_5
    · exact lights_small hx lights_5_2
    · exact lights_twelve hx rfl hD twelve_3_4
    · exact lights_twelve hx rfl hD twelve_4_3
end Go.Proofs.YtmfdlijkpdgimaaGreatDoor

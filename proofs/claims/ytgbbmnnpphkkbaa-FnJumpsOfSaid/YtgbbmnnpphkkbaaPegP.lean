/-
  Pegs, purely: jumps, what comes, classes.
-/
import Derived.Test.YtgbbmnnpphkkbaaBitN
namespace Go.Proofs.Ytgbbmnnpphkkbaa
open Go.RowKit
set_option linter.unusedVariables false

theorem bit_is (s i : Nat) : s.testBit i = (bitN s i == 1) := by
  rw [Nat.testBit_eq_decide_div_mod_eq]
  unfold bitN
  rw [Bool.eq_iff_iff, decide_eq_true_eq, beq_iff_eq]
theorem lt_pow (x i : Nat) : x < 2 ^ (x + i) ∧ 2 ^ i < 2 ^ (x + i + 1) :=
  ⟨Nat.lt_of_lt_of_le Nat.lt_two_pow_self (Nat.pow_le_pow_right (by omega) (by omega)), Nat.pow_lt_pow_right (by omega) (by omega)⟩
theorem add_bit {x i : Nat} (h : x.testBit i = false) : x + 2 ^ i = x ^^^ 2 ^ i := by
  have h1 := xor_sum (x + i + 1) x (2 ^ i) (Nat.lt_of_lt_of_le (lt_pow x i).1 (Nat.pow_le_pow_right (by omega) (by omega))) (lt_pow x i).2
  have h2 : notP x (2 ^ i) = x := Nat.eq_of_testBit_eq fun t => by
    rw [notP_bit, Nat.testBit_two_pow]
    by_cases e : i = t
    · subst e; simp [h]
    · simp [e]
  have h3 : notP (2 ^ i) x = 2 ^ i := Nat.eq_of_testBit_eq fun t => by
    rw [notP_bit, Nat.testBit_two_pow]
    by_cases e : i = t
    · subst e; simp [h]
    · simp [e]
  rw [h2, h3] at h1
  exact h1
theorem sub_bit {x i : Nat} (h : x.testBit i = true) : x - 2 ^ i = x ^^^ 2 ^ i := by
  have h1 : (x ^^^ 2 ^ i).testBit i = false := by rw [Nat.testBit_xor, h, Nat.testBit_two_pow_self]; rfl
  have h2 := add_bit h1
  rw [Nat.xor_assoc, Nat.xor_self, Nat.xor_zero] at h2
  omega
theorem flip_at (x i t : Nat) : (x ^^^ 2 ^ i).testBit t = (x.testBit t != decide (i = t)) := by
  rw [Nat.testBit_xor, Nat.testBit_two_pow]

/-- A cell two on in a row or a column. -/
def farP (w i k : Nat) : Bool := (k / w == i / w && (k == i + 2 || i == k + 2)) || (k % w == i % w && (k == i + 2 * w || i == k + 2 * w))
abbrev Jump := Nat × Nat × Nat
def okJ (w s : Nat) (j : Jump) : Bool := farP w j.1 j.2.2 && j.2.1 == (j.1 + j.2.2) / 2 && s.testBit j.1 && s.testBit j.2.1 && !s.testBit j.2.2
/-- The jumps, by their first and then by their last cell. -/
def jumpL (w n s : Nat) : List Jump := (List.range n).flatMap fun i => ((List.range n).filter fun k => okJ w s (i, (i + k) / 2, k)).map fun k => (i, (i + k) / 2, k)
def behindP (s : Nat) (j : Jump) : Nat := s - 2 ^ j.1 - 2 ^ j.2.1 + 2 ^ j.2.2
theorem jump_mem {w n s : Nat} {j : Jump} : j ∈ jumpL w n s ↔ j.1 < n ∧ j.2.2 < n ∧ okJ w s j = true := by
  obtain ⟨i, m, k⟩ := j
  unfold jumpL
  simp only [List.mem_flatMap, List.mem_map, List.mem_filter, List.mem_range, Prod.mk.injEq]
  constructor
  · rintro ⟨a, ha, b, ⟨hb, ho⟩, rfl, rfl, rfl⟩
    exact ⟨ha, hb, ho⟩
  · rintro ⟨hi, hk, ho⟩
    have hm : m = (i + k) / 2 := by
      unfold okJ at ho
      simp only [Bool.and_eq_true, beq_iff_eq] at ho
      exact ho.1.1.1.2
    subst hm
    exact ⟨i, hi, k, ⟨hk, ho⟩, rfl, rfl, rfl⟩
theorem far_apart {w i k : Nat} (hw : 1 ≤ w) (h : farP w i k = true) : i ≠ k ∧ (i + k) / 2 ≠ i ∧ (i + k) / 2 ≠ k ∧ ((i + k) / 2 < i ∨ (i + k) / 2 < k) := by
  unfold farP at h
  simp only [Bool.or_eq_true, Bool.and_eq_true, beq_iff_eq] at h
  rcases h with ⟨_, h | h⟩ | ⟨_, h | h⟩ <;> omega
structure JumpIs (w n s : Nat) (j : Jump) : Prop where
  i : j.1 < n
  m : j.2.1 < n
  k : j.2.2 < n
  im : j.1 ≠ j.2.1
  ik : j.1 ≠ j.2.2
  km : j.2.1 ≠ j.2.2
  mid : j.2.1 = (j.1 + j.2.2) / 2
  far : farP w j.1 j.2.2 = true
  bi : s.testBit j.1 = true
  bm : s.testBit j.2.1 = true
  bk : s.testBit j.2.2 = false
theorem jump_is {w n s : Nat} (hw : 1 ≤ w) {j : Jump} (h : j ∈ jumpL w n s) : JumpIs w n s j := by
  obtain ⟨hi, hk, ho⟩ := jump_mem.1 h
  unfold okJ at ho
  simp only [Bool.and_eq_true, beq_iff_eq, Bool.not_eq_true'] at ho
  obtain ⟨⟨⟨⟨hf, hm⟩, b1⟩, b2⟩, b3⟩ := ho
  obtain ⟨a1, a2, a3, a4⟩ := far_apart hw hf
  exact ⟨hi, by omega, hk, by omega, a1, by omega, hm, hf, b1, b2, b3⟩
theorem is_jump {w n s : Nat} {j : Jump} (h : JumpIs w n s j) : j ∈ jumpL w n s :=
  jump_mem.2 ⟨h.i, h.k, by unfold okJ; rw [h.far, h.bi, h.bm, h.bk, h.mid]; simp⟩
theorem behind_xor {w n s : Nat} {j : Jump} (h : JumpIs w n s j) : behindP s j = ((s ^^^ 2 ^ j.1) ^^^ 2 ^ j.2.1) ^^^ 2 ^ j.2.2 := by
  unfold behindP
  rw [sub_bit h.bi, sub_bit (by rw [flip_at, h.bm]; simp [h.im]), add_bit (by rw [flip_at, flip_at, h.bk]; simp [h.ik, h.km])]
theorem behind_at {w n s : Nat} {j : Jump} (h : JumpIs w n s j) (t : Nat) : (behindP s j).testBit t = if t = j.1 ∨ t = j.2.1 then false else if t = j.2.2 then true else s.testBit t := by
  rw [behind_xor h, flip_at, flip_at, flip_at]
  have h1 := h.bi
  have h2 := h.bm
  have h3 := h.bk
  have h4 := h.im
  have h5 := h.ik
  have h6 := h.km
  by_cases e1 : t = j.1
  · subst e1; simp [h1, Ne.symm h4, Ne.symm h5]
  · by_cases e2 : t = j.2.1
    · subst e2; simp [h2, h4, Ne.symm h6]
    · by_cases e3 : t = j.2.2
      · subst e3; simp [h3, e1, e2, Ne.symm e1, Ne.symm e2]
      · simp [e1, e2, e3, Ne.symm e1, Ne.symm e2, Ne.symm e3]
theorem behind_lt {w n s : Nat} {j : Jump} (h : JumpIs w n s j) (hs : s < 2 ^ n) : behindP s j < 2 ^ n := by
  rw [behind_xor h]
  exact Nat.xor_lt_two_pow (Nat.xor_lt_two_pow (Nat.xor_lt_two_pow hs (Nat.pow_lt_pow_right (by omega) h.i)) (Nat.pow_lt_pow_right (by omega) h.m)) (Nat.pow_lt_pow_right (by omega) h.k)

/-- How many pegs. -/
def cntB (x : Nat) : Nat → Nat
  | 0 => 0
  | k + 1 => cntB x k + (x.testBit k).toNat
theorem cnt_flip {x i : Nat} : ∀ n, i < n → cntB (x ^^^ 2 ^ i) n + (x.testBit i).toNat = cntB x n + (!x.testBit i).toNat
  | n + 1, h => by
    simp only [cntB, flip_at]
    by_cases e : i = n
    · subst e
      have same : ∀ k, k ≤ i → cntB (x ^^^ 2 ^ i) k = cntB x k := by
        intro k hk
        induction k with
        | zero => rfl
        | succ k ih =>
          simp only [cntB, flip_at]
          rw [ih (by omega)]
          simp [show ¬ i = k by omega]
      rw [same i (Nat.le_refl _)]
      cases x.testBit i <;> simp
    · have := cnt_flip (x := x) (i := i) n (by omega)
      simp only [e, decide_false, Bool.bne_false]
      omega
theorem cnt_behind {w n s : Nat} {j : Jump} (h : JumpIs w n s j) : cntB (behindP s j) n + 1 = cntB s n := by
  rw [behind_xor h]
  have h1 := cnt_flip (x := s) (i := j.1) n h.i
  have h2 := cnt_flip (x := s ^^^ 2 ^ j.1) (i := j.2.1) n h.m
  have h3 := cnt_flip (x := (s ^^^ 2 ^ j.1) ^^^ 2 ^ j.2.1) (i := j.2.2) n h.k
  simp only [flip_at, h.bi, h.bm, h.bk, h.im, h.ik, h.km, decide_false, Bool.bne_false, Bool.toNat_true, Bool.toNat_false, Bool.not_true, Bool.not_false] at h1 h2 h3
  omega
theorem cnt_full (n : Nat) : ∀ k, k ≤ n → cntB (2 ^ n - 1) k = k
  | 0, _ => rfl
  | k + 1, h => by
    simp only [cntB]
    rw [cnt_full n k (by omega), Nat.testBit_two_pow_sub_one]
    simp [show k < n by omega]
theorem cnt_none : ∀ k, cntB 0 k = 0
  | 0 => rfl
  | k + 1 => by simp [cntB, cnt_none k]

/-- How many pegs of some cells, by 2. -/
def parC (f : Nat → Bool) (x : Nat) : Nat → Bool
  | 0 => false
  | k + 1 => parC f x k != (f k && x.testBit k)
theorem par_flip {f : Nat → Bool} {x i : Nat} : ∀ n, i < n → parC f (x ^^^ 2 ^ i) n = (parC f x n != f i)
  | n + 1, h => by
    simp only [parC, flip_at]
    by_cases e : i = n
    · subst e
      have same : ∀ k, k ≤ i → parC f (x ^^^ 2 ^ i) k = parC f x k := by
        intro k hk
        induction k with
        | zero => rfl
        | succ k ih =>
          simp only [parC, flip_at]
          rw [ih (by omega)]
          simp [show ¬ i = k by omega]
      rw [same i (Nat.le_refl _)]
      cases parC f x i <;> cases f i <;> cases x.testBit i <;> simp
    · rw [par_flip n (by omega)]
      simp only [e, decide_false, Bool.bne_false]
      cases parC f x n <;> cases f i <;> cases (f n && x.testBit n) <;> rfl
def clsF (w : Nat) : Nat → Nat → Bool
  | 0, i => (i / w + i % w) % 3 == 0 || (i / w + i % w) % 3 == 1
  | 1, i => (i / w + i % w) % 3 == 1 || (i / w + i % w) % 3 == 2
  | 2, i => (i / w + 15 - i % w) % 3 == 0 || (i / w + 15 - i % w) % 3 == 1
  | _, i => (i / w + 15 - i % w) % 3 == 1 || (i / w + 15 - i % w) % 3 == 2
def clsOk (w n : Nat) : Bool := (List.range n).all fun i => (List.range n).all fun k => !farP w i k || (List.range 4).all fun q => (clsF w q i != clsF w q ((i + k) / 2)) == clsF w q k
theorem cls_ok : ∀ a : Fin 5, ∀ n : Fin 13, clsOk (a.val + 1) n.val = true := by decide +kernel
def clsP (w n s q : Nat) : Bool := parC (clsF w q) s n
theorem cls_behind {w n s q : Nat} (hw : 1 ≤ w ∧ w ≤ 5) (hn : n ≤ 12) (hq : q < 4) {j : Jump} (h : JumpIs w n s j) : clsP w n (behindP s j) q = clsP w n s q := by
  have h0 := cls_ok ⟨w - 1, by omega⟩ ⟨n, by omega⟩
  simp only [show w - 1 + 1 = w by omega] at h0
  unfold clsOk at h0
  have h1 := List.all_eq_true.1 (List.all_eq_true.1 h0 j.1 (List.mem_range.2 h.i)) j.2.2 (List.mem_range.2 h.k)
  rw [h.far, Bool.not_true, Bool.false_or] at h1
  have h2 := beq_iff_eq.1 (List.all_eq_true.1 h1 q (List.mem_range.2 hq))
  rw [← h.mid] at h2
  unfold clsP
  rw [behind_xor h, par_flip n h.k, par_flip n h.m, par_flip n h.i, ← h2]
  cases parC (clsF w q) s n <;> cases clsF w q j.1 <;> cases clsF w q j.2.1 <;> rfl

/-- What comes from a set of pegs. -/
inductive Comes (w n s : Nat) : Nat → Prop
  | self : Comes w n s s
  | jump {x : Nat} {j : Jump} : Comes w n s x → j ∈ jumpL w n x → Comes w n s (behindP x j)
theorem comes_lt {w n s x : Nat} (hw : 1 ≤ w) (hs : s < 2 ^ n) (h : Comes w n s x) : x < 2 ^ n := by
  induction h with
  | self => exact hs
  | jump _ hj ih => exact behind_lt (jump_is hw hj) ih
theorem comes_cls {w n s x q : Nat} (hw : 1 ≤ w ∧ w ≤ 5) (hn : n ≤ 12) (hq : q < 4) (h : Comes w n s x) : clsP w n x q = clsP w n s q := by
  induction h with
  | self => rfl
  | jump _ hj ih => rw [cls_behind hw hn hq (jump_is hw.1 hj), ih]
theorem comes_cnt {w n s x : Nat} (hw : 1 ≤ w) (h : Comes w n s x) : x = s ∨ cntB x n < cntB s n := by
  induction h with
  | self => exact .inl rfl
  | jump hx hj ih =>
    have := cnt_behind (jump_is hw hj)
    right
    rcases ih with rfl | ih <;> omega
theorem comes_trans {w n a b c : Nat} (h : Comes w n a b) (g : Comes w n b c) : Comes w n a c := by
  induction g with
  | self => exact h
  | jump _ hj ih => exact .jump ih hj
theorem comes_first {w n s x : Nat} (h : Comes w n s x) : x = s ∨ ∃ j, j ∈ jumpL w n s ∧ Comes w n (behindP s j) x := by
  induction h with
  | self => exact .inl rfl
  | jump hx hj ih =>
    right
    rcases ih with rfl | ⟨j0, h0, h1⟩
    · exact ⟨_, hj, .self⟩
    · exact ⟨j0, h0, .jump h1 hj⟩
/-- Free cells jump back. -/
theorem free_at {n x : Nat} (hx : x < 2 ^ n) (t : Nat) : (2 ^ n - 1 - x).testBit t = (decide (t < n) && !x.testBit t) := by
  rw [show 2 ^ n - 1 - x = 2 ^ n - (x + 1) by omega]
  exact Nat.testBit_two_pow_sub_succ hx t
theorem jump_back {w n s : Nat} (hw : 1 ≤ w) (hs : s < 2 ^ n) {j : Jump} (h : JumpIs w n s j) : JumpIs w n (2 ^ n - 1 - behindP s j) j ∧ behindP (2 ^ n - 1 - behindP s j) j = 2 ^ n - 1 - s := by
  have hb := behind_lt h hs
  have hat := behind_at h
  have hI : JumpIs w n (2 ^ n - 1 - behindP s j) j :=
    ⟨h.i, h.m, h.k, h.im, h.ik, h.km, h.mid, h.far,
      by rw [free_at hb, hat, if_pos (.inl rfl)]; simp [h.i],
      by rw [free_at hb, hat, if_pos (.inr rfl)]; simp [h.m],
      by rw [free_at hb, hat, if_neg (by rintro (e | e); exact h.ik e.symm; exact h.km e.symm), if_pos rfl]; simp⟩
  refine ⟨hI, Nat.eq_of_testBit_eq fun t => ?_⟩
  rw [behind_at hI, free_at hb, free_at hs, hat]
  by_cases e1 : t = j.1
  · rw [if_pos (.inl e1), e1, h.bi]; simp
  · by_cases e2 : t = j.2.1
    · rw [if_pos (.inr e2), e2, h.bm]; simp
    · rw [if_neg (by rintro (e | e); exact e1 e; exact e2 e)]
      by_cases e3 : t = j.2.2
      · rw [if_pos e3, e3, h.bk]; simp [h.k]
      · rw [if_neg e3, if_neg (by rintro (e | e); exact e1 e; exact e2 e), if_neg e3]
theorem comes_back {w n a b : Nat} (hw : 1 ≤ w) (ha : a < 2 ^ n) (h : Comes w n a b) : Comes w n (2 ^ n - 1 - b) (2 ^ n - 1 - a) := by
  induction h with
  | self => exact .self
  | jump hx hj ih =>
    have hJ := jump_is hw hj
    obtain ⟨g1, g2⟩ := jump_back hw (comes_lt hw ha hx) hJ
    have := Comes.jump .self (is_jump g1)
    rw [g2] at this
    exact comes_trans this ih
theorem comes_free {w n a b : Nat} (hw : 1 ≤ w) (ha : a < 2 ^ n) (hb : b < 2 ^ n) : Comes w n a b ↔ Comes w n (2 ^ n - 1 - b) (2 ^ n - 1 - a) := by
  refine ⟨comes_back hw ha, fun h => ?_⟩
  have := comes_back hw (by omega) h
  rwa [show 2 ^ n - 1 - (2 ^ n - 1 - a) = a by omega, show 2 ^ n - 1 - (2 ^ n - 1 - b) = b by omega] at this
theorem jump_none (w n : Nat) : jumpL w n 0 = [] ∧ jumpL w n (2 ^ n - 1) = [] := by
  constructor <;> refine List.eq_nil_iff_forall_not_mem.2 fun j hj => ?_ <;> obtain ⟨h1, h2, h3⟩ := jump_mem.1 hj <;> unfold okJ at h3
  · simp at h3
  · rw [Nat.testBit_two_pow_sub_one, Nat.testBit_two_pow_sub_one, Nat.testBit_two_pow_sub_one] at h3
    simp [h2] at h3
end Go.Proofs.Ytgbbmnnpphkkbaa

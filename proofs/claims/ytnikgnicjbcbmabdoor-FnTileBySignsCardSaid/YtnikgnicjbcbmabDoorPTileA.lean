
/-
  Covers of boards as the program counts them, purely: sets of cells as numbers; the pieces of the first cell that is left; the first way.
-/
import Derived.Test.YtnikgnicjbcbmabDoorTileF
import Derived.Test.YtnikgnicjbcbmabDoorTileK
import Derived.Lib.TrailingZeros
namespace Go.Proofs.YtnikgnicjbcbmabDoor
set_option linter.unusedVariables false

/-- The members of x that are not of y. -/
def dif (x y : Nat) : Nat := x ^^^ (x &&& y)
theorem dif_bit (x y i : Nat) : (dif x y).testBit i = (x.testBit i && !y.testBit i) := by
  unfold dif
  rw [Nat.testBit_xor, Nat.testBit_and]
  cases x.testBit i <;> cases y.testBit i <;> rfl
theorem dif_lt {x n : Nat} (y : Nat) (h : x < 2 ^ n) : dif x y < 2 ^ n := Nat.xor_lt_two_pow h (Nat.lt_of_le_of_lt Nat.and_le_left h)
theorem dif_le (x y : Nat) : dif x y ≤ x := by
  have e : dif x y ||| x = x := Nat.eq_of_testBit_eq fun i => by
    rw [Nat.testBit_or, dif_bit]
    cases x.testBit i <;> cases y.testBit i <;> rfl
  have := Nat.left_le_or (n := dif x y) (m := x)
  rwa [e] at this
theorem dif_less {x y i : Nat} (h1 : x.testBit i = true) (h2 : y.testBit i = true) : dif x y < x := by
  have h := dif_le x y
  have h3 : dif x y ≠ x := fun e => by
    have := dif_bit x y i
    rw [e, h1, h2] at this
    cases this
  omega
/-- The lowest member. -/
def low (x : Nat) : Nat := Lib.ctz 64 x
theorem low_spec {x n : Nat} (h0 : x ≠ 0) (h : x < 2 ^ n) (hn : n ≤ 62) : x.testBit (low x) = true ∧ (∀ i, i < low x → x.testBit i = false) ∧ low x < n := by
  have h64 : x < 2 ^ 64 := Nat.lt_of_lt_of_le h (Nat.pow_le_pow_right (by omega) (by omega))
  obtain ⟨m, hm, _⟩ := Lib.ctzFrom_spec 64 x (by omega) h64
  have e : low x = Lib.ctzFrom 64 x := by unfold low Lib.ctz; rw [if_neg h0]
  rw [← e] at hm
  generalize low x = k at *
  have hk : x.testBit k = true := by
    rw [hm, Nat.testBit_two_pow_mul, Nat.sub_self, decide_eq_true (Nat.le_refl k)]
    simp [Nat.testBit_zero]
  refine ⟨hk, fun i hi => ?_, ?_⟩
  · rw [hm, Nat.testBit_two_pow_mul, decide_eq_false (by omega)]
    rfl
  · have := Nat.ge_two_pow_of_testBit hk
    exact (Nat.pow_lt_pow_iff_right (a := 2) (by omega)).1 (Nat.lt_of_le_of_lt this h)
/-- What is covered: all that is not left. -/
def cOf (left : Nat) : Nat → Bool := fun i => !left.testBit i
def pair2 (a b : Nat) : Nat := 2 ^ a ||| 2 ^ b
theorem pair_bit (a b i : Nat) : (pair2 a b).testBit i = (decide (a = i) || decide (b = i)) := by
  unfold pair2
  rw [Nat.testBit_or, Nat.testBit_two_pow, Nat.testBit_two_pow]
theorem cOf_false {left i : Nat} (h : cOf left i = false) : left.testBit i = true := by
  unfold cOf at h
  simpa using h
theorem cOf_pair (left a b : Nat) : cOf (dif left (pair2 a b)) = cov (cOf left) a b := funext fun i => by
  unfold cOf cov
  rw [dif_bit, pair_bit]
  by_cases e1 : i = a
  · subst e1; simp
  · by_cases e2 : i = b
    · subst e2; simp
    · rw [decide_eq_false (fun e => e1 e.symm), decide_eq_false (fun e => e2 e.symm), beq_eq_false_iff_ne.2 e1, beq_eq_false_iff_ne.2 e2]
      simp
/-- The pieces that may cover the first cell that is left. -/
def pieces (w n left : Nat) : List Nat := (if low left % w + 1 < w ∧ left.testBit (low left + 1) = true then [pair2 (low left) (low left + 1)] else []) ++ (if low left + w < n ∧ left.testBit (low left + w) = true then [pair2 (low left) (low left + w)] else [])
def covN (w n left : Nat) : Nat := tileT w n n (cOf left)
theorem cov_zero (w n : Nat) : covN w n 0 = 1 := by
  unfold covN
  rw [tile_from n 0 (by omega) (Nat.le_refl _) (fun i _ => by simp [cOf])]
  rfl
theorem cov_bd (w n left : Nat) (hn : n ≤ 25) : covN w n left ≤ 33554432 := Nat.le_trans (tile_bd w n n _) (Nat.pow_le_pow_right (n := 2) (by omega) hn)
theorem cov_at {w n left a : Nat} (hl : left.testBit a = true) (hlow : ∀ i, i < a → left.testBit i = false) (han : a < n) : covN w n left =
    (if a % w + 1 < w ∧ left.testBit (a + 1) = true then covN w n (dif left (pair2 a (a + 1))) else 0) + (if a + w < n ∧ left.testBit (a + w) = true then covN w n (dif left (pair2 a (a + w))) else 0) := by
  obtain ⟨k, hk⟩ : ∃ k, n - a = k + 1 := ⟨n - a - 1, by omega⟩
  have hc : ∀ i, i < a → cOf left i = true := fun i hi => by unfold cOf; rw [hlow i hi]; rfl
  have hf : ∀ y, tileT w n n (cov (cOf left) a y) = tileT w n k (cov (cOf left) a y) := fun y => tile_from n k (by omega) (Nat.le_refl _) (fun i hi => by
    by_cases e : i = a
    · subst e; exact cov_l _ _ _
    · exact cov_true (hc i (by omega)))
  unfold covN
  rw [tile_from n (k + 1) (by omega) (Nat.le_refl _) (fun i hi => hc i (by omega)), tile_step, show n - (k + 1) = a by omega, if_neg (by unfold cOf; rw [hl]; decide), cOf_pair, cOf_pair, hf, hf]
  congr 1
  · by_cases h : a % w + 1 < w ∧ left.testBit (a + 1) = true
    · rw [if_pos h, if_pos (by unfold cOf; rw [h.2, decide_eq_true h.1]; rfl)]
    · rw [if_neg h, if_neg (fun h' => h (by unfold cOf at h'; simpa using h'))]
  · by_cases h : a + w < n ∧ left.testBit (a + w) = true
    · rw [if_pos h, if_pos (by unfold cOf; rw [h.2, decide_eq_true h.1]; rfl)]
    · rw [if_neg h, if_neg (fun h' => h (by unfold cOf at h'; simpa using h'))]
theorem cov_step {w n left : Nat} (h0 : left ≠ 0) (h : left < 2 ^ n) (hn : n ≤ 25) : covN w n left = ((pieces w n left).map fun p => covN w n (dif left p)).sum := by
  obtain ⟨l1, l2, l3⟩ := low_spec h0 h (by omega)
  rw [cov_at l1 l2 l3]
  unfold pieces
  split <;> split <;> simp
theorem pieces_less {w n left : Nat} (h0 : left ≠ 0) (h : left < 2 ^ n) (hn : n ≤ 25) : ∀ p ∈ pieces w n left, dif left p < left := fun p hp => by
  obtain ⟨l1, l2, l3⟩ := low_spec h0 h (by omega)
  have : p.testBit (low left) = true := by
    unfold pieces at hp
    rw [List.mem_append] at hp
    rcases hp with hp | hp
    · split at hp
      · rw [List.mem_singleton.1 hp, pair_bit]; simp
      · cases hp
    · split at hp
      · rw [List.mem_singleton.1 hp, pair_bit]; simp
      · cases hp
  exact dif_less l1 this
theorem pieces_len (w n left : Nat) : (pieces w n left).length ≤ 2 := by
  unfold pieces
  split <;> split <;> simp
theorem pair_lt {a b n : Nat} (ha : a < n) (hb : b < n) : pair2 a b < 2 ^ n := Nat.or_lt_two_pow (Nat.pow_lt_pow_right (by omega) ha) (Nat.pow_lt_pow_right (by omega) hb)
theorem pieces_lt {w h n left : Nat} (hn : n = w * h) (hw : 1 ≤ w) (h0 : left ≠ 0) (hl : left < 2 ^ n) (h25 : n ≤ 25) : ∀ p ∈ pieces w n left, p < 2 ^ n := fun p hp => by
  obtain ⟨l1, l2, l3⟩ := low_spec h0 hl (by omega)
  unfold pieces at hp
  rw [List.mem_append] at hp
  rcases hp with hp | hp
  · split at hp
    · rename_i h1
      rw [List.mem_singleton.1 hp]
      refine pair_lt l3 ?_
      apply Nat.lt_of_not_le
      intro h'
      have := Nat.ge_two_pow_of_testBit h1.2
      have := Nat.pow_le_pow_right (n := 2) (by omega) h'
      omega
    · cases hp
  · split at hp
    · rename_i h1
      rw [List.mem_singleton.1 hp]
      exact pair_lt l3 h1.1
    · cases hp
/-- The piece with which the first way begins. -/
def firstC (w n left : Nat) : Option Nat := (pieces w n left).find? fun p => decide (0 < covN w n (dif left p))
theorem first_none {w n left : Nat} (h0 : left ≠ 0) (h : left < 2 ^ n) (hn : n ≤ 25) (hz : covN w n left = 0) : firstC w n left = none := by
  unfold firstC
  rw [List.find?_eq_none]
  intro p hp
  rw [cov_step h0 h hn] at hz
  have := List.sum_eq_zero_iff_forall_eq_nat.1 hz _ (List.mem_map.2 ⟨p, hp, rfl⟩)
  simp [this]
theorem first_some {w h n left : Nat} (hn : n = w * h) (hw : 1 ≤ w) (h0 : left ≠ 0) (hl : left < 2 ^ n) (h25 : n ≤ 25) (hp : 0 < covN w n left) :
    firstC w n left = some (pair2 (low left) (toG w n (cOf left) (low left))) ∧ toG w n (cOf left) (low left) < n ∧ low left < toG w n (cOf left) (low left) ∧ 0 < covN w n (dif left (pair2 (low left) (toG w n (cOf left) (low left)))) := by
  obtain ⟨l1, l2, l3⟩ := low_spec h0 hl (by omega)
  obtain ⟨k, hk⟩ : ∃ k, n - low left = k + 1 := ⟨n - low left - 1, by omega⟩
  obtain ⟨m1, m2, m3, m4, m5⟩ := mate (g := cOf left) hn hw (show k + 1 ≤ n by omega) (show n - (k + 1) = low left by omega) (fun i hi => by unfold cOf; rw [l2 i hi]; rfl) (by unfold cOf; rw [l1]; rfl) hp
  rw [← cOf_pair] at m5
  refine ⟨?_, m2, m1, m5⟩
  generalize ha : low left = a at *
  unfold firstC pieces
  rw [ha]
  have m3' : left.testBit (toG w n (cOf left) a) = true := cOf_false m3
  by_cases h1 : (decide (a % w + 1 < w) && !(cOf left) (a + 1) && decide (0 < tileT w n n (cov (cOf left) a (a + 1)))) = true
  · have ht : toG w n (cOf left) a = a + 1 := by unfold toG; rw [if_pos h1]
    rw [ht] at m5 ⊢
    simp only [Bool.and_eq_true, decide_eq_true_eq] at h1
    rw [if_pos ⟨h1.1.1, by have := h1.1.2; unfold cOf at this; simpa using this⟩]
    rw [List.singleton_append]
    exact List.find?_cons_of_pos (decide_eq_true (show 0 < covN w n (dif left (pair2 a (a + 1))) from m5))
  · have ht : toG w n (cOf left) a = a + w := by unfold toG; rw [if_neg h1]
    rw [ht] at m2 m3' m5 ⊢
    rw [if_pos (show a + w < n ∧ left.testBit (a + w) = true from ⟨m2, m3'⟩)]
    have hlast : List.find? (fun p => decide (0 < covN w n (dif left p))) [pair2 a (a + w)] = some (pair2 a (a + w)) := List.find?_cons_of_pos (decide_eq_true (show 0 < covN w n (dif left (pair2 a (a + w))) from m5))
    split
    · rename_i h2
      rw [List.singleton_append, List.find?_cons_of_neg, hlast]
      intro h3
      refine h1 ?_
      rw [decide_eq_true_eq] at h3
      unfold covN at h3
      rw [cOf_pair] at h3
      have : (cOf left) (a + 1) = false := by unfold cOf; rw [h2.2]; rfl
      rw [this, decide_eq_true h2.1, decide_eq_true h3]
      rfl
    · rw [List.nil_append, hlast]

/-- The cells of a list as a set. -/
def orS (l : List Int) : Nat := l.foldl (fun s x => s ||| 2 ^ x.toNat) 0
theorem orS_snoc (l : List Int) (k : Nat) (h : k < l.length) : orS (l.take (k + 1)) = orS (l.take k) ||| 2 ^ (l[k]?.getD 0).toNat := by
  unfold orS
  rw [take_snoc _ _ h, List.foldl_append]
  rfl
theorem orS_from (i : Nat) : ∀ (l : List Int) (s : Nat), (∀ x ∈ l, 0 ≤ x) → (l.foldl (fun s x => s ||| 2 ^ x.toNat) s).testBit i = (s.testBit i || inL l i)
  | [], s, _ => by simp [inL]
  | x :: l, s, h => by
    rw [List.foldl_cons, orS_from i l _ (fun y hy => h y (List.mem_cons_of_mem _ hy)), Nat.testBit_or, Nat.testBit_two_pow]
    have hx := h x List.mem_cons_self
    unfold inL
    rw [List.contains_cons, Bool.or_assoc]
    congr 2
    rw [Bool.eq_iff_iff, decide_eq_true_eq, beq_iff_eq]
    omega
theorem orS_bit (l : List Int) (i : Nat) (h : ∀ x ∈ l, 0 ≤ x) : (orS l).testBit i = inL l i := by
  unfold orS
  rw [orS_from i l 0 h, Nat.zero_testBit, Bool.false_or]
/-- The cells that are no holes. -/
def setOf (n : Nat) (hs : List Int) : Nat := dif (2 ^ n - 1) (orS hs)
theorem setOf_lt (n : Nat) (hs : List Int) : setOf n hs < 2 ^ n := dif_lt _ (by have := Nat.pow_pos (n := n) (show 0 < 2 by omega); omega)
theorem setOf_bit {n : Nat} {hs : List Int} (h : ∀ x ∈ hs, 0 ≤ x) (i : Nat) : (setOf n hs).testBit i = (decide (i < n) && !inL hs i) := by
  unfold setOf
  rw [dif_bit, orS_bit hs i h, Nat.testBit_two_pow_sub_one]
theorem tile_congr {w h : Nat} (hw : 1 ≤ w ∧ w ≤ 5) {c c' : Nat → Bool} (hc : ∀ i, i < w * h → c' i = c i) : tileT w (w * h) (w * h) c = tileT w (w * h) (w * h) c' := by
  rw [← tile_is hw, ← tile_is hw]
  exact ways_alike (φ := fun i => i) (fun i j => adjG_sym w i j) (by simp) (fun i hi => hi) (fun i j _ _ => rfl) (fun i j _ _ => rfl) _ c c' (Nat.le_refl _) (fun i hi => absurd hi (by omega)) hc
theorem cov_set {w h : Nat} (hw : 1 ≤ w ∧ w ≤ 5) {hs : List Int} (hp : ∀ x ∈ hs, 0 ≤ x) : covN w (w * h) (setOf (w * h) hs) = tileT w (w * h) (w * h) (inL hs) := by
  unfold covN
  refine tile_congr hw fun i hi => ?_
  unfold cOf
  rw [setOf_bit hp, decide_eq_true hi, Bool.true_and, Bool.not_not]

/-! ### The first way, piece by piece -/
theorem first_from {w n : Nat} {g : Nat → Bool} {o : Nat → Int} {m : Nat} : ∀ (k j : Nat), j ≤ k → k ≤ n → (∀ i, i < n - j → g i = true) → firstG w n k g o m = firstG w n j g o m
  | 0, j, hj, _, _ => by obtain rfl : j = 0 := by omega
                         rfl
  | k + 1, j, hj, hk, h => by
    by_cases e : j = k + 1
    · subst e; rfl
    · rw [first_skip (h _ (by omega))]
      exact first_from k j (by omega) (by omega) h
theorem first_round {w n left : Nat} {o : Nat → Int} {m : Nat} (h0 : left ≠ 0) (hl : left < 2 ^ n) (h25 : n ≤ 25) :
    firstG w n n (cOf left) o m = firstG w n n (cOf (dif left (pair2 (low left) (toG w n (cOf left) (low left))))) (fun i => if (pair2 (low left) (toG w n (cOf left) (low left))).testBit i then (m : Int) else o i) (m + 1) := by
  obtain ⟨l1, l2, l3⟩ := low_spec h0 hl (by omega)
  obtain ⟨k, hk⟩ : ∃ k, n - low left = k + 1 := ⟨n - low left - 1, by omega⟩
  generalize low left = a at *
  have hg : ∀ i, i < a → cOf left i = true := fun i hi => by unfold cOf; rw [l2 i hi]; rfl
  rw [first_from n (k + 1) (by omega) (Nat.le_refl _) (fun i hi => hg i (by omega)), first_step (show n - (k + 1) = a by omega) (by unfold cOf; rw [l1]; rfl), cOf_pair]
  symm
  rw [first_from n k (by omega) (Nat.le_refl _) (fun i hi => by
    by_cases e : i = a
    · subst e; exact cov_l _ _ _
    · exact cov_true (hg i (by omega)))]
  congr 1
  funext i
  rw [pair_bit]
  by_cases e : i = a ∨ i = toG w n (cOf left) a
  · rw [if_pos e, if_pos (by rw [Bool.or_eq_true, decide_eq_true_eq, decide_eq_true_eq]; rcases e with e | e <;> simp [e])]
  · rw [if_neg e, if_neg (by rw [Bool.or_eq_true, decide_eq_true_eq, decide_eq_true_eq]; intro h'; exact e (h'.imp Eq.symm Eq.symm))]
theorem first_end (w n : Nat) (o : Nat → Int) (m : Nat) : firstG w n n (cOf 0) o m = (o, m) := by
  rw [first_from n 0 (by omega) (Nat.le_refl _) (fun i _ => by simp [cOf])]
  rfl
end Go.Proofs.YtnikgnicjbcbmabDoor

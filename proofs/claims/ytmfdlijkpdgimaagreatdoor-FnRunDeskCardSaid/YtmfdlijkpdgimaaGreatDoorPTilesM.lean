/-
  PTileA, PTileB, PTileC, PTileD, PTileE, PTileF in one text.
-/
import Derived.Test.YtmfdlijkpdgimaaGreatDoorTilesM
import Derived.Lib.TrailingZeros
import Derived.Test.YtmfdlijkpdgimaaGreatDoorMovesM
import Derived.Laws.Bits64b
import Derived.Lib.RabinKarpLaws
import Derived.Test.YtmfdlijkpdgimaaGreatDoorSpecM
/-
  Covers of boards as the program counts them, purely: sets of cells as numbers; the pieces of the first cell that is left; the first way.
-/
namespace Go.Proofs.YtmfdlijkpdgimaaGreatDoor
set_option linter.unusedVariables false

/-- The members of x that are not of y. -/
def dif (x y : Nat) : Nat := x ^^^ (x &&& y)
theorem dif_bit (x y i : Nat) : (dif x y).testBit i = (x.testBit i && !y.testBit i) := by
  unfold dif
  rw [Nat.testBit_xor, Nat.testBit_and]
  cases x.testBit i <;> cases y.testBit i <;> rfl
theorem dif_lt {x n : Nat} (y : Nat) (h : x < 2 ^ n) : dif x y < 2 ^ n := Nat.xor_lt_two_pow h (Nat.lt_of_le_of_lt Nat.and_le_left h)
theorem dif_le (x y : Nat) : dif x y ≤ x := by
  have e : dif x y ||| x = x := Nat.eq_of_testBit_eq fun i => by
    rw [Nat.testBit_or, dif_bit]
    cases x.testBit i <;> cases y.testBit i <;> rfl
  have := Nat.left_le_or (n := dif x y) (m := x)
  rwa [e] at this
theorem dif_less {x y i : Nat} (h1 : x.testBit i = true) (h2 : y.testBit i = true) : dif x y < x := by
  have h := dif_le x y
  have h3 : dif x y ≠ x := fun e => by
    have := dif_bit x y i
    rw [e, h1, h2] at this
    cases this
  omega
/-- The lowest member. -/
def low (x : Nat) : Nat := Lib.ctz 64 x
theorem low_spec {x n : Nat} (h0 : x ≠ 0) (h : x < 2 ^ n) (hn : n ≤ 62) : x.testBit (low x) = true ∧ (∀ i, i < low x → x.testBit i = false) ∧ low x < n := by
  have h64 : x < 2 ^ 64 := Nat.lt_of_lt_of_le h (Nat.pow_le_pow_right (by omega) (by omega))
  obtain ⟨m, hm, _⟩ := Lib.ctzFrom_spec 64 x (by omega) h64
  have e : low x = Lib.ctzFrom 64 x := by unfold low Lib.ctz; rw [if_neg h0]
  rw [← e] at hm
  generalize low x = k at *
  have hk : x.testBit k = true := by
    rw [hm, Nat.testBit_two_pow_mul, Nat.sub_self, decide_eq_true (Nat.le_refl k)]
    simp [Nat.testBit_zero]
  refine ⟨hk, fun i hi => ?_, ?_⟩
  · rw [hm, Nat.testBit_two_pow_mul, decide_eq_false (by omega)]
    rfl
  · have := Nat.ge_two_pow_of_testBit hk
    exact (Nat.pow_lt_pow_iff_right (a := 2) (by omega)).1 (Nat.lt_of_le_of_lt this h)
/-- What is covered: all that is not left. -/
def cOf (left : Nat) : Nat → Bool := fun i => !left.testBit i
def pair2 (a b : Nat) : Nat := 2 ^ a ||| 2 ^ b
theorem pair_bit (a b i : Nat) : (pair2 a b).testBit i = (decide (a = i) || decide (b = i)) := by
  unfold pair2
  rw [Nat.testBit_or, Nat.testBit_two_pow, Nat.testBit_two_pow]
theorem cOf_false {left i : Nat} (h : cOf left i = false) : left.testBit i = true := by
  unfold cOf at h
  simpa using h
theorem cOf_pair (left a b : Nat) : cOf (dif left (pair2 a b)) = cov (cOf left) a b := funext fun i => by
  unfold cOf cov
  rw [dif_bit, pair_bit]
  by_cases e1 : i = a
  · subst e1; simp
  · by_cases e2 : i = b
    · subst e2; simp
    · rw [decide_eq_false (fun e => e1 e.symm), decide_eq_false (fun e => e2 e.symm), beq_eq_false_iff_ne.2 e1, beq_eq_false_iff_ne.2 e2]
      simp
/-- The pieces that may cover the first cell that is left. -/
def pieces (w n left : Nat) : List Nat := (if low left % w + 1 < w ∧ left.testBit (low left + 1) = true then [pair2 (low left) (low left + 1)] else []) ++ (if low left + w < n ∧ left.testBit (low left + w) = true then [pair2 (low left) (low left + w)] else [])
def covN (w n left : Nat) : Nat := tileT w n n (cOf left)
theorem cov_zero (w n : Nat) : covN w n 0 = 1 := by
  unfold covN
  rw [tile_from n 0 (by omega) (Nat.le_refl _) (fun i _ => by simp [cOf])]
  rfl
theorem cov_bd (w n left : Nat) (hn : n ≤ 25) : covN w n left ≤ 33554432 := Nat.le_trans (tile_bd w n n _) (Nat.pow_le_pow_right (n := 2) (by omega) hn)
theorem cov_at {w n left a : Nat} (hl : left.testBit a = true) (hlow : ∀ i, i < a → left.testBit i = false) (han : a < n) : covN w n left =
    (if a % w + 1 < w ∧ left.testBit (a + 1) = true then covN w n (dif left (pair2 a (a + 1))) else 0) + (if a + w < n ∧ left.testBit (a + w) = true then covN w n (dif left (pair2 a (a + w))) else 0) := by
  obtain ⟨k, hk⟩ : ∃ k, n - a = k + 1 := ⟨n - a - 1, by omega⟩
  have hc : ∀ i, i < a → cOf left i = true := fun i hi => by unfold cOf; rw [hlow i hi]; rfl
  have hf : ∀ y, tileT w n n (cov (cOf left) a y) = tileT w n k (cov (cOf left) a y) := fun y => tile_from n k (by omega) (Nat.le_refl _) (fun i hi => by
    by_cases e : i = a
    · subst e; exact cov_l _ _ _
    · exact cov_true (hc i (by omega)))
  unfold covN
  rw [tile_from n (k + 1) (by omega) (Nat.le_refl _) (fun i hi => hc i (by omega)), tile_step, show n - (k + 1) = a by omega, if_neg (by unfold cOf; rw [hl]; decide), cOf_pair, cOf_pair, hf, hf]
  congr 1
  · by_cases h : a % w + 1 < w ∧ left.testBit (a + 1) = true
    · rw [if_pos h, if_pos (by unfold cOf; rw [h.2, decide_eq_true h.1]; rfl)]
    · rw [if_neg h, if_neg (fun h' => h (by unfold cOf at h'; simpa using h'))]
  · by_cases h : a + w < n ∧ left.testBit (a + w) = true
    · rw [if_pos h, if_pos (by unfold cOf; rw [h.2, decide_eq_true h.1]; rfl)]
    · rw [if_neg h, if_neg (fun h' => h (by unfold cOf at h'; simpa using h'))]
theorem cov_step {w n left : Nat} (h0 : left ≠ 0) (h : left < 2 ^ n) (hn : n ≤ 25) : covN w n left = ((pieces w n left).map fun p => covN w n (dif left p)).sum := by
  obtain ⟨l1, l2, l3⟩ := low_spec h0 h (by omega)
  rw [cov_at l1 l2 l3]
  unfold pieces
  split <;> split <;> simp
theorem pieces_less {w n left : Nat} (h0 : left ≠ 0) (h : left < 2 ^ n) (hn : n ≤ 25) : ∀ p ∈ pieces w n left, dif left p < left := fun p hp => by
  obtain ⟨l1, l2, l3⟩ := low_spec h0 h (by omega)
  have : p.testBit (low left) = true := by
    unfold pieces at hp
    rw [List.mem_append] at hp
    rcases hp with hp | hp
    · split at hp
      · rw [List.mem_singleton.1 hp, pair_bit]; simp
      · cases hp
    · split at hp
      · rw [List.mem_singleton.1 hp, pair_bit]; simp
      · cases hp
  exact dif_less l1 this
theorem pieces_len (w n left : Nat) : (pieces w n left).length ≤ 2 := by
  unfold pieces
  split <;> split <;> simp
theorem pair_lt {a b n : Nat} (ha : a < n) (hb : b < n) : pair2 a b < 2 ^ n := Nat.or_lt_two_pow (Nat.pow_lt_pow_right (by omega) ha) (Nat.pow_lt_pow_right (by omega) hb)
theorem pieces_lt {w h n left : Nat} (hn : n = w * h) (hw : 1 ≤ w) (h0 : left ≠ 0) (hl : left < 2 ^ n) (h25 : n ≤ 25) : ∀ p ∈ pieces w n left, p < 2 ^ n := fun p hp => by
  obtain ⟨l1, l2, l3⟩ := low_spec h0 hl (by omega)
  unfold pieces at hp
  rw [List.mem_append] at hp
  rcases hp with hp | hp
  · split at hp
    · rename_i h1
      rw [List.mem_singleton.1 hp]
      refine pair_lt l3 ?_
      apply Nat.lt_of_not_le
      intro h'
      have := Nat.ge_two_pow_of_testBit h1.2
      have := Nat.pow_le_pow_right (n := 2) (by omega) h'
      omega
    · cases hp
  · split at hp
    · rename_i h1
      rw [List.mem_singleton.1 hp]
      exact pair_lt l3 h1.1
    · cases hp
/-- The piece with which the first way begins. -/
def firstC (w n left : Nat) : Option Nat := (pieces w n left).find? fun p => decide (0 < covN w n (dif left p))
theorem first_none {w n left : Nat} (h0 : left ≠ 0) (h : left < 2 ^ n) (hn : n ≤ 25) (hz : covN w n left = 0) : firstC w n left = none := by
  unfold firstC
  rw [List.find?_eq_none]
  intro p hp
  rw [cov_step h0 h hn] at hz
  have := List.sum_eq_zero_iff_forall_eq_nat.1 hz _ (List.mem_map.2 ⟨p, hp, rfl⟩)
  simp [this]
theorem first_some {w h n left : Nat} (hn : n = w * h) (hw : 1 ≤ w) (h0 : left ≠ 0) (hl : left < 2 ^ n) (h25 : n ≤ 25) (hp : 0 < covN w n left) :
    firstC w n left = some (pair2 (low left) (toG w n (cOf left) (low left))) ∧ toG w n (cOf left) (low left) < n ∧ low left < toG w n (cOf left) (low left) ∧ 0 < covN w n (dif left (pair2 (low left) (toG w n (cOf left) (low left)))) := by
  obtain ⟨l1, l2, l3⟩ := low_spec h0 hl (by omega)
  obtain ⟨k, hk⟩ : ∃ k, n - low left = k + 1 := ⟨n - low left - 1, by omega⟩
  obtain ⟨m1, m2, m3, m4, m5⟩ := mate (g := cOf left) hn hw (show k + 1 ≤ n by omega) (show n - (k + 1) = low left by omega) (fun i hi => by unfold cOf; rw [l2 i hi]; rfl) (by unfold cOf; rw [l1]; rfl) hp
  rw [← cOf_pair] at m5
  refine ⟨?_, m2, m1, m5⟩
  generalize ha : low left = a at *
  unfold firstC pieces
  rw [ha]
  have m3' : left.testBit (toG w n (cOf left) a) = true := cOf_false m3
  by_cases h1 : (decide (a % w + 1 < w) && !(cOf left) (a + 1) && decide (0 < tileT w n n (cov (cOf left) a (a + 1)))) = true
  · have ht : toG w n (cOf left) a = a + 1 := by unfold toG; rw [if_pos h1]
    rw [ht] at m5 ⊢
    simp only [Bool.and_eq_true, decide_eq_true_eq] at h1
    rw [if_pos ⟨h1.1.1, by have := h1.1.2; unfold cOf at this; simpa using this⟩]
    rw [List.singleton_append]
    exact List.find?_cons_of_pos (decide_eq_true (show 0 < covN w n (dif left (pair2 a (a + 1))) from m5))
  · have ht : toG w n (cOf left) a = a + w := by unfold toG; rw [if_neg h1]
    rw [ht] at m2 m3' m5 ⊢
    rw [if_pos (show a + w < n ∧ left.testBit (a + w) = true from ⟨m2, m3'⟩)]
    have hlast : List.find? (fun p => decide (0 < covN w n (dif left p))) [pair2 a (a + w)] = some (pair2 a (a + w)) := List.find?_cons_of_pos (decide_eq_true (show 0 < covN w n (dif left (pair2 a (a + w))) from m5))
    split
    · rename_i h2
      rw [List.singleton_append, List.find?_cons_of_neg, hlast]
      intro h3
      refine h1 ?_
      rw [decide_eq_true_eq] at h3
      unfold covN at h3
      rw [cOf_pair] at h3
      have : (cOf left) (a + 1) = false := by unfold cOf; rw [h2.2]; rfl
      rw [this, decide_eq_true h2.1, decide_eq_true h3]
      rfl
    · rw [List.nil_append, hlast]

/-- The cells of a list as a set. -/
def orS (l : List Int) : Nat := l.foldl (fun s x => s ||| 2 ^ x.toNat) 0
theorem orS_snoc (l : List Int) (k : Nat) (h : k < l.length) : orS (l.take (k + 1)) = orS (l.take k) ||| 2 ^ (l[k]?.getD 0).toNat := by
  unfold orS
  rw [take_snoc _ _ h, List.foldl_append]
  rfl
theorem orS_from (i : Nat) : ∀ (l : List Int) (s : Nat), (∀ x ∈ l, 0 ≤ x) → (l.foldl (fun s x => s ||| 2 ^ x.toNat) s).testBit i = (s.testBit i || inL l i)
  | [], s, _ => by simp [inL]
  | x :: l, s, h => by
    rw [List.foldl_cons, orS_from i l _ (fun y hy => h y (List.mem_cons_of_mem _ hy)), Nat.testBit_or, Nat.testBit_two_pow]
    have hx := h x List.mem_cons_self
    unfold inL
    rw [List.contains_cons, Bool.or_assoc]
    congr 2
    rw [Bool.eq_iff_iff, decide_eq_true_eq, beq_iff_eq]
    omega
theorem orS_bit (l : List Int) (i : Nat) (h : ∀ x ∈ l, 0 ≤ x) : (orS l).testBit i = inL l i := by
  unfold orS
  rw [orS_from i l 0 h, Nat.zero_testBit, Bool.false_or]
/-- The cells that are no holes. -/
def setOf (n : Nat) (hs : List Int) : Nat := dif (2 ^ n - 1) (orS hs)
theorem setOf_lt (n : Nat) (hs : List Int) : setOf n hs < 2 ^ n := dif_lt _ (by have := Nat.pow_pos (n := n) (show 0 < 2 by omega); omega)
theorem setOf_bit {n : Nat} {hs : List Int} (h : ∀ x ∈ hs, 0 ≤ x) (i : Nat) : (setOf n hs).testBit i = (decide (i < n) && !inL hs i) := by
  unfold setOf
  rw [dif_bit, orS_bit hs i h, Nat.testBit_two_pow_sub_one]
theorem tile_congr {w h : Nat} (hw : 1 ≤ w ∧ w ≤ 5) {c c' : Nat → Bool} (hc : ∀ i, i < w * h → c' i = c i) : tileT w (w * h) (w * h) c = tileT w (w * h) (w * h) c' := by
  rw [← tile_is hw, ← tile_is hw]
  exact ways_alike (φ := fun i => i) (fun i j => adjG_sym w i j) (by simp) (fun i hi => hi) (fun i j _ _ => rfl) (fun i j _ _ => rfl) _ c c' (Nat.le_refl _) (fun i hi => absurd hi (by omega)) hc
theorem cov_set {w h : Nat} (hw : 1 ≤ w ∧ w ≤ 5) {hs : List Int} (hp : ∀ x ∈ hs, 0 ≤ x) : covN w (w * h) (setOf (w * h) hs) = tileT w (w * h) (w * h) (inL hs) := by
  unfold covN
  refine tile_congr hw fun i hi => ?_
  unfold cOf
  rw [setOf_bit hp, decide_eq_true hi, Bool.true_and, Bool.not_not]

/-! ### The first way, piece by piece -/
theorem first_from {w n : Nat} {g : Nat → Bool} {o : Nat → Int} {m : Nat} : ∀ (k j : Nat), j ≤ k → k ≤ n → (∀ i, i < n - j → g i = true) → firstG w n k g o m = firstG w n j g o m
  | 0, j, hj, _, _ => by obtain rfl : j = 0 := by omega
                         rfl
  | k + 1, j, hj, hk, h => by
    by_cases e : j = k + 1
    · subst e; rfl
    · rw [first_skip (h _ (by omega))]
      exact first_from k j (by omega) (by omega) h
theorem first_round {w n left : Nat} {o : Nat → Int} {m : Nat} (h0 : left ≠ 0) (hl : left < 2 ^ n) (h25 : n ≤ 25) :
    firstG w n n (cOf left) o m = firstG w n n (cOf (dif left (pair2 (low left) (toG w n (cOf left) (low left))))) (fun i => if (pair2 (low left) (toG w n (cOf left) (low left))).testBit i then (m : Int) else o i) (m + 1) := by
  obtain ⟨l1, l2, l3⟩ := low_spec h0 hl (by omega)
  obtain ⟨k, hk⟩ : ∃ k, n - low left = k + 1 := ⟨n - low left - 1, by omega⟩
  generalize low left = a at *
  have hg : ∀ i, i < a → cOf left i = true := fun i hi => by unfold cOf; rw [l2 i hi]; rfl
  rw [first_from n (k + 1) (by omega) (Nat.le_refl _) (fun i hi => hg i (by omega)), first_step (show n - (k + 1) = a by omega) (by unfold cOf; rw [l1]; rfl), cOf_pair]
  symm
  rw [first_from n k (by omega) (Nat.le_refl _) (fun i hi => by
    by_cases e : i = a
    · subst e; exact cov_l _ _ _
    · exact cov_true (hg i (by omega)))]
  congr 1
  funext i
  rw [pair_bit]
  by_cases e : i = a ∨ i = toG w n (cOf left) a
  · rw [if_pos e, if_pos (by rw [Bool.or_eq_true, decide_eq_true_eq, decide_eq_true_eq]; rcases e with e | e <;> simp [e])]
  · rw [if_neg e, if_neg (by rw [Bool.or_eq_true, decide_eq_true_eq, decide_eq_true_eq]; intro h'; exact e (h'.imp Eq.symm Eq.symm))]
theorem first_end (w n : Nat) (o : Nat → Int) (m : Nat) : firstG w n n (cOf 0) o m = (o, m) := by
  rw [first_from n 0 (by omega) (Nat.le_refl _) (fun i _ => by simp [cOf])]
  rfl
end Go.Proofs.YtmfdlijkpdgimaaGreatDoor

/-
  Sets of cells as numbers: bits of numbers below 2^62; allOf, sumOf; the lowest member (math/bits.TrailingZeros reads a table of the library's: Tab).
-/
namespace Go.Proofs.YtmfdlijkpdgimaaGreatDoor
open Go.RowKit
set_option linter.unusedVariables false

theorem toNat64 (a : Nat) (ha : a < 4611686018427387904) : (BitVec.ofInt 64 (a : Int)).toNat = a := by
  rw [BitVec.ofInt_natCast, BitVec.toNat_ofNat]; exact Nat.mod_eq_of_lt (by omega)
theorem i64_orN (a b : Nat) (ha : a < 4611686018427387904) (hb : b < 4611686018427387904) : bits .or .i64 (a : Int) (b : Int) = ((a ||| b : Nat) : Int) := by
  have hx : a ||| b < 2 ^ 62 := Nat.or_lt_two_pow (by omega) (by omega)
  show IntKind.i64.wrap ((BitVec.ofInt 64 (a : Int) ||| BitVec.ofInt 64 (b : Int)).toNat : Int) = _
  rw [BitVec.toNat_or, toNat64 a ha, toNat64 b hb]
  exact IntWalk.i64_in _ (by omega)
theorem i64_andN (a b : Nat) (ha : a < 4611686018427387904) (hb : b < 4611686018427387904) : bits .and .i64 (a : Int) (b : Int) = ((a &&& b : Nat) : Int) := by
  have hx : a &&& b < 2 ^ 62 := Nat.and_lt_two_pow _ (by omega)
  show IntKind.i64.wrap ((BitVec.ofInt 64 (a : Int) &&& BitVec.ofInt 64 (b : Int)).toNat : Int) = _
  rw [BitVec.toNat_and, toNat64 a ha, toNat64 b hb]
  exact IntWalk.i64_in _ (by omega)
theorem i64_difN (a b : Nat) (ha : a < 4611686018427387904) (hb : b < 4611686018427387904) : bits .andNot .i64 (a : Int) (b : Int) = ((dif a b : Nat) : Int) := by
  have hx := dif_lt b (show a < 2 ^ 62 by omega)
  show IntKind.i64.wrap ((BitVec.ofInt 64 (a : Int) &&& ~~~(BitVec.ofInt 64 (b : Int))).toNat : Int) = _
  have e : (BitVec.ofInt 64 (a : Int) &&& ~~~(BitVec.ofInt 64 (b : Int))).toNat = dif a b := Nat.eq_of_testBit_eq fun i => by
    rw [dif_bit, BitVec.testBit_toNat, BitVec.getLsbD_and, BitVec.getLsbD_not, ← BitVec.testBit_toNat, ← BitVec.testBit_toNat, toNat64 a ha, toNat64 b hb]
    by_cases h : i < 64
    · rw [decide_eq_true h, Bool.true_and]
    · have : a.testBit i = false := Nat.testBit_lt_two_pow (Nat.lt_of_lt_of_le ha (Nat.le_trans (by decide) (Nat.pow_le_pow_right (n := 2) (by omega) (show 62 ≤ i by omega))))
      rw [this, Bool.false_and, Bool.false_and]
  rw [e]
  exact IntWalk.i64_in _ (by omega)
theorem bit_test (x y : Nat) (hx : x < 4611686018427387904) : (bits BinOp.and IntKind.i64 ((x : Int) / 2 ^ y) 1 == 1) = x.testBit y := by
  have hq : x / 2 ^ y ≤ x := Nat.div_le_self _ _
  have e : ((x : Int) / 2 ^ y) = ((x / 2 ^ y : Nat) : Int) := by push_cast; rfl
  rw [e, and_one _ (by omega), Nat.testBit_eq_decide_div_mod_eq, Bool.eq_iff_iff, beq_iff_eq, decide_eq_true_eq]
  omega
theorem powN {k : Nat} (h : k ≤ 61) : 1 ≤ 2 ^ k ∧ 2 ^ k < 4611686018427387904 :=
  ⟨Nat.one_le_two_pow, Nat.lt_of_le_of_lt (Nat.pow_le_pow_right (by omega) h) (by decide)⟩
theorem shlN (k : Nat) (h : k ≤ 61) : IntKind.i64.wrap ((2 : Int) ^ k) = ((2 ^ k : Nat) : Int) := by
  have := powN h
  rw [show ((2 : Int) ^ k) = ((2 ^ k : Nat) : Int) by push_cast; rfl]
  exact IntWalk.i64_in _ (by omega)
theorem set25 {n x : Nat} (hn : n ≤ 25) (h : x < 2 ^ n) : x < 33554432 := Nat.lt_of_lt_of_le h (Nat.pow_le_pow_right (n := 2) (by omega) hn)

theorem allOf_c (n : Nat) (h : n ≤ 25) (w : World) : Calls Tryz.prog 104 #[.int .i64 (n : Int)] w fun e w' => e = .returned (.int .i64 ((2 ^ n - 1 : Nat) : Int)) ∧ w = w' := by
  have es := shlN n (by omega)
  have hp : 1 ≤ 2 ^ n ∧ 2 ^ n ≤ 33554432 := ⟨Nat.one_le_two_pow, Nat.pow_le_pow_right (n := 2) (by omega) h⟩
  have hs : ((2 ^ n - 1 : Nat) : Int) = ((2 ^ n : Nat) : Int) - 1 := by omega
  rw [hs]
  have HS := hide hs
  clear hs
  generalize (2 ^ n : Nat) = P at *
  go_enter Tryz.func104, Tryz.ntmps104
  go_wp2
  go_ret
  exact ⟨rfl, rfl⟩

theorem orS_bd (l : List Int) (hl : ∀ i, i < l.length → 0 ≤ l[i]?.getD 0 ∧ l[i]?.getD 0 < 25) : ∀ k, k ≤ l.length → orS (l.take k) < 2 ^ 25
  | 0, _ => by simp [orS]
  | k + 1, h => by
    rw [orS_snoc _ _ (by omega)]
    obtain ⟨h2, h3⟩ := hl k (by omega)
    exact Nat.or_lt_two_pow (orS_bd l hl k (by omega)) (Nat.pow_lt_pow_right (by omega) (by omega))

set_option maxHeartbeats 1000000 in
theorem sumOf25_c (A : Option Addr) (c : Nat) (l : List Int) (w : World) (hr : Row w A (ints l)) (hl : ∀ i, i < l.length → 0 ≤ l[i]?.getD 0 ∧ l[i]?.getD 0 < 25) (hm : l.length ≤ 1000) :
    Calls Tryz.prog 133 #[.slice A l.length c] w fun e w' => e = .returned (.int .i64 ((orS l : Nat) : Int)) ∧ w = w' := by
  have HR := hide hr
  have HL := hide hl
  clear hr hl
  go_enter Tryz.func133, Tryz.ntmps133
  go_wp2_with fail
  go_loopw [3, 8] (fun a i wr => ∃ k : Nat, k ≤ l.length ∧ i = .int .i64 (k : Int) ∧ a = .int .i64 ((orS (l.take k) : Nat) : Int) ∧ w = wr) (fun _ i _ => l.length - (intOf i).toNat)
  case atStart => exact ⟨0, Nat.zero_le _, rfl, rfl, rfl⟩
  case round =>
    obtain ⟨k, hk, rfl, rfl, rfl⟩ := hrel
    by_cases hlt : k < l.length
    · obtain ⟨ad, rfl, hck⟩ := HR.out.int (k := k) hlt
      obtain ⟨x0, x1⟩ := HL.out k hlt
      have hbd := orS_bd l HL.out k hk
      have HS := hide (orS_snoc l k hlt)
      obtain ⟨x, hx⟩ : ∃ x : Nat, l[k]?.getD 0 = (x : Int) := ⟨(l[k]?.getD 0).toNat, by omega⟩
      rw [hx] at hck HS x0 x1
      rw [Int.toNat_natCast] at HS
      have es := shlN x (by omega)
      have px := powN (k := x) (by omega)
      have eo := i64_orN _ _ (Nat.lt_of_lt_of_le hbd (by decide)) px.2
      generalize (2 ^ x : Nat) = P at *
      generalize orS (l.take k) = b at *
      have k0 : (0 : Int) ≤ (k : Int) := by omega
      have k1 : (k : Int) < (l.length : Int) := by omega
      clear hx hbd
      go_wp2_with fail
      exact ⟨⟨k + 1, hlt, by go_num, by rw [HS.out], trivial⟩, by simp [intOf]; omega⟩
    · obtain rfl : k = l.length := by omega
      rw [List.take_length]
      go_wp2_with fail
      go_ret
      exact ⟨rfl, rfl⟩

/-- The library's table lies in its variable. -/
def Tab (w : World) : Prop := ∀ j, j < 64 → w.cell? ⟨9, j, none⟩ = some (.int .u8 (Lib.deBruijn64tab.getD j 0))
theorem Tab.lt {w : World} (h : Tab w) : 9 < w.heap.size := World.block_lt_of_cell? _ _ (h 0 (by omega))
theorem Tab.below {w w' : World} (h : Tab w) (hb : Below w.heap.size w w') : Tab w' := fun j hj => by
  rw [hb.cell (p := ⟨9, j, none⟩) h.lt]
  exact h j hj

set_option maxHeartbeats 1000000 in
theorem tz64_core (x k idx : Nat) (w : World) (hx0 : ((x : Int) == 0) = false)
    (key : IntKind.u64.wrap (bits BinOp.and IntKind.u64 (x : Int) (IntKind.u64.wrap (-(x : Int))) * 285870213051353865) / 288230376151711744 = (idx : Int))
    (hi : idx < 64) (hk : k < 64) (hcell : w.cell? ⟨9, idx, none⟩ = some (.int .u8 k)) :
    Calls Tryz.prog 176 #[.int .u64 x] w fun e w' => e = .returned (.int .i64 k) ∧ w = w' := by
  go_enter Tryz.func176, Tryz.ntmps176
  go_wp2_with (simp only [key])
  go_ret
  exact ⟨rfl, rfl⟩
theorem tz64_key (x a : Nat) (hx : x < 18446744073709551616) (hx0 : x ≠ 0) (hlow : x &&& (18446744073709551616 - x) = a) :
    IntKind.u64.wrap (bits BinOp.and IntKind.u64 (x : Int) (IntKind.u64.wrap (-(x : Int))) * 285870213051353865) / 288230376151711744 = ((a * 285870213051353865 % 18446744073709551616 / 288230376151711744 : Nat) : Int) := by
  have e1 : IntKind.u64.wrap (-(x : Int)) = ((18446744073709551616 - x : Nat) : Int) := by rw [IntKind.wrap_u64]; omega
  rw [e1, bits_and_u64_nat x _ hx (by omega), hlow, IntKind.wrap_u64]
  omega
theorem tz64_c (x : Nat) (hx : x < 18446744073709551616) (h0 : x ≠ 0) (w : World) (hT : Tab w) :
    Calls Tryz.prog 176 #[.int .u64 x] w fun e w' => e = .returned (.int .i64 (low x)) ∧ w = w' := by
  obtain ⟨hlow, hk⟩ := Lib.lowest_bit 64 x h0 hx
  obtain ⟨hi, htab⟩ := Lib.deBruijn64_at _ hk
  have hcell := hT _ hi
  rw [htab] at hcell
  exact tz64_core x _ _ w (by simp; omega) (tz64_key x _ hx h0 hlow) hi hk hcell
theorem low_bd {x : Nat} (hx : x < 18446744073709551616) (h0 : x ≠ 0) : low x < 64 := (Lib.lowest_bit 64 x h0 hx).2
theorem tz_c (x : Nat) (hx : x < 18446744073709551616) (h0 : x ≠ 0) (w : World) (hT : Tab w) :
    Calls Tryz.prog 156 #[.int .u64 x] w fun e w' => e = .returned (.int .i64 (low x)) ∧ w = w' := by
  have HT := hide (fun w5 h5 => tz64_c x hx h0 w5 h5)
  go_enter Tryz.func156, Tryz.ntmps156
  go_wp2_with fail
  refine (HT.out _ hT).mono ?_
  rintro e w1 ⟨rfl, rfl⟩
  go_wp2_with fail
  go_ret
  exact ⟨rfl, rfl⟩
end Go.Proofs.YtmfdlijkpdgimaaGreatDoor

/-
  The program's pieces of the first cell that is left: firstPieces.
-/
namespace Go.Proofs.YtmfdlijkpdgimaaGreatDoor
open Go.RowKit
set_option linter.unusedVariables false

def pieceAt (w n left k : Nat) : List Nat :=
  if k = 0 then (if low left % w + 1 < w ∧ left.testBit (low left + 1) = true then [pair2 (low left) (low left + 1)] else [])
  else (if low left + w < n ∧ left.testBit (low left + w) = true then [pair2 (low left) (low left + w)] else [])
def piecesTo (w n left k : Nat) : List Nat := (List.range k).flatMap (pieceAt w n left)
theorem piecesTo_succ (w n left k : Nat) : piecesTo w n left (k + 1) = piecesTo w n left k ++ pieceAt w n left k := by
  unfold piecesTo
  rw [List.range_succ, List.flatMap_append]
  simp
theorem piecesTo_two (w n left : Nat) : piecesTo w n left 2 = pieces w n left := by
  rw [piecesTo_succ, piecesTo_succ]
  simp [piecesTo, pieceAt, pieces]
theorem piecesTo_len (w n left : Nat) : ∀ k, (piecesTo w n left k).length ≤ k
  | 0 => by simp [piecesTo]
  | k + 1 => by
    rw [piecesTo_succ, List.length_append]
    have := piecesTo_len w n left k
    have : (pieceAt w n left k).length ≤ 1 := by unfold pieceAt; split <;> split <;> simp
    omega
def natIT (L : List Nat) : List Int := L.map fun (x : Nat) => Int.ofNat x
theorem natI_lenT (L : List Nat) : (natIT L).length = L.length := by simp [natIT]
theorem natI_atT (L : List Nat) (k : Nat) : (natIT L)[k]?.getD 0 = ((L[k]?.getD 0 : Nat) : Int) := by
  rw [natIT, List.getElem?_map]
  cases L[k]? <;> rfl
theorem natI_app (L M : List Nat) : natIT (L ++ M) = natIT L ++ natIT M := by simp [natIT]
/-- One step on from the first cell: what onward answers, and whether the piece is one. -/
structure OnAt (w h left k : Nat) (dr dc : Int) (y : Nat) (on : Bool) : Prop where
  at_ : ([((0 : Int), (1 : Int)), (1, 0)] : List (Int × Int))[k]? = some (dr, dc)
  hit : on = true → y < w * h ∧ pieceAt w (w * h) left k = if left.testBit y = true then [pair2 (low left) y] else []
  miss : on = false → pieceAt w (w * h) left k = []
  run : ∀ W : World, Calls Tryz.prog 139 #[boardV (w : Int) (h : Int), .int .i64 (low left : Nat), .agg #[.int .i64 dr, .int .i64 dc]] W (Plain (.tuple #[.int .i64 (y : Int), .bool on]) W)
theorem onward_at {w h left : Nat} (hw : 1 ≤ w ∧ w ≤ 5) (hh : 1 ≤ h ∧ h ≤ 5) (han : low left < w * h) (k : Nat) (hk : k < 2) : ∃ (dr dc : Int) (y : Nat) (on : Bool), OnAt w h left k dr dc y on := by
  generalize hA : low left = a at *
  have h25 : w * h ≤ 25 := Nat.mul_le_mul hw.2 hh.2
  have w1 : (1 : Int) ≤ (w : Int) := by omega
  have w5 : (w : Int) ≤ 5 := by omega
  have h1 : (1 : Int) ≤ (h : Int) := by omega
  have h5 : (h : Int) ≤ 5 := by omega
  have dm : w * (a / w) + a % w = a := Nat.div_add_mod a w
  have ml : a % w < w := Nat.mod_lt _ (by omega)
  have dl : a / w < h := Nat.div_lt_of_lt_mul han
  have d0 : (0 : Int) ≤ ((a / w : Nat) : Int) := Int.natCast_nonneg _
  have m0 : (0 : Int) ≤ ((a % w : Nat) : Int) := Int.natCast_nonneg _
  have cd : ((a : Int) / (w : Int)) = ((a / w : Nat) : Int) := by push_cast; rfl
  have cm : ((a : Int) % (w : Int)) = ((a % w : Nat) : Int) := by push_cast; rfl
  obtain rfl | rfl : k = 0 ∨ k = 1 := by omega
  · by_cases hc : a % w + 1 < w
    · refine ⟨0, 1, a + 1, true, rfl, fun _ => ⟨?_, ?_⟩, (fun h => by cases h), fun W => ?_⟩
      · have : w * (a / w + 1) ≤ w * h := Nat.mul_le_mul_left _ dl
        rw [Nat.mul_add] at this
        omega
      · simp only [pieceAt, hA, hc, true_and, if_true]
      · rw [hA]
        have := onward_yes (w : Int) (h : Int) (a : Int) 0 1 W w1 w5 h1 h5 (by omega) (by omega) (by omega) (by omega) (by omega) (by omega) (by rw [cd]; omega) (by rw [cd]; omega) (by rw [cm]; omega) (by rw [cm]; omega)
        rw [cd, cm, show ((a / w : Nat) : Int) + 0 = ((a / w : Nat) : Int) by omega, ← Int.natCast_mul, show ((a / w * w : Nat) : Int) + (((a % w : Nat) : Int) + 1) = ((a + 1 : Nat) : Int) by have e := Nat.mul_comm (a / w) w; rw [e]; omega] at this
        exact this
    · refine ⟨0, 1, 0, false, rfl, (fun h => by cases h), fun _ => ?_, fun W => ?_⟩
      · simp only [pieceAt, hA, hc, false_and, if_false, if_true]
      · rw [hA]
        exact onward_no (w : Int) (h : Int) (a : Int) 0 1 W w1 w5 h1 h5 (by omega) (by omega) (by omega) (by omega) (by omega) (by omega) (by rw [cd, cm]; omega)
  · by_cases hc : a + w < w * h
    · have dl2 : a / w + 1 < h := by
        apply Nat.lt_of_not_le
        intro h'
        have : w * h ≤ w * (a / w + 1) := Nat.mul_le_mul_left _ h'
        rw [Nat.mul_add] at this
        omega
      refine ⟨1, 0, a + w, true, rfl, fun _ => ⟨hc, ?_⟩, (fun h => by cases h), fun W => ?_⟩
      · simp only [pieceAt, hA, if_neg (show ¬ (1 = 0) by omega), hc, true_and]
      · rw [hA]
        have := onward_yes (w : Int) (h : Int) (a : Int) 1 0 W w1 w5 h1 h5 (by omega) (by omega) (by omega) (by omega) (by omega) (by omega) (by rw [cd]; omega) (by rw [cd]; omega) (by rw [cm]; omega) (by rw [cm]; omega)
        rw [cd, cm, show ((a % w : Nat) : Int) + 0 = ((a % w : Nat) : Int) by omega, show ((a / w : Nat) : Int) + 1 = ((a / w + 1 : Nat) : Int) by omega, ← Int.natCast_mul, show (((a / w + 1) * w : Nat) : Int) + ((a % w : Nat) : Int) = ((a + w : Nat) : Int) by have e := Nat.mul_comm (a / w) w; rw [Nat.add_mul, e]; omega] at this
        exact this
    · have dl2 : ¬ (a / w + 1 < h) := by
        intro h'
        have : w * (a / w + 1 + 1) ≤ w * h := Nat.mul_le_mul_left _ h'
        rw [Nat.mul_add, Nat.mul_add] at this
        omega
      refine ⟨1, 0, 0, false, rfl, (fun h => by cases h), fun _ => ?_, fun W => ?_⟩
      · simp only [pieceAt, hA, if_neg (show ¬ (1 = 0) by omega), hc, false_and, if_false]
      · rw [hA]
        exact onward_no (w : Int) (h : Int) (a : Int) 1 0 W w1 w5 h1 h5 (by omega) (by omega) (by omega) (by omega) (by omega) (by omega) (by rw [cd, cm]; omega)

set_option maxHeartbeats 1000000 in
set_option maxRecDepth 100000 in
theorem firstPieces_c (w h left : Nat) (W : World) (hT : Tab W) (hw : 1 ≤ w ∧ w ≤ 5) (hh : 1 ≤ h ∧ h ≤ 5) (h0 : left ≠ 0) (hl : left < 2 ^ (w * h)) :
    Calls Tryz.prog 134 #[boardV (w : Int) (h : Int), .int .i64 (left : Int)] W (Owns 3 1 (pieces w (w * h) left).length (ints (natIT (pieces w (w * h) left))) W) := by
  have h25 : w * h ≤ 25 := Nat.mul_le_mul hw.2 hh.2
  have hl25 := set25 h25 hl
  obtain ⟨-, -, l3⟩ := low_spec h0 hl (by omega)
  have HO := hide (fun (k : Nat) (hk : k < 2) => onward_at (left := left) hw hh l3 k hk)
  have HTZ := hide (fun (w5 : World) (h5 : Tab w5) => tz_c left (by omega) h0 w5 h5)
  have HTb := hide hT
  have ewu : IntKind.u64.wrap (left : Int) = (left : Int) := by rw [IntKind.wrap_u64]; omega
  have HP2 := hide (piecesTo_two w (w * h) left)
  have HPS := hide (fun k => piecesTo_succ w (w * h) left k)
  have HPL := hide (fun k => piecesTo_len w (w * h) left k)
  have bx0 := Box.new W 40 #[.int .i64 (w : Int), .int .i64 (h : Int)]
  have HB := hide (show ∀ i, low left < 25 by intro _; omega)
  have lowb : low left < 25 := by omega
  generalize hlow : low left = a at *
  clear hT h0 hl
  go_enter Tryz.func134, Tryz.ntmps134
  go_wp2_with fail
  refine (HTZ.out _ (HTb.out.below ((Below.refl _ _).alloc (Nat.le_refl _) _))).mono ?_
  rintro e w1 ⟨rfl, rfl⟩
  go_wp2_with fail
  have hb1 : Below W.heap.size W ((W.alloc (.cells #[.int .i64 (w : Int), .int .i64 (h : Int)] 40)).alloc (.cells #[.int .i64 0, .int .i64 1, .int .i64 1, .int .i64 0] 181)) := ((Below.refl _ _).alloc (Nat.le_refl _) _).alloc (by simp) _
  have hr1 : Row ((W.alloc (.cells #[.int .i64 (w : Int), .int .i64 (h : Int)] 40)).alloc (.cells #[.int .i64 0, .int .i64 1, .int .i64 1, .int .i64 0] 181)) (some ⟨W.heap.size + 1, 0, none⟩) (flat [(0, 1), (1, 0)]) := row_new _ _ _ (by simp)
  have bx1 := bx0.alloc (.cells #[.int .i64 0, .int .i64 1, .int .i64 1, .int .i64 0] 181)
  go_loopw [6, 18] (fun v i wr => ∃ (k : Nat), k ≤ 2 ∧ i = .int .i64 k ∧ wr.ownsRow (W.heap.size + 2) 3 1 v (piecesTo w (w * h) left k).length (ints (natIT (piecesTo w (w * h) left k))) ∧
      Below W.heap.size W wr ∧ Box wr W.heap.size 40 #[.int .i64 (w : Int), .int .i64 (h : Int)] ∧ Row wr (some ⟨W.heap.size + 1, 0, none⟩) (flat [(0, 1), (1, 0)])) (fun _ i _ => 2 - (intOf i).toNat)
  case atStart => exact ⟨0, by omega, rfl, by simpa [piecesTo, natIT] using World.ownsRow_nil _ _ _ _, hb1, bx1, hr1⟩
  case round =>
    obtain ⟨k, hk, rfl, hown, hb, bx, hr⟩ := hrel
    obtain ⟨wo, rfl⟩ : ∃ wo : World, wo = wr := ⟨_, rfl⟩
    have z := hb.size
    have zb := bx.in_
    have c0 := bx.cell 0
    have c1 := bx.cell 1
    by_cases hlt : k < 2
    · obtain ⟨dr, dc, y, on, hat, hhit, hmiss, hrun⟩ := HO.out k hlt
      rw [hlow] at hrun hhit
      obtain ⟨hca, hcb⟩ := hr.step (show k < [((0 : Int), (1 : Int)), (1, 0)].length from hlt)
      have hp : [((0 : Int), (1 : Int)), (1, 0)][k] = (dr, dc) := (List.getElem?_eq_some_iff.1 hat).2
      rw [hp] at hca hcb
      simp only at hca hcb
      have HR := hide hrun
      have HS := hide (HPS.out k)
      have HL := hide (HPL.out k)
      have Hh := hide hhit
      have Hm := hide hmiss
      clear hat hhit hmiss hrun hp
      go_wp2_with fail
      refine (HR.out _).mono ?_
      rintro e w2 ⟨rfl, hb2⟩
      have bx2 := (bx.alloc (.cells #[.int .i64 dr, .int .i64 dc] 181)).then hb2
      have hr2 := (hr.alloc (.cells #[.int .i64 dr, .int .i64 dc] 181)).below hb2
      have own2 := own_below (hown.alloc (.cells #[.int .i64 dr, .int .i64 dc] 181)) hb2
      have hb2' : Below W.heap.size W w2 := below_then (hb.alloc z _) (by simp; omega) hb2
      clear hb2 hca hcb c0 c1 zb hown bx hr hb
      cases on with
      | false =>
        have HS := hide ((HS.out).trans (by rw [Hm.out rfl, List.append_nil]))
        go_wp2_with fail
        exact ⟨⟨k + 1, by omega, by go_num, by rw [HS.out]; exact own2, hb2', bx2, hr2⟩, by simp [intOf]; omega⟩
      | true =>
        obtain ⟨hy, hpc⟩ := Hh.out rfl
        have HS := hide ((HS.out).trans (by rw [hpc]))
        have hy25 : y < 25 := by omega
        clear Hh Hm hpc
        have y0 : (0 : Int) ≤ (y : Int) := by omega
        have y1 : (y : Int) < 25 := by omega
        have hbt := bit_test left y (by omega)
        cases hb1 : left.testBit y with
        | false =>
          rw [hb1] at hbt
          have HS : Hid (piecesTo w (w * h) left (k + 1) = piecesTo w (w * h) left k) := HS.out.trans (by rw [hb1, if_neg (by decide), List.append_nil])
          go_wp2_with fail
          exact ⟨⟨k + 1, by omega, by go_num, by rw [HS.out]; exact own2, hb2', bx2, hr2⟩, by simp [intOf]; omega⟩
        | true =>
          rw [hb1] at hbt
          have HS : Hid (piecesTo w (w * h) left (k + 1) = piecesTo w (w * h) left k ++ [pair2 a y]) := HS.out.trans (by rw [hb1, if_pos rfl])
          have es := shlN a (by omega)
          have ey := shlN y (by omega)
          have px := powN (k := a) (by omega)
          have py := powN (k := y) (by omega)
          have eo := i64_orN _ _ px.2 py.2
          have hpp : Hid (pair2 a y = 2 ^ a ||| 2 ^ y) := rfl
          generalize pair2 a y = pv at *
          generalize (2 ^ a : Nat) = PA at *
          generalize (2 ^ y : Nat) = PY at *
          generalize PA ||| PY = po at *
          obtain rfl := hpp.out
          generalize hQ : piecesTo w (w * h) left k = Q at *
          have hQl : Q.length ≤ 2 := by have := HL.out; omega
          obtain ⟨A0, c0, rfl, _, _, _, hfr⟩ := own_row own2
          have a0 : (0 : Int) ≤ (a : Int) := by omega
          have a1 : (a : Int) < 25 := by omega
          have own2a := (own2.alloc (.cells #[.int .i64 (pv : Int)] 3)).drew
          have hb2a : Below W.heap.size W (w2.alloc (.cells #[.int .i64 (pv : Int)] 3)).drew := (hb2'.alloc hb2'.size _).drew
          have bx2a : Box (w2.alloc (.cells #[.int .i64 (pv : Int)] 3)).drew W.heap.size 40 #[.int .i64 (w : Int), .int .i64 (h : Int)] := bx2.alloc (.cells #[.int .i64 (pv : Int)] 3)
          have hr2a := (hr2.alloc (.cells #[.int .i64 (pv : Int)] 3)).drew
          clear hb1
          go_wp2_with fail
          go_region_held3 (fun w' => True) (trivial)
            (first
              | (refine step_put (by rfl) (.tmp 37) (.tmp 43) (by rfl) Tryz.underlying35 elem_int' (v := .slice A0 Q.length c0) (A := some ⟨w2.heap.size, 0, none⟩) (m := 1) (c := 1) (news := [.int .i64 (pv : Int)]) (B := W.heap.size + 2) (by rfl) own2a (by rfl) (by rfl) (row_new w2 _ _ rfl).drew (by simp [Value.oneCell']) (by omega) (by omega) (by have := bx2.in_; have := hb2'.size; simp; omega) ?_
                 intro v3 w3 hown3 hg3 ho3
                 have hb3' := below_grown hb2a hb2a.size own2a (by omega) hg3
                 have bx3 := bx2a.grown hg3 (own_ne own2a bx2a (by decide))
                 have hr3 := hr2a.grown hg3 (by
                   rintro _ ⟨rfl⟩ e
                   cases A0 with
                   | none => simp [Value.ownBlock] at e
                   | some ad =>
                     obtain ⟨g, rfl, hg, _⟩ := hfr ad rfl
                     simp [Value.ownBlock] at e
                     omega)))
          go_wp2_with fail
          refine ⟨⟨k + 1, by omega, by go_num, ?_, hb3', bx3, hr3⟩, by simp [intOf]; omega⟩
          rw [HS.out, natI_app]
          simpa [ints, natIT] using hown3
    · obtain rfl : k = 2 := by omega
      obtain ⟨A0, c0, rfl, _⟩ := own_row hown
      go_wp2_with fail
      go_ret
      refine ⟨_, rfl, ?_, hb⟩
      rw [← HP2.out]
      exact own_mono hown (by omega)
end Go.Proofs.YtmfdlijkpdgimaaGreatDoor

/-
  The program's covers, cell by cell: covers, firstCover, tilesOf, TileCount.
-/
namespace Go.Proofs.YtmfdlijkpdgimaaGreatDoor
open Go.RowKit
set_option linter.unusedVariables false

def sumTo (f : Nat → Nat) (L : List Nat) (k : Nat) : Nat := ((L.take k).map f).sum
theorem sumTo_succ (f : Nat → Nat) (L : List Nat) (k : Nat) (h : k < L.length) : sumTo f L (k + 1) = sumTo f L k + f (L[k]?.getD 0) := by
  unfold sumTo
  rw [List.take_add_one, List.getElem?_eq_getElem h, Option.toList_some, List.map_append, List.sum_append]
  simp
theorem sumTo_all (f : Nat → Nat) (L : List Nat) : sumTo f L L.length = (L.map f).sum := by
  unfold sumTo
  rw [List.take_length]
theorem sumTo_le (f : Nat → Nat) (L : List Nat) (k : Nat) : sumTo f L k ≤ (L.map f).sum := by
  unfold sumTo
  conv => rhs; rw [← List.take_append_drop k L, List.map_append, List.sum_append]
  omega

set_option maxHeartbeats 1000000 in
set_option maxRecDepth 100000 in
theorem covers_c (w h : Nat) (hw : 1 ≤ w ∧ w ≤ 5) (hh : 1 ≤ h ∧ h ≤ 5) : ∀ (left : Nat), left < 2 ^ (w * h) → ∀ (W : World), Tab W →
    Calls Tryz.prog 103 #[boardV (w : Int) (h : Int), .int .i64 (left : Int)] W (Plain (.int .i64 ((covN w (w * h) left : Nat) : Int)) W) := by
  intro left
  induction left using Nat.strongRecOn with
  | ind left ih =>
  intro hl W hT
  have h25 : w * h ≤ 25 := Nat.mul_le_mul hw.2 hh.2
  have hl25 := set25 h25 hl
  have bx0 := Box.new W 40 #[.int .i64 (w : Int), .int .i64 (h : Int)]
  by_cases h0 : left = 0
  · subst h0
    rw [cov_zero]
    go_enter Tryz.func103, Tryz.ntmps103
    go_wp2_with fail
    go_ret
    exact ⟨rfl, (Below.refl _ _).alloc (Nat.le_refl _) _⟩
  · have HF := hide (fun (w5 : World) (h5 : Tab w5) => firstPieces_c w h left w5 h5 hw hh h0 hl)
    have HS := hide (cov_step (w := w) h0 hl h25)
    have HLs := hide (pieces_less (w := w) h0 hl h25)
    have HLt := hide (pieces_lt (w := w) (h := h) rfl hw.1 h0 hl h25)
    have hP2 := pieces_len w (w * h) left
    generalize pieces w (w * h) left = P at *
    have HBd := hide (fun k => sumTo_le (fun p => covN w (w * h) (dif left p)) P k)
    have HSm := hide (fun k hk => sumTo_succ (fun p => covN w (w * h) (dif left p)) P k hk)
    have HSa := hide (sumTo_all (fun p => covN w (w * h) (dif left p)) P)
    have hcb := cov_bd w (w * h) left h25
    rw [HS.out] at hcb ⊢
    have HI := hide (fun (p : Nat) (hp : p ∈ P) (w5 : World) (h5 : Tab w5) => ih (dif left p) (HLs.out p hp) (dif_lt p hl) w5 h5)
    have HTb := hide hT
    have hz0 : ((left : Int) == 0) = false := by rw [beq_eq_false_iff_ne]; omega
    clear hT ih HS HLs
    go_enter Tryz.func103, Tryz.ntmps103
    go_wp2_with fail
    refine (HF.out _ (HTb.out.below ((Below.refl _ _).alloc (Nat.le_refl _) _))).mono ?_
    rintro e w1 ⟨v1, rfl, own1, b1⟩
    have bx1 := bx0.then b1
    have b1 : Below W.heap.size W w1 := below_then ((Below.refl _ _).alloc (Nat.le_refl _) _) (by simp) b1
    obtain ⟨A1, c1, rfl, _, _, r1, _⟩ := own_row own1
    clear own1
    go_wp2_with fail
    go_loopw [5, 14] (fun a i wr => ∃ (k : Nat), k ≤ P.length ∧ i = .int .i64 k ∧ a = .int .i64 ((sumTo (fun p => covN w (w * h) (dif left p)) P k : Nat) : Int) ∧
      Below W.heap.size W wr ∧ Box wr W.heap.size 40 #[.int .i64 (w : Int), .int .i64 (h : Int)] ∧ Row wr A1 (ints (natIT P))) (fun _ i _ => P.length - (intOf i).toNat)
    case atStart => exact ⟨0, Nat.zero_le _, rfl, rfl, b1, bx1, r1⟩
    case round =>
      obtain ⟨k, hk, rfl, rfl, hb, bx, hr⟩ := hrel
      obtain ⟨wo, rfl⟩ : ∃ wo : World, wo = wr := ⟨_, rfl⟩
      have z := hb.size
      have c0 := bx.cell 0
      have c1 := bx.cell 1
      by_cases hlt : k < P.length
      · obtain ⟨ad, rfl, hck⟩ := hr.int (k := k) (by rw [natI_lenT]; exact hlt)
        rw [natI_atT] at hck
        have hmem : P[k]?.getD 0 ∈ P := by rw [List.getElem?_eq_getElem hlt, Option.getD_some]; exact List.getElem_mem _
        have hI := hide (HI.out _ hmem)
        have hsm := HSm.out k hlt
        have hb1 := HBd.out (k + 1)
        have hpl := set25 h25 (HLt.out _ hmem)
        have HB := hide (HTb.out.below hb)
        rw [hsm] at hb1
        have hsm := hide hsm
        generalize P[k]?.getD 0 = p at *
        have ed := i64_difN left p (by omega) (by omega)
        have dl : dif left p < 33554432 := Nat.lt_of_le_of_lt (dif_le _ _) hl25
        generalize dif left p = q at *
        generalize covN w (w * h) q = cq at *
        generalize sumTo (fun p => covN w (w * h) (dif left p)) P k = S at *
        have k0 : (0 : Int) ≤ (k : Int) := by omega
        have k1 : (k : Int) < (P.length : Int) := by omega
        have es : IntKind.i64.wrap ((S : Int) + (cq : Int)) = ((S + cq : Nat) : Int) := (IntWalk.i64_in _ (by omega)).trans (by omega)
        clear hmem hb1
        go_wp2_with fail
        refine (hI.out _ HB.out).mono ?_
        rintro e w2 ⟨rfl, b2⟩
        go_wp2_with fail
        exact ⟨⟨k + 1, hlt, by go_num, by rw [hsm.out, Int.natCast_add], below_then hb z b2, bx.then b2, hr.below b2⟩, by simp [intOf]; omega⟩
      · obtain rfl : k = P.length := by omega
        rw [HSa.out]
        go_wp2_with fail
        go_ret
        exact ⟨rfl, hb⟩


theorem find_at {f : Nat → Nat} {P : List Nat} {k : Nat} (hk : k < P.length) (hz : ∀ j, j < k → f (P[j]?.getD 0) = 0) (hp : 0 < f (P[k]?.getD 0)) : (P.find? fun p => decide (0 < f p)) = some (P[k]?.getD 0) := by
  rw [List.find?_eq_some_iff_getElem]
  refine ⟨by simpa using hp, k, hk, by rw [List.getElem?_eq_getElem hk]; rfl, fun j hj => ?_⟩
  have := hz j hj
  rw [List.getElem?_eq_getElem (by omega)] at this
  simp only [Option.getD_some] at this
  simp [this]
theorem find_no {f : Nat → Nat} {P : List Nat} (hz : ∀ j, j < P.length → f (P[j]?.getD 0) = 0) : (P.find? fun p => decide (0 < f p)) = none := by
  rw [List.find?_eq_none]
  intro x hx
  obtain ⟨i, hi, rfl⟩ := List.getElem_of_mem hx
  have := hz i hi
  rw [List.getElem?_eq_getElem hi] at this
  simp only [Option.getD_some] at this
  simp [this]
def pieceV : Option Nat → Value
  | none => .tuple #[.int .i64 0, .bool false]
  | some p => .tuple #[.int .i64 (p : Int), .bool true]

end Go.Proofs.YtmfdlijkpdgimaaGreatDoor

/-
  The program's tilesOf: the board and its cells that are no holes.
-/
namespace Go.Proofs.YtmfdlijkpdgimaaGreatDoor
open Go.RowKit
set_option linter.unusedVariables false

theorem boardEnd {w : World} {g : Nat} {t : TypeId} {x y u v : Value} (h : Box w g t #[x, y]) :
    w.cell? ⟨g, 0, none⟩ = some x ∧ w.frozen? ⟨g, 0, none⟩ = false ∧ (w.setCell ⟨g, 0, none⟩ u).cell? ⟨g, 0, none⟩ = some u ∧ (w.setCell ⟨g, 0, none⟩ u).cell? ⟨g, 1, none⟩ = some y ∧ (w.setCell ⟨g, 0, none⟩ u).frozen? ⟨g, 1, none⟩ = false ∧
    ((w.setCell ⟨g, 0, none⟩ u).setCell ⟨g, 1, none⟩ v).cell? ⟨g, 0, none⟩ = some u ∧ ((w.setCell ⟨g, 0, none⟩ u).setCell ⟨g, 1, none⟩ v).cell? ⟨g, 1, none⟩ = some v :=
  ⟨h.cell 0, h.free 0, (h.set 0 u).cell 0, (h.set 0 u).cell 1, (h.set 0 u).free 1, ((h.set 0 u).set 1 v).cell 0, ((h.set 0 u).set 1 v).cell 1⟩

set_option maxHeartbeats 1000000 in
theorem tilesOf_no1 (bc br : Int) (A : Option Addr) (c : Nat) (hs : List Int) (W : World) (hn : ¬ Brd bc br) :
    Calls Tryz.prog 102 #[.int .i64 bc, .int .i64 br, .slice A hs.length c] W (Plain (.tuple #[boardV 0 0, .int .i64 0, .bool false]) W) := by
  have box0 := Box.new W 40 #[.int .i64 0, .int .i64 0]
  have HB := hide (fun w5 => boardOf_no bc br w5 hn)
  clear hn
  go_enter Tryz.func102, Tryz.ntmps102
  go_wp2_with fail
  refine (HB.out _).mono ?_
  rintro e w1 ⟨rfl, hb1⟩
  obtain ⟨c1, c2, c3, c4, c5, c6, c7⟩ := boardEnd (u := .int .i64 0) (v := .int .i64 0) (box0.then hb1)
  have bxe := (((box0.then hb1).set 0 (.int .i64 0)).set 1 (.int .i64 0)).alloc (.cells #[.int .i64 0, .int .i64 0] 40)
  have d0 := bxe.cell 0
  have d1 := bxe.cell 1
  simp only [List.setIfInBounds_toArray] at d0 d1
  have z1 : W.heap.size < w1.heap.size := by have := hb1.size; simp at this; omega
  go_wp2_with fail
  refine bodyPost_ret (v := .tuple #[boardV 0 0, .int .i64 0, .bool false]) (by simp [results, Tryz.results102, go_sem, d0, d1]) rfl ⟨rfl, ?_⟩
  exact (((below_then ((Below.refl _ _).alloc (Nat.le_refl _) _) (by simp) hb1).setCell (Nat.le_refl _) _).setCell (Nat.le_refl _) _).alloc (by simp; omega) _

set_option maxHeartbeats 1000000 in
theorem tilesOf_no2 (bc br : Int) (A : Option Addr) (c : Nat) (hs : List Int) (W : World) (hr : Row W A (ints hs)) (hm : hs.length ≤ maxLen) (hB : Brd bc br) (hn : ¬ AscTo (bc * br) hs hs.length) :
    Calls Tryz.prog 102 #[.int .i64 bc, .int .i64 br, .slice A hs.length c] W (Plain (.tuple #[boardV 0 0, .int .i64 0, .bool false]) W) := by
  obtain ⟨h1, h2, h3, h4⟩ := hB
  have box0 := Box.new W 40 #[.int .i64 0, .int .i64 0]
  have HB := hide (fun w5 => boardOf_yes bc br w5 h1 h2 h3 h4)
  have HA := hide (fun w5 (h5 : Row w5 A (ints hs)) => by
    have := asc_c bc br A c hs w5 h1 h2 h3 h4 h5 hm
    rw [decide_eq_false hn] at this
    exact this)
  have HR := hide hr
  clear hn hr
  go_enter Tryz.func102, Tryz.ntmps102
  go_wp2_with fail
  refine (HB.out _).mono ?_
  rintro e w1 ⟨rfl, hb1⟩
  have box1 := (box0.then hb1).alloc (.cells #[.int .i64 bc, .int .i64 br] 40)
  have hb1 : Below W.heap.size W w1 := below_then ((Below.refl _ _).alloc (Nat.le_refl _) _) (by simp) hb1
  go_wp2_with fail
  refine (HA.out _ ((HR.out.below hb1).alloc _)).mono ?_
  rintro e w2 ⟨rfl, hb2⟩
  obtain ⟨c1, c2, c3, c4, c5, c6, c7⟩ := boardEnd (u := .int .i64 0) (v := .int .i64 0) (box1.then hb2)
  go_wp2_with fail
  refine bodyPost_ret (v := .tuple #[boardV 0 0, .int .i64 0, .bool false]) (by simp [results, Tryz.results102, go_sem, c6, c7]) rfl ⟨rfl, ?_⟩
  exact ((below_then (hb1.alloc hb1.size _) (by have := hb1.size; simp; omega) hb2).setCell (Nat.le_refl _) _).setCell (Nat.le_refl _) _

set_option maxHeartbeats 4000000 in
set_option maxRecDepth 100000 in
theorem tilesOf_yes (w h : Nat) (A : Option Addr) (c : Nat) (hs : List Int) (W : World) (hr : Row W A (ints hs)) (hw : 1 ≤ w ∧ w ≤ 5) (hh : 1 ≤ h ∧ h ≤ 5) (ha : AscTo ((w : Int) * (h : Int)) hs hs.length) (hm : hs.length ≤ 1000) :
    Calls Tryz.prog 102 #[.int .i64 (w : Int), .int .i64 (h : Int), .slice A hs.length c] W (Plain (.tuple #[boardV (w : Int) (h : Int), .int .i64 ((setOf (w * h) hs : Nat) : Int), .bool true]) W) := by
  have h25 : w * h ≤ 25 := Nat.mul_le_mul hw.2 hh.2
  have w1 : (1 : Int) ≤ (w : Int) := by omega
  have w5 : (w : Int) ≤ 5 := by omega
  have h1 : (1 : Int) ≤ (h : Int) := by omega
  have h5 : (h : Int) ≤ 5 := by omega
  have box0 := Box.new W 40 #[.int .i64 0, .int .i64 0]
  have HB := hide (fun w5' => boardOf_yes (w : Int) (h : Int) w5' w1 w5 h1 h5)
  have HA := hide (fun w6 (h6 : Row w6 A (ints hs)) => by
    have := asc_c (w : Int) (h : Int) A c hs w6 w1 w5 h1 h5 h6 (by unfold maxLen; omega)
    rw [decide_eq_true ha] at this
    exact this)
  have HZ := hide (fun w6 => by
    have := size_c (w : Int) (h : Int) w6 w1 w5 h1 h5
    rw [← Int.natCast_mul] at this
    exact this)
  have hcell : ∀ i, i < hs.length → 0 ≤ hs[i]?.getD 0 ∧ hs[i]?.getD 0 < 25 := fun i hi => by
    have := (ha i hi).1
    rw [← Int.natCast_mul] at this
    omega
  have HU := hide (fun w6 (h6 : Row w6 A (ints hs)) => sumOf25_c A c hs w6 h6 hcell hm)
  have HF := hide (fun w6 => allOf_c (w * h) h25 w6)
  have HR := hide hr
  have hob : orS hs < 2 ^ 25 := by have := orS_bd hs hcell hs.length (Nat.le_refl _); rwa [List.take_length] at this
  have ht : 2 ^ (w * h) ≤ 33554432 := Nat.pow_le_pow_right (n := 2) (by omega) h25
  have ed := i64_difN (2 ^ (w * h) - 1) (orS hs) (by omega) (by omega)
  have hS : Hid (setOf (w * h) hs = dif (2 ^ (w * h) - 1) (orS hs)) := rfl
  generalize setOf (w * h) hs = S at *
  generalize (2 ^ (w * h) - 1 : Nat) = F at *
  generalize orS hs = O at *
  generalize dif F O = D at *
  obtain rfl := hS.out
  generalize w * h = n at *
  clear ha hr hcell hS ht
  go_enter Tryz.func102, Tryz.ntmps102
  go_wp2_with fail
  refine (HB.out _).mono ?_
  rintro e w1 ⟨rfl, hb1⟩
  have box1 := (box0.then hb1).alloc (.cells #[.int .i64 (w : Int), .int .i64 (h : Int)] 40)
  have boxb := Box.new w1 40 #[.int .i64 (w : Int), .int .i64 (h : Int)]
  have hb1 : Below W.heap.size W w1 := below_then ((Below.refl _ _).alloc (Nat.le_refl _) _) (by simp) hb1
  go_wp2_with fail
  refine (HA.out _ ((HR.out.below hb1).alloc _)).mono ?_
  rintro e w2 ⟨rfl, hb2⟩
  have box2 := box1.then hb2
  have boxb2 := boxb.then hb2
  have b0 := boxb2.cell 0
  have b1 := boxb2.cell 1
  have hb2 := below_then (hb1.alloc hb1.size _) (by have := hb1.size; simp; omega) hb2
  have hr2 := HR.out.below hb2
  clear hb1 box0 box1 boxb HB HA
  go_wp2_with fail
  go_region_with
    (first
      | (go_at_call 84; refine (HZ.out _).mono ?_
         rintro e w3 ⟨rfl, hb3⟩
         have r3 := hr2.drew.below hb3
         have e0 := (Box.then (w := w2.drew) boxb2 hb3).cell 0
         have e1 := (Box.then (w := w2.drew) boxb2 hb3).cell 1
         have hb3' := below_then hb2.drew hb2.drew.size hb3
         obtain ⟨c1, c2, c3, c4, c5, c6, c7⟩ := boardEnd (u := .int .i64 (w : Int)) (v := .int .i64 (h : Int)) (Box.then (w := w2.drew) box2 hb3))
      | (go_at_call 104; refine (HF.out _).mono ?_; rintro e w4 ⟨rfl, rfl⟩)
      | (go_at_call 133; refine (HU.out _ r3).mono ?_; rintro e w5 ⟨rfl, rfl⟩)
      | (go_at_call 133; refine (HU.out _ hr2.drew).mono ?_; rintro e w5 ⟨rfl, rfl⟩))
  all_goals go_wp2_with fail
  all_goals refine bodyPost_ret (v := .tuple #[boardV (w : Int) (h : Int), .int .i64 (S : Int), .bool true]) (by simp [results, Tryz.results102, go_sem, c6, c7]) rfl ⟨rfl, ?_⟩
  all_goals exact (hb3'.setCell (Nat.le_refl _) _).setCell (Nat.le_refl _) _
end Go.Proofs.YtmfdlijkpdgimaaGreatDoor

/-
  The program's TileCount.
-/
namespace Go.Proofs.YtmfdlijkpdgimaaGreatDoor
open Go.RowKit
set_option linter.unusedVariables false

theorem tilesOf_no (bc br : Int) (A : Option Addr) (c : Nat) (hs : List Int) (W : World) (hr : Row W A (ints hs)) (hm : hs.length ≤ maxLen) (hn : ¬ Holes bc br hs) :
    Calls Tryz.prog 102 #[.int .i64 bc, .int .i64 br, .slice A hs.length c] W (Plain (.tuple #[boardV 0 0, .int .i64 0, .bool false]) W) := by
  by_cases hB : Brd bc br
  · exact tilesOf_no2 bc br A c hs W hr hm hB (fun h => hn ⟨hB, h⟩)
  · exact tilesOf_no1 bc br A c hs W hB
theorem asc_lenT {n : Nat} {l : List Int} (h : AscTo (n : Int) l l.length) : l.length ≤ n := by
  have := free_list l (asc_nodup h) (asc_mem h)
  omega

set_option maxHeartbeats 1000000 in
theorem implTileCount_c (bc br : Int) (A : Option Addr) (c : Nat) (hs : List Int) (W : World) (hT : Tab W) (hr : Row W A (ints hs)) (hm : hs.length ≤ maxLen) :
    Calls Tryz.prog 78 #[.int .i64 bc, .int .i64 br, .slice A hs.length c] W (Plain (.int .i64 (coversP bc br hs)) W) := by
  by_cases hH : Holes bc br hs
  · obtain ⟨⟨h1, h2, h3, h4⟩, ha⟩ := id hH
    obtain ⟨w, rfl⟩ := Int.eq_ofNat_of_zero_le (show 0 ≤ bc by omega)
    obtain ⟨h, rfl⟩ := Int.eq_ofNat_of_zero_le (show 0 ≤ br by omega)
    have hw : 1 ≤ w ∧ w ≤ 5 := ⟨by omega, by omega⟩
    have hh : 1 ≤ h ∧ h ≤ 5 := ⟨by omega, by omega⟩
    have h25 : w * h ≤ 25 := Nat.mul_le_mul hw.2 hh.2
    have ha' := ha
    rw [← Int.natCast_mul] at ha'
    have hX : coversP (w : Int) (h : Int) hs = ((covN w (w * h) (setOf (w * h) hs) : Nat) : Int) := by
      unfold coversP
      rw [if_pos hH, cov_set hw (fun x hx => (asc_mem ha x hx).1)]
      rfl
    have HT := hide (tilesOf_yes w h A c hs W hr hw hh ha (by have := asc_lenT ha'; omega))
    have HC := hide (fun w5 h5 => covers_c w h hw hh (setOf (w * h) hs) (setOf_lt _ _) w5 h5)
    have HTb := hide hT
    have bx0 := Box.new W 40 #[.int .i64 0, .int .i64 0]
    rw [hX]
    clear hX hH ha ha' hr hT h1 h2 h3 h4
    generalize covN w (w * h) (setOf (w * h) hs) = X at *
    generalize setOf (w * h) hs = S at *
    go_enter Tryz.func78, Tryz.ntmps78
    go_wp2_with fail
    refine HT.out.mono ?_
    rintro e w1 ⟨rfl, b1⟩
    go_wp2_with fail
    refine (HC.out _ ((HTb.out.below b1).below ((Below.refl _ _).alloc (Nat.le_refl _) _))).mono ?_
    rintro e w2 ⟨rfl, b2⟩
    go_wp2_with fail
    go_ret
    exact ⟨rfl, below_then (b1.alloc b1.size _) (by have := b1.size; simp; omega) b2⟩
  · have HT := hide (tilesOf_no bc br A c hs W hr hm hH)
    have hX : coversP bc br hs = -1 := by unfold coversP; rw [if_neg hH]
    rw [hX]
    clear hX hH hr hT
    go_enter Tryz.func78, Tryz.ntmps78
    go_wp2_with fail
    refine HT.out.mono ?_
    rintro e w1 ⟨rfl, b1⟩
    go_wp2_with fail
    go_ret
    exact ⟨rfl, b1.alloc b1.size _⟩
end Go.Proofs.YtmfdlijkpdgimaaGreatDoor

/-
  PegP, PegA, PegQ, PegR, RowsA, PegC, PegD, PegE, PegF in one text.
-/
import Derived.Test.YtmfdlijkpdgimaaGreatDoorBitM
import Derived.Test.YtmfdlijkpdgimaaGreatDoorLightsM
import Derived.Test.YtmfdlijkpdgimaaGreatDoorPureM
import Derived.Test.YtmfdlijkpdgimaaGreatDoorSpecM
/-
  Pegs, purely: jumps, what comes, classes.
-/
namespace Go.Proofs.YtmfdlijkpdgimaaGreatDoor
open Go.RowKit
set_option linter.unusedVariables false

theorem bit_is (s i : Nat) : s.testBit i = (bitN s i == 1) := by
  rw [Nat.testBit_eq_decide_div_mod_eq]
  unfold bitN
  rw [Bool.eq_iff_iff, decide_eq_true_eq, beq_iff_eq]
theorem lt_pow (x i : Nat) : x < 2 ^ (x + i) ∧ 2 ^ i < 2 ^ (x + i + 1) :=
  ⟨Nat.lt_of_lt_of_le Nat.lt_two_pow_self (Nat.pow_le_pow_right (by omega) (by omega)), Nat.pow_lt_pow_right (by omega) (by omega)⟩
theorem add_bit {x i : Nat} (h : x.testBit i = false) : x + 2 ^ i = x ^^^ 2 ^ i := by
  have h1 := xor_sum (x + i + 1) x (2 ^ i) (Nat.lt_of_lt_of_le (lt_pow x i).1 (Nat.pow_le_pow_right (by omega) (by omega))) (lt_pow x i).2
  have h2 : notP x (2 ^ i) = x := Nat.eq_of_testBit_eq fun t => by
    rw [notP_bit, Nat.testBit_two_pow]
    by_cases e : i = t
    · subst e; simp [h]
    · simp [e]
  have h3 : notP (2 ^ i) x = 2 ^ i := Nat.eq_of_testBit_eq fun t => by
    rw [notP_bit, Nat.testBit_two_pow]
    by_cases e : i = t
    · subst e; simp [h]
    · simp [e]
  rw [h2, h3] at h1
  exact h1
theorem sub_bit {x i : Nat} (h : x.testBit i = true) : x - 2 ^ i = x ^^^ 2 ^ i := by
  have h1 : (x ^^^ 2 ^ i).testBit i = false := by rw [Nat.testBit_xor, h, Nat.testBit_two_pow_self]; rfl
  have h2 := add_bit h1
  rw [Nat.xor_assoc, Nat.xor_self, Nat.xor_zero] at h2
  omega
theorem flip_at (x i t : Nat) : (x ^^^ 2 ^ i).testBit t = (x.testBit t != decide (i = t)) := by
  rw [Nat.testBit_xor, Nat.testBit_two_pow]

/-- A cell two on in a row or a column. -/
def farP (w i k : Nat) : Bool := (k / w == i / w && (k == i + 2 || i == k + 2)) || (k % w == i % w && (k == i + 2 * w || i == k + 2 * w))
abbrev Jump := Nat × Nat × Nat
def okJ (w s : Nat) (j : Jump) : Bool := farP w j.1 j.2.2 && j.2.1 == (j.1 + j.2.2) / 2 && s.testBit j.1 && s.testBit j.2.1 && !s.testBit j.2.2
/-- The jumps, by their first and then by their last cell. -/
def jumpL (w n s : Nat) : List Jump := (List.range n).flatMap fun i => ((List.range n).filter fun k => okJ w s (i, (i + k) / 2, k)).map fun k => (i, (i + k) / 2, k)
def behindP (s : Nat) (j : Jump) : Nat := s - 2 ^ j.1 - 2 ^ j.2.1 + 2 ^ j.2.2
theorem jump_mem {w n s : Nat} {j : Jump} : j ∈ jumpL w n s ↔ j.1 < n ∧ j.2.2 < n ∧ okJ w s j = true := by
  obtain ⟨i, m, k⟩ := j
  unfold jumpL
  simp only [List.mem_flatMap, List.mem_map, List.mem_filter, List.mem_range, Prod.mk.injEq]
  constructor
  · rintro ⟨a, ha, b, ⟨hb, ho⟩, rfl, rfl, rfl⟩
    exact ⟨ha, hb, ho⟩
  · rintro ⟨hi, hk, ho⟩
    have hm : m = (i + k) / 2 := by
      unfold okJ at ho
      simp only [Bool.and_eq_true, beq_iff_eq] at ho
      exact ho.1.1.1.2
    subst hm
    exact ⟨i, hi, k, ⟨hk, ho⟩, rfl, rfl, rfl⟩
theorem far_apart {w i k : Nat} (hw : 1 ≤ w) (h : farP w i k = true) : i ≠ k ∧ (i + k) / 2 ≠ i ∧ (i + k) / 2 ≠ k ∧ ((i + k) / 2 < i ∨ (i + k) / 2 < k) := by
  unfold farP at h
  simp only [Bool.or_eq_true, Bool.and_eq_true, beq_iff_eq] at h
  rcases h with ⟨_, h | h⟩ | ⟨_, h | h⟩ <;> omega
structure JumpIs (w n s : Nat) (j : Jump) : Prop where
  i : j.1 < n
  m : j.2.1 < n
  k : j.2.2 < n
  im : j.1 ≠ j.2.1
  ik : j.1 ≠ j.2.2
  km : j.2.1 ≠ j.2.2
  mid : j.2.1 = (j.1 + j.2.2) / 2
  far : farP w j.1 j.2.2 = true
  bi : s.testBit j.1 = true
  bm : s.testBit j.2.1 = true
  bk : s.testBit j.2.2 = false
theorem jump_is {w n s : Nat} (hw : 1 ≤ w) {j : Jump} (h : j ∈ jumpL w n s) : JumpIs w n s j := by
  obtain ⟨hi, hk, ho⟩ := jump_mem.1 h
  unfold okJ at ho
  simp only [Bool.and_eq_true, beq_iff_eq, Bool.not_eq_true'] at ho
  obtain ⟨⟨⟨⟨hf, hm⟩, b1⟩, b2⟩, b3⟩ := ho
  obtain ⟨a1, a2, a3, a4⟩ := far_apart hw hf
  exact ⟨hi, by omega, hk, by omega, a1, by omega, hm, hf, b1, b2, b3⟩
theorem is_jump {w n s : Nat} {j : Jump} (h : JumpIs w n s j) : j ∈ jumpL w n s :=
  jump_mem.2 ⟨h.i, h.k, by unfold okJ; rw [h.far, h.bi, h.bm, h.bk, h.mid]; simp⟩
theorem behind_xor {w n s : Nat} {j : Jump} (h : JumpIs w n s j) : behindP s j = ((s ^^^ 2 ^ j.1) ^^^ 2 ^ j.2.1) ^^^ 2 ^ j.2.2 := by
  unfold behindP
  rw [sub_bit h.bi, sub_bit (by rw [flip_at, h.bm]; simp [h.im]), add_bit (by rw [flip_at, flip_at, h.bk]; simp [h.ik, h.km])]
theorem behind_at {w n s : Nat} {j : Jump} (h : JumpIs w n s j) (t : Nat) : (behindP s j).testBit t = if t = j.1 ∨ t = j.2.1 then false else if t = j.2.2 then true else s.testBit t := by
  rw [behind_xor h, flip_at, flip_at, flip_at]
  have h1 := h.bi
  have h2 := h.bm
  have h3 := h.bk
  have h4 := h.im
  have h5 := h.ik
  have h6 := h.km
  by_cases e1 : t = j.1
  · subst e1; simp [h1, Ne.symm h4, Ne.symm h5]
  · by_cases e2 : t = j.2.1
    · subst e2; simp [h2, h4, Ne.symm h6]
    · by_cases e3 : t = j.2.2
      · subst e3; simp [h3, e1, e2, Ne.symm e1, Ne.symm e2]
      · simp [e1, e2, e3, Ne.symm e1, Ne.symm e2, Ne.symm e3]
theorem behind_lt {w n s : Nat} {j : Jump} (h : JumpIs w n s j) (hs : s < 2 ^ n) : behindP s j < 2 ^ n := by
  rw [behind_xor h]
  exact Nat.xor_lt_two_pow (Nat.xor_lt_two_pow (Nat.xor_lt_two_pow hs (Nat.pow_lt_pow_right (by omega) h.i)) (Nat.pow_lt_pow_right (by omega) h.m)) (Nat.pow_lt_pow_right (by omega) h.k)

/-- How many pegs. -/
def cntB (x : Nat) : Nat → Nat
  | 0 => 0
  | k + 1 => cntB x k + (x.testBit k).toNat
theorem cnt_flip {x i : Nat} : ∀ n, i < n → cntB (x ^^^ 2 ^ i) n + (x.testBit i).toNat = cntB x n + (!x.testBit i).toNat
  | n + 1, h => by
    simp only [cntB, flip_at]
    by_cases e : i = n
    · subst e
      have same : ∀ k, k ≤ i → cntB (x ^^^ 2 ^ i) k = cntB x k := by
        intro k hk
        induction k with
        | zero => rfl
        | succ k ih =>
          simp only [cntB, flip_at]
          rw [ih (by omega)]
          simp [show ¬ i = k by omega]
      rw [same i (Nat.le_refl _)]
      cases x.testBit i <;> simp
    · have := cnt_flip (x := x) (i := i) n (by omega)
      simp only [e, decide_false, Bool.bne_false]
      omega
theorem cnt_behind {w n s : Nat} {j : Jump} (h : JumpIs w n s j) : cntB (behindP s j) n + 1 = cntB s n := by
  rw [behind_xor h]
  have h1 := cnt_flip (x := s) (i := j.1) n h.i
  have h2 := cnt_flip (x := s ^^^ 2 ^ j.1) (i := j.2.1) n h.m
  have h3 := cnt_flip (x := (s ^^^ 2 ^ j.1) ^^^ 2 ^ j.2.1) (i := j.2.2) n h.k
  simp only [flip_at, h.bi, h.bm, h.bk, h.im, h.ik, h.km, decide_false, Bool.bne_false, Bool.toNat_true, Bool.toNat_false, Bool.not_true, Bool.not_false] at h1 h2 h3
  omega
theorem cnt_full (n : Nat) : ∀ k, k ≤ n → cntB (2 ^ n - 1) k = k
  | 0, _ => rfl
  | k + 1, h => by
    simp only [cntB]
    rw [cnt_full n k (by omega), Nat.testBit_two_pow_sub_one]
    simp [show k < n by omega]
theorem cnt_none : ∀ k, cntB 0 k = 0
  | 0 => rfl
  | k + 1 => by simp [cntB, cnt_none k]

/-- How many pegs of some cells, by 2. -/
def parC (f : Nat → Bool) (x : Nat) : Nat → Bool
  | 0 => false
  | k + 1 => parC f x k != (f k && x.testBit k)
theorem par_flip {f : Nat → Bool} {x i : Nat} : ∀ n, i < n → parC f (x ^^^ 2 ^ i) n = (parC f x n != f i)
  | n + 1, h => by
    simp only [parC, flip_at]
    by_cases e : i = n
    · subst e
      have same : ∀ k, k ≤ i → parC f (x ^^^ 2 ^ i) k = parC f x k := by
        intro k hk
        induction k with
        | zero => rfl
        | succ k ih =>
          simp only [parC, flip_at]
          rw [ih (by omega)]
          simp [show ¬ i = k by omega]
      rw [same i (Nat.le_refl _)]
      cases parC f x i <;> cases f i <;> cases x.testBit i <;> simp
    · rw [par_flip n (by omega)]
      simp only [e, decide_false, Bool.bne_false]
      cases parC f x n <;> cases f i <;> cases (f n && x.testBit n) <;> rfl
def clsF (w : Nat) : Nat → Nat → Bool
  | 0, i => (i / w + i % w) % 3 == 0 || (i / w + i % w) % 3 == 1
  | 1, i => (i / w + i % w) % 3 == 1 || (i / w + i % w) % 3 == 2
  | 2, i => (i / w + 15 - i % w) % 3 == 0 || (i / w + 15 - i % w) % 3 == 1
  | _, i => (i / w + 15 - i % w) % 3 == 1 || (i / w + 15 - i % w) % 3 == 2
def clsOk (w n : Nat) : Bool := (List.range n).all fun i => (List.range n).all fun k => !farP w i k || (List.range 4).all fun q => (clsF w q i != clsF w q ((i + k) / 2)) == clsF w q k
theorem cls_ok : ∀ a : Fin 5, ∀ n : Fin 13, clsOk (a.val + 1) n.val = true := by decide +kernel
def clsP (w n s q : Nat) : Bool := parC (clsF w q) s n
theorem cls_behind {w n s q : Nat} (hw : 1 ≤ w ∧ w ≤ 5) (hn : n ≤ 12) (hq : q < 4) {j : Jump} (h : JumpIs w n s j) : clsP w n (behindP s j) q = clsP w n s q := by
  have h0 := cls_ok ⟨w - 1, by omega⟩ ⟨n, by omega⟩
  simp only [show w - 1 + 1 = w by omega] at h0
  unfold clsOk at h0
  have h1 := List.all_eq_true.1 (List.all_eq_true.1 h0 j.1 (List.mem_range.2 h.i)) j.2.2 (List.mem_range.2 h.k)
  rw [h.far, Bool.not_true, Bool.false_or] at h1
  have h2 := beq_iff_eq.1 (List.all_eq_true.1 h1 q (List.mem_range.2 hq))
  rw [← h.mid] at h2
  unfold clsP
  rw [behind_xor h, par_flip n h.k, par_flip n h.m, par_flip n h.i, ← h2]
  cases parC (clsF w q) s n <;> cases clsF w q j.1 <;> cases clsF w q j.2.1 <;> rfl

/-- What comes from a set of pegs. -/
inductive Comes (w n s : Nat) : Nat → Prop
  | self : Comes w n s s
  | jump {x : Nat} {j : Jump} : Comes w n s x → j ∈ jumpL w n x → Comes w n s (behindP x j)
theorem comes_lt {w n s x : Nat} (hw : 1 ≤ w) (hs : s < 2 ^ n) (h : Comes w n s x) : x < 2 ^ n := by
  induction h with
  | self => exact hs
  | jump _ hj ih => exact behind_lt (jump_is hw hj) ih
theorem comes_cls {w n s x q : Nat} (hw : 1 ≤ w ∧ w ≤ 5) (hn : n ≤ 12) (hq : q < 4) (h : Comes w n s x) : clsP w n x q = clsP w n s q := by
  induction h with
  | self => rfl
  | jump _ hj ih => rw [cls_behind hw hn hq (jump_is hw.1 hj), ih]
theorem comes_cnt {w n s x : Nat} (hw : 1 ≤ w) (h : Comes w n s x) : x = s ∨ cntB x n < cntB s n := by
  induction h with
  | self => exact .inl rfl
  | jump hx hj ih =>
    have := cnt_behind (jump_is hw hj)
    right
    rcases ih with rfl | ih <;> omega
theorem comes_trans {w n a b c : Nat} (h : Comes w n a b) (g : Comes w n b c) : Comes w n a c := by
  induction g with
  | self => exact h
  | jump _ hj ih => exact .jump ih hj
theorem comes_first {w n s x : Nat} (h : Comes w n s x) : x = s ∨ ∃ j, j ∈ jumpL w n s ∧ Comes w n (behindP s j) x := by
  induction h with
  | self => exact .inl rfl
  | jump hx hj ih =>
    right
    rcases ih with rfl | ⟨j0, h0, h1⟩
    · exact ⟨_, hj, .self⟩
    · exact ⟨j0, h0, .jump h1 hj⟩
/-- Free cells jump back. -/
theorem free_at {n x : Nat} (hx : x < 2 ^ n) (t : Nat) : (2 ^ n - 1 - x).testBit t = (decide (t < n) && !x.testBit t) := by
  rw [show 2 ^ n - 1 - x = 2 ^ n - (x + 1) by omega]
  exact Nat.testBit_two_pow_sub_succ hx t
theorem jump_back {w n s : Nat} (hw : 1 ≤ w) (hs : s < 2 ^ n) {j : Jump} (h : JumpIs w n s j) : JumpIs w n (2 ^ n - 1 - behindP s j) j ∧ behindP (2 ^ n - 1 - behindP s j) j = 2 ^ n - 1 - s := by
  have hb := behind_lt h hs
  have hat := behind_at h
  have hI : JumpIs w n (2 ^ n - 1 - behindP s j) j :=
    ⟨h.i, h.m, h.k, h.im, h.ik, h.km, h.mid, h.far,
      by rw [free_at hb, hat, if_pos (.inl rfl)]; simp [h.i],
      by rw [free_at hb, hat, if_pos (.inr rfl)]; simp [h.m],
      by rw [free_at hb, hat, if_neg (by rintro (e | e); exact h.ik e.symm; exact h.km e.symm), if_pos rfl]; simp⟩
  refine ⟨hI, Nat.eq_of_testBit_eq fun t => ?_⟩
  rw [behind_at hI, free_at hb, free_at hs, hat]
  by_cases e1 : t = j.1
  · rw [if_pos (.inl e1), e1, h.bi]; simp
  · by_cases e2 : t = j.2.1
    · rw [if_pos (.inr e2), e2, h.bm]; simp
    · rw [if_neg (by rintro (e | e); exact e1 e; exact e2 e)]
      by_cases e3 : t = j.2.2
      · rw [if_pos e3, e3, h.bk]; simp [h.k]
      · rw [if_neg e3, if_neg (by rintro (e | e); exact e1 e; exact e2 e), if_neg e3]
theorem comes_back {w n a b : Nat} (hw : 1 ≤ w) (ha : a < 2 ^ n) (h : Comes w n a b) : Comes w n (2 ^ n - 1 - b) (2 ^ n - 1 - a) := by
  induction h with
  | self => exact .self
  | jump hx hj ih =>
    have hJ := jump_is hw hj
    obtain ⟨g1, g2⟩ := jump_back hw (comes_lt hw ha hx) hJ
    have := Comes.jump .self (is_jump g1)
    rw [g2] at this
    exact comes_trans this ih
theorem comes_free {w n a b : Nat} (hw : 1 ≤ w) (ha : a < 2 ^ n) (hb : b < 2 ^ n) : Comes w n a b ↔ Comes w n (2 ^ n - 1 - b) (2 ^ n - 1 - a) := by
  refine ⟨comes_back hw ha, fun h => ?_⟩
  have := comes_back hw (by omega) h
  rwa [show 2 ^ n - 1 - (2 ^ n - 1 - a) = a by omega, show 2 ^ n - 1 - (2 ^ n - 1 - b) = b by omega] at this
theorem jump_none (w n : Nat) : jumpL w n 0 = [] ∧ jumpL w n (2 ^ n - 1) = [] := by
  constructor <;> refine List.eq_nil_iff_forall_not_mem.2 fun j hj => ?_ <;> obtain ⟨h1, h2, h3⟩ := jump_mem.1 hj <;> unfold okJ at h3
  · simp at h3
  · rw [Nat.testBit_two_pow_sub_one, Nat.testBit_two_pow_sub_one, Nat.testBit_two_pow_sub_one] at h3
    simp [h2] at h3
end Go.Proofs.YtmfdlijkpdgimaaGreatDoor

/-
  Pegs: the model's validPegs; counts by rests.
-/
namespace Go.Proofs.YtmfdlijkpdgimaaGreatDoor
open Go.RowKit
set_option linter.unusedVariables false

/-- A row of natural numbers of the call's own: its cells, and one of them written. -/
theorem own_natP {W : World} {base g n c : Nat} {L : List Nat} (h : W.ownsRow base 3 1 (.slice (some ⟨g, 0, none⟩) n c) n (ints (natI L))) {k : Nat} (hk : k < n) (b : Nat) :
    W.cell? ⟨g, k, none⟩ = some (.int .i64 ((L[k]?.getD 0 : Nat) : Int)) ∧ W.frozen? ⟨g, k, none⟩ = false ∧ (W.setCell ⟨g, k, none⟩ (.int .i64 (b : Int))).ownsRow base 3 1 (.slice (some ⟨g, 0, none⟩) n c) n (ints (natI (L.set k b))) ∧ W.grownBy (W.setCell ⟨g, k, none⟩ (.int .i64 (b : Int))) (some g) := by
  have hl : L.length = n := by have := h.1; simpa [natI] using this
  have hc := h.cellAt k (by omega)
  obtain ⟨o, gr⟩ := h.stored k (.int .i64 (b : Int))
  refine ⟨?_, h.frozenAt k, ?_, gr⟩
  · rw [hc]; simp [natI, List.getElem?_eq_getElem (show k < L.length by omega)]
  · rw [show (ints (natI L)).set k (.int .i64 (b : Int)) = ints (natI (L.set k b)) by simp [natI, ints, List.map_set]] at o
    exact o
theorem own_addrP {w : World} {base e size n : Nat} {v : Value} {cs : List Value} (h : w.ownsRow base e size v n cs) (hn : 0 < n) : ∃ g c, v = .slice (some ⟨g, 0, none⟩) n c ∧ base ≤ g ∧ g < w.heap.size := by
  rcases h.2 with ⟨_, rfl⟩ | ⟨g, cap, cur, rfl, hb, hg, _⟩
  · omega
  · exact ⟨g, cap, rfl, hb, (Array.getElem?_eq_some_iff.1 hg).1⟩
theorem own_notP {w w' : World} {base e size n : Nat} {v : Value} {xs : List Value} {r : Option Nat} (h : w.ownsRow base e size v n xs) (hg : w.grownBy w' r) (hne : v.ownBlock ≠ r) : w'.ownsRow base e size v n xs := h.kept hg (.inr hne)

theorem add0P (g k : Nat) : (⟨g, 0, none⟩ : Addr).add k = ⟨g, k, none⟩ := by unfold Addr.add; split <;> simp_all
theorem brdP {w h : Nat} (hw : 1 ≤ w ∧ w ≤ 5) (hh : 1 ≤ h ∧ h ≤ 5) : Brd (w : Int) (h : Int) := ⟨by omega, by omega, by omega, by omega⟩
theorem lit12P {w h : Nat} (hw : 1 ≤ w ∧ w ≤ 5) (hh : 1 ≤ h ∧ h ≤ 5) (h12 : w * h ≤ 12) : Lit12 (w : Int) (h : Int) := ⟨brdP hw hh, by rw [← Int.natCast_mul]; omega⟩
/-- Pegs of a board. -/
def PegS (bc br s : Int) : Prop := Lit12 bc br ∧ 0 ≤ s ∧ s ≤ ((2 ^ (bc * br).toNat : Nat) : Int) - 1
instance (bc br s : Int) : Decidable (PegS bc br s) := by unfold PegS; infer_instance
set_option maxHeartbeats 1000000 in
theorem validPegs_c (bc br s : Int) (W : World) : Calls Tryz.prog 34 #[.int .i64 bc, .int .i64 br, .int .i64 s] W fun e w' => e = .returned (.bool (decide (PegS bc br s))) ∧ W = w' := by
  by_cases hB : Brd bc br
  · have HB := hide hB
    have HV := hide (fun w5 => validBoard_yes bc br w5 HB.out)
    obtain ⟨h1, h2, h3, h4⟩ := hB
    obtain ⟨m1, m2⟩ := mul_bd h1 h2 h3 h4
    obtain ⟨n, hn⟩ : ∃ n : Nat, bc * br = (n : Int) := ⟨(bc * br).toNat, by omega⟩
    have e0 : IntKind.i64.wrap (bc * br) = (n : Int) := (IntWalk.i64_in _ (by omega)).trans hn
    by_cases h9 : n ≤ 12
    · have he : decide (PegS bc br s) = decide (0 ≤ s ∧ s ≤ ((2 ^ n : Nat) : Int) - 1) := by
        rw [decide_eq_decide]
        unfold PegS
        rw [hn]
        simp only [Int.toNat_natCast]
        exact ⟨fun h => h.2, fun h => ⟨⟨HB.out, by omega⟩, h⟩⟩
      rw [he]
      obtain ⟨p1, p2⟩ := pow12 h9
      have HP := hide (fun w5 => specPower12_c n h9 w5)
      have HI := hide (fun w5 => inRange_c s 0 (((2 ^ n : Nat) : Int) - 1) w5)
      have n1 : (n : Int) ≤ 12 := by omega
      clear he hn m1 m2
      generalize decide (0 ≤ s ∧ s ≤ ((2 ^ n : Nat) : Int) - 1) = b at *
      generalize 2 ^ n = P at *
      have e1 : IntKind.i64.wrap ((P : Int) - 1) = (P : Int) - 1 := IntWalk.i64_in _ (by omega)
      go_enter Tryz.func34, Tryz.ntmps34
      go_wp2_with fail
      refine (HV.out _).mono ?_
      rintro e w1 ⟨rfl, rfl⟩
      go_wp2_with fail
      refine (HP.out _).mono ?_
      rintro e w1 ⟨rfl, rfl⟩
      go_wp2_with fail
      refine (HI.out _).mono ?_
      rintro e w1 ⟨rfl, rfl⟩
      go_wp2_with fail
      go_ret
      exact ⟨by cases b <;> rfl, rfl⟩
    · have he : decide (PegS bc br s) = false := decide_eq_false (fun h => h9 (by have := h.1.2; omega))
      rw [he]
      have n1 : ¬ ((n : Int) ≤ 12) := by omega
      clear he hn m1 m2
      go_enter Tryz.func34, Tryz.ntmps34
      go_wp2_with fail
      refine (HV.out _).mono ?_
      rintro e w1 ⟨rfl, rfl⟩
      go_wp2_with fail
      go_ret
      exact ⟨rfl, rfl⟩
  · have he : decide (PegS bc br s) = false := decide_eq_false (fun h => hB h.1.1)
    have HV := hide (fun w5 => validBoard_no bc br w5 hB)
    rw [he]
    clear he hB
    go_enter Tryz.func34, Tryz.ntmps34
    go_wp2_with fail
    refine (HV.out _).mono ?_
    rintro e w1 ⟨rfl, rfl⟩
    go_wp2_with fail
    go_ret
    exact ⟨rfl, rfl⟩

/-- How many pegs of one rest. -/
def cntR (f : Nat → Nat) (s q : Nat) : Nat → Nat
  | 0 => 0
  | k + 1 => cntR f s q k + (if s.testBit k && f k == q then 1 else 0)
theorem cntR_le (f : Nat → Nat) (s q : Nat) : ∀ k, cntR f s q k ≤ k
  | 0 => Nat.le_refl _
  | k + 1 => by have := cntR_le f s q k; simp only [cntR]; split <;> omega
def cntL (f : Nat → Nat) (s k : Nat) : List Nat := [cntR f s 0 k, cntR f s 1 k, cntR f s 2 k]
theorem cntL_put {f : Nat → Nat} {s k : Nat} (hf : f k < 3) (hb : s.testBit k = true) : (cntL f s k).set (f k) ((cntL f s k)[f k]?.getD 0 + 1) = cntL f s (k + 1) := by
  have : f k = 0 ∨ f k = 1 ∨ f k = 2 := by omega
  rcases this with e | e | e <;> simp [cntL, cntR, e, hb]
theorem cntL_keep {f : Nat → Nat} {s k : Nat} (hb : s.testBit k = false) : cntL f s (k + 1) = cntL f s k := by simp [cntL, cntR, hb]
theorem cntL_le {f : Nat → Nat} {s k : Nat} (i : Nat) : (cntL f s k)[i]?.getD 0 ≤ k := by
  match i with
  | 0 => exact cntR_le f s 0 k
  | 1 => exact cntR_le f s 1 k
  | 2 => exact cntR_le f s 2 k
  | i + 3 => simp [cntL]
theorem cnt_par {f : Nat → Nat} {g : Nat → Bool} {s a b : Nat} (hab : a ≠ b) (hg : ∀ i, g i = (f i == a || f i == b)) : ∀ k, (cntR f s a k + cntR f s b k) % 2 = (parC g s k).toNat
  | 0 => rfl
  | k + 1 => by
    have ih := cnt_par (s := s) hab hg k
    simp only [cntR, parC, hg k]
    cases h1 : s.testBit k
    · simp only [Bool.false_and, Bool.and_false, if_neg Bool.false_ne_true, Nat.add_zero, Bool.bne_false]; exact ih
    · by_cases h2 : f k = a
      · have h3 : ¬ f k = b := fun e => hab (h2.symm.trans e)
        simp only [h2, beq_self_eq_true, Bool.true_and, Bool.true_or, Bool.bne_true, if_true, show (a == b) = false from by simpa using hab]
        cases hp : parC g s k <;> rw [hp] at ih <;> simp at ih ⊢ <;> omega
      · by_cases h3 : f k = b
        · simp only [h3, beq_self_eq_true, Bool.true_and, Bool.or_true, Bool.bne_true, if_true, show (b == a) = false from by simpa using Ne.symm hab]
          cases hp : parC g s k <;> rw [hp] at ih <;> simp at ih ⊢ <;> omega
        · simp only [show (f k == a) = false from by simpa using h2, show (f k == b) = false from by simpa using h3, Bool.and_false, Bool.or_self, Bool.false_and, if_neg Bool.false_ne_true, Nat.add_zero, Bool.bne_false]
          exact ih
def dnF (w i : Nat) : Nat := (i / w + i % w) % 3
def upF (w i : Nat) : Nat := (i / w + 15 - i % w) % 3
/-- The class: four numbers. -/
def clsL (w n s : Nat) : List Nat := [(clsP w n s 0).toNat, (clsP w n s 1).toNat, (clsP w n s 2).toNat, (clsP w n s 3).toNat]
theorem clsL_is (w n s : Nat) : clsL w n s = [(cntR (dnF w) s 0 n + cntR (dnF w) s 1 n) % 2, (cntR (dnF w) s 1 n + cntR (dnF w) s 2 n) % 2, (cntR (upF w) s 0 n + cntR (upF w) s 1 n) % 2, (cntR (upF w) s 1 n + cntR (upF w) s 2 n) % 2] := by
  unfold clsL clsP
  rw [cnt_par (f := dnF w) (a := 0) (b := 1) (g := clsF w 0) (by decide) (fun i => rfl), cnt_par (f := dnF w) (a := 1) (b := 2) (g := clsF w 1) (by decide) (fun i => rfl), cnt_par (f := upF w) (a := 0) (b := 1) (g := clsF w 2) (by decide) (fun i => rfl), cnt_par (f := upF w) (a := 1) (b := 2) (g := clsF w 3) (by decide) (fun i => rfl)]
end Go.Proofs.YtmfdlijkpdgimaaGreatDoor

/-
  Pegs, purely: the search for what comes, its order, and the least number of pegs.
-/
namespace Go.Proofs.YtmfdlijkpdgimaaGreatDoor
open Go.RowKit
set_option linter.unusedVariables false

/-- What is new is put behind the others. -/
def putN (out : List Nat) (y : Nat) : List Nat := if out.contains y then out else out ++ [y]
def putsTo (x : Nat) (js : List Jump) (out : List Nat) : Nat → List Nat
  | 0 => out
  | q + 1 => putN (putsTo x js out q) (behindP x (js[q]?.getD (0, 0, 0)))
def bfsL (w n s : Nat) : Nat → List Nat
  | 0 => [s]
  | k + 1 => match (bfsL w n s k)[k]? with
    | none => bfsL w n s k
    | some x => putsTo x (jumpL w n x) (bfsL w n s k) (jumpL w n x).length
theorem putN_sub {out : List Nat} {y z : Nat} (h : z ∈ out) : z ∈ putN out y := by
  unfold putN
  split
  · exact h
  · exact List.mem_append_left _ h
theorem putN_in (out : List Nat) (y : Nat) : y ∈ putN out y := by
  unfold putN
  split
  · rename_i h; exact List.contains_iff_mem.1 h
  · exact List.mem_append_right _ (List.mem_cons_self ..)
theorem nodup_le : ∀ (m : Nat) (l : List Nat), l.Nodup → (∀ x ∈ l, x < m) → l.length ≤ m
  | 0, l, _, h => by
    cases l with
    | nil => exact Nat.le_refl _
    | cons x l => exact absurd (h x (List.mem_cons_self ..)) (by omega)
  | m + 1, l, hn, h => by
    by_cases hm : m ∈ l
    · have h1 := nodup_le m (l.erase m) (hn.erase m) fun x hx => by
        have h2 := h x (List.mem_of_mem_erase hx)
        have h3 : x ≠ m := fun e => by subst e; exact (hn.not_mem_erase) hx
        omega
      rw [List.length_erase_of_mem hm] at h1
      omega
    · have h1 := nodup_le m l hn fun x hx => by
        have h2 := h x hx
        have h3 : x ≠ m := fun e => hm (e ▸ hx)
        omega
      omega

/-- In the midst of a set's jumps. -/
structure Mid (w n s x : Nat) (base o : List Nat) : Prop where
  pre : ∃ e, o = base ++ e ∧ ∀ y ∈ e, cntB y n + 1 = cntB x n
  nodup : o.Nodup
  lt : ∀ y ∈ o, y < 2 ^ n
  come : ∀ y ∈ o, Comes w n s y
theorem Mid.put {w n s x : Nat} {base o : List Nat} (h : Mid w n s x base o) (hw : 1 ≤ w) (hx : x < 2 ^ n) (hc : Comes w n s x) {j : Jump} (hj : j ∈ jumpL w n x) : Mid w n s x base (putN o (behindP x j)) := by
  have hJ := jump_is hw hj
  unfold putN
  split
  · exact h
  · rename_i hno
    have hno : behindP x j ∉ o := fun hm => hno (List.contains_iff_mem.2 hm)
    obtain ⟨e, rfl, he⟩ := h.pre
    refine ⟨⟨e ++ [behindP x j], by simp, fun y hy => ?_⟩, ?_, fun y hy => ?_, fun y hy => ?_⟩
    · rcases List.mem_append.1 hy with hy | hy
      · exact he y hy
      · rw [List.mem_singleton.1 hy]; exact cnt_behind hJ
    · rw [List.nodup_append]
      exact ⟨h.nodup, by simp, fun a ha b hb hab => by rw [List.mem_singleton.1 hb] at hab; exact hno (hab ▸ ha)⟩
    · rcases List.mem_append.1 hy with hy | hy
      · exact h.lt y hy
      · rw [List.mem_singleton.1 hy]; exact behind_lt hJ hx
    · rcases List.mem_append.1 hy with hy | hy
      · exact h.come y hy
      · rw [List.mem_singleton.1 hy]; exact .jump hc hj
theorem mid_to {w n s x : Nat} {base : List Nat} (h : Mid w n s x base base) (hw : 1 ≤ w) (hx : x < 2 ^ n) (hc : Comes w n s x) : ∀ q, q ≤ (jumpL w n x).length → Mid w n s x base (putsTo x (jumpL w n x) base q)
  | 0, _ => h
  | q + 1, hq => by
    have := mid_to h hw hx hc q (by omega)
    rw [putsTo]
    exact this.put hw hx hc (by rw [List.getElem?_eq_getElem (show q < (jumpL w n x).length by omega)]; exact List.getElem_mem _)
theorem puts_in {x : Nat} {js : List Jump} {out : List Nat} : ∀ q i, i < q → behindP x (js[i]?.getD (0, 0, 0)) ∈ putsTo x js out q
  | q + 1, i, hi => by
    rw [putsTo]
    by_cases e : i = q
    · subst e; exact putN_in _ _
    · exact putN_sub (puts_in q i (by omega))

/-- Where the search stands. -/
structure Bfs (w n s k : Nat) (o : List Nat) : Prop where
  self : s ∈ o
  nodup : o.Nodup
  lt : ∀ y ∈ o, y < 2 ^ n
  come : ∀ y ∈ o, Comes w n s y
  closed : ∀ i x, i < k → o[i]? = some x → ∀ j ∈ jumpL w n x, behindP x j ∈ o
  down : ∀ (i i' x x' : Nat), i ≤ i' → o[i]? = some x → o[i']? = some x' → cntB x' n ≤ cntB x n
  near : ∀ x, o[k]? = some x → ∀ y ∈ o, cntB x n ≤ cntB y n + 1
theorem Bfs.mid {w n s k x : Nat} {o : List Nat} (h : Bfs w n s k o) : Mid w n s x o o := ⟨⟨[], by simp, fun y hy => absurd hy (by simp)⟩, h.nodup, h.lt, h.come⟩
theorem Bfs.next {w n s k x : Nat} {o o' : List Nat} (h : Bfs w n s k o) (hx : o[k]? = some x) (hm : Mid w n s x o o') (hall : ∀ j ∈ jumpL w n x, behindP x j ∈ o') : Bfs w n s (k + 1) o' := by
  obtain ⟨e, rfl, he⟩ := hm.pre
  have hk : k < o.length := (List.getElem?_eq_some_iff.1 hx).1
  have hdown : ∀ (i i' y y' : Nat), i ≤ i' → (o ++ e)[i]? = some y → (o ++ e)[i']? = some y' → cntB y' n ≤ cntB y n := fun i i' y y' hi hy hy' => by
    by_cases h1 : i' < o.length
    · rw [List.getElem?_append_left h1] at hy'
      rw [List.getElem?_append_left (by omega)] at hy
      exact h.down i i' y y' hi hy hy'
    · rw [List.getElem?_append_right (by omega)] at hy'
      have h2 := he y' (List.mem_of_getElem? hy')
      by_cases h3 : i < o.length
      · rw [List.getElem?_append_left h3] at hy
        have := h.near x hx y (List.mem_of_getElem? hy)
        omega
      · rw [List.getElem?_append_right (by omega)] at hy
        have := he y (List.mem_of_getElem? hy)
        omega
  refine ⟨List.mem_append_left _ h.self, hm.nodup, hm.lt, hm.come, fun i y hi hy j hj => ?_, hdown, fun y hy z hz => ?_⟩
  · rw [List.getElem?_append_left (by omega)] at hy
    by_cases e' : i = k
    · subst e'
      rw [hx] at hy
      injection hy with hy
      subst hy
      exact hall j hj
    · exact List.mem_append_left _ (h.closed i y (by omega) hy j hj)
  · have h1 := hdown k (k + 1) x y (by omega) (by rw [List.getElem?_append_left hk]; exact hx) hy
    rcases List.mem_append.1 hz with hz | hz
    · have := h.near x hx z hz
      omega
    · have := he z hz
      omega
theorem Bfs.past {w n s k x : Nat} {o : List Nat} (h : Bfs w n s k o) (hk : o.length ≤ k) : Bfs w n s (k + 1) o :=
  ⟨h.self, h.nodup, h.lt, h.come, fun i y hi hy => by
      have := (List.getElem?_eq_some_iff.1 hy).1
      exact h.closed i y (by omega) hy,
    h.down, fun y hy => by have := (List.getElem?_eq_some_iff.1 hy).1; omega⟩
theorem bfs_is {w n s : Nat} (hw : 1 ≤ w) (hs : s < 2 ^ n) : ∀ k, Bfs w n s k (bfsL w n s k)
  | 0 => by
    refine ⟨List.mem_singleton.2 rfl, by simp [bfsL], fun y hy => ?_, fun y hy => ?_, fun i x hi => absurd hi (by omega), fun i i' x x' hi hx hx' => ?_, fun x hx y hy => ?_⟩
    · rw [List.mem_singleton.1 hy]; exact hs
    · rw [List.mem_singleton.1 hy]; exact .self
    · have h1 := List.mem_singleton.1 (List.mem_of_getElem? hx)
      have h2 := List.mem_singleton.1 (List.mem_of_getElem? hx')
      rw [h1, h2]; exact Nat.le_refl _
    · have h1 := List.mem_singleton.1 (List.mem_of_getElem? hx)
      rw [h1, List.mem_singleton.1 hy]; omega
  | k + 1 => by
    have h := bfs_is hw hs k
    rw [bfsL]
    cases hx : (bfsL w n s k)[k]? with
    | none => exact h.past (x := 0) (List.getElem?_eq_none_iff.1 hx)
    | some x =>
      have hm := List.mem_of_getElem? hx
      refine h.next hx (mid_to h.mid hw (h.lt x hm) (h.come x hm) _ (Nat.le_refl _)) fun j hj => ?_
      obtain ⟨i, hi, rfl⟩ := List.getElem_of_mem hj
      have := puts_in (x := x) (js := jumpL w n x) (out := bfsL w n s k) _ i hi
      rwa [List.getElem?_eq_getElem hi] at this
theorem bfs_len {w n s : Nat} (hw : 1 ≤ w) (hs : s < 2 ^ n) (k : Nat) : (bfsL w n s k).length ≤ 2 ^ n := nodup_le _ _ (bfs_is hw hs k).nodup (bfs_is hw hs k).lt
theorem bfs_stop {w n s k : Nat} (h : (bfsL w n s k).length ≤ k) : ∀ m, bfsL w n s (k + m) = bfsL w n s k
  | 0 => rfl
  | m + 1 => by
    have ih := bfs_stop h m
    rw [← Nat.add_assoc, bfsL, ih, List.getElem?_eq_none (by omega)]
/-- All that comes, in the order in which it is found. -/
def comeL (w n s : Nat) : List Nat := bfsL w n s (2 ^ n)
theorem come_at {w n s k : Nat} (hw : 1 ≤ w) (hs : s < 2 ^ n) (h : (bfsL w n s k).length = k) : comeL w n s = bfsL w n s k := by
  have := bfs_len hw hs k
  have e := bfs_stop (w := w) (n := n) (s := s) (k := k) (by omega) (2 ^ n - k)
  unfold comeL
  rwa [show k + (2 ^ n - k) = 2 ^ n by omega] at e
theorem come_mem {w n s y : Nat} (hw : 1 ≤ w) (hs : s < 2 ^ n) : y ∈ comeL w n s ↔ Comes w n s y := by
  have h := bfs_is hw hs (2 ^ n)
  have hl := bfs_len hw hs (2 ^ n)
  refine ⟨h.come y, fun hc => ?_⟩
  induction hc with
  | self => exact h.self
  | jump _ hj ih =>
    obtain ⟨i, hi, hx⟩ := List.getElem_of_mem ih
    exact h.closed i _ (by unfold comeL at hi; omega) (by rw [← hx]; exact List.getElem?_eq_getElem hi) _ hj
theorem come_nodup {w n s : Nat} (hw : 1 ≤ w) (hs : s < 2 ^ n) : (comeL w n s).Nodup := (bfs_is hw hs _).nodup
theorem come_lt {w n s y : Nat} (hw : 1 ≤ w) (hs : s < 2 ^ n) (h : y ∈ comeL w n s) : y < 2 ^ n := (bfs_is hw hs _).lt y h
theorem come_len {w n s : Nat} (hw : 1 ≤ w) (hs : s < 2 ^ n) : (comeL w n s).length ≤ 2 ^ n := bfs_len hw hs _
/-- What is behind a jump lies among those that are still to come, if it lies there at all. -/
theorem left_mem {w n s k x : Nat} {base o : List Nat} (h : Bfs w n s k base) (hx : base[k]? = some x) (hm : Mid w n s x base o) {j : Jump} (hw : 1 ≤ w) (hj : j ∈ jumpL w n x) : behindP x j ∈ o ↔ behindP x j ∈ o.drop (k + 1) := by
  refine ⟨fun hy => ?_, fun hy => List.mem_of_mem_drop hy⟩
  obtain ⟨i, hi, he⟩ := List.getElem_of_mem hy
  have hk : k < base.length := (List.getElem?_eq_some_iff.1 hx).1
  have hc := cnt_behind (jump_is hw hj)
  have : k < i := by
    rcases Nat.lt_or_ge k i with h1 | h1
    · exact h1
    · exfalso
      obtain ⟨e, rfl, _⟩ := hm.pre
      have h2 : base[i]? = some (behindP x j) := by
        rw [← he, ← List.getElem?_eq_getElem hi, List.getElem?_append_left (by omega)]
      have := h.down i k _ _ h1 h2 hx
      omega
  have h3 : (o.drop (k + 1))[i - (k + 1)]? = some (behindP x j) := by
    rw [List.getElem?_drop, show k + 1 + (i - (k + 1)) = i by omega, List.getElem?_eq_getElem hi, he]
  exact List.mem_of_getElem? h3

/-- The least number of pegs of the first k sets, or b. -/
def lstTo (n : Nat) (L : List Nat) (b : Nat) : Nat → Nat
  | 0 => b
  | k + 1 => min (lstTo n L b k) (cntB (L[k]?.getD 0) n)
theorem lst_le {n : Nat} {L : List Nat} {b : Nat} : ∀ k, lstTo n L b k ≤ b ∧ ∀ i, i < k → lstTo n L b k ≤ cntB (L[i]?.getD 0) n
  | 0 => ⟨Nat.le_refl _, fun i hi => absurd hi (by omega)⟩
  | k + 1 => by
    obtain ⟨h1, h2⟩ := lst_le (n := n) (L := L) (b := b) k
    rw [lstTo]
    refine ⟨by omega, fun i hi => ?_⟩
    by_cases e : i = k
    · subst e; omega
    · have := h2 i (by omega); omega
theorem lst_is {n : Nat} {L : List Nat} {b : Nat} : ∀ k, k ≤ L.length → lstTo n L b k = b ∨ ∃ y ∈ L, cntB y n = lstTo n L b k
  | 0, _ => .inl rfl
  | k + 1, hk => by
    rw [lstTo]
    rcases Nat.le_total (lstTo n L b k) (cntB (L[k]?.getD 0) n) with h | h
    · rw [Nat.min_eq_left h]; exact lst_is k (by omega)
    · rw [Nat.min_eq_right h, List.getElem?_eq_getElem (show k < L.length by omega)]
      exact .inr ⟨_, List.getElem_mem _, rfl⟩
/-- The least number of pegs that are left. -/
def fewL (w n s : Nat) : Nat := lstTo n (comeL w n s) (cntB s n) (comeL w n s).length
theorem few_le {w n s y : Nat} (hw : 1 ≤ w) (hs : s < 2 ^ n) (h : Comes w n s y) : fewL w n s ≤ cntB y n := by
  obtain ⟨i, hi, rfl⟩ := List.getElem_of_mem ((come_mem hw hs).2 h)
  have := (lst_le (n := n) (L := comeL w n s) (b := cntB s n) (comeL w n s).length).2 i hi
  rwa [List.getElem?_eq_getElem hi] at this
theorem few_is {w n s : Nat} (hw : 1 ≤ w) (hs : s < 2 ^ n) : ∃ y, Comes w n s y ∧ cntB y n = fewL w n s := by
  rcases lst_is (n := n) (L := comeL w n s) (b := cntB s n) (comeL w n s).length (Nat.le_refl _) with h | ⟨y, hy, h⟩
  · exact ⟨s, .self, h.symm⟩
  · exact ⟨y, (come_mem hw hs).1 hy, h⟩
/-- Whatever the order of the sets, the least is one. -/
theorem few_any {w n s b : Nat} {L : List Nat} (hw : 1 ≤ w) (hs : s < 2 ^ n) (hL : ∀ y, y ∈ L ↔ Comes w n s y) (hb : ∃ y ∈ L, cntB y n = b) : lstTo n L b L.length = fewL w n s := by
  obtain ⟨y, hy, e⟩ := few_is hw hs
  obtain ⟨h1, h2⟩ := lst_le (n := n) (L := L) (b := b) L.length
  obtain ⟨i, hi, hyi⟩ := List.getElem_of_mem ((hL y).2 hy)
  have h3 := h2 i hi
  rw [List.getElem?_eq_getElem hi, Option.getD_some, hyi] at h3
  have h4 : fewL w n s ≤ lstTo n L b L.length := by
    rcases lst_is (n := n) (L := L) (b := b) L.length (Nat.le_refl _) with h | ⟨z, hz, h⟩
    · obtain ⟨z, hz, hb⟩ := hb
      have := few_le hw hs ((hL z).1 hz)
      omega
    · have := few_le hw hs ((hL z).1 hz)
      omega
  omega
theorem few_none {w n s : Nat} (hw : 1 ≤ w) (hs : s < 2 ^ n) : fewL w n s = cntB s n ↔ jumpL w n s = [] := by
  refine ⟨fun h => ?_, fun h => ?_⟩
  · cases hj : jumpL w n s with
    | nil => rfl
    | cons j js =>
      exfalso
      have hm : j ∈ jumpL w n s := by rw [hj]; exact List.mem_cons_self ..
      have h1 := few_le hw hs (.jump .self hm)
      have h2 := cnt_behind (jump_is hw hm)
      omega
  · obtain ⟨y, hy, e⟩ := few_is hw hs
    rcases comes_first hy with rfl | ⟨j, hj, _⟩
    · exact e.symm
    · rw [h] at hj; exact absurd hj (by simp)
theorem few_behind {w n s : Nat} (hw : 1 ≤ w) (hs : s < 2 ^ n) {j : Jump} (hj : j ∈ jumpL w n s) : fewL w n s ≤ fewL w n (behindP s j) := by
  obtain ⟨y, hy, e⟩ := few_is hw (behind_lt (jump_is hw hj) hs)
  rw [← e]
  exact few_le hw hs (comes_trans (.jump .self hj) hy)
/-- The least number of pegs behind the first k jumps, or all. -/
def fallTo (w n s : Nat) : Nat → Nat
  | 0 => cntB s n
  | k + 1 => min (fallTo w n s k) (fewL w n (behindP s ((jumpL w n s)[k]?.getD (0, 0, 0))))
theorem fall_le {w n s : Nat} : ∀ k, fallTo w n s k ≤ cntB s n ∧ ∀ i, i < k → fallTo w n s k ≤ fewL w n (behindP s ((jumpL w n s)[i]?.getD (0, 0, 0)))
  | 0 => ⟨Nat.le_refl _, fun i hi => absurd hi (by omega)⟩
  | k + 1 => by
    obtain ⟨h1, h2⟩ := fall_le (w := w) (n := n) (s := s) k
    rw [fallTo]
    refine ⟨by omega, fun i hi => ?_⟩
    by_cases e : i = k
    · subst e; omega
    · have := h2 i (by omega); omega
theorem fall_ge {w n s : Nat} (hw : 1 ≤ w) (hs : s < 2 ^ n) : ∀ k, k ≤ (jumpL w n s).length → fewL w n s ≤ fallTo w n s k
  | 0, _ => few_le hw hs .self
  | k + 1, hk => by
    have h1 := fall_ge hw hs k (by omega)
    have h2 : fewL w n s ≤ fewL w n (behindP s ((jumpL w n s)[k]?.getD (0, 0, 0))) := by
      rw [List.getElem?_eq_getElem (show k < (jumpL w n s).length by omega)]
      exact few_behind hw hs (List.getElem_mem _)
    rw [fallTo]
    omega
theorem fall_all {w n s : Nat} (hw : 1 ≤ w) (hs : s < 2 ^ n) : fallTo w n s (jumpL w n s).length = fewL w n s := by
  have h0 := fall_ge hw hs _ (Nat.le_refl _)
  obtain ⟨h1, h2⟩ := fall_le (w := w) (n := n) (s := s) (jumpL w n s).length
  obtain ⟨y, hy, e⟩ := few_is hw hs
  rcases comes_first hy with rfl | ⟨j, hj, hc⟩
  · omega
  · obtain ⟨i, hi, rfl⟩ := List.getElem_of_mem hj
    have h3 := h2 i hi
    rw [List.getElem?_eq_getElem hi, Option.getD_some] at h3
    have h4 := few_le hw (behind_lt (jump_is hw hj) hs) hc
    omega
/-- Counted cell by cell, from either end. -/
theorem cnt_half (x : Nat) : ∀ k, cntB x (k + 1) = x % 2 + cntB (x / 2) k
  | 0 => by
    simp only [cntB, Nat.zero_add, Nat.add_zero]
    rw [Nat.testBit_zero]
    rcases Nat.mod_two_eq_zero_or_one x with h | h <;> simp [h]
  | k + 1 => by
    rw [cntB, cnt_half x k, cntB, Nat.testBit_succ]
    omega
theorem cnt_more {x n : Nat} (hx : x < 2 ^ n) : ∀ m, cntB x (n + m) = cntB x n
  | 0 => rfl
  | m + 1 => by
    rw [← Nat.add_assoc, cntB, cnt_more hx m, Nat.testBit_lt_two_pow (Nat.lt_of_lt_of_le hx (Nat.pow_le_pow_right (by omega) (by omega)))]
    rfl
end Go.Proofs.YtmfdlijkpdgimaaGreatDoor

/-
  Pegs, purely: jumps cell by cell; the steps by which they are found.
-/
namespace Go.Proofs.YtmfdlijkpdgimaaGreatDoor
open Go.RowKit
set_option linter.unusedVariables false

/-- One cell's jumps to the first k cells. -/
def rowTo (w s i k : Nat) : List Jump := ((List.range k).filter fun k => okJ w s (i, (i + k) / 2, k)).map fun k => (i, (i + k) / 2, k)
/-- The jumps of the first i cells. -/
def jumpTo (w n s i : Nat) : List Jump := (List.range i).flatMap fun i => rowTo w s i n
theorem jumpTo_all (w n s : Nat) : jumpTo w n s n = jumpL w n s := rfl
theorem rowTo_yes {w s i k : Nat} (h : okJ w s (i, (i + k) / 2, k) = true) : rowTo w s i (k + 1) = rowTo w s i k ++ [(i, (i + k) / 2, k)] := by
  unfold rowTo
  rw [List.range_succ, List.filter_append, List.map_append]
  simp [h]
theorem rowTo_no {w s i k : Nat} (h : okJ w s (i, (i + k) / 2, k) = false) : rowTo w s i (k + 1) = rowTo w s i k := by
  unfold rowTo
  rw [List.range_succ, List.filter_append, List.map_append]
  simp [h]
theorem jumpTo_succ (w n s i : Nat) : jumpTo w n s (i + 1) = jumpTo w n s i ++ rowTo w s i n := by
  unfold jumpTo
  rw [List.range_succ, List.flatMap_append]
  simp
theorem rowTo_len (w s i : Nat) (k : Nat) : (rowTo w s i k).length ≤ k := by
  unfold rowTo
  rw [List.length_map]
  exact Nat.le_trans (List.length_filter_le _ _) (by simp)
theorem jumpTo_len (w n s : Nat) : ∀ i, (jumpTo w n s i).length ≤ i * n
  | 0 => by simp [jumpTo]
  | i + 1 => by
    have h1 := jumpTo_len w n s i
    have h2 := rowTo_len w s i n
    rw [jumpTo_succ, List.length_append, Nat.add_mul]
    omega
theorem jump_len {w n : Nat} (s : Nat) (hn : n ≤ 12) : (jumpL w n s).length ≤ 144 := Nat.le_trans (jumpTo_len w n s n) (Nat.mul_le_mul hn hn)

/-- Whether pegs make the jump, by sets. -/
def isP (s : Nat) (j : Jump) : Bool := s &&& ((2 ^ j.1 ||| 2 ^ j.2.1) ||| 2 ^ j.2.2) == (2 ^ j.1 ||| 2 ^ j.2.1)
theorem isP_is {s i m k : Nat} (hik : i ≠ k) (hmk : m ≠ k) : isP s (i, m, k) = (s.testBit i && s.testBit m && !s.testBit k) := by
  unfold isP
  rw [Bool.eq_iff_iff, beq_iff_eq]
  simp only [Bool.and_eq_true, Bool.not_eq_true']
  constructor
  · intro h
    have hb : ∀ t, (s.testBit t && ((decide (i = t) || decide (m = t)) || decide (k = t))) = (decide (i = t) || decide (m = t)) := fun t => by
      have := congrArg (fun x => x.testBit t) h
      simpa only [Nat.testBit_and, Nat.testBit_or, Nat.testBit_two_pow] using this
    have h1 := hb i
    have h2 := hb m
    have h3 := hb k
    simp [hik, hmk] at h1 h2 h3
    exact ⟨⟨h1, h2⟩, h3⟩
  · rintro ⟨⟨h1, h2⟩, h3⟩
    refine Nat.eq_of_testBit_eq fun t => ?_
    simp only [Nat.testBit_and, Nat.testBit_or, Nat.testBit_two_pow]
    by_cases e1 : i = t
    · subst e1; simp [h1]
    · by_cases e2 : m = t
      · subst e2; simp [h2]
      · by_cases e3 : k = t
        · subst e3; simp [h3, e1, e2]
        · simp [e1, e2, e3]
/-- The cells over which and to which a step goes twice. -/
def farStep (w h i : Nat) (p : Int × Int) : Option (Nat × Nat) :=
  match nextP (w : Int) (h : Int) p.1 p.2 (i : Int) with
  | none => none
  | some o => match nextP (w : Int) (h : Int) p.1 p.2 o with
    | none => none
    | some l => some (o.toNat, l.toNat)
def stepJ (w h s i : Nat) (p : Int × Int) : List Jump := match farStep w h i p with
  | none => []
  | some (o, l) => if isP s (i, o, l) then [(i, o, l)] else []
def farOk (w h : Nat) : Bool := (List.range (w * h)).all fun i => straight.filterMap (farStep w h i) == ((List.range (w * h)).filter fun k => farP w i k).map fun k => ((i + k) / 2, k)
theorem far_ok : ∀ a : Fin 5, ∀ b : Fin 5, (a.val + 1) * (b.val + 1) ≤ 12 → farOk (a.val + 1) (b.val + 1) = true := by decide +kernel
theorem flat_some {w h s i : Nat} : ∀ L : List (Int × Int), L.flatMap (stepJ w h s i) = (L.filterMap (farStep w h i)).flatMap fun q => if isP s (i, q.1, q.2) then [(i, q.1, q.2)] else []
  | [] => rfl
  | p :: L => by
    rw [List.flatMap_cons, flat_some L, List.filterMap_cons]
    unfold stepJ
    cases farStep w h i p with
    | none => rfl
    | some q => rfl
theorem flat_far {w s i : Nat} (hw : 1 ≤ w) : ∀ L : List Nat, ((L.filter fun k => farP w i k).map fun k => ((i + k) / 2, k)).flatMap (fun q => if isP s (i, q.1, q.2) then [(i, q.1, q.2)] else []) = (L.filter fun k => okJ w s (i, (i + k) / 2, k)).map fun k => (i, (i + k) / 2, k)
  | [] => rfl
  | k :: L => by
    have ih := flat_far (s := s) (i := i) hw L
    cases hf : farP w i k with
    | false =>
      have ho : okJ w s (i, (i + k) / 2, k) = false := by unfold okJ; simp [hf]
      simp only [List.filter_cons, hf, ho, if_neg Bool.false_ne_true]
      exact ih
    | true =>
      obtain ⟨a1, a2, a3, a4⟩ := far_apart hw hf
      have ho : okJ w s (i, (i + k) / 2, k) = isP s (i, (i + k) / 2, k) := by
        rw [isP_is a1 a3]; unfold okJ; simp [hf, Bool.and_assoc]
      simp only [List.filter_cons, hf, ho, if_true, List.map_cons, List.flatMap_cons, ih]
      cases hp : isP s (i, (i + k) / 2, k) with
      | false => simp
      | true => simp
/-- The jumps of one cell by the first q steps. -/
def stepTo (w h s i q : Nat) : List Jump := (straight.take q).flatMap (stepJ w h s i)
theorem stepTo_all {w h s i : Nat} (hw : 1 ≤ w ∧ w ≤ 5) (hh : 1 ≤ h ∧ h ≤ 5) (h12 : w * h ≤ 12) (hi : i < w * h) : stepTo w h s i 4 = rowTo w s i (w * h) := by
  have h0 := far_ok ⟨w - 1, by omega⟩ ⟨h - 1, by omega⟩ (by simp only [show w - 1 + 1 = w by omega, show h - 1 + 1 = h by omega]; exact h12)
  simp only [show w - 1 + 1 = w by omega, show h - 1 + 1 = h by omega] at h0
  unfold farOk at h0
  have h1 := beq_iff_eq.1 (List.all_eq_true.1 h0 i (List.mem_range.2 hi))
  show (straight.take 4).flatMap (stepJ w h s i) = _
  rw [show straight.take 4 = straight from rfl, flat_some, h1, flat_far hw.1]
  rfl
theorem stepTo_succ {w h s i q : Nat} {p : Int × Int} (hp : straight[q]? = some p) : stepTo w h s i (q + 1) = stepTo w h s i q ++ stepJ w h s i p := by
  unfold stepTo
  obtain ⟨hq, rfl⟩ := List.getElem?_eq_some_iff.1 hp
  rw [List.take_succ_eq_append_getElem hq, List.flatMap_append]
  simp
theorem flat_most (w h s i : Nat) : ∀ L : List (Int × Int), (L.flatMap (stepJ w h s i)).length ≤ L.length
  | [] => Nat.le_refl _
  | p :: L => by
    have ih := flat_most w h s i L
    rw [List.flatMap_cons, List.length_append, List.length_cons]
    have : (stepJ w h s i p).length ≤ 1 := by
      unfold stepJ
      split
      · simp
      · split <;> simp
    omega
theorem stepTo_len (w h s i : Nat) : ∀ q, (stepTo w h s i q).length ≤ 4 := fun q => by
  have h1 := flat_most w h s i (straight.take q)
  have h2 : (straight.take q).length ≤ 4 := by rw [List.length_take, show straight.length = 4 from rfl]; omega
  exact Nat.le_trans h1 h2
theorem behind_sets {w n s : Nat} {j : Jump} (h : JumpIs w n s j) : notP s (2 ^ j.1 ||| 2 ^ j.2.1) ||| 2 ^ j.2.2 = behindP s j := Nat.eq_of_testBit_eq fun t => by
  rw [behind_at h, Nat.testBit_or, notP_bit, Nat.testBit_or, Nat.testBit_two_pow, Nat.testBit_two_pow, Nat.testBit_two_pow]
  have h5 := h.ik
  have h6 := h.km
  by_cases e1 : t = j.1
  · subst e1; simp [Ne.symm h5]
  · by_cases e2 : t = j.2.1
    · subst e2; simp [Ne.symm h6]
    · rw [if_neg (by rintro (e | e); exact e1 e; exact e2 e)]
      by_cases e3 : t = j.2.2
      · subst e3; simp
      · simp [e3, Ne.symm e1, Ne.symm e2, Ne.symm e3]

/-- The jump as three numbers. -/
def rowJ (j : Jump) : List Int := [(j.1 : Int), (j.2.1 : Int), (j.2.2 : Int)]
def jumpI (L : List Jump) : List (List Int) := L.map rowJ
theorem jumpI_len (L : List Jump) : (jumpI L).length = L.length := by simp [jumpI]
theorem jumpI_app (L M : List Jump) : jumpI (L ++ M) = jumpI L ++ jumpI M := by simp [jumpI]
theorem jumpI_row (L : List Jump) : ∀ x ∈ jumpI L, x.length = 3 := fun x hx => by
  obtain ⟨j, _, rfl⟩ := List.mem_map.1 hx
  rfl
theorem jumpI_at (L : List Jump) {k : Nat} (hk : k < L.length) : (jumpI L)[k]?.getD [] = rowJ (L[k]?.getD (0, 0, 0)) := by
  unfold jumpI
  rw [List.getElem?_map, List.getElem?_eq_getElem hk]
  rfl
end Go.Proofs.YtmfdlijkpdgimaaGreatDoor

/-
  Rows of rows of numbers in memory: read, owned, apart; the laws' own words over them (equal, less, marked, held).
-/
namespace Go.Proofs.YtmfdlijkpdgimaaGreatDoor
open Go.RowKit
set_option linter.unusedVariables false

/-- A slice of so many numbers has room for them. -/
def Room (n c : Nat) : Prop := n ≤ c ∧ c ≤ maxLen
/-- vs are slices, from block B on, that read as the lists L. -/
def Reads (w : World) (B : Nat) (vs : List Value) (L : List (List Int)) : Prop := vs.length = L.length ∧ ∀ i (h : i < L.length), ∃ A c, vs[i]? = some (.slice A (L[i]).length c) ∧ Row w A (ints L[i]) ∧ From B A ∧ Room (L[i]).length c
theorem Reads.below {w w' : World} {B : Nat} {vs : List Value} {L : List (List Int)} (h : Reads w B vs L) (hb : Below w.heap.size w w') : Reads w' B vs L :=
  ⟨h.1, fun i hi => by obtain ⟨A, c, e, hr, hf⟩ := h.2 i hi; exact ⟨A, c, e, hr.below hb, hf⟩⟩
theorem Reads.mono {w : World} {B B' : Nat} {vs : List Value} {L : List (List Int)} (h : Reads w B vs L) (hb : B' ≤ B) : Reads w B' vs L :=
  ⟨h.1, fun i hi => by obtain ⟨A, c, e, hr, hf⟩ := h.2 i hi; exact ⟨A, c, e, hr, hf.1.mono hb, hf.2⟩⟩
theorem Reads.nil (w : World) (B : Nat) : Reads w B [] [] := ⟨rfl, fun i h => by simp at h⟩
theorem Reads.one {w : World} {B : Nat} {A : Option Addr} {c : Nat} {l : List Int} (h : Row w A (ints l)) (hf : From B A) (hc : Room l.length c) : Reads w B [.slice A l.length c] [l] :=
  ⟨rfl, fun i hi => by
    have : i = 0 := by simpa using hi
    subst this
    exact ⟨A, c, rfl, h, hf, hc⟩⟩
theorem Reads.append {w : World} {B : Nat} {vs us : List Value} {L M : List (List Int)} (h : Reads w B vs L) (k : Reads w B us M) : Reads w B (vs ++ us) (L ++ M) :=
  ⟨by rw [List.length_append, List.length_append, h.1, k.1], fun i hi => by
    by_cases hl : i < L.length
    · obtain ⟨A, c, e, hr⟩ := h.2 i hl
      rw [List.getElem_append_left hl]
      exact ⟨A, c, by rw [List.getElem?_append_left (by rw [h.1]; exact hl)]; exact e, hr⟩
    · have hm : i - L.length < M.length := by rw [List.length_append] at hi; omega
      obtain ⟨A, c, e, hr⟩ := k.2 _ hm
      rw [List.getElem_append_right (by omega)]
      exact ⟨A, c, by rw [List.getElem?_append_right (by rw [h.1]; omega), h.1]; exact e, hr⟩⟩
theorem Reads.one_cell {w : World} {B : Nat} {vs : List Value} {L : List (List Int)} (h : Reads w B vs L) : ∀ u ∈ vs, u.oneCell' = true := fun u hu => by
  obtain ⟨i, hi, rfl⟩ := List.getElem_of_mem hu
  obtain ⟨A, c, e, _⟩ := h.2 i (by rw [← h.1]; exact hi)
  rw [List.getElem?_eq_getElem hi] at e
  injection e with e
  rw [e]; rfl
/-- None of the rows lies in block g. -/
def Off (g : Nat) (vs : List Value) : Prop := ∀ (i : Nat) (a : Addr) (n c : Nat), vs[i]? = some (Value.slice (some a) n c) → a.block ≠ g
theorem Off.append {g : Nat} {vs us : List Value} (h : Off g vs) (k : Off g us) : Off g (vs ++ us) := fun i a n c e => by
  by_cases hl : i < vs.length
  · rw [List.getElem?_append_left hl] at e; exact h i a n c e
  · rw [List.getElem?_append_right (by omega)] at e; exact k _ a n c e
theorem Reads.off_low {w : World} {B g : Nat} {vs : List Value} {L : List (List Int)} (h : Reads w B vs L) (hg : g < B) : Off g vs := fun i a n c e => by
  have hi : i < vs.length := (List.getElem?_eq_some_iff.1 e).1
  obtain ⟨A, c', e', _, hf⟩ := h.2 i (by rw [← h.1]; exact hi)
  rw [e] at e'
  injection e' with e'
  injection e' with e'
  have := hf.1 a e'.symm
  omega
theorem Reads.off_new {w : World} {B g : Nat} {vs : List Value} {L : List (List Int)} (h : Reads w B vs L) (hne : ∀ x ∈ L, 1 ≤ x.length) (hg : w.heap.size ≤ g) : Off g vs := fun i a n c e => by
  have hi : i < vs.length := (List.getElem?_eq_some_iff.1 e).1
  have hiL : i < L.length := by rw [← h.1]; exact hi
  obtain ⟨A, c', e', hr, _⟩ := h.2 i hiL
  rw [e] at e'
  injection e' with e'
  injection e' with e'
  subst e'
  obtain ⟨ad, ea, hc⟩ := hr 0 (by have := hne _ (List.getElem_mem hiL); simp; omega)
  injection ea with ea
  subst ea
  have := World.block_lt_of_cell? _ _ hc
  rw [addr_block] at this
  omega
theorem Reads.grown {w w' : World} {B : Nat} {vs : List Value} {L : List (List Int)} {r : Option Nat} (h : Reads w B vs L) (hg : w.grownBy w' r) (hr : ∀ g, r = some g → Off g vs) : Reads w' B vs L :=
  ⟨h.1, fun i hi => by
    obtain ⟨A, c, e, hrow, hf⟩ := h.2 i hi
    exact ⟨A, c, e, hrow.grown hg (fun ad ea hx => by subst ea; exact hr _ hx i ad _ c e rfl), hf⟩⟩
theorem elem_rows : Elem Tryz.prog 35 1 24 := Elem.of (z := .slice none 0 0) (by kernel_rfl) rfl (by omega)
/-- What a call of queensFrom comes to. -/
def Queens (B : Nat) (L : List (List Int)) (w : World) (e : Ending) (w' : World) : Prop := ∃ v vs, e = .returned v ∧ w'.ownsRow w.heap.size 35 1 v (List.length vs) vs ∧ Reads w' B vs L ∧ Below w.heap.size w w'
/-- What is owned stands where its own block does. -/
theorem own_same {w w' : World} {base e size n : Nat} {v : Value} {xs : List Value} (h : w.ownsRow base e size v n xs) (hs : ∀ g, v.ownBlock = some g → w'.heap[g]? = w.heap[g]?) : w'.ownsRow base e size v n xs := by
  obtain ⟨hl, ⟨rfl, h0⟩ | ⟨g, cap, cur, rfl, hb, hg, rest⟩⟩ := h
  · exact ⟨hl, .inl ⟨rfl, h0⟩⟩
  · exact ⟨hl, .inr ⟨g, cap, cur, rfl, hb, (hs g rfl).trans hg, rest⟩⟩
/-- Rows of one type are not those of another. -/
theorem own_type {w : World} {base e size n : Nat} {v : Value} {xs : List Value} (h : w.ownsRow base e size v n xs) {g : Nat} (hg : v.ownBlock = some g) : ∃ cur, w.heap[g]? = some (.cells cur e (0, 0)) := by
  obtain ⟨hl, ⟨rfl, h0⟩ | ⟨g', cap, cur, rfl, hb, hg', rest⟩⟩ := h
  · cases hg
  · injection hg with hg; subst hg; exact ⟨cur, hg'⟩
/-- vs are slices, each of which owns a row of L. -/
def Rows1 (D : Nat) (W : World) (vs : List Value) (L : List (List Int)) : Prop := vs.length = L.length ∧ ∀ i (h : i < L.length), ∃ A c, vs[i]? = some (.slice A (L[i]).length c) ∧ W.ownsRow D 3 1 (.slice A (L[i]).length c) (L[i]).length (ints L[i])
def Apart (vs : List Value) : Prop := ∀ (i j : Nat) (u v : Value) (g : Nat), vs[i]? = some u → vs[j]? = some v → u.ownBlock = some g → v.ownBlock = some g → i = j
theorem Rows1.mem {D : Nat} {W : World} {vs : List Value} {L : List (List Int)} (h : Rows1 D W vs L) : ∀ u ∈ vs, ∃ x A c, u = .slice A x.length c ∧ W.ownsRow D 3 1 u x.length (ints x) := fun u hu => by
  obtain ⟨i, hi, rfl⟩ := List.getElem_of_mem hu
  obtain ⟨A, c, e, ho⟩ := h.2 i (by rw [← h.1]; exact hi)
  rw [List.getElem?_eq_getElem hi] at e
  injection e with e
  exact ⟨_, A, c, e, by rw [e]; exact ho⟩
theorem Rows1.same {D : Nat} {W W' : World} {vs : List Value} {L : List (List Int)} (h : Rows1 D W vs L) (hs : ∀ u ∈ vs, ∀ g, u.ownBlock = some g → W'.heap[g]? = W.heap[g]?) : Rows1 D W' vs L :=
  ⟨h.1, fun i hi => by
    obtain ⟨A, c, e, ho⟩ := h.2 i hi
    exact ⟨A, c, e, own_same ho (hs _ (List.mem_of_getElem? e))⟩⟩
theorem Rows1.nil (D : Nat) (W : World) : Rows1 D W [] [] := ⟨rfl, fun i h => by simp at h⟩
theorem Rows1.snoc {D : Nat} {W : World} {vs : List Value} {L : List (List Int)} {x : List Int} {A : Option Addr} {c : Nat} (h : Rows1 D W vs L) (hx : W.ownsRow D 3 1 (.slice A x.length c) x.length (ints x)) : Rows1 D W (vs ++ [.slice A x.length c]) (L ++ [x]) :=
  ⟨by simp [h.1], fun i hi => by
    by_cases hl : i < L.length
    · obtain ⟨A', c', e, ho⟩ := h.2 i hl
      refine ⟨A', c', ?_, ?_⟩
      · rw [List.getElem_append_left hl, List.getElem?_append_left (by rw [h.1]; exact hl)]; exact e
      · rw [List.getElem_append_left hl]; exact ho
    · have : i = L.length := by simp at hi; omega
      subst this
      refine ⟨A, c, ?_, ?_⟩
      · rw [List.getElem?_append_right (by rw [h.1]; exact Nat.le_refl _)]; simp [h.1]
      · simpa using hx⟩
theorem Apart.snoc {vs : List Value} {u : Value} (h : Apart vs) (hu : ∀ v ∈ vs, ∀ g, v.ownBlock = some g → u.ownBlock ≠ some g) : Apart (vs ++ [u]) := fun i j a b g ha hb ga gb => by
  have key : ∀ k a, (vs ++ [u])[k]? = some a → (k < vs.length ∧ vs[k]? = some a) ∨ (k = vs.length ∧ a = u) := fun k a e => by
    by_cases hk : k < vs.length
    · rw [List.getElem?_append_left hk] at e; exact .inl ⟨hk, e⟩
    · rw [List.getElem?_append_right (by omega)] at e
      have : k - vs.length = 0 := by
        have := (List.getElem?_eq_some_iff.1 e).1
        simp at this; omega
      rw [this] at e
      simp at e
      exact .inr ⟨by omega, e.symm⟩
  rcases key i a ha with ⟨_, h1⟩ | ⟨h1, rfl⟩ <;> rcases key j b hb with ⟨_, h2⟩ | ⟨h2, rfl⟩
  · exact h i j a b g h1 h2 ga gb
  · exact absurd gb (hu a (List.mem_of_getElem? h1) g ga)
  · exact absurd ga (hu b (List.mem_of_getElem? h2) g gb)
  · omega
/-- It hands back a row of its own of rows of their own, all apart. -/
def Rowset (D : Nat) (L : List (List Int)) (w : World) (e : Ending) (w' : World) : Prop := ∃ v vs, e = .returned v ∧ w'.ownsRow w.heap.size 35 1 v vs.length vs ∧ Rows1 D w' vs L ∧ Apart vs ∧ Below w.heap.size w w'
theorem Rowset.from {D : Nat} {L : List (List Int)} {w w1 : World} {e : Ending} {w' : World} (h : Rowset D L w1 e w') (hb : Below w.heap.size w w1) : Rowset D L w e w' := by
  obtain ⟨v, vs, he, own, rs, ap, b⟩ := h
  exact ⟨v, vs, he, own_mono own hb.size, rs, ap, below_then hb hb.size b⟩
theorem Rows1.reads {D : Nat} {W : World} {vs : List Value} {L : List (List Int)} (h : Rows1 D W vs L) : Reads W D vs L :=
  ⟨h.1, fun i hi => by
    obtain ⟨A, c, e, ho⟩ := h.2 i hi
    obtain ⟨A', c', he, n3, m3, r3, f3⟩ := own_row ho
    injection he with h1 h2 h3
    subst h1; subst h3
    exact ⟨A, c, e, r3, fun ad ea => by obtain ⟨g, rfl, hg, _⟩ := f3 ad ea; exact hg, n3, m3⟩⟩
theorem Rows1.below {D : Nat} {W W' : World} {vs : List Value} {L : List (List Int)} (h : Rows1 D W vs L) (hb : Below W.heap.size W W') : Rows1 D W' vs L :=
  h.same fun u hu g eg => by
    obtain ⟨x, A, c, _, ho⟩ := h.mem u hu
    exact hb.block g (ho.lt g eg).2
theorem Reads.at_ {w : World} {B : Nat} {vs : List Value} {L : List (List Int)} (h : Reads w B vs L) {i : Nat} (hi : i < L.length) : ∃ A c, vs[i]?.getD undef = .slice A (L[i]?.getD []).length c ∧ Row w A (ints (L[i]?.getD [])) ∧ From B A ∧ Room (L[i]?.getD []).length c := by
  obtain ⟨A, c, e, r, f, m⟩ := h.2 i hi
  exact ⟨A, c, by rw [e, List.getElem?_eq_getElem hi]; rfl, by rw [List.getElem?_eq_getElem hi]; exact r, f, by rw [List.getElem?_eq_getElem hi]; exact m⟩
def sumLen (L : List (List Int)) : Nat := (L.map List.length).sum
/-- The rows with marks in them, one after the other. -/
def marksOf : Int → List (List Int) → List (List Int)
  | _, [] => []
  | k, x :: L => marks k x.length :: marksOf (k + (x.length : Int)) L
theorem marksOf_len : ∀ (k : Int) (L : List (List Int)), (marksOf k L).length = L.length
  | _, [] => rfl
  | k, x :: L => by rw [marksOf, List.length_cons, List.length_cons, marksOf_len]
theorem sumLen_app (a b : List (List Int)) : sumLen (a ++ b) = sumLen a + sumLen b := by simp only [sumLen, List.map_append, List.sum_append]
theorem sumLen_take (L : List (List Int)) (i : Nat) (h : i < L.length) : sumLen (L.take (i + 1)) = sumLen (L.take i) + L[i].length := by
  rw [List.take_succ_eq_append_getElem h, sumLen_app]; simp [sumLen]
theorem marksOf_at : ∀ (k : Int) (L : List (List Int)) (i : Nat) (h : i < L.length), (marksOf k L)[i]? = some (marks (k + (sumLen (L.take i) : Int)) L[i].length)
  | k, x :: L, 0, _ => by simp [marksOf, sumLen]
  | k, x :: L, i + 1, h => by
    have := marksOf_at (k + (x.length : Int)) L i (by simpa using h)
    simp only [marksOf, List.getElem?_cons_succ, List.getElem_cons_succ, List.take_succ_cons] at this ⊢
    rw [this]
    simp [sumLen, Int.add_assoc]
theorem sumLen_le {L : List (List Int)} {b : Nat} (h : ∀ x ∈ L, x.length ≤ b) : sumLen L ≤ L.length * b := by
  induction L with
  | nil => simp [sumLen]
  | cons x L ih =>
    have h1 := ih (fun y hy => h y (List.mem_cons_of_mem _ hy))
    have h2 := h x (List.mem_cons_self ..)
    simp only [sumLen, List.map_cons, List.sum_cons, List.length_cons] at h1 ⊢
    rw [Nat.add_mul]; omega
theorem sumLen_take_le (L : List (List Int)) (i : Nat) : sumLen (L.take i) ≤ sumLen L := by
  have h := sumLen_app (L.take i) (L.drop i)
  rw [List.take_append_drop] at h
  omega
/-- The first i rows have marks, the others stand. -/
def markTo (k : Int) (L : List (List Int)) (i : Nat) : List (List Int) := (marksOf k L).take i ++ L.drop i
theorem markTo_len (k : Int) (L : List (List Int)) (i : Nat) : (markTo k L i).length = L.length := by
  simp only [markTo, List.length_append, List.length_take, List.length_drop, marksOf_len]; omega
theorem markTo_at (k : Int) (L : List (List Int)) (i j : Nat) (hj : j < L.length) : (markTo k L i)[j]? = if j < i then some (marks (k + (sumLen (L.take j) : Int)) L[j].length) else some L[j] := by
  by_cases h : j < i
  · rw [if_pos h, markTo, List.getElem?_append_left (by rw [List.length_take, marksOf_len]; omega), List.getElem?_take_of_lt h]; exact marksOf_at k L j hj
  · rw [if_neg h, markTo, List.getElem?_append_right (by rw [List.length_take]; omega), List.length_take, marksOf_len, List.getElem?_drop]
    by_cases hi : i ≤ L.length
    · rw [Nat.min_eq_left hi, show i + (j - i) = j by omega, List.getElem?_eq_getElem hj]
    · omega
/-- Nothing but the rows has turned. -/
def Aside (vs : List Value) (w w' : World) : Prop := w'.os = w.os ∧ w'.tape = w.tape ∧ w'.output = w.output ∧ w.heap.size ≤ w'.heap.size ∧ ∀ k, k < w.heap.size → (∀ u ∈ vs, u.ownBlock ≠ some k) → w'.heap[k]? = w.heap[k]?
theorem Aside.refl (vs : List Value) (w : World) : Aside vs w w := ⟨rfl, rfl, rfl, Nat.le_refl _, fun _ _ _ => rfl⟩
theorem Aside.step {vs : List Value} {w w1 w2 : World} {u : Value} (h : Aside vs w w1) (hu : u ∈ vs) (hg : w1.grownBy w2 u.ownBlock) : Aside vs w w2 :=
  ⟨hg.os.trans h.1, hg.tape.trans h.2.1, hg.output.trans h.2.2.1, Nat.le_trans h.2.2.2.1 hg.size, fun k hk hn => (hg.block k (by have := h.2.2.2.1; omega) (fun e => hn u hu e.symm)).trans (h.2.2.2.2 k hk hn)⟩
theorem Rows1.get {D : Nat} {W : World} {vs : List Value} {L : List (List Int)} (h : Rows1 D W vs L) {i : Nat} {x : List Int} (hx : L[i]? = some x) : ∃ A c, vs[i]? = some (.slice A x.length c) ∧ W.ownsRow D 3 1 (.slice A x.length c) x.length (ints x) := by
  obtain ⟨hi, rfl⟩ := List.getElem?_eq_some_iff.1 hx
  exact h.2 i hi
theorem Rows1.of {D : Nat} {W : World} {vs : List Value} {L : List (List Int)} (hl : vs.length = L.length) (h : ∀ (i : Nat) (x : List Int), L[i]? = some x → ∃ (A : Option Addr) (c : Nat), vs[i]? = some (.slice A x.length c) ∧ W.ownsRow D 3 1 (.slice A x.length c) x.length (ints x)) : Rows1 D W vs L :=
  ⟨hl, fun i hi => h i _ (List.getElem?_eq_getElem hi)⟩
/-- Marking one of them leaves the others. -/
theorem mark_one {D : Nat} {w w' : World} {vs : List Value} {k : Int} {L : List (List Int)} {i : Nat} {A : Option Addr} {c : Nat} (h : Rows1 D w vs (markTo k L i)) (hap : Apart vs) (hi : i < L.length) (hv : vs[i]? = some (.slice A L[i].length c))
    (hown : w'.ownsRow D 3 1 (.slice A L[i].length c) L[i].length (ints (marks (k + (sumLen (L.take i) : Int)) L[i].length))) (hg : w.grownBy w' (Value.slice A L[i].length c).ownBlock) : Rows1 D w' vs (markTo k L (i + 1)) := by
  have hl := h.1
  refine Rows1.of (by rw [hl, markTo_len, markTo_len]) fun j x hx => ?_
  have hj : j < L.length := by have := (List.getElem?_eq_some_iff.1 hx).1; rwa [markTo_len] at this
  rw [markTo_at k L (i + 1) j hj] at hx
  by_cases e : j = i
  · subst e
    rw [if_pos (by omega)] at hx
    injection hx with hx
    subst hx
    rw [marks_len]
    exact ⟨A, c, hv, hown⟩
  · have hx' : (markTo k L i)[j]? = some x := by
      rw [markTo_at k L i j hj, ← hx]
      by_cases hji : j < i
      · rw [if_pos hji, if_pos (by omega)]
      · rw [if_neg hji, if_neg (by omega)]
    obtain ⟨A', c', hv', ho'⟩ := h.get hx'
    refine ⟨A', c', hv', own_same ho' fun g eg => hg.block g (ho'.lt g eg).2 fun e' => e (hap j i _ _ g hv' hv eg e'.symm)⟩
/-- Rows from D on, and nothing else, have turned. -/
theorem Aside.below {vs : List Value} {w w' : World} {D : Nat} {L : List (List Int)} (h : Aside vs w w') (hrs : Rows1 D w vs L) (hD : D ≤ w.heap.size) : Below D w w' :=
  ⟨h.1, h.2.1, h.2.2.1, h.2.2.2.1, fun k hk => h.2.2.2.2 k (by omega) fun u hu e => by
    obtain ⟨x, A, c, _, ho⟩ := hrs.mem u hu
    have := (ho.lt k e).1
    omega⟩
/-- Which of two lists of one length comes first. -/
def lessR : List Int → List Int → Bool
  | x :: a, y :: b => if x = y then lessR a b else decide (x < y)
  | _, _ => false
theorem lessR_same : ∀ (a : List Int), lessR a a = false
  | [] => rfl
  | x :: a => by rw [lessR, if_pos rfl]; exact lessR_same a
theorem lessR_at : ∀ (a b : List Int) (k : Nat), k < a.length → k < b.length → a.take k = b.take k → a[k]?.getD 0 ≠ b[k]?.getD 0 → lessR a b = decide (a[k]?.getD 0 < b[k]?.getD 0)
  | x :: a, y :: b, 0, _, _, _, h => by
    simp only [List.getElem?_cons_zero, Option.getD_some] at h ⊢
    rw [lessR, if_neg h]
  | x :: a, y :: b, k + 1, h1, h2, ht, h => by
    simp only [List.take_succ_cons, List.cons.injEq] at ht
    simp only [List.getElem?_cons_succ, List.length_cons] at h h1 h2 ⊢
    rw [lessR, if_pos ht.1]
    exact lessR_at a b k (by omega) (by omega) ht.2 h
  | [], _, _, h1, _, _, _ => by simp at h1
  | _ :: _, [], _, _, h2, _, _ => by simp at h2
end Go.Proofs.YtmfdlijkpdgimaaGreatDoor

/-
  Pegs: the model's jumps, JumpsOf.
-/
namespace Go.Proofs.YtmfdlijkpdgimaaGreatDoor
open Go.RowKit
set_option linter.unusedVariables false

/-- One more row of three numbers. -/
theorem reads_push {wo w' : World} {v v' : Value} {vs : List Value} {L : List (List Int)} {B : Nat} {a b c : Int} (hown : wo.ownsRow B 35 1 v vs.length vs) (hrd : Reads wo B vs L) (hoff : ∀ g, v.ownBlock = some g → Off g vs) (hne : ∀ y ∈ L, 1 ≤ y.length) (hB : B ≤ wo.heap.size)
    (hg : ((wo.alloc (.cells #[.int .i64 a, .int .i64 b, .int .i64 c] 3)).alloc (.cells #[.slice (some ⟨wo.heap.size, 0, none⟩) 3 3] 35)).grownBy w' v.ownBlock)
    (ho : v'.ownBlock = v.ownBlock ∨ v'.ownBlock = some (wo.heap.size + 2)) :
    Reads w' B (vs ++ [.slice (some ⟨wo.heap.size, 0, none⟩) 3 3]) (L ++ [[a, b, c]]) ∧ ∀ g, v'.ownBlock = some g → Off g (vs ++ [.slice (some ⟨wo.heap.size, 0, none⟩) 3 3]) := by
  have r0 : Row (wo.alloc (.cells #[.int .i64 a, .int .i64 b, .int .i64 c] 3)) (some ⟨wo.heap.size, 0, none⟩) (ints [a, b, c]) := row_new wo #[.int .i64 a, .int .i64 b, .int .i64 c] 3 rfl
  have r1 := r0.alloc (.cells #[.slice (some ⟨wo.heap.size, 0, none⟩) 3 3] 35)
  have rd1 : Reads _ B [.slice (some ⟨wo.heap.size, 0, none⟩) 3 3] [[a, b, c]] := Reads.one (c := 3) r1 (fun ad e => by injection e with e; subst e; exact hB) ⟨Nat.le_refl _, by simp [maxLen]⟩
  have rd0 := hrd.below (((Below.refl wo.heap.size wo).alloc (Nat.le_refl _) (.cells #[.int .i64 a, .int .i64 b, .int .i64 c] 3)).alloc (by simp) (.cells #[.slice (some ⟨wo.heap.size, 0, none⟩) 3 3] 35))
  have off1 : ∀ g, g ≠ wo.heap.size → Off g [.slice (some ⟨wo.heap.size, 0, none⟩) 3 3] := fun g hg' i a n c e => by
    have hi : i = 0 := by have := (List.getElem?_eq_some_iff.1 e).1; simpa using this
    subst hi
    simp only [List.getElem?_cons_zero, Option.some.injEq, Value.slice.injEq] at e
    rw [← e.1]
    exact fun h => hg' h.symm
  refine ⟨(rd0.grown hg (fun g e => hoff g e)).append (rd1.grown hg (fun g e => off1 g (by have := (hown.lt g e).2; omega))), fun g e => ?_⟩
  rcases ho with h | h
  · rw [h] at e
    exact (hoff g e).append (off1 g (by have := (hown.lt g e).2; omega))
  · rw [h] at e
    injection e with e
    exact (hrd.off_new hne (by omega)).append (off1 g (by omega))

/-- The eight ways in which the model asks whether a cell is two on. -/
theorem far_cases {w i k : Nat} (hw : 1 ≤ w) :
    (farP w i k = true ∧
      (((((k / w : Nat) : Int) == ((i / w : Nat) : Int)) = true ∧ ((k : Int) - (i : Int) == 2) = true) ∨
       ((((k / w : Nat) : Int) == ((i / w : Nat) : Int)) = true ∧ ((k : Int) - (i : Int) == 2) = false ∧ ((i : Int) - (k : Int) == 2) = true) ∨
       ((((k / w : Nat) : Int) == ((i / w : Nat) : Int)) = false ∧ (((k % w : Nat) : Int) == ((i % w : Nat) : Int)) = true ∧ ((k : Int) - (i : Int) == 2 * (w : Int)) = true) ∨
       ((((k / w : Nat) : Int) == ((i / w : Nat) : Int)) = false ∧ (((k % w : Nat) : Int) == ((i % w : Nat) : Int)) = true ∧ ((k : Int) - (i : Int) == 2 * (w : Int)) = false ∧ ((i : Int) - (k : Int) == 2 * (w : Int)) = true))) ∨
    (farP w i k = false ∧
      (((((k / w : Nat) : Int) == ((i / w : Nat) : Int)) = true ∧ ((k : Int) - (i : Int) == 2) = false ∧ ((i : Int) - (k : Int) == 2) = false ∧ (((k % w : Nat) : Int) == ((i % w : Nat) : Int)) = true ∧ ((k : Int) - (i : Int) == 2 * (w : Int)) = false ∧ ((i : Int) - (k : Int) == 2 * (w : Int)) = false) ∨
       ((((k / w : Nat) : Int) == ((i / w : Nat) : Int)) = true ∧ ((k : Int) - (i : Int) == 2) = false ∧ ((i : Int) - (k : Int) == 2) = false ∧ (((k % w : Nat) : Int) == ((i % w : Nat) : Int)) = false) ∨
       ((((k / w : Nat) : Int) == ((i / w : Nat) : Int)) = false ∧ (((k % w : Nat) : Int) == ((i % w : Nat) : Int)) = true ∧ ((k : Int) - (i : Int) == 2 * (w : Int)) = false ∧ ((i : Int) - (k : Int) == 2 * (w : Int)) = false) ∨
       ((((k / w : Nat) : Int) == ((i / w : Nat) : Int)) = false ∧ (((k % w : Nat) : Int) == ((i % w : Nat) : Int)) = false))) := by
  have hk := Nat.div_add_mod k w
  have hi := Nat.div_add_mod i w
  have q1 : ((k : Int) - (i : Int) == 2) = (k == i + 2) := by rw [Bool.eq_iff_iff, beq_iff_eq, beq_iff_eq]; omega
  have q2 : ((i : Int) - (k : Int) == 2) = (i == k + 2) := by rw [Bool.eq_iff_iff, beq_iff_eq, beq_iff_eq]; omega
  have q3 : ((k : Int) - (i : Int) == 2 * (w : Int)) = (k == i + 2 * w) := by rw [Bool.eq_iff_iff, beq_iff_eq, beq_iff_eq]; omega
  have q4 : ((i : Int) - (k : Int) == 2 * (w : Int)) = (i == k + 2 * w) := by rw [Bool.eq_iff_iff, beq_iff_eq, beq_iff_eq]; omega
  have q5 : (((k / w : Nat) : Int) == ((i / w : Nat) : Int)) = (k / w == i / w) := by rw [Bool.eq_iff_iff, beq_iff_eq, beq_iff_eq]; omega
  have q6 : (((k % w : Nat) : Int) == ((i % w : Nat) : Int)) = (k % w == i % w) := by rw [Bool.eq_iff_iff, beq_iff_eq, beq_iff_eq]; omega
  rw [q1, q2, q3, q4, q5, q6]
  unfold farP
  have hno : (k / w == i / w) = true → (k % w == i % w) = true → (k == i + 2 * w) = false ∧ (i == k + 2 * w) = false := fun h1 h2 => by
    rw [beq_iff_eq] at h1 h2
    have : k = i := by rw [← hk, ← hi, h1, h2]
    subst this
    exact ⟨by rw [beq_eq_false_iff_ne]; omega, by rw [beq_eq_false_iff_ne]; omega⟩
  cases ha : (k / w == i / w) <;> cases hd : (k % w == i % w)
  · simp
  · cases (k == i + 2 * w) <;> cases (i == k + 2 * w) <;> simp
  · cases (k == i + 2) <;> cases (i == k + 2) <;> simp
  · obtain ⟨h1, h2⟩ := hno ha hd
    rw [h1, h2]
    cases (k == i + 2) <;> cases (i == k + 2) <;> simp

theorem jump_rows (w n s i k : Nat) : ∀ y ∈ jumpI (jumpTo w n s i ++ rowTo w s i k), 1 ≤ y.length := fun y hy => by rw [jumpI_row _ y hy]; omega
theorem ok_far {w s i k : Nat} (hf : farP w i k = true) : okJ w s (i, (i + k) / 2, k) = (s.testBit i && s.testBit ((i + k) / 2) && !s.testBit k) := by unfold okJ; simp [hf, Bool.and_assoc]
theorem ok_near {w s i k : Nat} (hf : farP w i k = false) : okJ w s (i, (i + k) / 2, k) = false := by unfold okJ; simp [hf]
set_option maxHeartbeats 8000000 in
set_option maxRecDepth 100000 in
theorem jumps_c (w h s : Nat) (W : World) (hw : 1 ≤ w ∧ w ≤ 5) (hh : 1 ≤ h ∧ h ≤ 5) (h12 : w * h ≤ 12) (hs : s < 4096) :
    Calls Tryz.prog 71 #[.int .i64 (w : Int), .int .i64 (h : Int), .int .i64 (s : Int)] W (Queens W.heap.size (jumpI (jumpL w (w * h) s)) W) := by
  have HB := hide (fun (j : Nat) (hj : j ≤ 12) w5 => specBit12_c s j (by omega) hj w5)
  have emul : IntKind.i64.wrap ((w : Int) * (h : Int)) = ((w * h : Nat) : Int) := by rw [Int.natCast_mul]; exact IntWalk.i64_in _ (by rw [← Int.natCast_mul]; omega)
  have hw0 : w ≠ 0 := by omega
  have hall := hide (jumpTo_all w (w * h) s)
  generalize w * h = n at *
  obtain ⟨w1, w5⟩ := hw
  clear hh
  obtain ⟨d2, hd2⟩ : ∃ d2 : Int, 2 * (w : Int) = d2 := ⟨_, rfl⟩
  have ed2 : IntKind.i64.wrap (2 * (w : Int)) = d2 := (IntWalk.i64_in _ (by omega)).trans hd2
  have HD2 := hide hd2
  clear hd2
  go_enter Tryz.func71, Tryz.ntmps71
  go_wp2_with fail
  go_loopw [7, 8] (fun v x wr => ∃ (i : Nat) (vs : List Value), i ≤ n ∧ x = .int .i64 (i : Int) ∧ wr.ownsRow W.heap.size 35 1 v vs.length vs ∧ Hid (Reads wr W.heap.size vs (jumpI (jumpTo w n s i))) ∧ Hid (∀ g, v.ownBlock = some g → Off g vs) ∧ Below W.heap.size W wr) (fun _ x _ => n - (intOf x).toNat)
  case atStart => exact ⟨0, [], Nat.zero_le _, rfl, World.ownsRow_made W #[] 0 (Nat.le_refl _) (by simp [maxLen]) rfl, Reads.nil _ _, fun g _ i a n c e => by simp at e, (Below.refl _ _).alloc (Nat.le_refl _) _⟩
  case round =>
    obtain ⟨i, vs, hi, rfl, hown, hrd, hoff, hb⟩ := hrel
    obtain ⟨wo, rfl⟩ : ∃ wo : World, wo = wr := ⟨_, rfl⟩
    by_cases hlt : i < n
    · have HSi := hide (jumpTo_succ w n s i)
      go_wp2_with fail
      go_loopw [7, 9] (fun v x wr => ∃ (k : Nat) (vs : List Value), k ≤ n ∧ x = .int .i64 (k : Int) ∧ wr.ownsRow W.heap.size 35 1 v vs.length vs ∧ Hid (Reads wr W.heap.size vs (jumpI (jumpTo w n s i ++ rowTo w s i k))) ∧ Hid (∀ g, v.ownBlock = some g → Off g vs) ∧ Below W.heap.size W wr) (fun _ x _ => n - (intOf x).toNat)
      case atStart => exact ⟨0, vs, Nat.zero_le _, rfl, hown, by rw [show rowTo w s i 0 = [] from rfl, List.append_nil]; exact hrd, hoff, hb⟩
      case round =>
        clear hown hrd hoff hb
        obtain ⟨k, us, hk, rfl, hown, hrd, hoff, hb⟩ := hrel
        obtain ⟨wi, rfl⟩ : ∃ wi : World, wi = wr := ⟨_, rfl⟩
        by_cases hkl : k < n
        · have hyes := hide (fun (h : okJ w s (i, (i + k) / 2, k) = true) => rowTo_yes h)
          have hno := hide (fun (h : okJ w s (i, (i + k) / 2, k) = false) => rowTo_no h)
          have hfar := far_cases (w := w) (i := i) (k := k) w1
          have hof := hide (fun (h : farP w i k = true) => ok_far (s := s) h)
          have hon := hide (fun (h : farP w i k = false) => ok_near (s := s) h)
          have HBi := hide (fun w5 => HB.out i (by omega) w5)
          have HBm := hide (fun w5 => HB.out ((i + k) / 2) (by omega) w5)
          have HBk := hide (fun w5 => HB.out k (by omega) w5)
          have bi := bit_is s i
          have bm := bit_is s ((i + k) / 2)
          have bk := bit_is s k
          have hul : us.length ≤ 1000 := by
            have h1 := hrd.out.1
            rw [jumpI_len, List.length_append] at h1
            have h2 := jumpTo_len w n s i
            have h3 := rowTo_len w s i k
            have h4 : i * n ≤ 12 * 12 := Nat.mul_le_mul (by omega) (by omega)
            omega
          have t1 : Int.tdiv (k : Int) (w : Int) = ((k / w : Nat) : Int) := rfl
          have t2 : Int.tdiv (i : Int) (w : Int) = ((i / w : Nat) : Int) := rfl
          have t3 : Int.tmod (k : Int) (w : Int) = ((k % w : Nat) : Int) := rfl
          have t4 : Int.tmod (i : Int) (w : Int) = ((i % w : Nat) : Int) := rfl
          have u1 := Nat.div_le_self k w
          have u2 := Nat.div_le_self i w
          have u3 := Nat.mod_lt k (show 0 < w by omega)
          have u4 := Nat.mod_lt i (show 0 < w by omega)
          rw [HD2.out] at hfar
          generalize k / w = rk at *
          generalize i / w = ri at *
          generalize k % w = ck at *
          generalize i % w = ci at *
          have e1 : IntKind.i64.wrap (rk : Int) = (rk : Int) := IntWalk.i64_in _ (by omega)
          have e2 : IntKind.i64.wrap (ri : Int) = (ri : Int) := IntWalk.i64_in _ (by omega)
          have e3 : IntKind.i64.wrap (ck : Int) = (ck : Int) := IntWalk.i64_in _ (by omega)
          have e4 : IntKind.i64.wrap (ci : Int) = (ci : Int) := IntWalk.i64_in _ (by omega)
          have e5 : IntKind.i64.wrap ((k : Int) - (i : Int)) = (k : Int) - (i : Int) := IntWalk.i64_in _ (by omega)
          have e6 : IntKind.i64.wrap ((i : Int) - (k : Int)) = (i : Int) - (k : Int) := IntWalk.i64_in _ (by omega)
          obtain ⟨p, hp⟩ : ∃ p, i + k = p := ⟨_, rfl⟩
          rw [hp] at hyes hno hof hon HBm bm
          have e7 : IntKind.i64.wrap ((i : Int) + (k : Int)) = (p : Int) := (IntWalk.i64_in _ (by omega)).trans (by omega)
          have t5 : Int.tdiv (p : Int) 2 = ((p / 2 : Nat) : Int) := rfl
          have u5 : p / 2 ≤ 24 := by omega
          clear hp
          generalize p / 2 = m at *
          have e8 : IntKind.i64.wrap (m : Int) = (m : Int) := IntWalk.i64_in _ (by omega)
          clear u1 u2 u3 u4
          have HK1 := hide (And.intro hlt hkl)
          rcases hfar with ⟨hf, hfar⟩ | ⟨hf, hfar⟩
          · have ho := hof.out hf
            rcases bitN_two s i with h1 | h1 <;> rcases bitN_two s m with h2 | h2 <;> rcases bitN_two s k with h3 | h3
            all_goals
              rw [h1] at HBi bi
              rw [h2] at HBm bm
              rw [h3] at HBk bk
              rw [bi, bm, bk] at ho
              clear hf hof hon bi bm bk h1 h2 h3
            case inr.inr.inl =>
              have hS := hide (hyes.out ho)
              clear ho hyes hno
              rcases hfar with ⟨f1, f2⟩ | ⟨f1, f2, f3⟩ | ⟨f1, f2, f3⟩ | ⟨f1, f2, f3, f4⟩
              all_goals
                go_wp2_with fail
                go_quiet (fail)
                have hownq : (wi.drewN nq).ownsRow W.heap.size 35 1 _ us.length us := hown
                have hrdq : Hid (Reads (wi.drewN nq) W.heap.size us (jumpI (jumpTo w n s i ++ rowTo w s i k))) := hrd
                have hbq := below_drewN hb nq
                clear hown hrd hb
                generalize wi.drewN nq = wq at *
                have own1 := (hownq.alloc (.cells #[.int .i64 (i : Int), .int .i64 (m : Int), .int .i64 (k : Int)] 3)).alloc (.cells #[.slice (some ⟨wq.heap.size, 0, none⟩) 3 3] 35)
                have b1 := (hbq.alloc hbq.size (.cells #[.int .i64 (i : Int), .int .i64 (m : Int), .int .i64 (k : Int)] 3)).alloc (by have := hbq.size; simp; omega) (.cells #[.slice (some ⟨wq.heap.size, 0, none⟩) 3 3] 35)
                have zq := hbq.size
                go_wp2_with fail
                refine (HBi.out _).mono ?_
                rintro e w7 ⟨rfl, rfl⟩
                go_wp2_with fail
                refine (HBm.out _).mono ?_
                rintro e w7 ⟨rfl, rfl⟩
                go_wp2_with fail
                refine (HBk.out _).mono ?_
                rintro e w7 ⟨rfl, rfl⟩
                go_wp2_with ((at_builtin; refine put_own rfl (.tmp 92) (.tmp 100) rfl Tryz.underlying95 elem_rows rfl own1 rfl (m := 1) (news := [.slice (some ⟨wq.heap.size, 0, none⟩) 3 3]) rfl (row_new _ _ _ (by simp)) (by simp [Value.oneCell']) (by omega) (by omega) b1.size ?_; intro v5 w5' own5 hg5 ho5))
                have HO := reads_push hownq hrdq.out hoff.out (jump_rows w n s i k) zq hg5 (by rcases ho5 with h | h; exact .inl h; exact .inr (by rw [h]; simp))
                refine ⟨⟨k + 1, us ++ [.slice (some ⟨wq.heap.size, 0, none⟩) 3 3], HK1.out.2, by go_num, by rw [List.length_append]; exact own5, ?_, hide HO.2, below_grown b1 b1.size own1 (Nat.le_refl _) hg5⟩, by simp [intOf]; omega⟩
                rw [hS.out, ← List.append_assoc, jumpI_app]
                exact HO.1
            all_goals
              have hS := hide (hno.out ho)
              clear ho hyes hno
              rcases hfar with ⟨f1, f2⟩ | ⟨f1, f2, f3⟩ | ⟨f1, f2, f3⟩ | ⟨f1, f2, f3, f4⟩
              all_goals
                go_wp2_with fail
                go_quiet (fail)
                go_wp2_with fail
                refine (HBi.out _).mono ?_
                rintro e w7 ⟨rfl, rfl⟩
                go_wp2_with fail
                first
                  | exact ⟨⟨k + 1, us, HK1.out.2, by go_num, hown, by rw [hS.out]; exact hrd.out, hoff, below_drewN hb _⟩, by simp [intOf]; omega⟩
                  | (refine (HBm.out _).mono ?_
                     rintro e w7 ⟨rfl, rfl⟩
                     go_wp2_with fail
                     first
                      | exact ⟨⟨k + 1, us, HK1.out.2, by go_num, hown, by rw [hS.out]; exact hrd.out, hoff, below_drewN hb _⟩, by simp [intOf]; omega⟩
                      | (refine (HBk.out _).mono ?_
                         rintro e w7 ⟨rfl, rfl⟩
                         go_wp2_with fail
                         exact ⟨⟨k + 1, us, HK1.out.2, by go_num, hown, by rw [hS.out]; exact hrd.out, hoff, below_drewN hb _⟩, by simp [intOf]; omega⟩))
          · have hS := hide (hno.out (hon.out hf))
            clear hf hyes hno hof hon bi bm bk HBi HBm HBk
            rcases hfar with ⟨f1, f2, f3, f4, f5, f6⟩ | ⟨f1, f2, f3, f4⟩ | ⟨f1, f2, f3, f4⟩ | ⟨f1, f2⟩
            all_goals
              go_wp2_with fail
              go_quiet (fail)
              go_wp2_with fail
              exact ⟨⟨k + 1, us, HK1.out.2, by go_num, hown, by rw [hS.out]; exact hrd.out, hoff, below_drewN hb _⟩, by simp [intOf]; omega⟩
        · obtain rfl : k = n := by omega
          go_wp2_with fail
          exact ⟨⟨i + 1, us, hlt, by go_num, hown, by rw [HSi.out]; exact hrd, hoff, hb⟩, by simp [intOf]; omega⟩
    · obtain rfl : i = n := by omega
      go_wp2_with fail
      go_ret
      exact ⟨_, vs, rfl, hown, by rw [← hall.out]; exact hrd.out, hb⟩

/-- Pegs that are there, as natural numbers. -/
theorem pegS_nat {bc br s : Int} (h : PegS bc br s) : ∃ w h' x : Nat, bc = (w : Int) ∧ br = (h' : Int) ∧ s = (x : Int) ∧ (1 ≤ w ∧ w ≤ 5) ∧ (1 ≤ h' ∧ h' ≤ 5) ∧ w * h' ≤ 12 ∧ x < 2 ^ (w * h') := by
  obtain ⟨⟨⟨h1, h2, h3, h4⟩, h12⟩, s0, s1⟩ := h
  obtain ⟨w, rfl⟩ := Int.eq_ofNat_of_zero_le (show 0 ≤ bc by omega)
  obtain ⟨h, rfl⟩ := Int.eq_ofNat_of_zero_le (show 0 ≤ br by omega)
  obtain ⟨x, rfl⟩ := Int.eq_ofNat_of_zero_le s0
  rw [← Int.natCast_mul] at h12
  rw [← Int.natCast_mul, Int.toNat_natCast] at s1
  have := Nat.two_pow_pos (w * h)
  exact ⟨w, h, x, rfl, rfl, rfl, by omega, by omega, by omega, by omega⟩
theorem pegS_of {w h x : Nat} (hw : 1 ≤ w ∧ w ≤ 5) (hh : 1 ≤ h ∧ h ≤ 5) (h12 : w * h ≤ 12) (hx : x < 2 ^ (w * h)) : PegS (w : Int) (h : Int) (x : Int) := by
  refine ⟨lit12P hw hh h12, by omega, ?_⟩
  rw [← Int.natCast_mul, Int.toNat_natCast]
  omega
def jumpV (bc br s : Int) : List (List Int) := if PegS bc br s then jumpI (jumpL bc.toNat (bc.toNat * br.toNat) s.toNat) else []
theorem jumpV_nat {w h x : Nat} (hw : 1 ≤ w ∧ w ≤ 5) (hh : 1 ≤ h ∧ h ≤ 5) (h12 : w * h ≤ 12) (hx : x < 2 ^ (w * h)) : jumpV w h x = jumpI (jumpL w (w * h) x) := if_pos (pegS_of hw hh h12 hx)
theorem jumpV_bd (bc br s : Int) : (jumpV bc br s).length ≤ 144 ∧ ∀ x ∈ jumpV bc br s, x.length = 3 := by
  unfold jumpV
  split
  · rename_i hP
    obtain ⟨w, h, x, rfl, rfl, rfl, hw, hh, h12, hx⟩ := pegS_nat hP
    simp only [Int.toNat_natCast]
    rw [jumpI_len]
    exact ⟨jump_len x h12, jumpI_row _⟩
  · exact ⟨by simp, fun x hx => absurd hx (by simp)⟩
theorem peg_lt {n x : Nat} (hn : n ≤ 12) (h : x < 2 ^ n) : x < 4096 := Nat.lt_of_lt_of_le h (Nat.pow_le_pow_right (n := 2) (by omega) hn)
end Go.Proofs.YtmfdlijkpdgimaaGreatDoor

/-
  Pegs: the model's behind, comes.
-/
namespace Go.Proofs.YtmfdlijkpdgimaaGreatDoor
open Go.RowKit
set_option linter.unusedVariables false

theorem jump_sum {w n s : Nat} {j : Jump} (h : JumpIs w n s j) : 2 ^ j.1 + 2 ^ j.2.1 ≤ s := by
  have h1 := Nat.ge_two_pow_of_testBit h.bi
  have h2 : (s - 2 ^ j.1).testBit j.2.1 = true := by rw [sub_bit h.bi, flip_at, h.bm]; simp [h.im]
  have h3 := Nat.ge_two_pow_of_testBit h2
  omega
theorem power_q (n : Nat) (hn : n ≤ 12) (w : World) : Calls Tryz.prog 49 #[.int .i64 (n : Int)] w fun e w' => e = .returned (.int .i64 ((2 ^ n : Nat) : Int)) ∧ ∃ m, w' = w.drewN m :=
  (specPower12_c n hn w).mono fun e w' ⟨h, h'⟩ => ⟨h, 0, h'.symm⟩
set_option maxHeartbeats 1000000 in
set_option maxRecDepth 100000 in
theorem behind_c (w n s : Nat) (j : Jump) (hJ : JumpIs w n s j) (hn : n ≤ 12) (hs : s < 4096) (A : Option Addr) (c : Nat) (W : World) (hr : Row W A (ints (rowJ j))) :
    Calls Tryz.prog 72 #[.int .i64 (s : Int), .slice A 3 c] W fun e w' => e = .returned (.int .i64 ((behindP s j : Nat) : Int)) ∧ ∃ m, w' = W.drewN m := by
  obtain ⟨i, m, k⟩ := j
  have hsum := jump_sum hJ
  have hi := hJ.i
  have hm := hJ.m
  have hk := hJ.k
  simp only at hsum hi hm hk
  obtain ⟨ad, rfl, h0⟩ := hr 0 (by simp [rowJ])
  obtain ⟨ad1, e1, h1⟩ := hr 1 (by simp [rowJ])
  obtain ⟨ad2, e2, h2⟩ := hr 2 (by simp [rowJ])
  injection e1 with e1
  injection e2 with e2
  subst e1
  subst e2
  simp only [rowJ, ints, List.map_cons, List.map_nil, List.getElem_cons_zero, List.getElem_cons_succ] at h0 h1 h2
  have h0 : W.cell? ad = some (.int .i64 (i : Int)) := h0
  have h1 : W.cell? ⟨ad.block, ad.off + 1, none⟩ = some (.int .i64 (m : Int)) := h1
  have h2 : W.cell? ⟨ad.block, ad.off + 2, none⟩ = some (.int .i64 (k : Int)) := h2
  have HP := hide (fun (q : Nat) (hq : q ≤ 12) w5 => power_q q hq w5)
  have pk := pow12 (n := k) (by omega)
  have HV := hide (show behindP s (i, m, k) = s - 2 ^ i - 2 ^ m + 2 ^ k from rfl)
  rw [HV.out]
  have i12 : i ≤ 12 := by omega
  have m12 : m ≤ 12 := by omega
  have k12 : k ≤ 12 := by omega
  clear hr hJ HV
  generalize hP : 2 ^ i = P at *
  generalize hQ : 2 ^ m = Q at *
  generalize hR : 2 ^ k = R at *
  have HPi := hide (fun w5 => show Calls Tryz.prog 49 #[.int .i64 (i : Int)] w5 fun e w' => e = .returned (.int .i64 (P : Int)) ∧ ∃ m, w' = w5.drewN m by have := HP.out i i12 w5; rwa [hP] at this)
  have HPm := hide (fun w5 => show Calls Tryz.prog 49 #[.int .i64 (m : Int)] w5 fun e w' => e = .returned (.int .i64 (Q : Int)) ∧ ∃ m, w' = w5.drewN m by have := HP.out m m12 w5; rwa [hQ] at this)
  have HPk := hide (fun w5 => show Calls Tryz.prog 49 #[.int .i64 (k : Int)] w5 fun e w' => e = .returned (.int .i64 (R : Int)) ∧ ∃ m, w' = w5.drewN m by have := HP.out k k12 w5; rwa [hR] at this)
  obtain ⟨s1, hs1⟩ : ∃ s1, s - P = s1 := ⟨_, rfl⟩
  obtain ⟨s2, hs2⟩ : ∃ s2, s1 - Q = s2 := ⟨_, rfl⟩
  obtain ⟨s3, hs3⟩ : ∃ s3, s2 + R = s3 := ⟨_, rfl⟩
  have f1 : IntKind.i64.wrap ((s : Int) - (P : Int)) = (s1 : Int) := (IntWalk.i64_in _ (by omega)).trans (by omega)
  have f2 : IntKind.i64.wrap ((s1 : Int) - (Q : Int)) = (s2 : Int) := (IntWalk.i64_in _ (by omega)).trans (by omega)
  have f3 : IntKind.i64.wrap ((s2 : Int) + (R : Int)) = (s3 : Int) := (IntWalk.i64_in _ (by omega)).trans (by omega)
  rw [hs1, hs2, hs3]
  clear HP hP hQ hR hs1 hs2 hs3 hsum
  go_enter Tryz.func72, Tryz.ntmps72
  go_wp2_with fail
  refine wp_region_quiet_lit (by kernel_rfl) (by kernel_rfl) ?_
  repeat (quiet_step (fail))
  quiet_step ((go_at_call 49; exact Calls.quiet_of (HPi.out _)))
  repeat (quiet_step (fail))
  quiet_step ((go_at_call 49; exact Calls.quiet_of (HPm.out _)))
  repeat (quiet_step (fail))
  quiet_step ((go_at_call 49; exact Calls.quiet_of (HPk.out _)))
  repeat (quiet_step (fail))
  refine wpQuiet_nil ?_
  intro _ hw'
  obtain ⟨nq, hw''⟩ := hw'
  subst hw''
  go_wp2_with fail
  go_ret
  exact ⟨rfl, nq, rfl⟩
end Go.Proofs.YtmfdlijkpdgimaaGreatDoor

/-
  Pegs: the model's comes.
-/
namespace Go.Proofs.YtmfdlijkpdgimaaGreatDoor
open Go.RowKit
set_option linter.unusedVariables false

/-- Which sets are among some. -/
def seenL (P : Nat) (o : List Nat) : List Bool := (List.range P).map fun x => o.contains x
abbrev boolsP (l : List Bool) : List Value := l.map Value.bool
theorem seen_len (P : Nat) (o : List Nat) : (seenL P o).length = P := by simp [seenL]
theorem seen_set {P y : Nat} {o : List Nat} (hy : y < P) : (seenL P o).set y true = seenL P (o ++ [y]) := by
  apply List.ext_getElem
  · simp [seenL]
  · intro i h1 h2
    simp only [seenL, List.length_set, List.length_map, List.length_range] at h1
    rw [List.getElem_set]
    simp only [seenL, List.getElem_map, List.getElem_range]
    by_cases e : y = i
    · subst e; simp
    · rw [if_neg e, Bool.eq_iff_iff]
      simp only [List.contains_iff_mem, List.mem_append, List.mem_singleton]
      exact ⟨.inl, fun h => h.elim id fun h => absurd h.symm e⟩
theorem seen_none (P : Nat) : boolsP (seenL P []) = List.replicate P (.bool false) := by
  apply List.ext_getElem
  · simp [seenL]
  · intro i i1 i2
    simp [seenL]
theorem own_seen {W : World} {base g P : Nat} {o : List Nat} (h : W.ownsRow base 4 1 (.slice (some ⟨g, 0, none⟩) P P) P (boolsP (seenL P o))) {y : Nat} (hy : y < P) :
    W.cell? ⟨g, y, none⟩ = some (.bool (o.contains y)) ∧ W.frozen? ⟨g, y, none⟩ = false ∧ (W.setCell ⟨g, y, none⟩ (.bool true)).ownsRow base 4 1 (.slice (some ⟨g, 0, none⟩) P P) P (boolsP (seenL P (o ++ [y]))) ∧ W.grownBy (W.setCell ⟨g, y, none⟩ (.bool true)) (some g) := by
  have hc := h.cellAt y (by omega)
  obtain ⟨o', gr⟩ := h.stored y (.bool true)
  refine ⟨?_, h.frozenAt y, ?_, gr⟩
  · rw [hc]; simp [seenL, hy]
  · rw [show (boolsP (seenL P o)).set y (.bool true) = boolsP (seenL P (o ++ [y])) by rw [← seen_set hy]; simp [boolsP, List.map_set]] at o'
    exact o'
theorem made_boolsP {w : World} {base : Nat} {v : Value} {n : Nat} {z : Value} (hz : z.cells = #[z]) (h : w.ownsRow base 4 1 v n (madeCells z.cells (n * 1)).toList) : w.ownsRow base 4 1 v n (List.replicate n z) := by
  rwa [hz, Nat.mul_one, toList_madeCells_one] at h
theorem info_ofP {P : Program} {e : TypeId} {z : Value} {size bytes : Nat} (h : (P.info? e).map (fun i => (i.zero, i.size, i.bytes)) = some (some z, size, bytes)) : ∃ i, P.info? e = some i ∧ i.zero = some z ∧ i.size = size ∧ i.bytes = bytes := by
  cases hi : P.info? e with
  | none => simp [hi] at h
  | some i =>
    simp only [hi, Option.map_some, Option.some.injEq, Prod.mk.injEq] at h
    exact ⟨i, rfl, h.1, h.2.1, h.2.2⟩
/-- What the walk wants of the search, at its k-th set. -/
structure AtK (w n s k : Nat) (o : List Nat) (x : Nat) (J : List Jump) : Prop where
  bx : x < 2 ^ n
  at_ : ∀ q, (putsTo x J o q)[k]?.getD 0 = x ∧ k < (putsTo x J o q).length ∧ o.length ≤ (putsTo x J o q).length
  len : ∀ q, q ≤ J.length → (putsTo x J o q).length ≤ 2 ^ n
  jump : ∀ q, q < J.length → JumpIs w n x (J[q]?.getD (0, 0, 0)) ∧ behindP x (J[q]?.getD (0, 0, 0)) < 2 ^ n
  next : bfsL w n s (k + 1) = putsTo x J o J.length
theorem puts_pre (x : Nat) (J : List Jump) (o : List Nat) : ∀ q, ∃ e, putsTo x J o q = o ++ e
  | 0 => ⟨[], by simp [putsTo]⟩
  | q + 1 => by
    obtain ⟨e, h⟩ := puts_pre x J o q
    rw [putsTo, h]
    unfold putN
    split
    · exact ⟨e, rfl⟩
    · exact ⟨e ++ [_], by rw [List.append_assoc]⟩
theorem at_k {w n s k : Nat} (hw : 1 ≤ w) (hs : s < 2 ^ n) (hk : k < (bfsL w n s k).length) : AtK w n s k (bfsL w n s k) ((bfsL w n s k)[k]?.getD 0) (jumpL w n ((bfsL w n s k)[k]?.getD 0)) := by
  have hB := bfs_is hw hs k
  have hx : (bfsL w n s k)[k]? = some ((bfsL w n s k)[k]?.getD 0) := by rw [List.getElem?_eq_getElem hk]; rfl
  have hm := List.mem_of_getElem? hx
  have hnext : bfsL w n s (k + 1) = putsTo ((bfsL w n s k)[k]?.getD 0) (jumpL w n ((bfsL w n s k)[k]?.getD 0)) (bfsL w n s k) (jumpL w n ((bfsL w n s k)[k]?.getD 0)).length := by rw [bfsL, hx]; rfl
  generalize (bfsL w n s k)[k]?.getD 0 = x at *
  generalize bfsL w n s k = o at *
  refine ⟨hB.lt x hm, fun q => ?_, fun q hq => ?_, fun q hq => ?_, hnext⟩
  · obtain ⟨e, he⟩ := puts_pre x (jumpL w n x) o q
    rw [he, List.getElem?_append_left hk, hx, List.length_append]
    exact ⟨rfl, by omega, by omega⟩
  · have h := mid_to hB.mid hw (hB.lt x hm) (hB.come x hm) q hq
    exact nodup_le _ _ h.nodup h.lt
  · rw [List.getElem?_eq_getElem hq]
    have hJ := jump_is hw (List.getElem_mem hq)
    exact ⟨hJ, behind_lt hJ (hB.lt x hm)⟩
theorem put_old {o : List Nat} {y : Nat} (h : o.contains y = true) : putN o y = o := by unfold putN; rw [if_pos h]
theorem put_new {o : List Nat} {y : Nat} (h : o.contains y = false) : putN o y = o ++ [y] := by unfold putN; rw [if_neg (by rw [h]; exact Bool.false_ne_true)]
theorem natI_snoc (o : List Nat) (y : Nat) : ints (natI (o ++ [y])) = ints (natI o) ++ [.int .i64 (y : Int)] := by simp [natI, ints]

set_option maxHeartbeats 8000000 in
set_option maxRecDepth 100000 in
theorem comes_c (w h s : Nat) (W : World) (hw : 1 ≤ w ∧ w ≤ 5) (hh : 1 ≤ h ∧ h ≤ 5) (h12 : w * h ≤ 12) (hs : s < 2 ^ (w * h)) :
    Calls Tryz.prog 54 #[.int .i64 (w : Int), .int .i64 (h : Int), .int .i64 (s : Int)] W (Owns 3 1 (comeL w (w * h) s).length (ints (natI (comeL w (w * h) s))) W) := by
  have emul : IntKind.i64.wrap ((w : Int) * (h : Int)) = ((w * h : Nat) : Int) := by rw [Int.natCast_mul]; exact IntWalk.i64_in _ (by rw [← Int.natCast_mul]; omega)
  have HPW := hide (fun w6 => specPower12_c (w * h) h12 w6)
  have HJU := hide (fun (x : Nat) (hx : x < 2 ^ (w * h)) w6 => jumps_c w h x w6 hw hh h12 (peg_lt h12 hx))
  have hJl := hide (fun x => jump_len (w := w) (n := w * h) x h12)
  have hp := pow12 h12
  have HAT := hide (fun (k : Nat) (hk : k < (bfsL w (w * h) s k).length) => at_k hw.1 hs hk)
  have HSTOP := hide (fun (k : Nat) (hk : (bfsL w (w * h) s k).length = k) => come_at hw.1 hs hk)
  have HLEN := hide (fun k => bfs_len hw.1 hs k)
  have n12 : w * h ≤ 12 := h12
  generalize w * h = n at *
  have hB0 : Hid (bfsL w n s 0 = [s]) := rfl
  obtain ⟨P, hP⟩ : ∃ P, 2 ^ n = P := ⟨_, rfl⟩
  have HP := hide hP
  rw [hP] at HPW hs hp HLEN
  have HJ2 := hide (fun (x : Nat) (hx : x < P) w6 => HJU.out x (by rw [hP]; exact hx) w6)
  have P1 := hp.1
  have P4 := hp.2
  obtain ⟨i0, hi0, hz0, hz1, hz2⟩ := info_ofP (P := Tryz.prog) (e := 4) (z := .bool false) (size := 1) (bytes := 1) (by kernel_rfl)
  clear hP hp hw hh h12 HJU
  have s0 : (0 : Int) ≤ (s : Int) := by omega
  have sP : (s : Int) < (P : Int) := by omega
  go_enter Tryz.func54, Tryz.ntmps54
  go_wp2_with fail
  refine (HPW.out _).mono ?_
  rintro e w1 ⟨rfl, rfl⟩
  go_wp2_with ((at_make; refine wpList_make_full _ rfl (.tmp 16) (.tmp 16) 68 rfl W.heap.size 4 i0 (.bool false) 1 Tryz.underlying68 hi0 hz0 hz1 .i64 .i64 P P P rfl rfl rfl rfl (by rw [hz2]; omega) (by simp [maxLen]; omega) (Nat.le_refl _) ?_; intro w4 own4 hg4; have own4 := made_boolsP rfl own4; rw [← seen_none] at own4; obtain ⟨c1, c2, c3, c4⟩ := own_seen own4 (y := s) (by omega); have b4 := (Below.refl W.heap.size W).grown hg4 (Nat.le_refl _) (fun k h => by cases h); have b5 := b4.grown c4 b4.size (fun j e => by injection e with e; omega); have z4 : W.heap.size < w4.heap.size := (own4.lt _ rfl).2; clear hg4 own4))
  have b6 := b5.alloc b5.size (.cells #[.int .i64 (s : Int)] 3)
  have z5 : W.heap.size + 1 ≤ (w4.setCell ⟨W.heap.size, s, none⟩ (.bool true)).heap.size := by have := c4.size; omega
  have oL := World.ownsRow_lit (base := W.heap.size + 1) (e := 3) (size := 1) (w4.setCell ⟨W.heap.size, s, none⟩ (.bool true)) #[.int .i64 (s : Int)] 1 z5 (by simp [maxLen]) rfl
  rw [show (w4.setCell ⟨W.heap.size, s, none⟩ (.bool true)).heap.size = w4.heap.size by simp] at oL
  have c3 := c3.alloc (.cells #[.int .i64 (s : Int)] 3)
  rw [show ([] : List Nat) ++ [s] = bfsL w n s 0 from rfl] at c3
  clear c1 c2 c4 b4 b5
  go_loopw [8, 9] (fun v x wr => ∃ k : Nat, k ≤ (bfsL w n s k).length ∧ x = .int .i64 (k : Int) ∧ wr.ownsRow (W.heap.size + 1) 3 1 v (bfsL w n s k).length (ints (natI (bfsL w n s k))) ∧ wr.ownsRow W.heap.size 4 1 (.slice (some ⟨W.heap.size, 0, none⟩) P P) P (boolsP (seenL P (bfsL w n s k))) ∧ Below W.heap.size W wr) (fun _ x _ => P - (intOf x).toNat)
  case atStart => exact ⟨0, Nat.zero_le _, rfl, oL, c3, b6⟩
  case round =>
    clear oL c3 b6 z5 z4
    obtain ⟨k, hk, rfl, own, sn, hb⟩ := hrel
    obtain ⟨wo, rfl⟩ : ∃ wo : World, wo = wr := ⟨_, rfl⟩
    have hlen := HLEN.out k
    by_cases hlt : k < (bfsL w n s k).length
    · obtain ⟨hx, hat, hlq, hjq, hnx⟩ := HAT.out k hlt
      have hat0 := (hat 0).1
      have HATT := hide hat
      have HLQ := hide hlq
      have HJQ := hide hjq
      have HNX := hide hnx
      have hJl' := hJl.out ((bfsL w n s k)[k]?.getD 0)
      clear hat hlq hjq hnx
      obtain ⟨A, c, rfl, _, _, rv, fv⟩ := own_row own
      obtain ⟨ad, rfl, hck⟩ := rv.int (k := k) (by rw [natI_len]; exact hlt)
      rw [natI_at] at hck
      obtain ⟨x, hxe⟩ : ∃ x, (bfsL w n s k)[k]?.getD 0 = x := ⟨_, rfl⟩
      rw [hxe] at hck hx HATT HLQ HJQ HNX hJl'
      have hJx := hide (HJ2.out x (by rw [← HP.out]; exact hx) wo)
      clear HAT HSTOP
      generalize bfsL w n s k = o at *
      generalize jumpL w n x = J at *
      have hx4 : x < 4096 := by rw [HP.out] at hx; omega
      clear hxe hat0 hx rv fv HLEN
      have k0 : (0 : Int) ≤ (k : Int) := by omega
      have k1 : (k : Int) < (o.length : Int) := by omega
      go_wp2_with fail
      refine hJx.out.mono ?_
      rintro e w2 ⟨v2, vs2, rfl, own2, rd2, b2⟩
      have hl2 : vs2.length = J.length := by have := rd2.1; rwa [jumpI_len] at this
      rw [hl2] at own2
      obtain ⟨A2, c2, rfl, _, _, rv2, fv2⟩ := own_row own2
      have hown := own_below own b2
      have hsn := own_below sn b2
      have hbw := below_then hb hb.size b2
      have HOFF := hide (fun (g : Nat) (hg : g < wo.heap.size ∨ w2.heap.size ≤ g) => show Off g vs2 from hg.elim (fun h => rd2.off_low h) fun h => rd2.off_new (fun y hy => by rw [jumpI_row _ y hy]; omega) h)
      have HF2 := hide (fun (g : Nat) (hg : g < wo.heap.size ∨ w2.heap.size ≤ g) (ad : Addr) (e : A2 = some ad) => show some g ≠ some ad.block by
        obtain ⟨g', rfl, h1, h2, _⟩ := fv2 ad e
        intro e'
        injection e' with e'
        simp only at e'
        omega)
      have hbk : Hid (∀ g, (Value.slice (some ad) o.length c).ownBlock = some g → g < wo.heap.size ∨ w2.heap.size ≤ g) := fun g e => .inl (own.lt g e).2
      have gW : Hid (W.heap.size < wo.heap.size) := hide (sn.lt _ rfl).2
      have z2 := b2.size
      clear own sn hb b2 fv2 hck hJx own2
      have HR2 := hide (And.intro rv2 rd2)
      clear rv2 rd2
      go_wp2_with fail
      go_loopw [8, 11] (fun v y wr => ∃ q : Nat, q ≤ J.length ∧ y = .int .i64 (q : Int) ∧ wr.ownsRow (W.heap.size + 1) 3 1 v (putsTo x J o q).length (ints (natI (putsTo x J o q))) ∧ wr.ownsRow W.heap.size 4 1 (.slice (some ⟨W.heap.size, 0, none⟩) P P) P (boolsP (seenL P (putsTo x J o q))) ∧ Below W.heap.size W wr ∧
          Hid (Row wr A2 vs2 ∧ Reads wr wo.heap.size vs2 (jumpI J)) ∧ Hid (∀ g, v.ownBlock = some g → g < wo.heap.size ∨ w2.heap.size ≤ g) ∧ w2.heap.size ≤ wr.heap.size) (fun _ y _ => J.length - (intOf y).toNat)
      case atStart => exact ⟨0, Nat.zero_le _, rfl, hown, hsn, hbw, HR2, hbk, Nat.le_refl _⟩
      case round =>
        clear hown hsn hbw HR2 hbk
        obtain ⟨q, hq, rfl, own, sn, hb, hrr, hbk, zr⟩ := hrel
        obtain ⟨wi, rfl⟩ : ∃ wi : World, wi = wr := ⟨_, rfl⟩
        by_cases hql : q < J.length
        · obtain ⟨t1, t2, t3⟩ := HATT.out q
          have t4 := HLQ.out q hq
          rw [HP.out] at t4
          obtain ⟨j1, j2⟩ := HJQ.out q hql
          rw [HP.out] at j2
          obtain ⟨A, c', rfl, _, _, rv, fv⟩ := own_row own
          obtain ⟨ad', rfl, hck⟩ := rv.int (k := k) (by rw [natI_len]; exact t2)
          rw [natI_at, t1] at hck
          obtain ⟨rv2, rd2⟩ := hrr.out
          obtain ⟨Aq, cq, eq, rq, _, _⟩ := rd2.at_ (i := q) (by rw [jumpI_len]; exact hql)
          rw [jumpI_at _ hql] at eq rq
          obtain ⟨ad2, rfl, hc2⟩ := rv2.at_ (k := q) (by rw [hl2]; exact hql)
          rw [eq, show (rowJ (J[q]?.getD (0, 0, 0))).length = 3 from rfl] at hc2
          have HBH := hide (fun (m : Nat) => behind_c w n x (J[q]?.getD (0, 0, 0)) j1 n12 hx4 Aq cq (wi.drewN m) (rq.drewN m))
          have HPT := hide (show putsTo x J o (q + 1) = putN (putsTo x J o q) (behindP x (J[q]?.getD (0, 0, 0))) from rfl)
          obtain ⟨y, hy⟩ : ∃ y, behindP x (J[q]?.getD (0, 0, 0)) = y := ⟨_, rfl⟩
          rw [hy] at HBH HPT j2
          obtain ⟨d1, d2, d3, d4⟩ := own_seen sn (y := y) j2
          have q0 : (0 : Int) ≤ (q : Int) := by omega
          have q1 : (q : Int) < (J.length : Int) := by omega
          have y0 : (0 : Int) ≤ (y : Int) := by omega
          have y1 : (y : Int) < (P : Int) := by omega
          have k2 : (k : Int) < ((putsTo x J o q).length : Int) := by omega
          clear t1 j1 eq rq hy rv rv2 rd2
          have HQ := hide hql
          have HPL := hide (show (putsTo x J o q).length ≤ 4096 by omega)
          clear hlt
          generalize putsTo x J o q = o' at *
          cases hcon : o'.contains y with
          | true =>
            have HO := hide (HPT.out.trans (put_old hcon))
            rw [hcon] at d1
            clear hcon d2 d3 d4 HPT
            go_wp2_with fail
            go_quiet ((go_at_call 72; exact Calls.quiet_of (HBH.out _)))
            go_wp2_with fail
            exact ⟨⟨q + 1, HQ.out, by go_num, by rw [HO.out]; exact own, by rw [HO.out]; exact sn, below_drewN hb _, hrr, hbk, zr⟩, by simp [intOf]; omega⟩
          | false =>
            have HO := hide (HPT.out.trans (put_new hcon))
            clear HPT
            go_wp2_with fail
            go_quiet ((go_at_call 72; exact Calls.quiet_of (HBH.out _)))
            have sn' : (wi.drewN nq).ownsRow W.heap.size 4 1 (.slice (some ⟨W.heap.size, 0, none⟩) P P) P (boolsP (seenL P o')) := sn
            have own' : (wi.drewN nq).ownsRow (W.heap.size + 1) 3 1 (.slice (some ad') o'.length c') o'.length (ints (natI o')) := own
            have hb' := below_drewN hb nq
            have hrr' : Hid (Row (wi.drewN nq) (some ad2) vs2 ∧ Reads (wi.drewN nq) wo.heap.size vs2 (jumpI J)) := hrr
            have zr' : w2.heap.size ≤ (wi.drewN nq).heap.size := zr
            clear own sn hb hrr zr d1 d2 d3 d4 HBH hck hc2
            generalize wi.drewN nq = wq at *
            obtain ⟨d1, d2, d3, d4⟩ := own_seen sn' (y := y) j2
            rw [hcon] at d1
            have zW : W.heap.size < wq.heap.size := by have := gW.out; omega
            have own2 := own'.kept d4 (.inr (fun e => by have := (own'.lt _ e).1; omega))
            have hb2 := hb'.grown d4 hb'.size (fun j e => by injection e with e; omega)
            have hrr2 := hide (And.intro (hrr'.out.1.grown d4 (HF2.out _ (.inl gW.out))) (hrr'.out.2.grown d4 (fun g e => by injection e with e; subst e; exact HOFF.out _ (.inl gW.out))))
            have hrr3 := hide (And.intro (hrr2.out.1.alloc (.cells #[.int .i64 (y : Int)] 3)) (hrr2.out.2.below ((Below.refl _ _).alloc (Nat.le_refl _) (.cells #[.int .i64 (y : Int)] 3))))
            have own3 := own2.alloc (.cells #[.int .i64 (y : Int)] 3)
            have sn3 := d3.alloc (.cells #[.int .i64 (y : Int)] 3)
            have hb3 := hb2.alloc hb2.size (.cells #[.int .i64 (y : Int)] 3)
            have o4 := HPL.out
            have hz3 := hide (show W.heap.size + 1 ≤ ((wq.setCell ⟨W.heap.size, y, none⟩ (.bool true)).alloc (.cells #[.int .i64 (y : Int)] 3)).heap.size by simp; omega)
            clear own' sn' hb' hrr' own2 hb2 hrr2 d3 d4
            have SN3 := hide sn3
            clear sn3
            go_wp2_with ((at_builtin; refine put_own rfl (.tmp 59) (.tmp 61) rfl Tryz.underlying35 elem_int' rfl own3 rfl (m := 1) (news := [.int .i64 (y : Int)]) rfl (row_new _ _ _ (by first | rfl | simp)) (by simp [Value.oneCell']) (by omega) (by omega) hz3.out ?_; intro v5 w5 own5 hg5 ho5))
            have hg5 : World.grownBy _ w5 (Value.slice (some ad') o'.length c').ownBlock := hg5
            have ho5 : v5.ownBlock = (Value.slice (some ad') o'.length c').ownBlock ∨ v5.ownBlock = _ := ho5
            have hout : ∀ g, (Value.slice (some ad') o'.length c').ownBlock = some g → g < wo.heap.size ∨ w2.heap.size ≤ g := hbk.out
            have sn5 := SN3.out.kept hg5 (.inr (fun e => by have := (own3.lt W.heap.size e.symm).1; omega))
            have hrr5 : Hid (Row w5 (some ad2) vs2 ∧ Reads w5 wo.heap.size vs2 (jumpI J)) := hide ⟨hrr3.out.1.grown hg5 (fun ad e => by
                cases hv : (Value.slice (some ad') o'.length c').ownBlock with
                | none => intro h; cases h
                | some g => exact HF2.out g (hout g hv) ad e), hrr3.out.2.grown hg5 (fun g e => HOFF.out g (hout g e))⟩
            have hbk5 : Hid (∀ g, v5.ownBlock = some g → g < wo.heap.size ∨ w2.heap.size ≤ g) := hide fun g e => by
              rcases ho5 with h | h
              · rw [h] at e; exact hout g e
              · rw [h] at e
                injection e with e
                simp at e
                omega
            have hb5 := below_grown hb3 hb3.size own3 (by omega) hg5
            have z5 : w2.heap.size ≤ w5.heap.size := by have := hg5.size; simp at this; omega
            refine ⟨⟨q + 1, HQ.out, by go_num, ?_, by rw [HO.out]; exact sn5, hb5, hrr5, hbk5, z5⟩, by simp [intOf]; omega⟩
            rw [HO.out, List.length_append, natI_snoc]
            exact own5
        · obtain rfl : q = J.length := by omega
          rw [← HNX.out] at own sn
          obtain ⟨A, c', rfl, _⟩ := own_row own
          have hk' : Hid (k + 1 ≤ (bfsL w n s (k + 1)).length) := hide (by rw [HNX.out]; exact (HATT.out J.length).2.1)
          go_wp2_with fail
          exact ⟨⟨k + 1, hk'.out, by go_num, own, sn, hb⟩, by simp [intOf]; omega⟩
    · have hkl : (bfsL w n s k).length = k := by omega
      have HE := hide (HSTOP.out k hkl)
      have KL : ¬ ((k : Int) < ((bfsL w n s k).length : Int)) := by omega
      obtain ⟨A, c, rfl, _⟩ := own_row own
      clear hkl hlen hk hlt
      go_wp2_with fail
      go_ret
      rw [HE.out]
      exact ⟨_, rfl, own_mono own (by omega), hb⟩
end Go.Proofs.YtmfdlijkpdgimaaGreatDoor

/-
  Pegs: the model's ComesFrom, FewestLeft, CanCome.
-/
namespace Go.Proofs.YtmfdlijkpdgimaaGreatDoor
open Go.RowKit
set_option linter.unusedVariables false

def comesV (bc br s : Int) : List Int := if PegS bc br s then ascP (natI (comeL bc.toNat (bc.toNat * br.toNat) s.toNat)) else []
theorem comesV_nat {w h x : Nat} (hw : 1 ≤ w ∧ w ≤ 5) (hh : 1 ≤ h ∧ h ≤ 5) (h12 : w * h ≤ 12) (hx : x < 2 ^ (w * h)) : comesV w h x = ascP (natI (comeL w (w * h) x)) := if_pos (pegS_of hw hh h12 hx)
theorem asc_len (l : List Int) : (ascP l).length = l.length := by rw [ascP_eq, List.length_mergeSort]
theorem comesV_len (bc br s : Int) : (comesV bc br s).length ≤ 4096 := by
  unfold comesV
  split
  · rename_i hP
    obtain ⟨w, h, x, rfl, rfl, rfl, hw, hh, h12, hx⟩ := pegS_nat hP
    simp only [Int.toNat_natCast]
    rw [asc_len, natI_len]
    exact Nat.le_trans (come_len hw.1 hx) (pow12 h12).2
  · simp
theorem cnt_pc : ∀ (k x : Nat), cntB x k = pcN k x
  | 0, x => rfl
  | k + 1, x => by rw [cnt_half, cnt_pc k (x / 2), pcN]
theorem pc_cnt {n x : Nat} (hn : n ≤ 12) (hx : x < 2 ^ n) : pcN 12 x = cntB x n := by
  have := cnt_more hx (12 - n)
  rw [← cnt_pc, show 12 = n + (12 - n) by omega]
  exact this
theorem cnt_le (x : Nat) : ∀ k, cntB x k ≤ k
  | 0 => Nat.le_refl _
  | k + 1 => by have := cnt_le x k; simp only [cntB]; have := Bool.toNat_le (x.testBit k); omega
theorem lst_most {n : Nat} {L : List Nat} {b : Nat} (k : Nat) : lstTo n L b k ≤ b := (lst_le k).1
def fewV (bc br s : Int) : Int := if PegS bc br s then ((fewL bc.toNat (bc.toNat * br.toNat) s.toNat : Nat) : Int) else -1
theorem fewV_nat {w h x : Nat} (hw : 1 ≤ w ∧ w ≤ 5) (hh : 1 ≤ h ∧ h ≤ 5) (h12 : w * h ≤ 12) (hx : x < 2 ^ (w * h)) : fewV w h x = ((fewL w (w * h) x : Nat) : Int) := if_pos (pegS_of hw hh h12 hx)
set_option maxHeartbeats 2000000 in
set_option maxRecDepth 100000 in
theorem specFewestLeft_c (bc br s : Int) (W : World) : Calls Tryz.prog 35 #[.int .i64 bc, .int .i64 br, .int .i64 s] W (Plain (.int .i64 (fewV bc br s)) W) := by
  have HV := hide (fun w5 => validPegs_c bc br s w5)
  by_cases hP : PegS bc br s
  · rw [decide_eq_true hP] at HV
    obtain ⟨w, h, x, rfl, rfl, rfl, hw, hh, h12, hx⟩ := pegS_nat hP
    rw [fewV_nat hw hh h12 hx]
    have HC := hide (fun w5 => comes_c w h x w5 hw hh h12 hx)
    have hl := Nat.le_trans (come_len hw.1 hx) (pow12 h12).2
    have HB := hide (fun w5 => show Calls Tryz.prog _ #[.int .i64 (x : Int)] w5 fun e w' => e = .returned (.int .i64 ((cntB x (w * h) : Nat) : Int)) ∧ w5 = w' by
      have := specBits12_c x (peg_lt h12 hx) w5
      rwa [pc_cnt h12 hx] at this)
    have HE := hide (fun (y : Nat) (hy : y ∈ comeL w (w * h) x) w5 => show Calls Tryz.prog _ #[.int .i64 (y : Int)] w5 fun e w' => e = .returned (.int .i64 ((cntB y (w * h) : Nat) : Int)) ∧ w5 = w' by
      have hy' := come_lt hw.1 hx hy
      have := specBits12_c y (peg_lt h12 hy') w5
      rwa [pc_cnt h12 hy'] at this)
    have HF := hide (show fewL w (w * h) x = lstTo (w * h) (comeL w (w * h) x) (cntB x (w * h)) (comeL w (w * h) x).length from rfl)
    rw [HF.out]
    have hc12 : cntB x (w * h) ≤ 12 := Nat.le_trans (cnt_le x _) h12
    have HC12 := hide (fun y => Nat.le_trans (cnt_le y (w * h)) h12)
    clear hP hw hh hx HF
    generalize comeL w (w * h) x = L at *
    generalize w * h = n at *
    generalize cntB x n = b at *
    go_enter Tryz.func35, Tryz.ntmps35
    go_wp2_with fail
    refine (HV.out _).mono ?_
    rintro e w1 ⟨rfl, rfl⟩
    go_wp2_with fail
    refine (HC.out _).mono ?_
    rintro e w2 ⟨v2, rfl, o2, b2⟩
    obtain ⟨A2, c2, rfl, _, _, r2, _⟩ := own_row o2
    have R2 := hide r2
    clear o2 r2
    go_wp2_with fail
    refine (HB.out _).mono ?_
    rintro e w3 ⟨rfl, rfl⟩
    go_wp2_with fail
    go_loopw [8, 9] (fun v i wr => ∃ k : Nat, k ≤ L.length ∧ i = .int .i64 (k : Int) ∧ v = .int .i64 ((lstTo n L b k : Nat) : Int) ∧ w2 = wr) (fun _ i _ => L.length - (intOf i).toNat)
    case atStart => exact ⟨0, Nat.zero_le _, rfl, rfl, rfl⟩
    case round =>
      obtain ⟨k, hk, rfl, rfl, rfl⟩ := hrel
      have hbk := lst_most (n := n) (L := L) (b := b) k
      by_cases hlt : k < L.length
      · obtain ⟨ad, rfl, hck⟩ := R2.out.int (k := k) (by rw [natI_len]; exact hlt)
        rw [natI_at] at hck
        have HEk := hide (fun w5 => HE.out (L[k]?.getD 0) (by rw [List.getElem?_eq_getElem hlt]; exact List.getElem_mem _) w5)
        have hS := hide (show lstTo n L b (k + 1) = min (lstTo n L b k) (cntB (L[k]?.getD 0) n) from rfl)
        have hc := HC12.out (L[k]?.getD 0)
        have k0 : (0 : Int) ≤ (k : Int) := by omega
        have k1 : (k : Int) < (L.length : Int) := by omega
        generalize L[k]?.getD 0 = y at *
        generalize cntB y n = c at *
        generalize lstTo n L b k = a at *
        rcases Nat.le_total a c with hac | hac
        · have hac' : (a : Int) ≤ (c : Int) := by omega
          have HS := hide (hS.out.trans (Nat.min_eq_left hac))
          clear hS
          go_wp2_with fail
          refine (HEk.out _).mono ?_
          rintro e w3 ⟨rfl, rfl⟩
          go_wp2_with fail
          all_goals exact ⟨⟨k + 1, hlt, by go_num, by rw [HS.out]; first | rfl | (congr 1; omega) | (exact congrArg (Value.int .i64) (by omega)), trivial⟩, by simp [intOf]; omega⟩
        · have hac' : (c : Int) ≤ (a : Int) := by omega
          have HS := hide (hS.out.trans (Nat.min_eq_right hac))
          clear hS
          go_wp2_with fail
          refine (HEk.out _).mono ?_
          rintro e w3 ⟨rfl, rfl⟩
          go_wp2_with fail
          all_goals exact ⟨⟨k + 1, hlt, by go_num, by rw [HS.out]; first | rfl | (congr 1; omega) | (exact congrArg (Value.int .i64) (by omega)), trivial⟩, by simp [intOf]; omega⟩
      · obtain rfl : k = L.length := by omega
        go_wp2_with fail
        go_ret
        exact ⟨rfl, b2⟩
  · have hc : fewV bc br s = -1 := by unfold fewV; rw [if_neg hP]
    rw [decide_eq_false hP] at HV
    rw [hc]
    clear hc hP
    go_enter Tryz.func35, Tryz.ntmps35
    go_wp2_with fail
    refine (HV.out _).mono ?_
    rintro e w1 ⟨rfl, rfl⟩
    go_wp2_with fail
    go_ret
    exact ⟨rfl, Below.refl _ _⟩

def canV (bc br a b : Int) : Bool := decide (PegS bc br a) && (decide (PegS bc br b) && (comeL bc.toNat (bc.toNat * br.toNat) a.toNat).contains b.toNat)
theorem canV_nat {w h a b : Nat} (hw : 1 ≤ w ∧ w ≤ 5) (hh : 1 ≤ h ∧ h ≤ 5) (h12 : w * h ≤ 12) (ha : a < 2 ^ (w * h)) (hb : b < 2 ^ (w * h)) : canV w h a b = (comeL w (w * h) a).contains b := by
  unfold canV
  rw [decide_eq_true (pegS_of hw hh h12 ha), decide_eq_true (pegS_of hw hh h12 hb), Bool.true_and, Bool.true_and]
  rfl
theorem natI_has (L : List Nat) (b : Nat) : (natI L).contains (b : Int) = L.contains b := by
  rw [Bool.eq_iff_iff, List.contains_iff_mem, List.contains_iff_mem]
  unfold natI
  rw [List.mem_map]
  constructor
  · rintro ⟨x, hx, e⟩
    have e : (x : Int) = (b : Int) := e
    have : x = b := by omega
    exact this ▸ hx
  · exact fun h => ⟨b, h, rfl⟩
end Go.Proofs.YtmfdlijkpdgimaaGreatDoor

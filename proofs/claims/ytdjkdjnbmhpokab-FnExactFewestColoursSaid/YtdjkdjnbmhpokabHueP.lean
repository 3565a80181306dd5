
/-
  Colours, purely, as the program reckons: what is free, what is put, paints by the sets of colours, and parts.
-/
import Derived.Test.YtdjkdjnbmhpokabPaintB
namespace Go.Proofs.Ytdjkdjnbmhpokab
open Go.RowKit
set_option linter.unusedVariables false

/-- The parts among the first k that have no cell that is reached. -/
def freeTo (p : List Nat) (y : Nat) : Nat → List Nat
  | 0 => []
  | k + 1 => if p[k]?.getD 0 &&& y = 0 then freeTo p y k ++ [k] else freeTo p y k
def freeL (p : List Nat) (y : Nat) : List Nat := freeTo p y p.length
/-- Behind a put of a set of cells to a part. -/
def putS (p : List Nat) (j x : Nat) : List Nat := (if j = p.length then p ++ [0] else p).set j (p[j]?.getD 0 ||| x)
def sumL (f : Nat → Nat) (l : List Nat) : Nat := (l.map f).sum
theorem sumL_snoc (f : Nat → Nat) (l : List Nat) (x : Nat) : sumL f (l ++ [x]) = sumL f l + f x := by simp [sumL]
theorem sumL_free (f : Nat → Nat) (p : List Nat) (y : Nat) : ∀ k, sumL f (freeTo p y k) = sumN (fun c => if p[c]?.getD 0 &&& y = 0 then f c else 0) k
  | 0 => rfl
  | k + 1 => by
    show sumL f (freeTo p y (k + 1)) = sumN (fun c => if p[c]?.getD 0 &&& y = 0 then f c else 0) k + (if p[k]?.getD 0 &&& y = 0 then f k else 0)
    unfold freeTo
    by_cases e : p[k]?.getD 0 &&& y = 0
    · rw [if_pos e, if_pos e, sumL_snoc, sumL_free f p y k]
    · rw [if_neg e, if_neg e, sumL_free f p y k, Nat.add_zero]
theorem take_snocN (l : List Nat) (k : Nat) (h : k < l.length) : l.take (k + 1) = l.take k ++ [l[k]?.getD 0] := by
  rw [List.take_add_one, List.getElem?_eq_getElem h]
  rfl
theorem sumL_take (f : Nat → Nat) (l : List Nat) (k : Nat) (h : k < l.length) : sumL f (l.take (k + 1)) = sumL f (l.take k) + f (l[k]?.getD 0) := by
  rw [take_snocN l k h, sumL_snoc]
theorem sumL_le (f : Nat → Nat) : ∀ (l : List Nat) (k : Nat), sumL f (l.take k) ≤ sumL f l
  | [], k => by simp
  | a :: l, 0 => by simp [sumL]
  | a :: l, k + 1 => by
    have := sumL_le f l k
    unfold sumL at *
    simp only [List.take_succ_cons, List.map_cons, List.sum_cons]
    omega
theorem sumL_congr {f g : Nat → Nat} {l : List Nat} (h : ∀ x ∈ l, f x = g x) : sumL f l = sumL g l := by
  unfold sumL
  rw [List.map_congr_left h]
theorem free_lt (p : List Nat) (y : Nat) : ∀ k, ∀ x ∈ freeTo p y k, x < k
  | 0, x, h => absurd h List.not_mem_nil
  | k + 1, x, h => by
    unfold freeTo at h
    split at h
    · rcases List.mem_append.1 h with h | h
      · have := free_lt p y k x h; omega
      · rw [List.mem_singleton.1 h]; omega
    · have := free_lt p y k x h; omega
theorem free_len (p : List Nat) (y : Nat) : ∀ k, (freeTo p y k).length ≤ k
  | 0 => Nat.le_refl _
  | k + 1 => by
    have := free_len p y k
    unfold freeTo
    split
    · rw [List.length_append, List.length_singleton]; omega
    · omega
theorem put_len {p : List Nat} {j : Nat} (x : Nat) (h : j < p.length) : (putS p j x).length = p.length := by
  unfold putS
  rw [List.length_set, if_neg (by omega)]
theorem put_new_len {p : List Nat} (x : Nat) : (putS p p.length x).length = p.length + 1 := by
  unfold putS
  rw [List.length_set, if_pos rfl]
  simp
theorem put_eq {p : List Nat} {j : Nat} (x : Nat) (h : j < p.length) : putS p j x = p.set j (p[j]?.getD 0 ||| x) := by
  unfold putS
  rw [if_neg (by omega)]
theorem put_new (p : List Nat) (x : Nat) : putS p p.length x = p ++ [x] := by
  unfold putS
  rw [if_pos rfl, List.getElem?_eq_none (Nat.le_refl _), Option.getD_none, Nat.zero_or, List.set_append_right _ _ (Nat.le_refl _), Nat.sub_self]
  rfl
theorem or_two {s t : Nat} (h : s < 2 ^ t) : s ||| 2 ^ t = s + 2 ^ t := by
  rw [Nat.or_comm, Nat.add_comm]
  have := Nat.two_pow_add_eq_or_of_lt (i := t) (b := s) h 1
  rw [Nat.mul_one] at this
  exact this.symm
/-! ### Paints, by the sets of the colours -/
structure Hued (head p : List Nat) (k : Nat) : Prop where
  len : p.length = k
  lt : ∀ i, i < head.length → head[i]?.getD 0 < k
  bit : ∀ i j, i < head.length → j < k → ((p[j]?.getD 0).testBit i = true ↔ head[i]?.getD 0 = j)
  small : ∀ j : Nat, p[j]?.getD 0 < 2 ^ head.length
theorem hued_fits {L head p : List Nat} {k j : Nat} (h : Hued head p k) (hj : j < k) : fitsP L head j = decide (p[j]?.getD 0 &&& L[head.length]?.getD 0 = 0) := by
  rw [Bool.eq_iff_iff, decide_eq_true_eq]
  unfold fitsP
  rw [fitsTo_iff]
  constructor
  · intro h1
    refine Nat.eq_of_testBit_eq fun i => ?_
    rw [Nat.testBit_and, Nat.zero_testBit]
    by_cases hi : i < head.length
    · have h2 := h1 i hi
      rw [← h.bit i j hi hj] at h2
      cases h3 : (L[head.length]?.getD 0).testBit i <;> cases h4 : (p[j]?.getD 0).testBit i <;> simp_all
    · rw [Nat.testBit_lt_two_pow (Nat.lt_of_lt_of_le (h.small j) (Nat.pow_le_pow_right (by omega) (by omega))), Bool.false_and]
  · intro h1 i hi h2
    have h3 := (h.bit i j hi hj).2 h2.1
    have := congrArg (fun s => s.testBit i) h1
    simp only [Nat.testBit_and, Nat.zero_testBit, h2.2, h3] at this
    cases this
theorem hued_new {L head p : List Nat} {k : Nat} (h : Hued head p k) : fitsP L head k = true := by
  unfold fitsP
  rw [fitsTo_iff]
  rintro i hi ⟨h1, _⟩
  have := h.lt i hi
  omega
theorem hued_put {head p : List Nat} {k j : Nat} (h : Hued head p k) (hj : j < k) : Hued (head ++ [j]) (putS p j (2 ^ head.length)) k := by
  have hjp : j < p.length := by rw [h.len]; exact hj
  rw [put_eq _ hjp, or_two (h.small j)]
  refine ⟨by rw [List.length_set]; exact h.len, fun i hi => ?_, fun i q hi hq => ?_, fun q => ?_⟩
  · rw [List.length_append, List.length_singleton] at hi
    by_cases e : i < head.length
    · rw [List.getElem?_append_left e]; exact h.lt i e
    · rw [show i = head.length by omega, List.getElem?_append_right (Nat.le_refl _)]
      simpa using hj
  · rw [List.length_append, List.length_singleton] at hi
    by_cases e : i < head.length
    · rw [List.getElem?_append_left e, ← h.bit i q e hq]
      by_cases eq : q = j
      · subst eq
        rw [List.getElem?_set_self hjp, Option.getD_some, Nat.add_comm, Nat.testBit_two_pow_add_gt e]
      · rw [List.getElem?_set_ne (fun h' => eq h'.symm)]
    · have ei : i = head.length := by omega
      subst ei
      rw [List.getElem?_append_right (Nat.le_refl _), Nat.sub_self]
      simp only [List.getElem?_cons_zero, Option.getD_some]
      by_cases eq : q = j
      · subst eq
        rw [List.getElem?_set_self hjp, Option.getD_some, Nat.add_comm, Nat.testBit_two_pow_add_eq, Nat.testBit_lt_two_pow (h.small q)]
        simp
      · rw [List.getElem?_set_ne (fun h' => eq h'.symm), Nat.testBit_lt_two_pow (h.small q)]
        constructor
        · intro h'; cases h'
        · intro h'; exact absurd h'.symm eq
  · rw [List.length_append, List.length_singleton, Nat.pow_succ]
    have h1 := h.small q
    have h2 := h.small j
    by_cases eq : q = j
    · subst eq
      rw [List.getElem?_set_self hjp, Option.getD_some]
      omega
    · rw [List.getElem?_set_ne (fun h' => eq h'.symm)]
      omega
theorem hued_more {head p : List Nat} {k : Nat} (h : Hued head p k) : Hued (head ++ [k]) (putS p k (2 ^ head.length)) (k + 1) := by
  have hl := h.len
  subst hl
  rw [put_new]
  refine ⟨by simp, fun i hi => ?_, fun i q hi hq => ?_, fun q => ?_⟩
  · rw [List.length_append, List.length_singleton] at hi
    by_cases e : i < head.length
    · rw [List.getElem?_append_left e]; have := h.lt i e; omega
    · rw [show i = head.length by omega, List.getElem?_append_right (Nat.le_refl _)]
      simp
  · rw [List.length_append, List.length_singleton] at hi
    by_cases e : i < head.length
    · rw [List.getElem?_append_left e]
      by_cases eq : q < p.length
      · rw [List.getElem?_append_left eq, h.bit i q e eq]
      · have eq' : q = p.length := by omega
        subst eq'
        rw [List.getElem?_append_right (Nat.le_refl _), Nat.sub_self]
        simp only [List.getElem?_cons_zero, Option.getD_some]
        rw [Nat.testBit_two_pow_of_ne (by omega)]
        have := h.lt i e
        constructor
        · intro h'; cases h'
        · intro h'; omega
    · have ei : i = head.length := by omega
      subst ei
      rw [List.getElem?_append_right (Nat.le_refl _), Nat.sub_self]
      simp only [List.getElem?_cons_zero, Option.getD_some]
      by_cases eq : q < p.length
      · rw [List.getElem?_append_left eq, Nat.testBit_lt_two_pow (h.small q)]
        constructor
        · intro h'; cases h'
        · intro h'; omega
      · have eq' : q = p.length := by omega
        subst eq'
        rw [List.getElem?_append_right (Nat.le_refl _), Nat.sub_self]
        simp
  · rw [List.length_append, List.length_singleton, Nat.pow_succ]
    have h1 := h.small q
    have hp : 0 < 2 ^ head.length := Nat.pow_pos (by omega)
    by_cases eq : q < p.length
    · rw [List.getElem?_append_left eq]
      omega
    · by_cases eq' : q = p.length
      · subst eq'
        rw [List.getElem?_append_right (Nat.le_refl _), Nat.sub_self]
        simp
        omega
      · rw [List.getElem?_eq_none (by simp; omega), Option.getD_none]
        omega
/-- How many paints there are from a cell on, by the sets of the colours. -/
def paintsS (L : List Nat) : Nat → List Nat → Nat
  | 0, _ => 1
  | m + 1, p => sumL (fun c => paintsS L m (putS p c (2 ^ (L.length - (m + 1))))) (freeL p (L[L.length - (m + 1)]?.getD 0))
theorem paints_sets {L : List Nat} {k : Nat} : ∀ m head p, head.length + m = L.length → Hued head p k → paintsS L m p = paintsP L k m head
  | 0, head, p, hm, h => rfl
  | m + 1, head, p, hm, h => by
    have ht : L.length - (m + 1) = head.length := by omega
    show sumL (fun c => paintsS L m (putS p c (2 ^ (L.length - (m + 1))))) (freeTo p (L[L.length - (m + 1)]?.getD 0) p.length) = sumN (fun c => if fitsP L head c then paintsP L k m (head ++ [c]) else 0) k
    rw [sumL_free, h.len, ht]
    refine sumN_congr fun c hc => ?_
    rw [hued_fits h hc]
    by_cases e : p[c]?.getD 0 &&& L[head.length]?.getD 0 = 0
    · rw [if_pos e, if_pos (decide_eq_true e), paints_sets m (head ++ [c]) _ (by simp; omega) (hued_put h hc)]
    · rw [if_neg e, if_neg (by simpa using e)]
theorem hued_none (k : Nat) : Hued [] (List.replicate k 0) k := ⟨by simp, fun i hi => absurd hi (by simp), fun i j hi => absurd hi (by simp), fun j => by
  rw [List.getElem?_replicate]
  split <;> simp⟩
theorem paints_begin (L : List Nat) (k : Nat) : paintsS L L.length (List.replicate k 0) = paintsP L k L.length [] := paints_sets L.length [] _ (by simp) (hued_none k)
theorem rep_put (k : Nat) : putS (List.replicate k 0) k 0 = List.replicate (k + 1) 0 := by
  have := put_new (List.replicate k 0) 0
  rw [List.length_replicate] at this
  rw [this, List.replicate_succ']
/-! ### Parts -/
theorem parts_put (L : List Nat) (m : Nat) (sets : List Nat) (q : Nat) (hs : Setts L.length (m + 1) sets) (hm : m + 1 ≤ L.length) :
    sumL (fun j => partsF L m (putS sets j (2 ^ (L.length - (m + 1)))) q) (freeL sets (L[L.length - (m + 1)]?.getD 0) ++ [sets.length]) = partsF L (m + 1) sets q := by
  rw [sumL_snoc, put_new, freeL, sumL_free, Nat.add_comm]
  show _ = partsF L m (sets ++ [2 ^ (L.length - (m + 1))]) q + sumN _ sets.length
  congr 1
  refine sumN_congr fun i hi => ?_
  rw [Nat.and_comm]
  by_cases e : L[L.length - (m + 1)]?.getD 0 &&& sets[i]?.getD 0 = 0
  · rw [if_pos e, if_pos e, put_eq _ hi, or_two (hs.2 i)]
  · rw [if_neg e, if_neg e]
theorem setts_put {n m j : Nat} {sets : List Nat} (h : Setts n (m + 1) sets) (hm : m + 1 ≤ n) (hj : j ≤ sets.length) : Setts n m (putS sets j (2 ^ (n - (m + 1)))) := by
  by_cases e : j = sets.length
  · subst e
    rw [put_new]
    exact setts_new h hm
  · rw [put_eq _ (by omega), or_two (h.2 j)]
    exact setts_set h hm (by omega)
/-! ### The first colours -/
/-- The sets of the first colours, ahead of cell m. -/
def firstS (L : List Nat) : Nat → List Nat
  | 0 => []
  | m + 1 => putS (firstS L m) (leastC L (firstC L m) 9 0) (2 ^ m)
/-- The first number of what is free, or that of a new part. -/
def firstF (p : List Nat) (y : Nat) : Nat := (freeL p y ++ [p.length])[0]?.getD 0
def firstSOk (L : List Nat) : Bool := (List.range L.length).all fun m => firstF (firstS L m) (L[m]?.getD 0) == leastC L (firstC L m) 9 0 && Nat.ble (leastC L (firstC L m) 9 0) (firstS L m).length && (firstS L m).all (fun x => Nat.ble x 511) && Nat.ble (firstS L m).length m
theorem firstS_all : chTab.all (fun e => firstSOk e.1) = true := by decide +kernel
end Go.Proofs.Ytdjkdjnbmhpokab

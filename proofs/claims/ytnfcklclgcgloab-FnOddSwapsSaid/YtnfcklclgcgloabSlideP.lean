/-
  Slides, purely: what is one, all orders of few numbers, the gap, numbers exchanged, exchanges that are odd.
-/
import Derived.Test.YtnfcklclgcgloabBase
import Derived.Test.YtnfcklclgcgloabReach
import Derived.Test.YtnfcklclgcgloabAscP
namespace Go.Proofs.Ytnfcklclgcgloab
open Go.RowKit
set_option linter.unusedVariables false

/-- The first k are numbers of the list's cells, each one once. -/
def OnceTo (l : List Int) (k : Nat) : Prop := ∀ i, i < k → (0 ≤ l[i]?.getD 0 ∧ l[i]?.getD 0 ≤ (l.length : Int) - 1) ∧ ¬ l[i]?.getD 0 ∈ l.take i
instance (l : List Int) (k : Nat) : Decidable (OnceTo l k) := by unfold OnceTo; infer_instance
theorem OnceTo.zero (l : List Int) : OnceTo l 0 := fun i h => absurd h (by omega)
theorem OnceTo.succ {l : List Int} {k : Nat} (h : OnceTo l k) (h1 : 0 ≤ l[k]?.getD 0) (h2 : l[k]?.getD 0 ≤ (l.length : Int) - 1) (h3 : ¬ l[k]?.getD 0 ∈ l.take k) : OnceTo l (k + 1) := fun i hi => by
  by_cases e : i = k
  · subst e; exact ⟨⟨h1, h2⟩, h3⟩
  · exact h i (by omega)
theorem OnceTo.not {l : List Int} {k : Nat} (hk : k < l.length) (h : ¬ ((0 ≤ l[k]?.getD 0 ∧ l[k]?.getD 0 ≤ (l.length : Int) - 1) ∧ ¬ l[k]?.getD 0 ∈ l.take k)) : ¬ OnceTo l l.length := fun hs => h (hs k hk)
def SlideIs (bc br : Int) (l : List Int) : Prop := Brd bc br ∧ bc * br ≤ 6 ∧ (l.length : Int) = bc * br ∧ OnceTo l l.length
instance (bc br : Int) (l : List Int) : Decidable (SlideIs bc br l) := by unfold SlideIs; infer_instance
/-- An order of the numbers below its length. -/
def Ordr (l : List Int) : Prop := l.length ≤ 6 ∧ OnceTo l l.length
theorem SlideIs.ord {bc br : Int} {l : List Int} (h : SlideIs bc br l) : Ordr l := ⟨by have := h.2.1; have := h.2.2.1; omega, h.2.2.2⟩
/-- All rows of k of the numbers below n, each one once. -/
def injL (n : Nat) : Nat → List (List Int)
  | 0 => [[]]
  | k + 1 => (injL n k).flatMap fun l => (List.range n).flatMap fun (c : Nat) => if (c : Int) ∈ l then [] else [l ++ [(c : Int)]]
theorem once_inj {l : List Int} {n : Nat} (hn : l.length = n) : ∀ k, k ≤ n → OnceTo l k → l.take k ∈ injL n k
  | 0, _, _ => by simp [injL]
  | k + 1, hk, h => by
    have ih := once_inj hn k (by omega) (fun i hi => h i (by omega))
    obtain ⟨⟨h0, h1⟩, h2⟩ := h k (by omega)
    obtain ⟨c, hc⟩ := Int.eq_ofNat_of_zero_le h0
    rw [take_snoc l k (by omega), injL, List.mem_flatMap]
    refine ⟨_, ih, ?_⟩
    rw [List.mem_flatMap]
    refine ⟨c, List.mem_range.2 (by omega), ?_⟩
    rw [if_neg (by rw [← hc]; exact h2), hc]
    exact List.mem_singleton.2 rfl
theorem ord_inj {l : List Int} (h : Ordr l) : l ∈ injL l.length l.length := by
  have := once_inj rfl l.length (Nat.le_refl _) h.2
  rwa [List.take_of_length_le (Nat.le_refl _)] at this
/-- Two numbers exchanged. -/
def swapP (l : List Int) (i k : Nat) : List Int := (l.set i (l[k]?.getD 0)).set k (l[i]?.getD 0)
theorem swapP_len (l : List Int) (i k : Nat) : (swapP l i k).length = l.length := by simp [swapP]
/-- How many numbers behind position i are less. -/
def invTo (x : Int) : List Int → Nat
  | [] => 0
  | y :: l => (if y < x then 1 else 0) + invTo x l
def invP : List Int → Nat
  | [] => 0
  | x :: l => invTo x l + invP l
def oddP (l : List Int) : Nat := invP l % 2
def onceB (l : List Int) : Bool := decide (OnceTo l l.length)
/-- Each number below its length is there; any two exchanged, it is an order still, odd where it was even. -/
def ordFact (l : List Int) : Bool := (List.range l.length).all (fun x => l.contains (x : Int)) && (List.range l.length).all fun k => (List.range k).all fun i => oddP (swapP l i k) + oddP l == 1
theorem fact0 : (injL 0 0).all ordFact = true := by decide +kernel
theorem fact1 : (injL 1 1).all ordFact = true := by decide +kernel
theorem fact2 : (injL 2 2).all ordFact = true := by decide +kernel
theorem fact3 : (injL 3 3).all ordFact = true := by decide +kernel
theorem fact4 : (injL 4 4).all ordFact = true := by decide +kernel
theorem fact5 : (injL 5 5).all ordFact = true := by decide +kernel
theorem fact6 : (injL 6 6).all ordFact = true := by decide +kernel
theorem ord_fact {l : List Int} (h : Ordr l) : ordFact l = true := by
  have hm := ord_inj h
  have h6 := h.1
  obtain e | e | e | e | e | e | e : l.length = 0 ∨ l.length = 1 ∨ l.length = 2 ∨ l.length = 3 ∨ l.length = 4 ∨ l.length = 5 ∨ l.length = 6 := by omega
  all_goals rw [e] at hm
  · exact List.all_eq_true.1 fact0 _ hm
  · exact List.all_eq_true.1 fact1 _ hm
  · exact List.all_eq_true.1 fact2 _ hm
  · exact List.all_eq_true.1 fact3 _ hm
  · exact List.all_eq_true.1 fact4 _ hm
  · exact List.all_eq_true.1 fact5 _ hm
  · exact List.all_eq_true.1 fact6 _ hm
theorem ord_has {l : List Int} (h : Ordr l) {x : Int} (h0 : 0 ≤ x) (h1 : x < (l.length : Int)) : x ∈ l := by
  have h2 := ord_fact h
  unfold ordFact at h2
  rw [Bool.and_eq_true] at h2
  obtain ⟨y, rfl⟩ := Int.eq_ofNat_of_zero_le h0
  have h3 := List.all_eq_true.1 h2.1 y (List.mem_range.2 (by omega))
  exact List.contains_iff_mem.1 h3
theorem odd_le (l : List Int) : oddP l ≤ 1 := by unfold oddP; omega
theorem ord_odd {l : List Int} (h : Ordr l) {i k : Nat} (hik : i < k) (hk : k < l.length) : oddP (swapP l i k) + oddP l = 1 := by
  have h2 := ord_fact h
  unfold ordFact at h2
  rw [Bool.and_eq_true] at h2
  have h3 := List.all_eq_true.1 (List.all_eq_true.1 h2.2 k (List.mem_range.2 hk)) i (List.mem_range.2 hik)
  exact beq_iff_eq.1 h3
/-- Orders are rows without doubles. -/
theorem once_nodup {l : List Int} : ∀ k, k ≤ l.length → OnceTo l k → (l.take k).Nodup
  | 0, _, _ => by simp
  | k + 1, hk, h => by
    rw [take_snoc l k (by omega), List.nodup_append]
    refine ⟨once_nodup k (by omega) (fun i hi => h i (by omega)), by simp, fun a ha b hb => ?_⟩
    rw [List.mem_singleton.1 hb]
    rintro rfl
    exact (h k (by omega)).2 ha
theorem nodup_once {l : List Int} (hd : l.Nodup) (hb : ∀ x ∈ l, 0 ≤ x ∧ x ≤ (l.length : Int) - 1) : OnceTo l l.length := fun i hi => by
  rw [List.getElem?_eq_getElem hi, Option.getD_some]
  refine ⟨hb _ (List.getElem_mem hi), fun hm => ?_⟩
  have hd' := hd
  rw [← List.take_append_drop i l, List.nodup_append] at hd'
  refine hd'.2.2 _ hm _ ?_ rfl
  rw [List.drop_eq_getElem_cons hi]
  exact List.mem_cons_self
theorem ord_nodup {l : List Int} (h : Ordr l) : l.Nodup := by
  have := once_nodup l.length (Nat.le_refl _) h.2
  rwa [List.take_of_length_le (Nat.le_refl _)] at this
theorem ord_in {l : List Int} (h : Ordr l) {x : Int} (hx : x ∈ l) : 0 ≤ x ∧ x ≤ (l.length : Int) - 1 := by
  obtain ⟨i, hi, rfl⟩ := List.getElem_of_mem hx
  have := (h.2 i hi).1
  rwa [List.getElem?_eq_getElem hi, Option.getD_some] at this
theorem swap_perm {l : List Int} {i k : Nat} (hi : i < l.length) (hk : k < l.length) : (swapP l i k).Perm l := by
  unfold swapP
  rw [List.getElem?_eq_getElem hi, List.getElem?_eq_getElem hk, Option.getD_some, Option.getD_some]
  exact List.set_set_perm hi hk
theorem ord_swap {l : List Int} (h : Ordr l) {i k : Nat} (hi : i < l.length) (hk : k < l.length) : Ordr (swapP l i k) := by
  have hp := swap_perm hi hk
  refine ⟨by rw [swapP_len]; exact h.1, nodup_once (hp.nodup_iff.2 (ord_nodup h)) fun x hx => ?_⟩
  rw [swapP_len]
  exact ord_in h (hp.mem_iff.1 hx)
theorem swap_at (l : List Int) (i k : Nat) (hi : i < l.length) (hk : k < l.length) (j : Nat) : (swapP l i k)[j]?.getD 0 = if j = k then l[i]?.getD 0 else if j = i then l[k]?.getD 0 else l[j]?.getD 0 := by
  unfold swapP
  by_cases e : j = k
  · subst e
    rw [if_pos rfl, List.getElem?_set_self (by simpa using hk), Option.getD_some]
  · rw [if_neg e, List.getElem?_set_ne (fun h => e h.symm)]
    by_cases e' : j = i
    · subst e'
      rw [if_pos rfl, List.getElem?_set_self hi, Option.getD_some]
    · rw [if_neg e', List.getElem?_set_ne (fun h => e' h.symm)]
/-- The first place of a number. -/
def placeP (l : List Int) (x : Int) : Nat := l.idxOf x
theorem place_lt {l : List Int} {x : Int} (h : x ∈ l) : placeP l x < l.length := List.idxOf_lt_length_of_mem h
theorem place_at {l : List Int} {x : Int} (h : x ∈ l) : l[placeP l x]?.getD 0 = x := by
  rw [List.getElem?_eq_getElem (place_lt h), Option.getD_some]
  exact List.getElem_idxOf (place_lt h)
/-- The first place is the one ahead of which there is none. -/
theorem place_is {l : List Int} {x : Int} {k : Nat} (hk : k < l.length) (hx : l[k]?.getD 0 = x) (hn : ∀ j, j < k → l[j]?.getD 0 ≠ x) : placeP l x = k := by
  have hm : x ∈ l := by rw [← hx, List.getElem?_eq_getElem hk, Option.getD_some]; exact List.getElem_mem hk
  apply Nat.le_antisymm
  · apply Nat.le_of_not_lt
    intro h
    have := List.not_of_lt_findIdx (p := (· == x)) (xs := l) (i := k) h
    rw [List.getElem?_eq_getElem hk, Option.getD_some] at hx
    simp [hx] at this
  · apply Nat.le_of_not_lt
    intro h
    exact hn _ h (place_at hm)
/-- The gap. -/
def gapP (l : List Int) : Nat := placeP l 0
theorem gap_lt {l : List Int} (h : Ordr l) (h0 : 0 < l.length) : gapP l < l.length := place_lt (ord_has h (Int.le_refl _) (by omega))
theorem gap_at {l : List Int} (h : Ordr l) (h0 : 0 < l.length) : l[gapP l]?.getD 0 = 0 := place_at (ord_has h (Int.le_refl _) (by omega))
/-- How many rows and columns together two cells are apart. -/
def apN (w a b : Nat) : Nat := ((a / w - b / w) + (b / w - a / w)) + ((a % w - b % w) + (b % w - a % w))
def nearOk (w h : Nat) : Bool := (List.range (w * h)).all fun i => (List.range (w * h)).all fun k => (cellsP (w : Int) (h : Int) false [] (i : Int) straight).contains (k : Int) == (apN w i k == 1)
theorem near_ok : ∀ a : Fin 5, ∀ b : Fin 5, nearOk (a.val + 1) (b.val + 1) = true := by decide +kernel
theorem near {w h : Nat} (hw : 1 ≤ w ∧ w ≤ 5) (hh : 1 ≤ h ∧ h ≤ 5) {i k : Nat} (hi : i < w * h) (hk : k < w * h) : (k : Int) ∈ reachP (w : Int) (h : Int) false [] (i : Int) straight ↔ apN w i k = 1 := by
  have h0 := near_ok ⟨w - 1, by omega⟩ ⟨h - 1, by omega⟩
  simp only [show w - 1 + 1 = w by omega, show h - 1 + 1 = h by omega] at h0
  have h1 := beq_iff_eq.1 (List.all_eq_true.1 (List.all_eq_true.1 h0 i (List.mem_range.2 hi)) k (List.mem_range.2 hk))
  have h2 : (k : Int) ∈ reachP (w : Int) (h : Int) false [] (i : Int) straight ↔ (k : Int) ∈ cellsP (w : Int) (h : Int) false [] (i : Int) straight := by
    unfold reachP
    exact (List.mergeSort_perm _ _).mem_iff
  rw [h2, ← List.contains_iff_mem, h1, beq_iff_eq]
theorem apN_swap (w a b : Nat) : apN w a b = apN w b a := by unfold apN; omega
/-- The slide behind a move of the number in a cell. -/
def slideOnP (bc br : Int) (l : List Int) (cell : Int) : Option (List Int) := if SlideIs bc br l ∧ (0 ≤ cell ∧ cell < bc * br) ∧ apN bc.toNat cell.toNat (gapP l) = 1 then some (swapP l (gapP l) cell.toNat) else none
def oddSwapsP (bc br : Int) (a b : List Int) : Int := if SlideIs bc br a ∧ SlideIs bc br b then (((oddP a + oddP b) % 2 : Nat) : Int) else -1
/-- The numbers without the gap. -/
def numsP (l : List Int) : List Int := l.take (gapP l) ++ l.drop (gapP l + 1)
def canSlideP (bc br : Int) (a b : List Int) : Bool := decide (SlideIs bc br a ∧ SlideIs bc br b) && if bc = 1 ∨ br = 1 then decide (numsP a = numsP b) else (oddP a + oddP b) % 2 == apN bc.toNat (gapP a) (gapP b) % 2
theorem swapP_comm (l : List Int) {i k : Nat} (h : i ≠ k) : swapP l i k = swapP l k i := by
  unfold swapP
  exact List.set_comm _ _ h
end Go.Proofs.Ytnfcklclgcgloab

/-
  Colours, purely: the fewest sets; the first colours; what the laws say of all small boards, by the kernel.
-/
import Derived.Test.YtdjkdjnbmhpokabPaintP
import Derived.Test.YtdjkdjnbmhpokabChaseP
namespace Go.Proofs.Ytdjkdjnbmhpokab
open Go.RowKit
set_option linter.unusedVariables false

/-- Whether m cells more are parted so that there are p sets in all. -/
def hasP (L : List Nat) : Nat → List Nat → Nat → Bool
  | 0, sets, p => sets.length == p
  | m + 1, sets, p => Nat.ble sets.length p && (((List.range sets.length).any fun i => (L[L.length - (m + 1)]?.getD 0 &&& sets[i]?.getD 0) == 0 && hasP L m (sets.set i (sets[i]?.getD 0 + 2 ^ (L.length - (m + 1)))) p) || hasP L m (sets ++ [2 ^ (L.length - (m + 1))]) p)
theorem sumN_ne {f : Nat → Nat} : ∀ {n}, sumN f n ≠ 0 ↔ ∃ i, i < n ∧ f i ≠ 0
  | 0 => by simp [sumN]
  | n + 1 => by
    show sumN f n + f n ≠ 0 ↔ _
    constructor
    · intro h
      by_cases e : f n = 0
      · obtain ⟨i, hi, h'⟩ := (sumN_ne (f := f) (n := n)).1 (by omega)
        exact ⟨i, by omega, h'⟩
      · exact ⟨n, by omega, e⟩
    · rintro ⟨i, hi, h⟩
      by_cases e : i = n
      · subst e; omega
      · have := (sumN_ne (f := f) (n := n)).2 ⟨i, by omega, h⟩
        omega
theorem has_iff (L : List Nat) : ∀ m sets p, partsF L m sets p ≠ 0 ↔ hasP L m sets p = true
  | 0, sets, p => by
    show (if p = sets.length then 1 else 0) ≠ 0 ↔ (sets.length == p) = true
    by_cases e : p = sets.length
    · simp [e]
    · simp [e, Ne.symm e]
  | m + 1, sets, p => by
    unfold hasP
    rw [Bool.and_eq_true, Bool.or_eq_true, List.any_eq_true, Nat.ble_eq]
    by_cases hp : sets.length ≤ p
    · unfold partsF
      constructor
      · intro h
        refine ⟨hp, ?_⟩
        by_cases e : partsF L m (sets ++ [2 ^ (L.length - (m + 1))]) p = 0
        · rw [e, Nat.zero_add] at h
          obtain ⟨i, hi, h'⟩ := sumN_ne.1 h
          refine .inl ⟨i, List.mem_range.2 hi, ?_⟩
          by_cases e2 : L[L.length - (m + 1)]?.getD 0 &&& sets[i]?.getD 0 = 0
          · rw [if_pos e2] at h'
            rw [Bool.and_eq_true, beq_iff_eq]
            exact ⟨e2, (has_iff L m _ p).1 h'⟩
          · rw [if_neg e2] at h'; exact absurd rfl h'
        · exact .inr ((has_iff L m _ p).1 e)
      · rintro ⟨_, ⟨i, hi, h⟩ | h⟩
        · rw [Bool.and_eq_true, beq_iff_eq] at h
          have := (sumN_ne (f := fun i => if L[L.length - (m + 1)]?.getD 0 &&& sets[i]?.getD 0 = 0 then partsF L m (sets.set i (sets[i]?.getD 0 + 2 ^ (L.length - (m + 1)))) p else 0)).2 ⟨i, List.mem_range.1 hi, by
            rw [if_pos h.1]
            exact (has_iff L m _ p).2 h.2⟩
          omega
        · have := (has_iff L m _ p).2 h
          omega
    · constructor
      · intro h
        exact absurd (parts_few L (m + 1) sets p (by omega)) h
      · rintro ⟨h, _⟩
        exact absurd h hp
/-- All cells apart. -/
theorem parts_most (L : List Nat) : ∀ m sets p, sets.length + m ≤ p → partsF L m sets p = if p = sets.length + m then 1 else 0
  | 0, sets, p, h => rfl
  | m + 1, sets, p, h => by
    unfold partsF
    rw [parts_most L m _ p (by simp; omega), List.length_append, List.length_singleton, sumN_congr (g := fun _ => 0) (fun i hi => by
      split
      · rw [parts_most L m _ p (by simp; omega), List.length_set, if_neg (by omega)]
      · rfl), sumN_zero, Nat.add_zero, show sets.length + 1 + m = sets.length + (m + 1) by omega]
theorem parts_none (L : List Nat) (m : Nat) : partsF L (m + 1) [] 0 = 0 := by
  unfold partsF
  rw [parts_few L m _ 0 (by simp)]
  rfl
/-- All cells in one set. -/
def oneTo (L : List Nat) : Nat → Nat → Nat
  | 0, _ => 1
  | m + 1, s => if L[L.length - (m + 1)]?.getD 0 &&& s = 0 then oneTo L m (s + 2 ^ (L.length - (m + 1))) else 0
theorem parts_one (L : List Nat) : ∀ m s, partsF L m [s] 1 = oneTo L m s
  | 0, s => rfl
  | m + 1, s => by
    unfold partsF oneTo
    rw [parts_few L m _ 1 (by simp)]
    show 0 + (0 + _) = _
    simp only [List.getElem?_cons_zero, Option.getD_some, List.set_cons_zero, Nat.zero_add]
    split
    · exact parts_one L m _
    · rfl
theorem parts_one0 (L : List Nat) (m : Nat) : partsF L (m + 1) [] 1 = oneTo L m (2 ^ (L.length - (m + 1))) := by
  unfold partsF
  rw [List.nil_append, parts_one]
  rfl
/-- The fewest sets. -/
def fewTo (L : List Nat) : Nat := ((List.range (L.length + 1)).find? fun p => hasP L L.length [] p).getD 0
theorem few_is {L : List Nat} (h1 : 1 ≤ L.length) : 1 ≤ fewTo L ∧ fewTo L ≤ L.length ∧ partsF L L.length [] (fewTo L) ≠ 0 ∧ ∀ p, p < fewTo L → partsF L L.length [] p = 0 := by
  have hm : hasP L L.length [] L.length = true := (has_iff L _ _ _).1 (by rw [parts_most L L.length [] L.length (by simp)]; simp)
  cases hf : (List.range (L.length + 1)).find? fun p => hasP L L.length [] p with
  | none =>
    have := List.find?_eq_none.1 hf L.length (List.mem_range.2 (by omega))
    exact absurd hm this
  | some q =>
    have hq : fewTo L = q := by unfold fewTo; rw [hf]; rfl
    rw [hq]
    obtain ⟨hq1, l1, l2, hab, hno⟩ := List.find?_eq_some_iff_append.1 hf
    have hql := List.mem_range.1 (List.mem_of_find?_eq_some hf)
    have hnz := (has_iff L _ _ _).2 hq1
    have hlt : ∀ p, p < q → partsF L L.length [] p = 0 := fun p hp => by
      refine Classical.byContradiction fun h => ?_
      have h := (has_iff L _ _ _).1 h
      have hp' : p ∈ l1 := by
        have h1 : p ∈ l1 ++ q :: l2 := by rw [← hab]; exact List.mem_range.2 (by omega)
        rcases List.mem_append.1 h1 with h1 | h1
        · exact h1
        · exfalso
          have hs : (List.range (L.length + 1)).Pairwise (· < ·) := List.pairwise_lt_range
          rw [hab] at hs
          rcases List.mem_cons.1 h1 with h1 | h1
          · omega
          · have := (List.pairwise_cons.1 (List.pairwise_append.1 hs).2.1).1 p h1
            omega
      have := hno p hp'
      rw [h] at this
      cases this
    refine ⟨?_, by omega, hnz, hlt⟩
    rcases Nat.eq_zero_or_pos q with h0 | h0
    · obtain ⟨m, hm⟩ : ∃ m, L.length = m + 1 := ⟨L.length - 1, by omega⟩
      rw [h0, hm, parts_none] at hnz
      exact absurd rfl hnz
    · exact h0
/-- The first colours, cell by cell. -/
def leastC (L head : List Nat) : Nat → Nat → Nat
  | 0, c => c
  | f + 1, c => if fitsP L head c then c else leastC L head f (c + 1)
def firstC (L : List Nat) : Nat → List Nat
  | 0 => []
  | m + 1 => firstC L m ++ [leastC L (firstC L m) 9 0]
theorem firstC_len (L : List Nat) : ∀ m, (firstC L m).length = m
  | 0 => rfl
  | m + 1 => by
    show (firstC L m ++ [_]).length = m + 1
    rw [List.length_append, firstC_len L m]
    rfl
def greatN : List Nat → Nat
  | [] => 0
  | x :: r => max x (greatN r)
def diffN (l : List Nat) : Nat := ((List.range l.length).filter fun i => (l.take i).all fun y => y != l[i]?.getD 0).length
/-- What the laws say of the first colours, and of the fewest. -/
def firstOk (L : List Nat) : Bool :=
  let F := firstC L L.length
  ((List.range L.length).all fun m => fitsP L (F.take m) (F[m]?.getD 0) && Nat.ble (F[m]?.getD 0) 8) &&
  ((List.range L.length).all fun i => (List.range L.length).all fun x => !(bitN (L[i]?.getD 0) x == 1 && F[x]?.getD 0 == F[i]?.getD 0)) &&
  (diffN F == greatN F + 1) && (Nat.ble (fewTo L) (greatN F + 1)) && ((oneTo L (L.length - 1) 1 == 1) == ((List.range L.length).all fun i => L[i]?.getD 0 == 0))
theorem first_all : chTab.all (fun e => firstOk e.1) = true := by decide +kernel
def boardC (bc br : Nat) : Bool :=
  (kinds6.all fun p => fewTo (setsP bc br p.2 p.1) == fewTo (setsP br bc p.2 p.1)) &&
  ((List.range (bc * br)).all fun i => (firstC (setsP bc br false straight) (bc * br))[i]?.getD 9 == (i / bc + i % bc) % 2) &&
  Nat.ble (fewTo (setsP bc br false straight)) 2 && Nat.ble (fewTo (setsP bc br false knights)) 2 && (fewTo (setsP bc br true straight) == max bc br)
theorem board_C : ∀ a : Fin 5, ∀ b : Fin 5, (a.val + 1) * (b.val + 1) ≤ 9 → boardC (a.val + 1) (b.val + 1) = true := by decide +kernel
theorem rook_paints : paintsP (setsP 1 1 true straight) 1 1 [] = 1 ∧ paintsP (setsP 2 2 true straight) 2 4 [] = 2 ∧ paintsP (setsP 3 3 true straight) 3 9 [] = 12 := by decide +kernel
end Go.Proofs.Ytdjkdjnbmhpokab

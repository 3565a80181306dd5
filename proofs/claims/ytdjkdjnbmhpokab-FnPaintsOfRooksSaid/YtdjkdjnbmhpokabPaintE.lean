
/-
  Colours: the model's PaintFirst.
-/
import Derived.Test.YtdjkdjnbmhpokabPaintC
namespace Go.Proofs.Ytdjkdjnbmhpokab
open Go.RowKit
set_option linter.unusedVariables false

def hueL (bc br : Int) (s : List UInt8) : List Nat := match smallK bc br s with
  | some (ss, far) => firstC (setsP bc br far ss) (setsP bc br far ss).length
  | none => []
def hueC (L : List Nat) (m : Nat) : Nat := leastC L (firstC L m) 9 0
theorem first_succ (L : List Nat) (m : Nat) : firstC L (m + 1) = firstC L m ++ [hueC L m] := rfl
theorem first_take (L : List Nat) : ∀ n m, m ≤ n → (firstC L n).take m = firstC L m
  | 0, m, h => by rw [show m = 0 by omega]; rfl
  | n + 1, m, h => by
    by_cases e : m = n + 1
    · subst e
      exact List.take_of_length_le (by rw [firstC_len]; omega)
    · rw [first_succ, List.take_append_of_le_length (by rw [firstC_len]; omega), first_take L n m (by omega)]
theorem first_at (L : List Nat) {n m : Nat} (h : m < n) : (firstC L n)[m]?.getD 0 = hueC L m := by
  have h1 := first_take L n (m + 1) h
  have h2 : ((firstC L n).take (m + 1))[m]?.getD 0 = (firstC L n)[m]?.getD 0 := by rw [List.getElem?_take_of_lt (by omega)]
  rw [← h2, h1, first_succ, List.getElem?_append_right (by rw [firstC_len]; omega), firstC_len, Nat.sub_self]
  rfl
/-- The colours below the least one do not fit. -/
theorem least_no (L head : List Nat) : ∀ f c0 c, c0 ≤ c → c < leastC L head f c0 → fitsP L head c = false
  | 0, c0, c, h1, h2 => absurd h2 (by show ¬ c < c0; omega)
  | f + 1, c0, c, h1, h2 => by
    unfold leastC at h2
    by_cases e : fitsP L head c0 = true
    · rw [if_pos e] at h2; omega
    · rw [if_neg e] at h2
      by_cases e2 : c = c0
      · subst e2; simpa using e
      · exact least_no L head f (c0 + 1) c (by omega) h2
/-- The first colours fit. -/
structure HueIs (L : List Nat) (n : Nat) : Prop where
  fit : ∀ m, m < n → fitsP L (firstC L m) (hueC L m) = true
  low : ∀ m, m < n → hueC L m ≤ 8
  none : ∀ m c, m < n → c < hueC L m → fitsP L (firstC L m) c = false
theorem hue_is {L : List Nat} {n : Nat} (hlen : L.length = n) (h : (chTab.any fun e => e.1 == L) = true) : HueIs L n := by
  obtain ⟨e, he, rfl, _⟩ := chOf_mem h
  have h := List.all_eq_true.1 first_all e he
  unfold firstOk at h
  simp only [Bool.and_eq_true] at h
  have h := h.1.1.1.1
  subst hlen
  have key : ∀ m, m < e.1.length → fitsP e.1 (firstC e.1 m) (hueC e.1 m) = true ∧ hueC e.1 m ≤ 8 := fun m hm => by
    have := List.all_eq_true.1 h m (List.mem_range.2 hm)
    rw [first_take _ _ _ (Nat.le_of_lt hm), first_at _ hm, Bool.and_eq_true, Nat.ble_eq] at this
    exact this
  exact ⟨fun m hm => (key m hm).1, fun m hm => (key m hm).2, fun m c hm hc => least_no _ _ 9 0 c (Nat.zero_le _) hc⟩
end Go.Proofs.Ytdjkdjnbmhpokab


/-
  Walks by chance, purely: mean times as the program tells them: cell by cell is left out.
-/
import Derived.Test.YtoapmmmmdfmaeacWalkP
namespace Go.Proofs.Ytoapmmmmdfmaeac
open Go.RowKit
set_option linter.unusedVariables false

def timesP (a b : Nat × Nat) : Nat × Nat := fracP (a.1 * b.1) (a.2 * b.2)
def quoP (a b : Nat × Nat) : Nat × Nat := fracP (a.1 * b.2) (a.2 * b.1)
/-- Two numbers of a fraction that an int holds. -/
def fit (u d : Nat) : Bool := Nat.ble u 4000000000000000000 && Nat.ble d 4000000000000000000
def plusF (a b : Nat × Nat) : Bool := Nat.ble 1 a.2 && Nat.ble 1 b.2 && Nat.ble (a.1 * b.2) 4000000000000000000 && Nat.ble (b.1 * a.2) 4000000000000000000 && fit (a.1 * b.2 + b.1 * a.2) (a.2 * b.2)
def timesF (a b : Nat × Nat) : Bool := Nat.ble 1 a.2 && Nat.ble 1 b.2 && fit (a.1 * b.1) (a.2 * b.2)
def quoF (a b : Nat × Nat) : Bool := Nat.ble 1 a.2 && Nat.ble 1 b.1 && Nat.ble 1 b.2 && fit (a.1 * b.2) (a.2 * b.1)
/-- Sums, products and quotients that an int holds; else what is no fraction. -/
def plusC (a b : Nat × Nat) : Nat × Nat := if plusF a b then plusP a b else (0, 0)
def timesC (a b : Nat × Nat) : Nat × Nat := if timesF a b then timesP a b else (0, 0)
def quoC (a b : Nat × Nat) : Nat × Nat := if quoF a b then quoP a b else (0, 0)
/-- It is a fraction. -/
def isF (p : Nat × Nat) : Bool := Nat.ble 1 p.2
theorem plusC_ok {a b : Nat × Nat} (h : isF (plusC a b) = true) : plusF a b = true ∧ plusC a b = plusP a b := by
  unfold plusC at h ⊢
  by_cases e : plusF a b = true
  · exact ⟨e, if_pos e⟩
  · rw [if_neg e] at h; cases h
theorem timesC_ok {a b : Nat × Nat} (h : isF (timesC a b) = true) : timesF a b = true ∧ timesC a b = timesP a b := by
  unfold timesC at h ⊢
  by_cases e : timesF a b = true
  · exact ⟨e, if_pos e⟩
  · rw [if_neg e] at h; cases h
theorem quoC_ok {a b : Nat × Nat} (h : isF (quoC a b) = true) : quoF a b = true ∧ quoC a b = quoP a b := by
  unfold quoC at h ⊢
  by_cases e : quoF a b = true
  · exact ⟨e, if_pos e⟩
  · rw [if_neg e] at h; cases h
theorem plusF_is {a b : Nat × Nat} (h : plusF a b = true) : 1 ≤ a.2 ∧ 1 ≤ b.2 ∧ a.1 * b.2 ≤ 4000000000000000000 ∧ b.1 * a.2 ≤ 4000000000000000000 ∧ a.1 * b.2 + b.1 * a.2 ≤ 4000000000000000000 ∧ a.2 * b.2 ≤ 4000000000000000000 := by
  unfold plusF fit at h
  simp only [Bool.and_eq_true, Nat.ble_eq] at h
  exact ⟨h.1.1.1.1, h.1.1.1.2, h.1.1.2, h.1.2, h.2.1, h.2.2⟩
theorem timesF_is {a b : Nat × Nat} (h : timesF a b = true) : 1 ≤ a.2 ∧ 1 ≤ b.2 ∧ a.1 * b.1 ≤ 4000000000000000000 ∧ a.2 * b.2 ≤ 4000000000000000000 := by
  unfold timesF fit at h
  simp only [Bool.and_eq_true, Nat.ble_eq] at h
  exact ⟨h.1.1, h.1.2, h.2.1, h.2.2⟩
theorem quoF_is {a b : Nat × Nat} (h : quoF a b = true) : 1 ≤ a.2 ∧ 1 ≤ b.1 ∧ 1 ≤ b.2 ∧ a.1 * b.2 ≤ 4000000000000000000 ∧ a.2 * b.1 ≤ 4000000000000000000 := by
  unfold quoF fit at h
  simp only [Bool.and_eq_true, Nat.ble_eq] at h
  exact ⟨h.1.1.1, h.1.1.2, h.1.2, h.2.1, h.2.2⟩
/-! ### Stops: the moves first, then how many arrive at each -/
def rAt (r : List (Nat × Nat)) (j : Nat) : Nat × Nat := r[j]?.getD (0, 0)
def mRow (M : List (List (Nat × Nat))) (i : Nat) : List (Nat × Nat) := M[i]?.getD []
def startR (L : List Nat) (a : Nat) : List (Nat × Nat) := (pcN 9 (L[a]?.getD 0), 1) :: (List.range L.length).map fun b => (bitN (L[a]?.getD 0) b, 1)
def startM (L : List Nat) : List (List (Nat × Nat)) := (List.range L.length).map (startR L)
/-- All that arrive. -/
def sumC' (r : List (Nat × Nat)) : Nat → Nat × Nat
  | 0 => (0, 1)
  | k + 1 => plusC (sumC' r k) (rAt r (k + 1))
def midAt (c : Nat) (thr : List (Nat × Nat)) (part : Nat × Nat) (r : List (Nat × Nat)) (t : Nat) : Nat × Nat := if t = c then rAt r (t + 1) else plusC (rAt r (t + 1)) (timesC part (rAt thr (t + 1)))
def headOf (thr : List (Nat × Nat)) (part : Nat × Nat) (r : List (Nat × Nat)) : Nat × Nat := plusC (rAt r 0) (timesC part (rAt thr 0))
def midRow (n c : Nat) (thr : List (Nat × Nat)) (part : Nat × Nat) (r : List (Nat × Nat)) : List (Nat × Nat) := headOf thr part r :: (List.range n).map (midAt c thr part r)
def newRow (out : Nat) (mid : List (Nat × Nat)) : List (Nat × Nat) := mid.set (out + 1) (0, 1)
def partOf (out : Nat) (r : List (Nat × Nat)) (lv : Nat × Nat) : Nat × Nat := quoC (rAt r (out + 1)) lv
/-- The row of a cell behind the leaving out of another one. -/
def leftRow (n out : Nat) (M : List (List (Nat × Nat))) (c : Nat) : List (Nat × Nat) := newRow out (midRow n c (mRow M out) (partOf out (mRow M c) (sumC' (mRow M out) n)) (mRow M c))
def leaveM (n out : Nat) (M : List (List (Nat × Nat))) : List (List (Nat × Nat)) := (List.range n).map (leftRow n out M)
/-- All of it are fractions, and the row that is left out stays. -/
structure LeaveOk (n out : Nat) (M : List (List (Nat × Nat))) : Prop where
  mid : ∀ c, c < n → (midRow n c (mRow M out) (partOf out (mRow M c) (sumC' (mRow M out) n)) (mRow M c)).all isF = true
  stay : leftRow n out M out = mRow M out
def elimTo (L : List Nat) (en : Nat) : Nat → List (List (Nat × Nat))
  | 0 => startM L
  | o + 1 => if o = en then elimTo L en o else leaveM L.length o (elimTo L en o)
def timeOf (M : List (List (Nat × Nat))) (en i : Nat) : Nat × Nat := if i = en then (0, 1) else quoC (rAt (mRow M i) 0) (rAt (mRow M i) (en + 1))
/-- What is told of a list of sets: mean times are as in the table, and all on the way are fractions. -/
structure ElimIs (L : List Nat) (C : List (List (Nat × Nat))) (en : Nat) : Prop where
  step : ∀ o, o < L.length → o ≠ en → LeaveOk L.length o (elimTo L en o)
  time : ∀ i, i < L.length → isF (hAt C i en) = true ∧ timeOf (elimTo L en L.length) en i = hAt C i en
/-! ### The same, each number told at once -/
def told (n : Nat) (k : Nat → Bool) : Bool := Nat.rec (motive := fun _ => Bool) (k 0) (fun m _ => k (Nat.succ m)) n
theorem told_eq (n : Nat) (k : Nat → Bool) : told n k = k n := by cases n <;> rfl
def toldP (p : Nat × Nat) (k : Nat × Nat → Bool) : Bool := told p.1 fun a => told p.2 fun b => k (a, b)
theorem toldP_eq (p : Nat × Nat) (k : Nat × Nat → Bool) : toldP p k = k p := by
  unfold toldP
  rw [told_eq, told_eq]
def toldR : List (Nat × Nat) → (List (Nat × Nat) → Bool) → Bool
  | [], k => k []
  | p :: r, k => toldP p fun q => toldR r fun s => k (q :: s)
theorem toldR_eq : ∀ (r : List (Nat × Nat)) (k : List (Nat × Nat) → Bool), toldR r k = k r
  | [], _ => rfl
  | p :: r, k => by
    unfold toldR
    rw [toldP_eq, toldR_eq r]
def rowsT (n out : Nat) (thr : List (Nat × Nat)) (lv : Nat × Nat) (M : List (List (Nat × Nat))) : List Nat → (List (List (Nat × Nat)) → Bool) → Bool
  | [], k => k []
  | c :: cs, k => toldP (partOf out (mRow M c) lv) fun part => toldR (midRow n c thr part (mRow M c)) fun mid => mid.all isF && (c != out || newRow out mid == thr) && rowsT n out thr lv M cs fun rest => k (newRow out mid :: rest)
theorem rowsT_is {n out : Nat} {thr : List (Nat × Nat)} {lv : Nat × Nat} {M : List (List (Nat × Nat))} : ∀ {cs : List Nat} {k : List (List (Nat × Nat)) → Bool}, rowsT n out thr lv M cs k = true →
    (∀ c ∈ cs, (midRow n c thr (partOf out (mRow M c) lv) (mRow M c)).all isF = true ∧ (c = out → newRow out (midRow n c thr (partOf out (mRow M c) lv) (mRow M c)) = thr)) ∧ k (cs.map fun c => newRow out (midRow n c thr (partOf out (mRow M c) lv) (mRow M c))) = true
  | [], k, h => ⟨fun c hc => absurd hc List.not_mem_nil, h⟩
  | c :: cs, k, h => by
    unfold rowsT at h
    rw [toldP_eq, toldR_eq] at h
    simp only [Bool.and_eq_true, Bool.or_eq_true, bne_iff_ne, ne_eq, beq_iff_eq] at h
    obtain ⟨⟨h1, h2⟩, h3⟩ := h
    obtain ⟨h4, h5⟩ := rowsT_is h3
    refine ⟨fun d hd => ?_, h5⟩
    rcases List.mem_cons.1 hd with rfl | hd
    · exact ⟨h1, fun e => h2.resolve_left (fun h' => h' e)⟩
    · exact h4 d hd
def endT (n : Nat) (C M : List (List (Nat × Nat))) (en : Nat) : Bool := (List.range n).all fun i => isF (hAt C i en) && timeOf M en i == hAt C i en
def elimT (n : Nat) (C : List (List (Nat × Nat))) (en : Nat) : List Nat → List (List (Nat × Nat)) → Bool
  | [], M => endT n C M en
  | o :: os, M => if o = en then elimT n C en os M else toldP (sumC' (mRow M o) n) fun lv => rowsT n o (mRow M o) lv M (List.range n) fun N => elimT n C en os N
theorem elimT_is {L : List Nat} {C : List (List (Nat × Nat))} {en : Nat} : ∀ m o, o + m = L.length → elimT L.length C en (List.range' o m) (elimTo L en o) = true →
    (∀ j, o ≤ j → j < L.length → j ≠ en → LeaveOk L.length j (elimTo L en j)) ∧ endT L.length C (elimTo L en L.length) en = true
  | 0, o, ho, h => by
    rw [Nat.add_zero] at ho
    subst ho
    exact ⟨fun j h1 h2 => absurd h2 (by omega), h⟩
  | m + 1, o, ho, h => by
    rw [List.range'_succ] at h
    unfold elimT at h
    have hS : elimTo L en (o + 1) = if o = en then elimTo L en o else leaveM L.length o (elimTo L en o) := rfl
    by_cases e : o = en
    · rw [if_pos e] at h
      rw [if_pos e] at hS
      rw [← hS] at h
      obtain ⟨h1, h2⟩ := elimT_is m (o + 1) (by omega) h
      exact ⟨fun j hj1 hj2 hj3 => h1 j (by omega) hj2 hj3, h2⟩
    · rw [if_neg e, toldP_eq] at h
      rw [if_neg e] at hS
      obtain ⟨h1, h2⟩ := rowsT_is h
      rw [show ((List.range L.length).map fun c => newRow o (midRow L.length c (mRow (elimTo L en o) o) (partOf o (mRow (elimTo L en o) c) (sumC' (mRow (elimTo L en o) o) L.length)) (mRow (elimTo L en o) c))) = leaveM L.length o (elimTo L en o) from rfl, ← hS] at h2
      obtain ⟨h3, h4⟩ := elimT_is m (o + 1) (by omega) h2
      refine ⟨fun j hj1 hj2 hj3 => ?_, h4⟩
      by_cases ej : j = o
      · subst ej
        exact ⟨fun c hc => (h1 c (List.mem_range.2 hc)).1, (h1 j (List.mem_range.2 hj2)).2 rfl⟩
      · exact h3 j (by omega) hj2 hj3
/-- Times back as the program tells them. -/
def sumB (L : List Nat) (C : List (List (Nat × Nat))) (c : Nat) : Nat → Nat × Nat
  | 0 => (0, 1)
  | b + 1 => if bitN (L[c]?.getD 0) b = 1 then plusC (sumB L C c b) (hAt C b c) else sumB L C c b
def backC (L : List Nat) (C : List (List (Nat × Nat))) (c : Nat) : Nat × Nat := plusC (1, 1) (quoC (sumB L C c L.length) (pcN 9 (L[c]?.getD 0), 1))
def elimAll (e : List Nat × List (List (Nat × Nat))) : Bool := (List.range e.1.length).all fun en => elimT e.1.length e.2 en (List.range' 0 e.1.length) (startM e.1)
theorem elim_is {L : List Nat} {C : List (List (Nat × Nat))} (h : elimAll (L, C) = true) {en : Nat} (he : en < L.length) : ElimIs L C en := by
  have h := List.all_eq_true.1 h en (List.mem_range.2 he)
  obtain ⟨h1, h2⟩ := elimT_is L.length 0 (by simp) h
  refine ⟨fun o ho hne => h1 o (by omega) ho hne, fun i hi => ?_⟩
  have := List.all_eq_true.1 h2 i (List.mem_range.2 hi)
  simpa using this
end Go.Proofs.Ytoapmmmmdfmaeac

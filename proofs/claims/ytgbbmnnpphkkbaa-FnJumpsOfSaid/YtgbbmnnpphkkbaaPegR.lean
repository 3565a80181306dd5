/-
  Pegs, purely: jumps cell by cell; the steps by which they are found.
-/
import Derived.Test.YtgbbmnnpphkkbaaPegQ
import Derived.Test.YtgbbmnnpphkkbaaReach
namespace Go.Proofs.Ytgbbmnnpphkkbaa
open Go.RowKit
set_option linter.unusedVariables false

/-- One cell's jumps to the first k cells. -/
def rowTo (w s i k : Nat) : List Jump := ((List.range k).filter fun k => okJ w s (i, (i + k) / 2, k)).map fun k => (i, (i + k) / 2, k)
/-- The jumps of the first i cells. -/
def jumpTo (w n s i : Nat) : List Jump := (List.range i).flatMap fun i => rowTo w s i n
theorem jumpTo_all (w n s : Nat) : jumpTo w n s n = jumpL w n s := rfl
theorem rowTo_yes {w s i k : Nat} (h : okJ w s (i, (i + k) / 2, k) = true) : rowTo w s i (k + 1) = rowTo w s i k ++ [(i, (i + k) / 2, k)] := by
  unfold rowTo
  rw [List.range_succ, List.filter_append, List.map_append]
  simp [h]
theorem rowTo_no {w s i k : Nat} (h : okJ w s (i, (i + k) / 2, k) = false) : rowTo w s i (k + 1) = rowTo w s i k := by
  unfold rowTo
  rw [List.range_succ, List.filter_append, List.map_append]
  simp [h]
theorem jumpTo_succ (w n s i : Nat) : jumpTo w n s (i + 1) = jumpTo w n s i ++ rowTo w s i n := by
  unfold jumpTo
  rw [List.range_succ, List.flatMap_append]
  simp
theorem rowTo_len (w s i : Nat) (k : Nat) : (rowTo w s i k).length ≤ k := by
  unfold rowTo
  rw [List.length_map]
  exact Nat.le_trans (List.length_filter_le _ _) (by simp)
theorem jumpTo_len (w n s : Nat) : ∀ i, (jumpTo w n s i).length ≤ i * n
  | 0 => by simp [jumpTo]
  | i + 1 => by
    have h1 := jumpTo_len w n s i
    have h2 := rowTo_len w s i n
    rw [jumpTo_succ, List.length_append, Nat.add_mul]
    omega
theorem jump_len {w n : Nat} (s : Nat) (hn : n ≤ 12) : (jumpL w n s).length ≤ 144 := Nat.le_trans (jumpTo_len w n s n) (Nat.mul_le_mul hn hn)

/-- Whether pegs make the jump, by sets. -/
def isP (s : Nat) (j : Jump) : Bool := s &&& ((2 ^ j.1 ||| 2 ^ j.2.1) ||| 2 ^ j.2.2) == (2 ^ j.1 ||| 2 ^ j.2.1)
theorem isP_is {s i m k : Nat} (hik : i ≠ k) (hmk : m ≠ k) : isP s (i, m, k) = (s.testBit i && s.testBit m && !s.testBit k) := by
  unfold isP
  rw [Bool.eq_iff_iff, beq_iff_eq]
  simp only [Bool.and_eq_true, Bool.not_eq_true']
  constructor
  · intro h
    have hb : ∀ t, (s.testBit t && ((decide (i = t) || decide (m = t)) || decide (k = t))) = (decide (i = t) || decide (m = t)) := fun t => by
      have := congrArg (fun x => x.testBit t) h
      simpa only [Nat.testBit_and, Nat.testBit_or, Nat.testBit_two_pow] using this
    have h1 := hb i
    have h2 := hb m
    have h3 := hb k
    simp [hik, hmk] at h1 h2 h3
    exact ⟨⟨h1, h2⟩, h3⟩
  · rintro ⟨⟨h1, h2⟩, h3⟩
    refine Nat.eq_of_testBit_eq fun t => ?_
    simp only [Nat.testBit_and, Nat.testBit_or, Nat.testBit_two_pow]
    by_cases e1 : i = t
    · subst e1; simp [h1]
    · by_cases e2 : m = t
      · subst e2; simp [h2]
      · by_cases e3 : k = t
        · subst e3; simp [h3, e1, e2]
        · simp [e1, e2, e3]
/-- The cells over which and to which a step goes twice. -/
def farStep (w h i : Nat) (p : Int × Int) : Option (Nat × Nat) :=
  match nextP (w : Int) (h : Int) p.1 p.2 (i : Int) with
  | none => none
  | some o => match nextP (w : Int) (h : Int) p.1 p.2 o with
    | none => none
    | some l => some (o.toNat, l.toNat)
def stepJ (w h s i : Nat) (p : Int × Int) : List Jump := match farStep w h i p with
  | none => []
  | some (o, l) => if isP s (i, o, l) then [(i, o, l)] else []
def farOk (w h : Nat) : Bool := (List.range (w * h)).all fun i => straight.filterMap (farStep w h i) == ((List.range (w * h)).filter fun k => farP w i k).map fun k => ((i + k) / 2, k)
theorem far_ok : ∀ a : Fin 5, ∀ b : Fin 5, (a.val + 1) * (b.val + 1) ≤ 12 → farOk (a.val + 1) (b.val + 1) = true := by decide +kernel
theorem flat_some {w h s i : Nat} : ∀ L : List (Int × Int), L.flatMap (stepJ w h s i) = (L.filterMap (farStep w h i)).flatMap fun q => if isP s (i, q.1, q.2) then [(i, q.1, q.2)] else []
  | [] => rfl
  | p :: L => by
    rw [List.flatMap_cons, flat_some L, List.filterMap_cons]
    unfold stepJ
    cases farStep w h i p with
    | none => rfl
    | some q => rfl
theorem flat_far {w s i : Nat} (hw : 1 ≤ w) : ∀ L : List Nat, ((L.filter fun k => farP w i k).map fun k => ((i + k) / 2, k)).flatMap (fun q => if isP s (i, q.1, q.2) then [(i, q.1, q.2)] else []) = (L.filter fun k => okJ w s (i, (i + k) / 2, k)).map fun k => (i, (i + k) / 2, k)
  | [] => rfl
  | k :: L => by
    have ih := flat_far (s := s) (i := i) hw L
    cases hf : farP w i k with
    | false =>
      have ho : okJ w s (i, (i + k) / 2, k) = false := by unfold okJ; simp [hf]
      simp only [List.filter_cons, hf, ho, if_neg Bool.false_ne_true]
      exact ih
    | true =>
      obtain ⟨a1, a2, a3, a4⟩ := far_apart hw hf
      have ho : okJ w s (i, (i + k) / 2, k) = isP s (i, (i + k) / 2, k) := by
        rw [isP_is a1 a3]; unfold okJ; simp [hf, Bool.and_assoc]
      simp only [List.filter_cons, hf, ho, if_true, List.map_cons, List.flatMap_cons, ih]
      cases hp : isP s (i, (i + k) / 2, k) with
      | false => simp
      | true => simp
/-- The jumps of one cell by the first q steps. -/
def stepTo (w h s i q : Nat) : List Jump := (straight.take q).flatMap (stepJ w h s i)
theorem stepTo_all {w h s i : Nat} (hw : 1 ≤ w ∧ w ≤ 5) (hh : 1 ≤ h ∧ h ≤ 5) (h12 : w * h ≤ 12) (hi : i < w * h) : stepTo w h s i 4 = rowTo w s i (w * h) := by
  have h0 := far_ok ⟨w - 1, by omega⟩ ⟨h - 1, by omega⟩ (by simp only [show w - 1 + 1 = w by omega, show h - 1 + 1 = h by omega]; exact h12)
  simp only [show w - 1 + 1 = w by omega, show h - 1 + 1 = h by omega] at h0
  unfold farOk at h0
  have h1 := beq_iff_eq.1 (List.all_eq_true.1 h0 i (List.mem_range.2 hi))
  show (straight.take 4).flatMap (stepJ w h s i) = _
  rw [show straight.take 4 = straight from rfl, flat_some, h1, flat_far hw.1]
  rfl
theorem stepTo_succ {w h s i q : Nat} {p : Int × Int} (hp : straight[q]? = some p) : stepTo w h s i (q + 1) = stepTo w h s i q ++ stepJ w h s i p := by
  unfold stepTo
  obtain ⟨hq, rfl⟩ := List.getElem?_eq_some_iff.1 hp
  rw [List.take_succ_eq_append_getElem hq, List.flatMap_append]
  simp
theorem flat_most (w h s i : Nat) : ∀ L : List (Int × Int), (L.flatMap (stepJ w h s i)).length ≤ L.length
  | [] => Nat.le_refl _
  | p :: L => by
    have ih := flat_most w h s i L
    rw [List.flatMap_cons, List.length_append, List.length_cons]
    have : (stepJ w h s i p).length ≤ 1 := by
      unfold stepJ
      split
      · simp
      · split <;> simp
    omega
theorem stepTo_len (w h s i : Nat) : ∀ q, (stepTo w h s i q).length ≤ 4 := fun q => by
  have h1 := flat_most w h s i (straight.take q)
  have h2 : (straight.take q).length ≤ 4 := by rw [List.length_take, show straight.length = 4 from rfl]; omega
  exact Nat.le_trans h1 h2
theorem behind_sets {w n s : Nat} {j : Jump} (h : JumpIs w n s j) : notP s (2 ^ j.1 ||| 2 ^ j.2.1) ||| 2 ^ j.2.2 = behindP s j := Nat.eq_of_testBit_eq fun t => by
  rw [behind_at h, Nat.testBit_or, notP_bit, Nat.testBit_or, Nat.testBit_two_pow, Nat.testBit_two_pow, Nat.testBit_two_pow]
  have h5 := h.ik
  have h6 := h.km
  by_cases e1 : t = j.1
  · subst e1; simp [Ne.symm h5]
  · by_cases e2 : t = j.2.1
    · subst e2; simp [Ne.symm h6]
    · rw [if_neg (by rintro (e | e); exact e1 e; exact e2 e)]
      by_cases e3 : t = j.2.2
      · subst e3; simp
      · simp [e3, Ne.symm e1, Ne.symm e2, Ne.symm e3]

/-- The jump as three numbers. -/
def rowJ (j : Jump) : List Int := [(j.1 : Int), (j.2.1 : Int), (j.2.2 : Int)]
def jumpI (L : List Jump) : List (List Int) := L.map rowJ
theorem jumpI_len (L : List Jump) : (jumpI L).length = L.length := by simp [jumpI]
theorem jumpI_app (L M : List Jump) : jumpI (L ++ M) = jumpI L ++ jumpI M := by simp [jumpI]
theorem jumpI_row (L : List Jump) : ∀ x ∈ jumpI L, x.length = 3 := fun x hx => by
  obtain ⟨j, _, rfl⟩ := List.mem_map.1 hx
  rfl
theorem jumpI_at (L : List Jump) {k : Nat} (hk : k < L.length) : (jumpI L)[k]?.getD [] = rowJ (L[k]?.getD (0, 0, 0)) := by
  unfold jumpI
  rw [List.getElem?_map, List.getElem?_eq_getElem hk]
  rfl
end Go.Proofs.Ytgbbmnnpphkkbaa


/-
  The determinant as the program reckons it, purely: along the first row, in the columns of a set, ascending.
-/
import Derived.Test.YtnikgnicjbcbmabDoorTileD
import Derived.Test.YtnikgnicjbcbmabDoorPTileA
namespace Go.Proofs.YtnikgnicjbcbmabDoor
set_option linter.unusedVariables false

def sgn (ng : Bool) : Int := if ng then -1 else 1
/-- Along a row: the columns from k on, so many more. -/
def lapF (r : List Int) (f : Nat → Int) (s : Nat) : Nat → Nat → Bool → Int
  | 0, _, _ => 0
  | j + 1, k, ng => if s.testBit k then (if r[k]?.getD 0 = 0 then 0 else sgn ng * (r[k]?.getD 0) * f (dif s (2 ^ k))) + lapF r f s j (k + 1) (!ng) else lapF r f s j (k + 1) ng
def lapP (n : Nat) : List (List Int) → Nat → Int
  | [], _ => 1
  | r :: rs, s => lapF r (lapP n rs) s n 0 false
def lapOk (w h : Nat) : Bool := (w * h) % 2 == 1 || (decide ((signsM w h).length ≤ 10) && (signsM w h).all (fun r => r.length == (signsM w h).length && r.all fun x => decide (-1 ≤ x ∧ x ≤ 1)) && (let v := lapP (signsM w h).length (signsM w h) (2 ^ (signsM w h).length - 1); (if v < 0 then -v else v) == ((rowsT w h (fun _ => false) h 0 : Nat) : Int)))
theorem lap_ok : ∀ a : Fin 5, ∀ b : Fin 5, lapOk (a.val + 1) (b.val + 1) = true := by decide +kernel

theorem lapF_succ (r : List Int) (f : Nat → Int) (s j k : Nat) (ng : Bool) : lapF r f s (j + 1) k ng = if s.testBit k then (if r[k]?.getD 0 = 0 then 0 else sgn ng * (r[k]?.getD 0) * f (dif s (2 ^ k))) + lapF r f s j (k + 1) (!ng) else lapF r f s j (k + 1) ng := rfl
theorem lapF_skip (r : List Int) (f : Nat → Int) (s : Nat) : ∀ (d j k : Nat) (ng : Bool), (∀ i, k ≤ i → i < k + d → s.testBit i = false) → lapF r f s (j + d) k ng = lapF r f s j (k + d) ng
  | 0, j, k, ng, _ => rfl
  | d + 1, j, k, ng, h => by
    rw [show j + (d + 1) = (j + d) + 1 by omega]
    unfold lapF
    rw [h k (Nat.le_refl _) (by omega), if_neg (by decide), lapF_skip r f s d j (k + 1) ng (fun i h1 h2 => h i (by omega) (by omega)), show k + 1 + d = k + (d + 1) by omega]
    cases j <;> rfl
theorem mul_one_bd {x s : Int} {F : Nat} {v : Int} (hx : -1 ≤ x ∧ x ≤ 1) (hs : s = 1 ∨ s = -1) (hv : -(F : Int) ≤ v ∧ v ≤ F) : -(F : Int) ≤ s * x * v ∧ s * x * v ≤ F := by
  have : x = -1 ∨ x = 0 ∨ x = 1 := by omega
  rcases this with rfl | rfl | rfl <;> rcases hs with rfl | rfl <;> constructor <;> simp <;> omega
theorem sgn_or (ng : Bool) : sgn ng = 1 ∨ sgn ng = -1 := by cases ng <;> simp [sgn]
theorem sgn_not (ng : Bool) : sgn (!ng) = -sgn ng := by cases ng <;> rfl
theorem lapF_bd {r : List Int} {f : Nat → Int} {F : Nat} (hr : ∀ x ∈ r, -1 ≤ x ∧ x ≤ 1) (hf : ∀ s, -(F : Int) ≤ f s ∧ f s ≤ F) (s : Nat) : ∀ (j k : Nat) (ng : Bool), -((j * F : Nat) : Int) ≤ lapF r f s j k ng ∧ lapF r f s j k ng ≤ ((j * F : Nat) : Int)
  | 0, k, ng => by simp [lapF]
  | j + 1, k, ng => by
    have hx : -1 ≤ r[k]?.getD 0 ∧ r[k]?.getD 0 ≤ 1 := by
      by_cases h : k < r.length
      · rw [List.getElem?_eq_getElem h]; exact hr _ (List.getElem_mem h)
      · rw [List.getElem?_eq_none (by omega)]; simp
    have i1 := lapF_bd hr hf s j (k + 1) ng
    have i2 := lapF_bd hr hf s j (k + 1) (!ng)
    have i3 := mul_one_bd hx (sgn_or ng) (hf (dif s (2 ^ k)))
    have e : (((j + 1) * F : Nat) : Int) = ((j * F : Nat) : Int) + (F : Int) := by rw [Nat.succ_mul]; push_cast; rfl
    unfold lapF
    rw [e]
    split
    · split <;> omega
    · omega
theorem lapP_bd (n : Nat) : ∀ (rs : List (List Int)), (∀ r ∈ rs, ∀ x ∈ r, -1 ≤ x ∧ x ≤ 1) → ∀ s, -((n ^ rs.length : Nat) : Int) ≤ lapP n rs s ∧ lapP n rs s ≤ ((n ^ rs.length : Nat) : Int)
  | [], _, s => by simp [lapP]
  | r :: rs, h, s => by
    have := lapF_bd (h r (List.mem_cons_self)) (lapP_bd n rs fun q hq => h q (List.mem_cons_of_mem _ hq)) s n 0 false
    unfold lapP
    rwa [List.length_cons, Nat.pow_succ, Nat.mul_comm (n ^ rs.length)]
/-- A set without its lowest member. -/
theorem and_pred {x n : Nat} (h0 : x ≠ 0) (h : x < 2 ^ n) (hn : n ≤ 62) : ∀ i, (x &&& (x - 1)).testBit i = (decide (low x < i) && x.testBit i) := fun i => by
  obtain ⟨l1, l2, l3⟩ := low_spec h0 h hn
  generalize low x = c at *
  have e : x = 2 ^ (c + 1) * (x / 2 ^ (c + 1)) + 2 ^ c := by
    have h1 : x % 2 ^ (c + 1) = 2 ^ c := Nat.eq_of_testBit_eq fun j => by
      rw [Nat.testBit_mod_two_pow, Nat.testBit_two_pow]
      by_cases h : j < c
      · rw [l2 j h, decide_eq_false (show ¬ c = j by omega)]; simp
      · by_cases h' : j = c
        · subst h'; rw [l1]; simp
        · rw [decide_eq_false (show ¬ j < c + 1 by omega), decide_eq_false (show ¬ c = j by omega)]; rfl
    have := Nat.div_add_mod x (2 ^ (c + 1))
    omega
  generalize x / 2 ^ (c + 1) = m at *
  have p0 : 1 ≤ 2 ^ c := Nat.one_le_two_pow
  have e2 : x - 1 = 2 ^ (c + 1) * m + (2 ^ c - 1) := by omega
  have p1 : 2 ^ (c + 1) = 2 ^ c + 2 ^ c := by rw [Nat.pow_succ]; omega
  rw [Nat.testBit_and, e2]
  rw [e, Nat.testBit_two_pow_mul_add _ (by omega), Nat.testBit_two_pow_mul_add _ (by omega), Nat.testBit_two_pow, Nat.testBit_two_pow_sub_one]
  by_cases h1 : i < c + 1
  · rw [if_pos h1, if_pos h1, decide_eq_false (show ¬ c < i by omega), Bool.false_and]
    by_cases h2 : i = c
    · subst h2; simp
    · rw [decide_eq_false (show ¬ c = i by omega)]; rfl
  · rw [if_neg h1, if_neg h1, decide_eq_true (show c < i by omega), Bool.true_and, Bool.and_self]
/-- The members from k on. -/
def UpFrom (s k left : Nat) : Prop := ∀ i, left.testBit i = (decide (k ≤ i) && s.testBit i)
theorem from_zero (s : Nat) : UpFrom s 0 s := fun i => by simp
/-- The step to the next member. -/
theorem lap_step {r : List Int} {f : Nat → Int} {s n k left : Nat} {ng : Bool} (hn : n ≤ 62) (hs : s < 2 ^ n) (hl : UpFrom s k left) (h0 : left ≠ 0) :
    left < 2 ^ n ∧ low left < n ∧ k ≤ low left ∧ UpFrom s (low left + 1) (left &&& (left - 1)) ∧ lapF r f s (n - k) k ng = (if r[low left]?.getD 0 = 0 then 0 else sgn ng * (r[low left]?.getD 0) * f (dif s (2 ^ low left))) + lapF r f s (n - (low left + 1)) (low left + 1) (!ng) ∧ (left &&& (left - 1)) < left := by
  have hlt : left < 2 ^ n := Nat.lt_pow_two_of_testBit _ fun i hi => by
    rw [hl i, Nat.testBit_lt_two_pow (Nat.lt_of_lt_of_le hs (Nat.pow_le_pow_right (by omega) hi)), Bool.and_false]
  obtain ⟨l1, l2, l3⟩ := low_spec h0 hlt hn
  have hap := and_pred h0 hlt hn
  have hle : (left &&& (left - 1)) < left := by
    have := Nat.and_le_right (n := left) (m := left - 1)
    omega
  generalize low left = c at *
  have l1' := l1
  rw [hl c, Bool.and_eq_true, decide_eq_true_eq] at l1'
  refine ⟨hlt, l3, l1'.1, fun i => ?_, ?_, hle⟩
  · rw [hap i, hl i]
    by_cases h : c < i
    · rw [decide_eq_true h, decide_eq_true (show c + 1 ≤ i by omega), decide_eq_true (show k ≤ i by omega), Bool.true_and]
    · rw [decide_eq_false h, decide_eq_false (show ¬ c + 1 ≤ i by omega)]; rfl
  · have e := lapF_skip r f s (c - k) (n - c) k ng (fun i h1 h2 => by
      have := l2 i (by omega)
      rwa [hl i, decide_eq_true h1, Bool.true_and] at this)
    rw [show n - k = (n - c) + (c - k) by omega, e, show k + (c - k) = c by omega, show n - c = (n - (c + 1)) + 1 by omega]
    rw [lapF_succ, l1'.2, if_pos rfl]
theorem lap_end {r : List Int} {f : Nat → Int} {s k : Nat} {ng : Bool} (hl : UpFrom s k 0) : ∀ j, lapF r f s j k ng = 0 := fun j => by
  have : ∀ (j d : Nat) (ng : Bool), lapF r f s j (k + d) ng = 0 := fun j => by
    induction j with
    | zero => intro d ng; rfl
    | succ j ih =>
      intro d ng
      have h := hl (k + d)
      rw [Nat.zero_testBit, decide_eq_true (show k ≤ k + d by omega), Bool.true_and] at h
      unfold lapF
      rw [← h, if_neg (by decide)]
      exact ih (d + 1) ng
  exact this j 0 ng
end Go.Proofs.YtnikgnicjbcbmabDoor

/-
  Pure, Reach, AscP in one text.
-/
import Derived.WalkKit
import Derived.Test.YtmfdlijkpdgimaaGreatDoorBase
namespace Go.Proofs.YtmfdlijkpdgimaaGreatDoor
open Go

def straight : List (Int × Int) := [(-1, 0), (0, -1), (0, 1), (1, 0)]
def slanted : List (Int × Int) := [(-1, -1), (-1, 1), (1, -1), (1, 1)]
def both : List (Int × Int) := straight ++ slanted
def knights : List (Int × Int) := [(-2, -1), (-2, 1), (-1, -2), (-1, 2), (1, -2), (1, 2), (2, -1), (2, 1)]
def flat (ss : List (Int × Int)) : List Value := ss.flatMap fun p => [.int .i64 p.1, .int .i64 p.2]

/-- The steps of a kind, and whether it goes on by them. -/
def kindL (l : List UInt8) : Option (List (Int × Int) × Bool) :=
  if l == [115, 116, 101, 112] then some (straight, false)
  else if l == [107, 105, 110, 103] then some (both, false)
  else if l == [107, 110, 105, 103, 104, 116] then some (knights, false)
  else if l == [114, 111, 111, 107] then some (straight, true)
  else if l == [98, 105, 115, 104, 111, 112] then some (slanted, true)
  else if l == [113, 117, 101, 101, 110] then some (both, true)
  else none

theorem mul_bd {a b : Int} (h1 : 1 ≤ a) (h2 : a ≤ 5) (h3 : 1 ≤ b) (h4 : b ≤ 5) : 1 ≤ a * b ∧ a * b ≤ 25 := by
  constructor
  · have := Int.mul_le_mul h1 h3 (by omega) (by omega); omega
  · have := Int.mul_le_mul h2 h4 (by omega) (by omega); omega
theorem quo_bd {cell bc : Int} (h1 : 1 ≤ bc) (h2 : bc ≤ 5) (g1 : 0 ≤ cell) (g2 : cell < 25) : (0 ≤ cell / bc ∧ cell / bc ≤ 24) ∧ (0 ≤ cell % bc ∧ cell % bc < bc) := by
  refine ⟨⟨Int.ediv_nonneg g1 (by omega), ?_⟩, Int.emod_nonneg _ (by omega), Int.emod_lt_of_pos _ (by omega)⟩
  have := Int.ediv_le_self bc g1
  omega
/-- A row that is on the board, times its columns. -/
theorem row_bd {r c bc br : Int} (h1 : 1 ≤ bc) (h2 : bc ≤ 5) (h3 : 1 ≤ br) (h4 : br ≤ 5) (g1 : 0 ≤ r) (g2 : r < br) (g3 : 0 ≤ c) (g4 : c < bc) : (0 ≤ r * bc ∧ r * bc ≤ 20) ∧ (0 ≤ r * bc + c ∧ r * bc + c < bc * br) := by
  have e1 : 0 ≤ r * bc := Int.mul_nonneg g1 (by omega)
  have e2 : r * bc ≤ (br - 1) * bc := Int.mul_le_mul_of_nonneg_right (by omega) (by omega)
  have e3 : (br - 1) * bc = bc * br - bc := by rw [Int.sub_mul, Int.one_mul, Int.mul_comm]
  have e4 : (br - 1) * bc ≤ 4 * 5 := Int.mul_le_mul (by omega) h2 (by omega) (by omega)
  omega

/-- The first k numbers are cells of a board of n, ascending. -/
def AscTo (n : Int) (l : List Int) (k : Nat) : Prop := ∀ i, i < k → (0 ≤ l[i]?.getD 0 ∧ l[i]?.getD 0 < n) ∧ (0 < i → l[i - 1]?.getD 0 < l[i]?.getD 0)
instance (n : Int) (l : List Int) (k : Nat) : Decidable (AscTo n l k) := by unfold AscTo; infer_instance
theorem AscTo.zero (n : Int) (l : List Int) : AscTo n l 0 := fun i h => absurd h (by omega)
theorem AscTo.succ {n : Int} {l : List Int} {k : Nat} (h : AscTo n l k) (h1 : 0 ≤ l[k]?.getD 0) (h2 : l[k]?.getD 0 < n) (h3 : 0 < k → l[k - 1]?.getD 0 < l[k]?.getD 0) : AscTo n l (k + 1) := fun i hi => by
  by_cases e : i = k
  · subst e; exact ⟨⟨h1, h2⟩, h3⟩
  · exact h i (by omega)
theorem AscTo.not {n : Int} {l : List Int} {k : Nat} (hk : k < l.length) (h : ¬ (0 ≤ l[k]?.getD 0 ∧ l[k]?.getD 0 < n) ∨ (0 < k ∧ l[k]?.getD 0 ≤ l[k - 1]?.getD 0)) : ¬ AscTo n l l.length := fun H => by
  obtain ⟨h1, h2⟩ := H k hk
  rcases h with h | ⟨h, h'⟩
  · exact h h1
  · have := h2 h; omega

end Go.Proofs.YtmfdlijkpdgimaaGreatDoor

namespace Go.Proofs.YtmfdlijkpdgimaaGreatDoor
open Go Go.RowKit

def nextP (bc br dr dc at_ : Int) : Option Int :=
  if 0 ≤ at_ / bc + dr ∧ at_ / bc + dr < br ∧ 0 ≤ at_ % bc + dc ∧ at_ % bc + dc < bc then some ((at_ / bc + dr) * bc + (at_ % bc + dc)) else none
def onP : Option Int → Int × Bool
  | some y => (y, true)
  | none => (0, false)
/-- From a cell on which the piece has come, itself first. -/
def rayA (bc br : Int) (far : Bool) (others : List Int) (dr dc : Int) : Nat → Int → List Int
  | 0, _ => []
  | f + 1, x => x :: (if far = true ∧ others.contains x = false then (match nextP bc br dr dc x with | some y => rayA bc br far others dr dc f y | none => []) else [])
def goesP (bc br : Int) (far : Bool) (others : List Int) (cell : Int) (p : Int × Int) : List Int :=
  match nextP bc br p.1 p.2 cell with | some y => rayA bc br far others p.1 p.2 5 y | none => []
def cellsP (bc br : Int) (far : Bool) (others : List Int) (cell : Int) (ss : List (Int × Int)) : List Int := ss.flatMap (goesP bc br far others cell)
def reachP (bc br : Int) (far : Bool) (others : List Int) (cell : Int) (ss : List (Int × Int)) : List Int := (cellsP bc br far others cell ss).mergeSort (fun x y => decide (x ≤ y))

/-- How far the edge is, in the way of the step. -/
def potP (bc br dr dc x : Int) : Int := if 0 < dr then br - 1 - x / bc else if dr < 0 then x / bc else if 0 < dc then bc - 1 - x % bc else x % bc
def okStep (p : Int × Int) : Prop := (-2 ≤ p.1 ∧ p.1 ≤ 2) ∧ (-2 ≤ p.2 ∧ p.2 ≤ 2) ∧ (p.1 ≠ 0 ∨ p.2 ≠ 0)

instance (p : Int × Int) : Decidable (okStep p) := by unfold okStep; infer_instance
theorem next_parts {bc br dr dc x y : Int} (h1 : 1 ≤ bc) (h2 : bc ≤ 5) (h3 : 1 ≤ br) (h4 : br ≤ 5) (h : nextP bc br dr dc x = some y) :
    (0 ≤ y ∧ y < bc * br) ∧ y / bc = x / bc + dr ∧ y % bc = x % bc + dc ∧ (0 ≤ x / bc + dr ∧ x / bc + dr < br) ∧ (0 ≤ x % bc + dc ∧ x % bc + dc < bc) ∧ y = (x / bc + dr) * bc + (x % bc + dc) := by
  unfold nextP at h
  by_cases hc : 0 ≤ x / bc + dr ∧ x / bc + dr < br ∧ 0 ≤ x % bc + dc ∧ x % bc + dc < bc
  · rw [if_pos hc] at h
    obtain ⟨a, b, c, d⟩ := hc
    obtain ⟨_, e⟩ := row_bd h1 h2 h3 h4 a b c d
    injection h with h
    subst h
    refine ⟨e, ?_, ?_, ⟨a, b⟩, ⟨c, d⟩, rfl⟩
    · rw [Int.add_comm, Int.add_mul_ediv_right _ _ (by omega), Int.ediv_eq_zero_of_lt c d]; omega
    · rw [Int.add_comm, Int.add_mul_emod_self_right, Int.emod_eq_of_lt c d]
  · rw [if_neg hc] at h; cases h
theorem pot_next {bc br dr dc x y : Int} (h1 : 1 ≤ bc) (h2 : bc ≤ 5) (h3 : 1 ≤ br) (h4 : br ≤ 5) (hs : okStep (dr, dc)) (h : nextP bc br dr dc x = some y) : potP bc br dr dc y < potP bc br dr dc x := by
  obtain ⟨_, e1, e2, _⟩ := next_parts h1 h2 h3 h4 h
  obtain ⟨_, _, h5⟩ := hs
  unfold potP
  rw [e1, e2]
  simp only at h5
  split
  · omega
  · split
    · omega
    · split <;> omega
theorem pot_bd {bc br dr dc x : Int} (h1 : 1 ≤ bc) (h2 : bc ≤ 5) (h3 : 1 ≤ br) (h4 : br ≤ 5) (g1 : 0 ≤ x) (g2 : x < bc * br) : 0 ≤ potP bc br dr dc x ∧ potP bc br dr dc x ≤ 4 := by
  have hq : x / bc < br := by
    refine Int.ediv_lt_of_lt_mul (by omega) ?_
    rw [Int.mul_comm]; exact g2
  have q0 : 0 ≤ x / bc := Int.ediv_nonneg g1 (by omega)
  have r0 : 0 ≤ x % bc := Int.emod_nonneg _ (by omega)
  have r1 : x % bc < bc := Int.emod_lt_of_pos _ (by omega)
  unfold potP
  split
  · omega
  · split
    · omega
    · split <;> omega
theorem ray_len (bc br : Int) (far : Bool) (others : List Int) (dr dc : Int) (f : Nat) (x : Int) : (rayA bc br far others dr dc f x).length ≤ f := by
  induction f generalizing x with
  | zero => simp [rayA]
  | succ f ih =>
    unfold rayA
    split
    · cases hn : nextP bc br dr dc x with
      | none => simp
      | some y => have := ih y; simp; omega
    · simp
theorem goes_len (bc br : Int) (far : Bool) (others : List Int) (cell : Int) (p : Int × Int) : (goesP bc br far others cell p).length ≤ 5 := by
  unfold goesP
  split
  · exact ray_len ..
  · simp
theorem cells_len (bc br : Int) (far : Bool) (others : List Int) (cell : Int) (ss : List (Int × Int)) : (cellsP bc br far others cell ss).length ≤ 5 * ss.length := by
  induction ss with
  | nil => simp [cellsP]
  | cons p l ih =>
    have := goes_len bc br far others cell p
    simp only [cellsP, List.flatMap_cons, List.length_append, List.length_cons] at ih ⊢
    omega
theorem cells_snoc (bc br : Int) (far : Bool) (others : List Int) (cell : Int) (ss : List (Int × Int)) (k : Nat) (h : k < ss.length) :
    cellsP bc br far others cell (ss.take (k + 1)) = cellsP bc br far others cell (ss.take k) ++ goesP bc br far others cell ss[k] := by
  unfold cellsP
  rw [List.take_succ_eq_append_getElem h, List.flatMap_append, List.flatMap_singleton]
/-- Every cell that is met is a cell of the board. -/
theorem ray_in {bc br : Int} {far : Bool} {others : List Int} {dr dc : Int} (h1 : 1 ≤ bc) (h2 : bc ≤ 5) (h3 : 1 ≤ br) (h4 : br ≤ 5) (f : Nat) (x : Int) (hx : 0 ≤ x ∧ x < bc * br) : ∀ y ∈ rayA bc br far others dr dc f x, 0 ≤ y ∧ y < bc * br := by
  induction f generalizing x with
  | zero => simp [rayA]
  | succ f ih =>
    intro y hy
    unfold rayA at hy
    rcases List.mem_cons.1 hy with rfl | hy
    · exact hx
    · split at hy
      · cases hn : nextP bc br dr dc x with
        | none => simp [hn] at hy
        | some z => rw [hn] at hy; exact ih z (next_parts h1 h2 h3 h4 hn).1 y hy
      · cases hy
theorem cells_in {bc br : Int} {far : Bool} {others : List Int} {cell : Int} {ss : List (Int × Int)} (h1 : 1 ≤ bc) (h2 : bc ≤ 5) (h3 : 1 ≤ br) (h4 : br ≤ 5) : ∀ y ∈ cellsP bc br far others cell ss, 0 ≤ y ∧ y < bc * br := by
  intro y hy
  simp only [cellsP, List.mem_flatMap] at hy
  obtain ⟨p, _, hy⟩ := hy
  unfold goesP at hy
  cases hn : nextP bc br p.1 p.2 cell with
  | none => simp [hn] at hy
  | some z => rw [hn] at hy; exact ray_in h1 h2 h3 h4 5 z (next_parts h1 h2 h3 h4 hn).1 y hy

/-- The two cells of step k. -/
theorem flat_at (ss : List (Int × Int)) (k : Nat) (h : k < ss.length) : (flat ss)[2 * k]? = some (.int .i64 ss[k].1) ∧ (flat ss)[2 * k + 1]? = some (.int .i64 ss[k].2) := by
  induction ss generalizing k with
  | nil => simp at h
  | cons p l ih =>
    cases k with
    | zero => simp [flat]
    | succ k =>
      have := ih k (by simpa using h)
      simp only [flat, List.flatMap_cons] at this ⊢
      rw [show 2 * (k + 1) = 2 * k + 2 from by omega]
      simpa using this
theorem Row.step {w : World} {g : Nat} {ss : List (Int × Int)} {k : Nat} (h : Row w (some ⟨g, 0, none⟩) (flat ss)) (hk : k < ss.length) :
    w.cell? ⟨g, k * 2, none⟩ = some (.int .i64 ss[k].1) ∧ w.cell? ⟨g, k * 2 + 1, none⟩ = some (.int .i64 ss[k].2) := by
  obtain ⟨e1, e2⟩ := flat_at ss k hk
  obtain ⟨l1, f1⟩ := List.getElem?_eq_some_iff.1 e1
  obtain ⟨l2, f2⟩ := List.getElem?_eq_some_iff.1 e2
  have add : ∀ j, (⟨g, 0, none⟩ : Addr).add j = ⟨g, j, none⟩ := fun j => by unfold Addr.add; split <;> simp_all
  obtain ⟨_, ⟨rfl⟩, hc⟩ := h _ l1
  obtain ⟨_, ⟨rfl⟩, hc2⟩ := h _ l2
  rw [add] at hc hc2
  exact ⟨by rw [Nat.mul_comm k 2, hc, f1], by rw [Nat.mul_comm k 2, hc2, f2]⟩

theorem ray_step (bc br : Int) (far : Bool) (others : List Int) (dr dc : Int) (f : Nat) (x : Int) (h : far = true ∧ others.contains x = false) :
    rayA bc br far others dr dc (f + 1) x = x :: (if (onP (nextP bc br dr dc x)).2 = true then rayA bc br far others dr dc f (onP (nextP bc br dr dc x)).1 else []) := by
  rw [rayA, if_pos h]
  cases nextP bc br dr dc x <;> simp [onP]
theorem ray_stop (bc br : Int) (far : Bool) (others : List Int) (dr dc : Int) (f : Nat) (x : Int) (h : ¬ (far = true ∧ others.contains x = false)) :
    rayA bc br far others dr dc (f + 1) x = [x] := by
  rw [rayA, if_neg h]
theorem goes_on (bc br : Int) (far : Bool) (others : List Int) (cell : Int) (p : Int × Int) :
    goesP bc br far others cell p = if (onP (nextP bc br p.1 p.2 cell)).2 = true then rayA bc br far others p.1 p.2 5 (onP (nextP bc br p.1 p.2 cell)).1 else [] := by
  unfold goesP
  cases nextP bc br p.1 p.2 cell <;> simp [onP]
theorem on_in {bc br dr dc x : Int} (h1 : 1 ≤ bc) (h2 : bc ≤ 5) (h3 : 1 ≤ br) (h4 : br ≤ 5) (h : (onP (nextP bc br dr dc x)).2 = true) : 0 ≤ (onP (nextP bc br dr dc x)).1 ∧ (onP (nextP bc br dr dc x)).1 < bc * br := by
  cases hn : nextP bc br dr dc x with
  | none => simp [hn, onP] at h
  | some y => exact (next_parts h1 h2 h3 h4 hn).1
theorem on_pot {bc br dr dc x : Int} (h1 : 1 ≤ bc) (h2 : bc ≤ 5) (h3 : 1 ≤ br) (h4 : br ≤ 5) (hs : okStep (dr, dc)) (h : (onP (nextP bc br dr dc x)).2 = true) : potP bc br dr dc (onP (nextP bc br dr dc x)).1 < potP bc br dr dc x := by
  cases hn : nextP bc br dr dc x with
  | none => simp [hn, onP] at h
  | some y => exact pot_next h1 h2 h3 h4 hs hn

/-- What the call owns, where there is an element. -/
theorem own_one {w : World} {base : Nat} {e : TypeId} {size n : Nat} {v : Value} {cs : List Value} (h : w.ownsRow base e size v n cs) (hn : 0 < n) : ∃ g c, v = .slice (some ⟨g, 0, none⟩) n c ∧ n ≤ c ∧ c ≤ maxLen ∧ Row w (some ⟨g, 0, none⟩) cs ∧ base ≤ g ∧ g < w.heap.size := by
  obtain ⟨A, c, rfl, hc1, hc2, hrow, hfr⟩ := own_row h
  rcases h.2 with ⟨_, rfl⟩ | ⟨g, cap, cur, e, hb, hg, _⟩
  · omega
  · injection e with e1 e2 e3
    subst e1
    exact ⟨g, c, rfl, hc1, hc2, hrow, hb, (Array.getElem?_eq_some_iff.1 hg).1⟩
theorem own_mono {w : World} {base base' e size n : Nat} {v : Value} {xs : List Value} (h : w.ownsRow base e size v n xs) (hb : base' ≤ base) : w.ownsRow base' e size v n xs := by
  refine ⟨h.1, ?_⟩
  rcases h.2 with h | ⟨g, cap, cur, e, h1, h2⟩
  · exact .inl h
  · exact .inr ⟨g, cap, cur, e, Nat.le_trans hb h1, h2⟩
/-- A row that the call owns does not lie in a block of another type. -/
theorem own_ne {w : World} {g : Nat} {t e : TypeId} {cs : Array Value} {base size n : Nat} {v : Value} {xs : List Value} (h : w.ownsRow base e size v n xs) (hg : Box w g t cs) (hne : e ≠ t) : v.ownBlock ≠ some g := by
  rcases h.2 with ⟨rfl, _⟩ | ⟨g', cap, cur, rfl, _, hh, _⟩
  · simp [Value.ownBlock]
  · intro he
    have : g' = g := by simpa [Value.ownBlock] using he
    subst this
    unfold Box at hg
    rw [hg] at hh
    injection hh with hh
    injection hh with _ ht
    exact hne ht.symm
def Brd (bc br : Int) : Prop := 1 ≤ bc ∧ bc ≤ 5 ∧ 1 ≤ br ∧ br ≤ 5
instance (bc br : Int) : Decidable (Brd bc br) := by unfold Brd; infer_instance
theorem kind_ok {s : List UInt8} {ss : List (Int × Int)} {far : Bool} (h : kindL s = some (ss, far)) : Hid (∀ p ∈ ss, okStep p) ∧ ss.length ≤ 8 ∧ 0 < ss.length := by
  have key : ∀ l ∈ [straight, both, knights, slanted], (∀ p ∈ l, okStep p) ∧ l.length ≤ 8 ∧ 0 < l.length := by
    intro l hl
    simp only [List.mem_cons, List.not_mem_nil, or_false] at hl
    rcases hl with rfl | rfl | rfl | rfl <;> exact ⟨by decide, by decide, by decide⟩
  have : ss ∈ [straight, both, knights, slanted] := by
    unfold kindL at h
    repeat' (split at h)
    all_goals simp_all
  exact key ss this
/-- REACHOF, as it should answer. -/
def reachOfP (bc br : Int) (s : List UInt8) (cell : Int) (others : List Int) : List Int :=
  match kindL s with
  | some (ss, far) => if Brd bc br ∧ (0 ≤ cell ∧ cell < bc * br) ∧ AscTo (bc * br) others others.length then reachP bc br far others cell ss else []
  | none => []
/-- ALLMOVES. -/
def sumP (bc br : Int) (far : Bool) (ss : List (Int × Int)) : Nat → Int
  | 0 => 0
  | k + 1 => sumP bc br far ss k + (reachP bc br far [] k ss).length
def allMovesP (bc br : Int) (s : List UInt8) : Int :=
  match kindL s with
  | some (ss, far) => if Brd bc br then sumP bc br far ss (bc * br).toNat else -1
  | none => -1
theorem reach_len (bc br : Int) (far : Bool) (others : List Int) (cell : Int) (ss : List (Int × Int)) : (reachP bc br far others cell ss).length ≤ 5 * ss.length := by
  unfold reachP
  rw [List.length_mergeSort]
  exact cells_len ..
theorem sum_bd (bc br : Int) (far : Bool) (ss : List (Int × Int)) (hn : ss.length ≤ 8) (k : Nat) : 0 ≤ sumP bc br far ss k ∧ sumP bc br far ss k ≤ 40 * k := by
  induction k with
  | zero => simp [sumP]
  | succ k ih =>
    have := reach_len bc br far [] k ss
    unfold sumP
    omega
end Go.Proofs.YtmfdlijkpdgimaaGreatDoor

/-
  Numbers put into their places one by one are sorted numbers: plain mathematics. Nothing of a program.
-/
namespace Go.Proofs.YtmfdlijkpdgimaaGreatDoor
open Go Go.RowKit

def insP (x : Int) : List Int → List Int
  | [] => [x]
  | y :: t => if y < x then y :: insP x t else x :: y :: t
def ascP (l : List Int) : List Int := l.foldl (fun o x => insP x o) []
theorem ins_at {x : Int} {out : List Int} {j : Nat} (h : ∀ m, m < j → out[m]?.getD 0 < x) (hj : j ≤ out.length) (he : j = out.length ∨ x ≤ out[j]?.getD 0) : out.take j ++ x :: out.drop j = insP x out := by
  induction out generalizing j with
  | nil => simp at hj; subst hj; simp [insP]
  | cons y t ih =>
    cases j with
    | zero =>
      simp only [List.length_cons, List.getElem?_cons_zero, Option.getD_some] at he
      have : ¬ y < x := by omega
      simp [insP, this]
    | succ j =>
      have h0 := h 0 (by omega)
      simp only [List.getElem?_cons_zero, Option.getD_some] at h0
      rw [insP, if_pos h0, ← ih (j := j) (fun m hm => by simpa using h (m + 1) (by omega)) (by simpa using hj) (by simpa using he)]
      simp
theorem ins_perm (x : Int) (out : List Int) : (insP x out).Perm (x :: out) := by
  induction out with
  | nil => exact List.Perm.refl _
  | cons y t ih =>
    unfold insP
    split
    · exact (List.Perm.cons y ih).trans (List.Perm.swap x y t)
    · exact List.Perm.refl _
theorem ins_sorted {x : Int} {out : List Int} (h : out.Pairwise (· ≤ ·)) : (insP x out).Pairwise (· ≤ ·) := by
  induction out with
  | nil => simp [insP]
  | cons y t ih =>
    rw [List.pairwise_cons] at h
    unfold insP
    split
    · rw [List.pairwise_cons]
      refine ⟨fun z hz => ?_, ih h.2⟩
      rcases List.mem_cons.1 ((ins_perm x t).mem_iff.1 hz) with rfl | hz
      · omega
      · exact h.1 z hz
    · rw [List.pairwise_cons]
      refine ⟨fun z hz => ?_, List.pairwise_cons.2 h⟩
      rcases List.mem_cons.1 hz with rfl | hz
      · omega
      · have := h.1 z hz; omega
theorem asc_fold (l o : List Int) (h : o.Pairwise (· ≤ ·)) : (l.foldl (fun o x => insP x o) o).Pairwise (· ≤ ·) ∧ (l.foldl (fun o x => insP x o) o).Perm (l ++ o) := by
  induction l generalizing o with
  | nil => exact ⟨h, List.Perm.refl _⟩
  | cons x l ih =>
    obtain ⟨h1, h2⟩ := ih (insP x o) (ins_sorted h)
    refine ⟨h1, h2.trans ?_⟩
    refine ((List.Perm.append_left l (ins_perm x o))).trans ?_
    exact List.perm_middle
theorem ascP_eq (l : List Int) : ascP l = l.mergeSort (fun x y => decide (x ≤ y)) := by
  obtain ⟨h1, h2⟩ := asc_fold l [] List.Pairwise.nil
  rw [List.append_nil] at h2
  refine List.Perm.eq_of_pairwise (le := (· ≤ ·)) (fun a b _ _ h h' => by omega) h1 ?_ (h2.trans (List.mergeSort_perm l _).symm)
  have := List.pairwise_mergeSort (le := fun x y : Int => decide (x ≤ y)) (fun a b c h h' => by simp at h h' ⊢; omega) (fun a b => by simp; omega) l
  exact this.imp (fun h => by simpa using h)
theorem asc_snoc (l : List Int) (k : Nat) (hk : k < l.length) : ascP (l.take (k + 1)) = insP (l[k]?.getD 0) (ascP (l.take k)) := by
  unfold ascP
  rw [take_snoc l k hk, List.foldl_append]
  rfl
theorem ins_len (x : Int) (out : List Int) : (insP x out).length = out.length + 1 := (ins_perm x out).length_eq
end Go.Proofs.YtmfdlijkpdgimaaGreatDoor

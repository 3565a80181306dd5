/-
  What a ray is, and what is reached: plain mathematics. Nothing of a program.
-/
import Derived.Test.YtdjkdjnbmhpokabBase
import Derived.Test.YtdjkdjnbmhpokabPure
namespace Go.Proofs.Ytdjkdjnbmhpokab
open Go Go.RowKit

def nextP (bc br dr dc at_ : Int) : Option Int :=
  if 0 ≤ at_ / bc + dr ∧ at_ / bc + dr < br ∧ 0 ≤ at_ % bc + dc ∧ at_ % bc + dc < bc then some ((at_ / bc + dr) * bc + (at_ % bc + dc)) else none
def onP : Option Int → Int × Bool
  | some y => (y, true)
  | none => (0, false)
/-- From a cell on which the piece has come, itself first. -/
def rayA (bc br : Int) (far : Bool) (others : List Int) (dr dc : Int) : Nat → Int → List Int
  | 0, _ => []
  | f + 1, x => x :: (if far = true ∧ others.contains x = false then (match nextP bc br dr dc x with | some y => rayA bc br far others dr dc f y | none => []) else [])
def goesP (bc br : Int) (far : Bool) (others : List Int) (cell : Int) (p : Int × Int) : List Int :=
  match nextP bc br p.1 p.2 cell with | some y => rayA bc br far others p.1 p.2 5 y | none => []
def cellsP (bc br : Int) (far : Bool) (others : List Int) (cell : Int) (ss : List (Int × Int)) : List Int := ss.flatMap (goesP bc br far others cell)
def reachP (bc br : Int) (far : Bool) (others : List Int) (cell : Int) (ss : List (Int × Int)) : List Int := (cellsP bc br far others cell ss).mergeSort (fun x y => decide (x ≤ y))

/-- How far the edge is, in the way of the step. -/
def potP (bc br dr dc x : Int) : Int := if 0 < dr then br - 1 - x / bc else if dr < 0 then x / bc else if 0 < dc then bc - 1 - x % bc else x % bc
def okStep (p : Int × Int) : Prop := (-2 ≤ p.1 ∧ p.1 ≤ 2) ∧ (-2 ≤ p.2 ∧ p.2 ≤ 2) ∧ (p.1 ≠ 0 ∨ p.2 ≠ 0)

instance (p : Int × Int) : Decidable (okStep p) := by unfold okStep; infer_instance
theorem next_parts {bc br dr dc x y : Int} (h1 : 1 ≤ bc) (h2 : bc ≤ 5) (h3 : 1 ≤ br) (h4 : br ≤ 5) (h : nextP bc br dr dc x = some y) :
    (0 ≤ y ∧ y < bc * br) ∧ y / bc = x / bc + dr ∧ y % bc = x % bc + dc ∧ (0 ≤ x / bc + dr ∧ x / bc + dr < br) ∧ (0 ≤ x % bc + dc ∧ x % bc + dc < bc) ∧ y = (x / bc + dr) * bc + (x % bc + dc) := by
  unfold nextP at h
  by_cases hc : 0 ≤ x / bc + dr ∧ x / bc + dr < br ∧ 0 ≤ x % bc + dc ∧ x % bc + dc < bc
  · rw [if_pos hc] at h
    obtain ⟨a, b, c, d⟩ := hc
    obtain ⟨_, e⟩ := row_bd h1 h2 h3 h4 a b c d
    injection h with h
    subst h
    refine ⟨e, ?_, ?_, ⟨a, b⟩, ⟨c, d⟩, rfl⟩
    · rw [Int.add_comm, Int.add_mul_ediv_right _ _ (by omega), Int.ediv_eq_zero_of_lt c d]; omega
    · rw [Int.add_comm, Int.add_mul_emod_self_right, Int.emod_eq_of_lt c d]
  · rw [if_neg hc] at h; cases h
theorem pot_next {bc br dr dc x y : Int} (h1 : 1 ≤ bc) (h2 : bc ≤ 5) (h3 : 1 ≤ br) (h4 : br ≤ 5) (hs : okStep (dr, dc)) (h : nextP bc br dr dc x = some y) : potP bc br dr dc y < potP bc br dr dc x := by
  obtain ⟨_, e1, e2, _⟩ := next_parts h1 h2 h3 h4 h
  obtain ⟨_, _, h5⟩ := hs
  unfold potP
  rw [e1, e2]
  simp only at h5
  split
  · omega
  · split
    · omega
    · split <;> omega
theorem pot_bd {bc br dr dc x : Int} (h1 : 1 ≤ bc) (h2 : bc ≤ 5) (h3 : 1 ≤ br) (h4 : br ≤ 5) (g1 : 0 ≤ x) (g2 : x < bc * br) : 0 ≤ potP bc br dr dc x ∧ potP bc br dr dc x ≤ 4 := by
  have hq : x / bc < br := by
    refine Int.ediv_lt_of_lt_mul (by omega) ?_
    rw [Int.mul_comm]; exact g2
  have q0 : 0 ≤ x / bc := Int.ediv_nonneg g1 (by omega)
  have r0 : 0 ≤ x % bc := Int.emod_nonneg _ (by omega)
  have r1 : x % bc < bc := Int.emod_lt_of_pos _ (by omega)
  unfold potP
  split
  · omega
  · split
    · omega
    · split <;> omega
theorem ray_len (bc br : Int) (far : Bool) (others : List Int) (dr dc : Int) (f : Nat) (x : Int) : (rayA bc br far others dr dc f x).length ≤ f := by
  induction f generalizing x with
  | zero => simp [rayA]
  | succ f ih =>
    unfold rayA
    split
    · cases hn : nextP bc br dr dc x with
      | none => simp
      | some y => have := ih y; simp; omega
    · simp
theorem goes_len (bc br : Int) (far : Bool) (others : List Int) (cell : Int) (p : Int × Int) : (goesP bc br far others cell p).length ≤ 5 := by
  unfold goesP
  split
  · exact ray_len ..
  · simp
theorem cells_len (bc br : Int) (far : Bool) (others : List Int) (cell : Int) (ss : List (Int × Int)) : (cellsP bc br far others cell ss).length ≤ 5 * ss.length := by
  induction ss with
  | nil => simp [cellsP]
  | cons p l ih =>
    have := goes_len bc br far others cell p
    simp only [cellsP, List.flatMap_cons, List.length_append, List.length_cons] at ih ⊢
    omega
theorem cells_snoc (bc br : Int) (far : Bool) (others : List Int) (cell : Int) (ss : List (Int × Int)) (k : Nat) (h : k < ss.length) :
    cellsP bc br far others cell (ss.take (k + 1)) = cellsP bc br far others cell (ss.take k) ++ goesP bc br far others cell ss[k] := by
  unfold cellsP
  rw [List.take_succ_eq_append_getElem h, List.flatMap_append, List.flatMap_singleton]
/-- Every cell that is met is a cell of the board. -/
theorem ray_in {bc br : Int} {far : Bool} {others : List Int} {dr dc : Int} (h1 : 1 ≤ bc) (h2 : bc ≤ 5) (h3 : 1 ≤ br) (h4 : br ≤ 5) (f : Nat) (x : Int) (hx : 0 ≤ x ∧ x < bc * br) : ∀ y ∈ rayA bc br far others dr dc f x, 0 ≤ y ∧ y < bc * br := by
  induction f generalizing x with
  | zero => simp [rayA]
  | succ f ih =>
    intro y hy
    unfold rayA at hy
    rcases List.mem_cons.1 hy with rfl | hy
    · exact hx
    · split at hy
      · cases hn : nextP bc br dr dc x with
        | none => simp [hn] at hy
        | some z => rw [hn] at hy; exact ih z (next_parts h1 h2 h3 h4 hn).1 y hy
      · cases hy
theorem cells_in {bc br : Int} {far : Bool} {others : List Int} {cell : Int} {ss : List (Int × Int)} (h1 : 1 ≤ bc) (h2 : bc ≤ 5) (h3 : 1 ≤ br) (h4 : br ≤ 5) : ∀ y ∈ cellsP bc br far others cell ss, 0 ≤ y ∧ y < bc * br := by
  intro y hy
  simp only [cellsP, List.mem_flatMap] at hy
  obtain ⟨p, _, hy⟩ := hy
  unfold goesP at hy
  cases hn : nextP bc br p.1 p.2 cell with
  | none => simp [hn] at hy
  | some z => rw [hn] at hy; exact ray_in h1 h2 h3 h4 5 z (next_parts h1 h2 h3 h4 hn).1 y hy

/-- The two cells of step k. -/
theorem flat_at (ss : List (Int × Int)) (k : Nat) (h : k < ss.length) : (flat ss)[2 * k]? = some (.int .i64 ss[k].1) ∧ (flat ss)[2 * k + 1]? = some (.int .i64 ss[k].2) := by
  induction ss generalizing k with
  | nil => simp at h
  | cons p l ih =>
    cases k with
    | zero => simp [flat]
    | succ k =>
      have := ih k (by simpa using h)
      simp only [flat, List.flatMap_cons] at this ⊢
      rw [show 2 * (k + 1) = 2 * k + 2 from by omega]
      simpa using this
theorem Row.step {w : World} {g : Nat} {ss : List (Int × Int)} {k : Nat} (h : Row w (some ⟨g, 0, none⟩) (flat ss)) (hk : k < ss.length) :
    w.cell? ⟨g, k * 2, none⟩ = some (.int .i64 ss[k].1) ∧ w.cell? ⟨g, k * 2 + 1, none⟩ = some (.int .i64 ss[k].2) := by
  obtain ⟨e1, e2⟩ := flat_at ss k hk
  obtain ⟨l1, f1⟩ := List.getElem?_eq_some_iff.1 e1
  obtain ⟨l2, f2⟩ := List.getElem?_eq_some_iff.1 e2
  have add : ∀ j, (⟨g, 0, none⟩ : Addr).add j = ⟨g, j, none⟩ := fun j => by unfold Addr.add; split <;> simp_all
  obtain ⟨_, ⟨rfl⟩, hc⟩ := h _ l1
  obtain ⟨_, ⟨rfl⟩, hc2⟩ := h _ l2
  rw [add] at hc hc2
  exact ⟨by rw [Nat.mul_comm k 2, hc, f1], by rw [Nat.mul_comm k 2, hc2, f2]⟩

theorem ray_step (bc br : Int) (far : Bool) (others : List Int) (dr dc : Int) (f : Nat) (x : Int) (h : far = true ∧ others.contains x = false) :
    rayA bc br far others dr dc (f + 1) x = x :: (if (onP (nextP bc br dr dc x)).2 = true then rayA bc br far others dr dc f (onP (nextP bc br dr dc x)).1 else []) := by
  rw [rayA, if_pos h]
  cases nextP bc br dr dc x <;> simp [onP]
theorem ray_stop (bc br : Int) (far : Bool) (others : List Int) (dr dc : Int) (f : Nat) (x : Int) (h : ¬ (far = true ∧ others.contains x = false)) :
    rayA bc br far others dr dc (f + 1) x = [x] := by
  rw [rayA, if_neg h]
theorem goes_on (bc br : Int) (far : Bool) (others : List Int) (cell : Int) (p : Int × Int) :
    goesP bc br far others cell p = if (onP (nextP bc br p.1 p.2 cell)).2 = true then rayA bc br far others p.1 p.2 5 (onP (nextP bc br p.1 p.2 cell)).1 else [] := by
  unfold goesP
  cases nextP bc br p.1 p.2 cell <;> simp [onP]
theorem on_in {bc br dr dc x : Int} (h1 : 1 ≤ bc) (h2 : bc ≤ 5) (h3 : 1 ≤ br) (h4 : br ≤ 5) (h : (onP (nextP bc br dr dc x)).2 = true) : 0 ≤ (onP (nextP bc br dr dc x)).1 ∧ (onP (nextP bc br dr dc x)).1 < bc * br := by
  cases hn : nextP bc br dr dc x with
  | none => simp [hn, onP] at h
  | some y => exact (next_parts h1 h2 h3 h4 hn).1
theorem on_pot {bc br dr dc x : Int} (h1 : 1 ≤ bc) (h2 : bc ≤ 5) (h3 : 1 ≤ br) (h4 : br ≤ 5) (hs : okStep (dr, dc)) (h : (onP (nextP bc br dr dc x)).2 = true) : potP bc br dr dc (onP (nextP bc br dr dc x)).1 < potP bc br dr dc x := by
  cases hn : nextP bc br dr dc x with
  | none => simp [hn, onP] at h
  | some y => exact pot_next h1 h2 h3 h4 hs hn

/-- What the call owns, where there is an element. -/
theorem own_one {w : World} {base : Nat} {e : TypeId} {size n : Nat} {v : Value} {cs : List Value} (h : w.ownsRow base e size v n cs) (hn : 0 < n) : ∃ g c, v = .slice (some ⟨g, 0, none⟩) n c ∧ n ≤ c ∧ c ≤ maxLen ∧ Row w (some ⟨g, 0, none⟩) cs ∧ base ≤ g ∧ g < w.heap.size := by
  obtain ⟨A, c, rfl, hc1, hc2, hrow, hfr⟩ := own_row h
  rcases h.2 with ⟨_, rfl⟩ | ⟨g, cap, cur, e, hb, hg, _⟩
  · omega
  · injection e with e1 e2 e3
    subst e1
    exact ⟨g, c, rfl, hc1, hc2, hrow, hb, (Array.getElem?_eq_some_iff.1 hg).1⟩
theorem own_mono {w : World} {base base' e size n : Nat} {v : Value} {xs : List Value} (h : w.ownsRow base e size v n xs) (hb : base' ≤ base) : w.ownsRow base' e size v n xs := by
  refine ⟨h.1, ?_⟩
  rcases h.2 with h | ⟨g, cap, cur, e, h1, h2⟩
  · exact .inl h
  · exact .inr ⟨g, cap, cur, e, Nat.le_trans hb h1, h2⟩
/-- A row that the call owns does not lie in a block of another type. -/
theorem own_ne {w : World} {g : Nat} {t e : TypeId} {cs : Array Value} {base size n : Nat} {v : Value} {xs : List Value} (h : w.ownsRow base e size v n xs) (hg : Box w g t cs) (hne : e ≠ t) : v.ownBlock ≠ some g := by
  rcases h.2 with ⟨rfl, _⟩ | ⟨g', cap, cur, rfl, _, hh, _⟩
  · simp [Value.ownBlock]
  · intro he
    have : g' = g := by simpa [Value.ownBlock] using he
    subst this
    unfold Box at hg
    rw [hg] at hh
    injection hh with hh
    injection hh with _ ht
    exact hne ht.symm
def Brd (bc br : Int) : Prop := 1 ≤ bc ∧ bc ≤ 5 ∧ 1 ≤ br ∧ br ≤ 5
instance (bc br : Int) : Decidable (Brd bc br) := by unfold Brd; infer_instance
theorem kind_ok {s : List UInt8} {ss : List (Int × Int)} {far : Bool} (h : kindL s = some (ss, far)) : Hid (∀ p ∈ ss, okStep p) ∧ ss.length ≤ 8 ∧ 0 < ss.length := by
  have key : ∀ l ∈ [straight, both, knights, slanted], (∀ p ∈ l, okStep p) ∧ l.length ≤ 8 ∧ 0 < l.length := by
    intro l hl
    simp only [List.mem_cons, List.not_mem_nil, or_false] at hl
    rcases hl with rfl | rfl | rfl | rfl <;> exact ⟨by decide, by decide, by decide⟩
  have : ss ∈ [straight, both, knights, slanted] := by
    unfold kindL at h
    repeat' (split at h)
    all_goals simp_all
  exact key ss this
/-- REACHOF, as it should answer. -/
def reachOfP (bc br : Int) (s : List UInt8) (cell : Int) (others : List Int) : List Int :=
  match kindL s with
  | some (ss, far) => if Brd bc br ∧ (0 ≤ cell ∧ cell < bc * br) ∧ AscTo (bc * br) others others.length then reachP bc br far others cell ss else []
  | none => []
/-- ALLMOVES. -/
def sumP (bc br : Int) (far : Bool) (ss : List (Int × Int)) : Nat → Int
  | 0 => 0
  | k + 1 => sumP bc br far ss k + (reachP bc br far [] k ss).length
def allMovesP (bc br : Int) (s : List UInt8) : Int :=
  match kindL s with
  | some (ss, far) => if Brd bc br then sumP bc br far ss (bc * br).toNat else -1
  | none => -1
theorem reach_len (bc br : Int) (far : Bool) (others : List Int) (cell : Int) (ss : List (Int × Int)) : (reachP bc br far others cell ss).length ≤ 5 * ss.length := by
  unfold reachP
  rw [List.length_mergeSort]
  exact cells_len ..
theorem sum_bd (bc br : Int) (far : Bool) (ss : List (Int × Int)) (hn : ss.length ≤ 8) (k : Nat) : 0 ≤ sumP bc br far ss k ∧ sumP bc br far ss k ≤ 40 * k := by
  induction k with
  | zero => simp [sumP]
  | succ k ih =>
    have := reach_len bc br far [] k ss
    unfold sumP
    omega
end Go.Proofs.Ytdjkdjnbmhpokab

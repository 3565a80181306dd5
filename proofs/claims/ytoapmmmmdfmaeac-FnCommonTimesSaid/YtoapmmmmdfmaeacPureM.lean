/-
  Pure, Reach, AllFacts, AscP, Bfs, MovesFacts, Seg in one text.
-/
import Derived.WalkKit
import Derived.Test.YtoapmmmmdfmaeacBase
import Derived.ArgAppend
namespace Go.Proofs.Ytoapmmmmdfmaeac
open Go

def straight : List (Int × Int) := [(-1, 0), (0, -1), (0, 1), (1, 0)]
def slanted : List (Int × Int) := [(-1, -1), (-1, 1), (1, -1), (1, 1)]
def both : List (Int × Int) := straight ++ slanted
def knights : List (Int × Int) := [(-2, -1), (-2, 1), (-1, -2), (-1, 2), (1, -2), (1, 2), (2, -1), (2, 1)]
def flat (ss : List (Int × Int)) : List Value := ss.flatMap fun p => [.int .i64 p.1, .int .i64 p.2]

/-- The steps of a kind, and whether it goes on by them. -/
def kindL (l : List UInt8) : Option (List (Int × Int) × Bool) :=
  if l == [115, 116, 101, 112] then some (straight, false)
  else if l == [107, 105, 110, 103] then some (both, false)
  else if l == [107, 110, 105, 103, 104, 116] then some (knights, false)
  else if l == [114, 111, 111, 107] then some (straight, true)
  else if l == [98, 105, 115, 104, 111, 112] then some (slanted, true)
  else if l == [113, 117, 101, 101, 110] then some (both, true)
  else none

theorem mul_bd {a b : Int} (h1 : 1 ≤ a) (h2 : a ≤ 5) (h3 : 1 ≤ b) (h4 : b ≤ 5) : 1 ≤ a * b ∧ a * b ≤ 25 := by
  constructor
  · have := Int.mul_le_mul h1 h3 (by omega) (by omega); omega
  · have := Int.mul_le_mul h2 h4 (by omega) (by omega); omega
theorem quo_bd {cell bc : Int} (h1 : 1 ≤ bc) (h2 : bc ≤ 5) (g1 : 0 ≤ cell) (g2 : cell < 25) : (0 ≤ cell / bc ∧ cell / bc ≤ 24) ∧ (0 ≤ cell % bc ∧ cell % bc < bc) := by
  refine ⟨⟨Int.ediv_nonneg g1 (by omega), ?_⟩, Int.emod_nonneg _ (by omega), Int.emod_lt_of_pos _ (by omega)⟩
  have := Int.ediv_le_self bc g1
  omega
/-- A row that is on the board, times its columns. -/
theorem row_bd {r c bc br : Int} (h1 : 1 ≤ bc) (h2 : bc ≤ 5) (h3 : 1 ≤ br) (h4 : br ≤ 5) (g1 : 0 ≤ r) (g2 : r < br) (g3 : 0 ≤ c) (g4 : c < bc) : (0 ≤ r * bc ∧ r * bc ≤ 20) ∧ (0 ≤ r * bc + c ∧ r * bc + c < bc * br) := by
  have e1 : 0 ≤ r * bc := Int.mul_nonneg g1 (by omega)
  have e2 : r * bc ≤ (br - 1) * bc := Int.mul_le_mul_of_nonneg_right (by omega) (by omega)
  have e3 : (br - 1) * bc = bc * br - bc := by rw [Int.sub_mul, Int.one_mul, Int.mul_comm]
  have e4 : (br - 1) * bc ≤ 4 * 5 := Int.mul_le_mul (by omega) h2 (by omega) (by omega)
  omega

/-- The first k numbers are cells of a board of n, ascending. -/
def AscTo (n : Int) (l : List Int) (k : Nat) : Prop := ∀ i, i < k → (0 ≤ l[i]?.getD 0 ∧ l[i]?.getD 0 < n) ∧ (0 < i → l[i - 1]?.getD 0 < l[i]?.getD 0)
instance (n : Int) (l : List Int) (k : Nat) : Decidable (AscTo n l k) := by unfold AscTo; infer_instance
theorem AscTo.zero (n : Int) (l : List Int) : AscTo n l 0 := fun i h => absurd h (by omega)
theorem AscTo.succ {n : Int} {l : List Int} {k : Nat} (h : AscTo n l k) (h1 : 0 ≤ l[k]?.getD 0) (h2 : l[k]?.getD 0 < n) (h3 : 0 < k → l[k - 1]?.getD 0 < l[k]?.getD 0) : AscTo n l (k + 1) := fun i hi => by
  by_cases e : i = k
  · subst e; exact ⟨⟨h1, h2⟩, h3⟩
  · exact h i (by omega)
theorem AscTo.not {n : Int} {l : List Int} {k : Nat} (hk : k < l.length) (h : ¬ (0 ≤ l[k]?.getD 0 ∧ l[k]?.getD 0 < n) ∨ (0 < k ∧ l[k]?.getD 0 ≤ l[k - 1]?.getD 0)) : ¬ AscTo n l l.length := fun H => by
  obtain ⟨h1, h2⟩ := H k hk
  rcases h with h | ⟨h, h'⟩
  · exact h h1
  · have := h2 h; omega

end Go.Proofs.Ytoapmmmmdfmaeac

namespace Go.Proofs.Ytoapmmmmdfmaeac
open Go Go.RowKit

def nextP (bc br dr dc at_ : Int) : Option Int :=
  if 0 ≤ at_ / bc + dr ∧ at_ / bc + dr < br ∧ 0 ≤ at_ % bc + dc ∧ at_ % bc + dc < bc then some ((at_ / bc + dr) * bc + (at_ % bc + dc)) else none
def onP : Option Int → Int × Bool
  | some y => (y, true)
  | none => (0, false)
/-- From a cell on which the piece has come, itself first. -/
def rayA (bc br : Int) (far : Bool) (others : List Int) (dr dc : Int) : Nat → Int → List Int
  | 0, _ => []
  | f + 1, x => x :: (if far = true ∧ others.contains x = false then (match nextP bc br dr dc x with | some y => rayA bc br far others dr dc f y | none => []) else [])
def goesP (bc br : Int) (far : Bool) (others : List Int) (cell : Int) (p : Int × Int) : List Int :=
  match nextP bc br p.1 p.2 cell with | some y => rayA bc br far others p.1 p.2 5 y | none => []
def cellsP (bc br : Int) (far : Bool) (others : List Int) (cell : Int) (ss : List (Int × Int)) : List Int := ss.flatMap (goesP bc br far others cell)
def reachP (bc br : Int) (far : Bool) (others : List Int) (cell : Int) (ss : List (Int × Int)) : List Int := (cellsP bc br far others cell ss).mergeSort (fun x y => decide (x ≤ y))

/-- How far the edge is, in the way of the step. -/
def potP (bc br dr dc x : Int) : Int := if 0 < dr then br - 1 - x / bc else if dr < 0 then x / bc else if 0 < dc then bc - 1 - x % bc else x % bc
def okStep (p : Int × Int) : Prop := (-2 ≤ p.1 ∧ p.1 ≤ 2) ∧ (-2 ≤ p.2 ∧ p.2 ≤ 2) ∧ (p.1 ≠ 0 ∨ p.2 ≠ 0)

instance (p : Int × Int) : Decidable (okStep p) := by unfold okStep; infer_instance
theorem next_parts {bc br dr dc x y : Int} (h1 : 1 ≤ bc) (h2 : bc ≤ 5) (h3 : 1 ≤ br) (h4 : br ≤ 5) (h : nextP bc br dr dc x = some y) :
    (0 ≤ y ∧ y < bc * br) ∧ y / bc = x / bc + dr ∧ y % bc = x % bc + dc ∧ (0 ≤ x / bc + dr ∧ x / bc + dr < br) ∧ (0 ≤ x % bc + dc ∧ x % bc + dc < bc) ∧ y = (x / bc + dr) * bc + (x % bc + dc) := by
  unfold nextP at h
  by_cases hc : 0 ≤ x / bc + dr ∧ x / bc + dr < br ∧ 0 ≤ x % bc + dc ∧ x % bc + dc < bc
  · rw [if_pos hc] at h
    obtain ⟨a, b, c, d⟩ := hc
    obtain ⟨_, e⟩ := row_bd h1 h2 h3 h4 a b c d
    injection h with h
    subst h
    refine ⟨e, ?_, ?_, ⟨a, b⟩, ⟨c, d⟩, rfl⟩
    · rw [Int.add_comm, Int.add_mul_ediv_right _ _ (by omega), Int.ediv_eq_zero_of_lt c d]; omega
    · rw [Int.add_comm, Int.add_mul_emod_self_right, Int.emod_eq_of_lt c d]
  · rw [if_neg hc] at h; cases h
theorem pot_next {bc br dr dc x y : Int} (h1 : 1 ≤ bc) (h2 : bc ≤ 5) (h3 : 1 ≤ br) (h4 : br ≤ 5) (hs : okStep (dr, dc)) (h : nextP bc br dr dc x = some y) : potP bc br dr dc y < potP bc br dr dc x := by
  obtain ⟨_, e1, e2, _⟩ := next_parts h1 h2 h3 h4 h
  obtain ⟨_, _, h5⟩ := hs
  unfold potP
  rw [e1, e2]
  simp only at h5
  split
  · omega
  · split
    · omega
    · split <;> omega
theorem pot_bd {bc br dr dc x : Int} (h1 : 1 ≤ bc) (h2 : bc ≤ 5) (h3 : 1 ≤ br) (h4 : br ≤ 5) (g1 : 0 ≤ x) (g2 : x < bc * br) : 0 ≤ potP bc br dr dc x ∧ potP bc br dr dc x ≤ 4 := by
  have hq : x / bc < br := by
    refine Int.ediv_lt_of_lt_mul (by omega) ?_
    rw [Int.mul_comm]; exact g2
  have q0 : 0 ≤ x / bc := Int.ediv_nonneg g1 (by omega)
  have r0 : 0 ≤ x % bc := Int.emod_nonneg _ (by omega)
  have r1 : x % bc < bc := Int.emod_lt_of_pos _ (by omega)
  unfold potP
  split
  · omega
  · split
    · omega
    · split <;> omega
theorem ray_len (bc br : Int) (far : Bool) (others : List Int) (dr dc : Int) (f : Nat) (x : Int) : (rayA bc br far others dr dc f x).length ≤ f := by
  induction f generalizing x with
  | zero => simp [rayA]
  | succ f ih =>
    unfold rayA
    split
    · cases hn : nextP bc br dr dc x with
      | none => simp
      | some y => have := ih y; simp; omega
    · simp
theorem goes_len (bc br : Int) (far : Bool) (others : List Int) (cell : Int) (p : Int × Int) : (goesP bc br far others cell p).length ≤ 5 := by
  unfold goesP
  split
  · exact ray_len ..
  · simp
theorem cells_len (bc br : Int) (far : Bool) (others : List Int) (cell : Int) (ss : List (Int × Int)) : (cellsP bc br far others cell ss).length ≤ 5 * ss.length := by
  induction ss with
  | nil => simp [cellsP]
  | cons p l ih =>
    have := goes_len bc br far others cell p
    simp only [cellsP, List.flatMap_cons, List.length_append, List.length_cons] at ih ⊢
    omega
theorem cells_snoc (bc br : Int) (far : Bool) (others : List Int) (cell : Int) (ss : List (Int × Int)) (k : Nat) (h : k < ss.length) :
    cellsP bc br far others cell (ss.take (k + 1)) = cellsP bc br far others cell (ss.take k) ++ goesP bc br far others cell ss[k] := by
  unfold cellsP
  rw [List.take_succ_eq_append_getElem h, List.flatMap_append, List.flatMap_singleton]
/-- Every cell that is met is a cell of the board. -/
theorem ray_in {bc br : Int} {far : Bool} {others : List Int} {dr dc : Int} (h1 : 1 ≤ bc) (h2 : bc ≤ 5) (h3 : 1 ≤ br) (h4 : br ≤ 5) (f : Nat) (x : Int) (hx : 0 ≤ x ∧ x < bc * br) : ∀ y ∈ rayA bc br far others dr dc f x, 0 ≤ y ∧ y < bc * br := by
  induction f generalizing x with
  | zero => simp [rayA]
  | succ f ih =>
    intro y hy
    unfold rayA at hy
    rcases List.mem_cons.1 hy with rfl | hy
    · exact hx
    · split at hy
      · cases hn : nextP bc br dr dc x with
        | none => simp [hn] at hy
        | some z => rw [hn] at hy; exact ih z (next_parts h1 h2 h3 h4 hn).1 y hy
      · cases hy
theorem cells_in {bc br : Int} {far : Bool} {others : List Int} {cell : Int} {ss : List (Int × Int)} (h1 : 1 ≤ bc) (h2 : bc ≤ 5) (h3 : 1 ≤ br) (h4 : br ≤ 5) : ∀ y ∈ cellsP bc br far others cell ss, 0 ≤ y ∧ y < bc * br := by
  intro y hy
  simp only [cellsP, List.mem_flatMap] at hy
  obtain ⟨p, _, hy⟩ := hy
  unfold goesP at hy
  cases hn : nextP bc br p.1 p.2 cell with
  | none => simp [hn] at hy
  | some z => rw [hn] at hy; exact ray_in h1 h2 h3 h4 5 z (next_parts h1 h2 h3 h4 hn).1 y hy

/-- The two cells of step k. -/
theorem flat_at (ss : List (Int × Int)) (k : Nat) (h : k < ss.length) : (flat ss)[2 * k]? = some (.int .i64 ss[k].1) ∧ (flat ss)[2 * k + 1]? = some (.int .i64 ss[k].2) := by
  induction ss generalizing k with
  | nil => simp at h
  | cons p l ih =>
    cases k with
    | zero => simp [flat]
    | succ k =>
      have := ih k (by simpa using h)
      simp only [flat, List.flatMap_cons] at this ⊢
      rw [show 2 * (k + 1) = 2 * k + 2 from by omega]
      simpa using this
theorem Row.step {w : World} {g : Nat} {ss : List (Int × Int)} {k : Nat} (h : Row w (some ⟨g, 0, none⟩) (flat ss)) (hk : k < ss.length) :
    w.cell? ⟨g, k * 2, none⟩ = some (.int .i64 ss[k].1) ∧ w.cell? ⟨g, k * 2 + 1, none⟩ = some (.int .i64 ss[k].2) := by
  obtain ⟨e1, e2⟩ := flat_at ss k hk
  obtain ⟨l1, f1⟩ := List.getElem?_eq_some_iff.1 e1
  obtain ⟨l2, f2⟩ := List.getElem?_eq_some_iff.1 e2
  have add : ∀ j, (⟨g, 0, none⟩ : Addr).add j = ⟨g, j, none⟩ := fun j => by unfold Addr.add; split <;> simp_all
  obtain ⟨_, ⟨rfl⟩, hc⟩ := h _ l1
  obtain ⟨_, ⟨rfl⟩, hc2⟩ := h _ l2
  rw [add] at hc hc2
  exact ⟨by rw [Nat.mul_comm k 2, hc, f1], by rw [Nat.mul_comm k 2, hc2, f2]⟩

theorem ray_step (bc br : Int) (far : Bool) (others : List Int) (dr dc : Int) (f : Nat) (x : Int) (h : far = true ∧ others.contains x = false) :
    rayA bc br far others dr dc (f + 1) x = x :: (if (onP (nextP bc br dr dc x)).2 = true then rayA bc br far others dr dc f (onP (nextP bc br dr dc x)).1 else []) := by
  rw [rayA, if_pos h]
  cases nextP bc br dr dc x <;> simp [onP]
theorem ray_stop (bc br : Int) (far : Bool) (others : List Int) (dr dc : Int) (f : Nat) (x : Int) (h : ¬ (far = true ∧ others.contains x = false)) :
    rayA bc br far others dr dc (f + 1) x = [x] := by
  rw [rayA, if_neg h]
theorem goes_on (bc br : Int) (far : Bool) (others : List Int) (cell : Int) (p : Int × Int) :
    goesP bc br far others cell p = if (onP (nextP bc br p.1 p.2 cell)).2 = true then rayA bc br far others p.1 p.2 5 (onP (nextP bc br p.1 p.2 cell)).1 else [] := by
  unfold goesP
  cases nextP bc br p.1 p.2 cell <;> simp [onP]
theorem on_in {bc br dr dc x : Int} (h1 : 1 ≤ bc) (h2 : bc ≤ 5) (h3 : 1 ≤ br) (h4 : br ≤ 5) (h : (onP (nextP bc br dr dc x)).2 = true) : 0 ≤ (onP (nextP bc br dr dc x)).1 ∧ (onP (nextP bc br dr dc x)).1 < bc * br := by
  cases hn : nextP bc br dr dc x with
  | none => simp [hn, onP] at h
  | some y => exact (next_parts h1 h2 h3 h4 hn).1
theorem on_pot {bc br dr dc x : Int} (h1 : 1 ≤ bc) (h2 : bc ≤ 5) (h3 : 1 ≤ br) (h4 : br ≤ 5) (hs : okStep (dr, dc)) (h : (onP (nextP bc br dr dc x)).2 = true) : potP bc br dr dc (onP (nextP bc br dr dc x)).1 < potP bc br dr dc x := by
  cases hn : nextP bc br dr dc x with
  | none => simp [hn, onP] at h
  | some y => exact pot_next h1 h2 h3 h4 hs hn

/-- What the call owns, where there is an element. -/
theorem own_one {w : World} {base : Nat} {e : TypeId} {size n : Nat} {v : Value} {cs : List Value} (h : w.ownsRow base e size v n cs) (hn : 0 < n) : ∃ g c, v = .slice (some ⟨g, 0, none⟩) n c ∧ n ≤ c ∧ c ≤ maxLen ∧ Row w (some ⟨g, 0, none⟩) cs ∧ base ≤ g ∧ g < w.heap.size := by
  obtain ⟨A, c, rfl, hc1, hc2, hrow, hfr⟩ := own_row h
  rcases h.2 with ⟨_, rfl⟩ | ⟨g, cap, cur, e, hb, hg, _⟩
  · omega
  · injection e with e1 e2 e3
    subst e1
    exact ⟨g, c, rfl, hc1, hc2, hrow, hb, (Array.getElem?_eq_some_iff.1 hg).1⟩
theorem own_mono {w : World} {base base' e size n : Nat} {v : Value} {xs : List Value} (h : w.ownsRow base e size v n xs) (hb : base' ≤ base) : w.ownsRow base' e size v n xs := by
  refine ⟨h.1, ?_⟩
  rcases h.2 with h | ⟨g, cap, cur, e, h1, h2⟩
  · exact .inl h
  · exact .inr ⟨g, cap, cur, e, Nat.le_trans hb h1, h2⟩
/-- A row that the call owns does not lie in a block of another type. -/
theorem own_ne {w : World} {g : Nat} {t e : TypeId} {cs : Array Value} {base size n : Nat} {v : Value} {xs : List Value} (h : w.ownsRow base e size v n xs) (hg : Box w g t cs) (hne : e ≠ t) : v.ownBlock ≠ some g := by
  rcases h.2 with ⟨rfl, _⟩ | ⟨g', cap, cur, rfl, _, hh, _⟩
  · simp [Value.ownBlock]
  · intro he
    have : g' = g := by simpa [Value.ownBlock] using he
    subst this
    unfold Box at hg
    rw [hg] at hh
    injection hh with hh
    injection hh with _ ht
    exact hne ht.symm
def Brd (bc br : Int) : Prop := 1 ≤ bc ∧ bc ≤ 5 ∧ 1 ≤ br ∧ br ≤ 5
instance (bc br : Int) : Decidable (Brd bc br) := by unfold Brd; infer_instance
theorem kind_ok {s : List UInt8} {ss : List (Int × Int)} {far : Bool} (h : kindL s = some (ss, far)) : Hid (∀ p ∈ ss, okStep p) ∧ ss.length ≤ 8 ∧ 0 < ss.length := by
  have key : ∀ l ∈ [straight, both, knights, slanted], (∀ p ∈ l, okStep p) ∧ l.length ≤ 8 ∧ 0 < l.length := by
    intro l hl
    simp only [List.mem_cons, List.not_mem_nil, or_false] at hl
    rcases hl with rfl | rfl | rfl | rfl <;> exact ⟨by decide, by decide, by decide⟩
  have : ss ∈ [straight, both, knights, slanted] := by
    unfold kindL at h
    repeat' (split at h)
    all_goals simp_all
  exact key ss this
/-- REACHOF, as it should answer. -/
def reachOfP (bc br : Int) (s : List UInt8) (cell : Int) (others : List Int) : List Int :=
  match kindL s with
  | some (ss, far) => if Brd bc br ∧ (0 ≤ cell ∧ cell < bc * br) ∧ AscTo (bc * br) others others.length then reachP bc br far others cell ss else []
  | none => []
/-- ALLMOVES. -/
def sumP (bc br : Int) (far : Bool) (ss : List (Int × Int)) : Nat → Int
  | 0 => 0
  | k + 1 => sumP bc br far ss k + (reachP bc br far [] k ss).length
def allMovesP (bc br : Int) (s : List UInt8) : Int :=
  match kindL s with
  | some (ss, far) => if Brd bc br then sumP bc br far ss (bc * br).toNat else -1
  | none => -1
theorem reach_len (bc br : Int) (far : Bool) (others : List Int) (cell : Int) (ss : List (Int × Int)) : (reachP bc br far others cell ss).length ≤ 5 * ss.length := by
  unfold reachP
  rw [List.length_mergeSort]
  exact cells_len ..
theorem sum_bd (bc br : Int) (far : Bool) (ss : List (Int × Int)) (hn : ss.length ≤ 8) (k : Nat) : 0 ≤ sumP bc br far ss k ∧ sumP bc br far ss k ≤ 40 * k := by
  induction k with
  | zero => simp [sumP]
  | succ k ih =>
    have := reach_len bc br far [] k ss
    unfold sumP
    omega
end Go.Proofs.Ytoapmmmmdfmaeac

namespace Go.Proofs.Ytoapmmmmdfmaeac
open Go Go.RowKit

def sumC (bc br : Int) (far : Bool) (ss : List (Int × Int)) : Nat → Int
  | 0 => 0
  | k + 1 => sumC bc br far ss k + (cellsP bc br far [] k ss).length
theorem sumP_eq (bc br : Int) (far : Bool) (ss : List (Int × Int)) (k : Nat) : sumP bc br far ss k = sumC bc br far ss k := by
  induction k with
  | zero => rfl
  | succ k ih =>
    unfold sumP sumC
    rw [ih, reachP, List.length_mergeSort]
def six : List (List (Int × Int) × Bool) := [(straight, false), (both, false), (knights, false), (straight, true), (slanted, true), (both, true)]
theorem kind_six {s : List UInt8} {ss : List (Int × Int)} {far : Bool} (h : kindL s = some (ss, far)) : (ss, far) ∈ six := by
  unfold kindL at h
  repeat' (split at h)
  all_goals first | (simp only [Option.some.injEq] at h; rw [← h]; decide) | cases h
theorem boards (P : Int → Int → Prop) (h : ∀ a : Fin 5, ∀ b : Fin 5, P ((a.val : Int) + 1) ((b.val : Int) + 1)) {bc br : Int} (hB : Brd bc br) : P bc br := by
  obtain ⟨h1, h2, h3, h4⟩ := hB
  have := h ⟨(bc - 1).toNat, by omega⟩ ⟨(br - 1).toNat, by omega⟩
  simp only at this
  rwa [show (((bc - 1).toNat : Int) + 1) = bc by omega, show (((br - 1).toNat : Int) + 1) = br by omega] at this
def allOk (bc br : Int) : Bool :=
  let f := fun (p : List (Int × Int) × Bool) (a b : Int) => sumC a b p.2 p.1 (a * b).toNat
  six.all (fun p => f p bc br % 2 == 0 && f p br bc == f p bc br) && f (straight, true) bc br == bc * br * (bc + br - 2) && f (straight, false) bc br == 2 * ((bc - 1) * br + bc * (br - 1)) &&
    f (both, false) bc br == 2 * ((bc - 1) * br + bc * (br - 1)) + 4 * (bc - 1) * (br - 1) && f (both, true) bc br == f (straight, true) bc br + f (slanted, true) bc br
set_option maxRecDepth 100000 in
theorem all_ok : ∀ a : Fin 5, ∀ b : Fin 5, allOk ((a.val : Int) + 1) ((b.val : Int) + 1) = true := by decide +kernel
end Go.Proofs.Ytoapmmmmdfmaeac

namespace Go.Proofs.Ytoapmmmmdfmaeac
open Go Go.RowKit

def insP (x : Int) : List Int → List Int
  | [] => [x]
  | y :: t => if y < x then y :: insP x t else x :: y :: t
def ascP (l : List Int) : List Int := l.foldl (fun o x => insP x o) []
theorem ins_at {x : Int} {out : List Int} {j : Nat} (h : ∀ m, m < j → out[m]?.getD 0 < x) (hj : j ≤ out.length) (he : j = out.length ∨ x ≤ out[j]?.getD 0) : out.take j ++ x :: out.drop j = insP x out := by
  induction out generalizing j with
  | nil => simp at hj; subst hj; simp [insP]
  | cons y t ih =>
    cases j with
    | zero =>
      simp only [List.length_cons, List.getElem?_cons_zero, Option.getD_some] at he
      have : ¬ y < x := by omega
      simp [insP, this]
    | succ j =>
      have h0 := h 0 (by omega)
      simp only [List.getElem?_cons_zero, Option.getD_some] at h0
      rw [insP, if_pos h0, ← ih (j := j) (fun m hm => by simpa using h (m + 1) (by omega)) (by simpa using hj) (by simpa using he)]
      simp
theorem ins_perm (x : Int) (out : List Int) : (insP x out).Perm (x :: out) := by
  induction out with
  | nil => exact List.Perm.refl _
  | cons y t ih =>
    unfold insP
    split
    · exact (List.Perm.cons y ih).trans (List.Perm.swap x y t)
    · exact List.Perm.refl _
theorem ins_sorted {x : Int} {out : List Int} (h : out.Pairwise (· ≤ ·)) : (insP x out).Pairwise (· ≤ ·) := by
  induction out with
  | nil => simp [insP]
  | cons y t ih =>
    rw [List.pairwise_cons] at h
    unfold insP
    split
    · rw [List.pairwise_cons]
      refine ⟨fun z hz => ?_, ih h.2⟩
      rcases List.mem_cons.1 ((ins_perm x t).mem_iff.1 hz) with rfl | hz
      · omega
      · exact h.1 z hz
    · rw [List.pairwise_cons]
      refine ⟨fun z hz => ?_, List.pairwise_cons.2 h⟩
      rcases List.mem_cons.1 hz with rfl | hz
      · omega
      · have := h.1 z hz; omega
theorem asc_fold (l o : List Int) (h : o.Pairwise (· ≤ ·)) : (l.foldl (fun o x => insP x o) o).Pairwise (· ≤ ·) ∧ (l.foldl (fun o x => insP x o) o).Perm (l ++ o) := by
  induction l generalizing o with
  | nil => exact ⟨h, List.Perm.refl _⟩
  | cons x l ih =>
    obtain ⟨h1, h2⟩ := ih (insP x o) (ins_sorted h)
    refine ⟨h1, h2.trans ?_⟩
    refine ((List.Perm.append_left l (ins_perm x o))).trans ?_
    exact List.perm_middle
theorem ascP_eq (l : List Int) : ascP l = l.mergeSort (fun x y => decide (x ≤ y)) := by
  obtain ⟨h1, h2⟩ := asc_fold l [] List.Pairwise.nil
  rw [List.append_nil] at h2
  refine List.Perm.eq_of_pairwise (le := (· ≤ ·)) (fun a b _ _ h h' => by omega) h1 ?_ (h2.trans (List.mergeSort_perm l _).symm)
  have := List.pairwise_mergeSort (le := fun x y : Int => decide (x ≤ y)) (fun a b c h h' => by simp at h h' ⊢; omega) (fun a b => by simp; omega) l
  exact this.imp (fun h => by simpa using h)
theorem asc_snoc (l : List Int) (k : Nat) (hk : k < l.length) : ascP (l.take (k + 1)) = insP (l[k]?.getD 0) (ascP (l.take k)) := by
  unfold ascP
  rw [take_snoc l k hk, List.foldl_append]
  rfl
theorem ins_len (x : Int) (out : List Int) : (insP x out).length = out.length + 1 := (ins_perm x out).length_eq
end Go.Proofs.Ytoapmmmmdfmaeac

namespace Go.Proofs.Ytoapmmmmdfmaeac
open Go Go.RowKit
set_option linter.unusedVariables false

/-- What one next cell does to the numbers and to the list of cells met. -/
def visitP (x : Int) (st : List Int × List Int) (y : Int) : List Int × List Int :=
  if st.1[y.toNat]?.getD 0 < 0 then (st.1.set y.toNat (st.1[x.toNat]?.getD 0 + 1), st.2 ++ [y]) else st
def expandP (bc br : Int) (far : Bool) (ss : List (Int × Int)) (x : Int) (st : List Int × List Int) : List Int × List Int := (reachP bc br far [] x ss).foldl (visitP x) st
def bfsP (bc br : Int) (far : Bool) (ss : List (Int × Int)) : Nat → List Int × List Int → Nat → List Int
  | 0, st, _ => st.1
  | f + 1, st, i => if i < st.2.length then bfsP bc br far ss f (expandP bc br far ss (st.2[i]?.getD 0) st) (i + 1) else st.1
def movesP (bc br : Int) (far : Bool) (ss : List (Int × Int)) (cell : Int) : List Int :=
  bfsP bc br far ss 26 ((List.replicate (bc * br).toNat (-1)).set cell.toNat 0, [cell]) 0

structure Met (N : Nat) (st : List Int × List Int) : Prop where
  len : st.1.length = N
  mem : ∀ y ∈ st.2, (0 ≤ y ∧ y < N) ∧ 0 ≤ st.1[y.toNat]?.getD 0
  cnt : st.1.countP (fun v => decide (v < 0)) + st.2.length = N
  bd : ∀ v ∈ st.1, -1 ≤ v ∧ v ≤ st.2.length
theorem Met.le {N : Nat} {st : List Int × List Int} (h : Met N st) : st.2.length ≤ N := by have := h.cnt; omega
theorem Met.at_bd {N : Nat} {st : List Int × List Int} (h : Met N st) (y : Int) (h0 : 0 ≤ y) (h1 : y < N) : -1 ≤ st.1[y.toNat]?.getD 0 ∧ st.1[y.toNat]?.getD 0 ≤ st.2.length := by
  have hl : y.toNat < st.1.length := by rw [h.len]; omega
  rw [List.getElem?_eq_getElem hl, Option.getD_some]
  exact h.bd _ (List.getElem_mem hl)
theorem Met.start {N : Nat} {cell : Int} (h0 : 0 ≤ cell) (h1 : cell < N) : Met N ((List.replicate N (-1)).set cell.toNat 0, [cell]) := by
  have hl : cell.toNat < (List.replicate N (-1 : Int)).length := by simp; omega
  refine ⟨by simp, fun y hy => ?_, ?_, fun v hv => ?_⟩
  · simp only [List.mem_singleton] at hy
    subst hy
    refine ⟨⟨h0, h1⟩, ?_⟩
    rw [List.getElem?_set_self hl]; simp
  · simp only
    have hN : 0 < N := by omega
    rw [List.countP_set hl, List.countP_replicate]
    simp
    omega
  · rcases List.mem_or_eq_of_mem_set hv with hv | hv
    · have := List.eq_of_mem_replicate hv; simp only [List.length_cons, List.length_nil]; omega
    · simp only [List.length_cons, List.length_nil]; omega
theorem Met.visit {N : Nat} {st : List Int × List Int} (h : Met N st) {x y : Int} (hx : x ∈ st.2) (y0 : 0 ≤ y) (y1 : y < N) : Met N (visitP x st y) ∧ ∃ l, (visitP x st y).2 = st.2 ++ l := by
  unfold visitP
  split
  · rename_i hneg
    obtain ⟨⟨x0, x1⟩, x2⟩ := h.mem x hx
    have xb := h.at_bd x x0 x1
    have hl : y.toNat < st.1.length := by rw [h.len]; omega
    have hyv : st.1[y.toNat] < 0 := by rw [List.getElem?_eq_getElem hl, Option.getD_some] at hneg; exact hneg
    refine ⟨⟨by simpa using h.len, fun z hz => ?_, ?_, fun v hv => ?_⟩, ⟨[y], rfl⟩⟩
    · simp only [List.mem_append, List.mem_singleton] at hz
      by_cases e : z.toNat = y.toNat
      · have hzz : z = y ∨ z ∈ st.2 := by rcases hz with hz | hz
                                          · exact .inr hz
                                          · exact .inl hz
        have z0 : 0 ≤ z ∧ z < N := by
          rcases hzz with rfl | hz
          · exact ⟨y0, y1⟩
          · exact (h.mem z hz).1
        refine ⟨z0, ?_⟩
        simp only
        rw [e, List.getElem?_set_self hl, Option.getD_some]
        omega
      · rcases hz with hz | rfl
        · obtain ⟨a, b⟩ := h.mem z hz
          refine ⟨a, ?_⟩
          simp only
          rw [List.getElem?_set_ne (fun e' => e e'.symm)]
          exact b
        · exact absurd rfl e
    · simp only
      rw [List.countP_set hl]
      have hc := h.cnt
      have hpos : 0 < st.1.countP (fun v => decide (v < 0)) := List.countP_pos_iff.2 ⟨_, List.getElem_mem hl, by simpa using hyv⟩
      rw [if_pos (by simpa using hyv), if_neg (by simp; omega), List.length_append, List.length_singleton]
      omega
    · simp only [List.length_append, List.length_singleton]
      rcases List.mem_or_eq_of_mem_set hv with hv | rfl
      · have := h.bd v hv; omega
      · omega
  · exact ⟨h, [], by simp⟩
theorem fold_met {N : Nat} (x : Int) (l : List Int) (hl : ∀ y ∈ l, 0 ≤ y ∧ y < N) {st : List Int × List Int} (h : Met N st) (hx : x ∈ st.2) : Met N (l.foldl (visitP x) st) ∧ ∃ m, (l.foldl (visitP x) st).2 = st.2 ++ m := by
  induction l generalizing st with
  | nil => exact ⟨h, [], by simp⟩
  | cons y l ih =>
    obtain ⟨y0, y1⟩ := hl y (by simp)
    obtain ⟨h1, m1, e1⟩ := h.visit hx y0 y1
    obtain ⟨h2, m2, e2⟩ := ih (fun z hz => hl z (by simp [hz])) h1 (by rw [e1]; simp [hx])
    exact ⟨h2, m1 ++ m2, by rw [List.foldl_cons, e2, e1, List.append_assoc]⟩
theorem visit_far {N : Nat} {st : List Int × List Int} (h : Met N st) {x y : Int} (hx : x ∈ st.2) (y0 : 0 ≤ y) (hn : st.1[y.toNat]?.getD 0 < 0) : x.toNat ≠ y.toNat := fun e => by
  have := (h.mem x hx).2
  rw [e] at this
  omega
theorem bfs_more (bc br : Int) (far : Bool) (ss : List (Int × Int)) (f : Nat) (st : List Int × List Int) (i : Nat) (h : i < st.2.length) : bfsP bc br far ss (f + 1) st i = bfsP bc br far ss f (expandP bc br far ss (st.2[i]?.getD 0) st) (i + 1) := by
  rw [bfsP, if_pos h]
theorem bfs_end (bc br : Int) (far : Bool) (ss : List (Int × Int)) (f : Nat) (st : List Int × List Int) (i : Nat) (h : ¬ i < st.2.length) : bfsP bc br far ss f st i = st.1 := by
  cases f with
  | zero => rfl
  | succ f => rw [bfsP, if_neg h]
/-- MOVESFROM, as it should answer. -/
def movesFromP (bc br : Int) (s : List UInt8) (cell : Int) : List Int :=
  match kindL s with
  | some (ss, far) => if Brd bc br ∧ 0 ≤ cell ∧ cell < bc * br then movesP bc br far ss cell else []
  | none => []
end Go.Proofs.Ytoapmmmmdfmaeac

namespace Go.Proofs.Ytoapmmmmdfmaeac
open Go Go.RowKit

theorem reachP_asc (bc br : Int) (far : Bool) (others : List Int) (cell : Int) (ss : List (Int × Int)) : reachP bc br far others cell ss = ascP (cellsP bc br far others cell ss) := (ascP_eq _).symm
/-- The next cells of every cell, reckoned once. -/
def tabP (bc br : Int) (far : Bool) (ss : List (Int × Int)) : List (List Int) := (List.range (bc * br).toNat).map fun (c : Nat) => ascP (cellsP bc br far [] (c : Int) ss)
def bfsT (T : List (List Int)) : Nat → List Int × List Int → Nat → List Int
  | 0, st, _ => st.1
  | f + 1, st, i => if i < st.2.length then bfsT T f ((T[(st.2[i]?.getD 0).toNat]?.getD []).foldl (visitP (st.2[i]?.getD 0)) st) (i + 1) else st.1
def movesT (T : List (List Int)) (N : Nat) (c : Nat) : List Int := bfsT T 26 ((List.replicate N (-1)).set c 0, [(c : Int)]) 0
theorem bfsT_eq {bc br : Int} (far : Bool) (ss : List (Int × Int)) {N : Nat} (hN : bc * br = (N : Int)) (hin : ∀ x, ∀ y ∈ reachP bc br far [] x ss, 0 ≤ y ∧ y < (N : Int)) (f : Nat) (st : List Int × List Int) (i : Nat) (h : Met N st) :
    bfsT (tabP bc br far ss) f st i = bfsP bc br far ss f st i := by
  induction f generalizing st i with
  | zero => rfl
  | succ f ih =>
    unfold bfsT bfsP
    split
    · rename_i hi
      have hm : st.2[i]?.getD 0 ∈ st.2 := by
        rw [List.getElem?_eq_getElem hi, Option.getD_some]
        exact List.getElem_mem hi
      obtain ⟨⟨x0, x1⟩, _⟩ := h.mem _ hm
      have e : (tabP bc br far ss)[(st.2[i]?.getD 0).toNat]?.getD [] = reachP bc br far [] (st.2[i]?.getD 0) ss := by
        unfold tabP
        rw [hN, List.getElem?_map, List.getElem?_range (by omega), Option.map_some, Option.getD_some, reachP_asc]
        rw [show (((st.2[i]?.getD 0).toNat : Nat) : Int) = st.2[i]?.getD 0 by omega]
      rw [e]
      exact ih _ _ (fold_met _ _ (hin _) h hm).1
    · rfl
def turnN (bc br : Int) (c : Nat) : Nat := ((c : Int) % bc * br + (c : Int) / bc).toNat
def factsOk (bc br : Int) (p : List (Int × Int) × Bool) : Bool :=
  let N := (bc * br).toNat
  let T := tabP bc br p.2 p.1
  let M := (List.range N).map (movesT T N)
  let M' := (List.range N).map (movesT (tabP br bc p.2 p.1) N)
  (List.range N).all fun c => (M[c]?.getD [])[c]?.getD 7 == 0 && (List.range N).all fun x =>
    (M[x]?.getD [])[c]?.getD 7 == (M[c]?.getD [])[x]?.getD 7 && (M'[turnN bc br c]?.getD [])[turnN bc br x]?.getD 7 == (M[c]?.getD [])[x]?.getD 7 && ((M[c]?.getD [])[x]?.getD 7 == 1) == (T[c]?.getD []).contains (x : Int)
def factsAll (p : List (Int × Int) × Bool) : Prop := ∀ a : Fin 5, ∀ b : Fin 5, factsOk ((a.val : Int) + 1) ((b.val : Int) + 1) p = true
instance (p : List (Int × Int) × Bool) : Decidable (factsAll p) := by unfold factsAll; infer_instance
end Go.Proofs.Ytoapmmmmdfmaeac

/-
  A slice that begins in the midst of a row of the call's own: read, cut at its head, appended to.
-/
namespace Go.Proofs.Ytoapmmmmdfmaeac
open Go.RowKit
set_option linter.unusedVariables false

/-- The value is a slice over one-cell elements xs in block g, from B on, with its spare room. -/
def Seg (w : World) (B g : Nat) (t : TypeId) (v : Value) (xs : List Value) : Prop :=
  ∃ off cap cur, v = .slice (some ⟨g, off, none⟩) xs.length cap ∧ B ≤ g ∧ w.heap[g]? = some (.cells cur t (0, 0)) ∧ xs.length ≤ cap ∧ cap ≤ maxLen ∧ off + cap ≤ cur.size ∧ ∀ j, j < xs.length → cur[off + j]? = xs[j]?
section
variable {w w' : World} {B g : Nat} {t : TypeId} {v : Value} {xs : List Value}
theorem Seg.lt (h : Seg w B g t v xs) : B ≤ g ∧ g < w.heap.size := by
  obtain ⟨off, cap, cur, _, hb, hg, _⟩ := h
  exact ⟨hb, (Array.getElem?_eq_some_iff.1 hg).1⟩
theorem Seg.kept (h : Seg w B g t v xs) (hk : w'.heap[g]? = w.heap[g]?) : Seg w' B g t v xs := by
  obtain ⟨off, cap, cur, h1, h2, h3, h4⟩ := h
  exact ⟨off, cap, cur, h1, h2, hk.trans h3, h4⟩
theorem Seg.then (h : Seg w B g t v xs) (hb : Below w.heap.size w w') : Seg w' B g t v xs := h.kept (hb.block g h.lt.2)
theorem Seg.grown {r : Option Nat} (h : Seg w B g t v xs) (hg : w.grownBy w' r) (hr : r ≠ some g) : Seg w' B g t v xs := h.kept (hg.block g h.lt.2 (fun e => hr e.symm))
theorem Seg.other (h : Seg w B g t v xs) {p : Addr} (hp : g ≠ p.block) (u : Value) : Seg (w.setCell p u) B g t v xs := h.kept (Below.heap_setCell w p u g hp)
theorem Seg.of_own {base size : Nat} {e : TypeId} (h : w.ownsRow base e 1 v xs.length xs) (hn : 0 < xs.length) : ∃ g, Seg w base g e v xs := by
  rcases h.2 with ⟨_, h0⟩ | ⟨g, cap, cur, rfl, hb, hg, hn, hm, hs, ht⟩
  · omega
  · refine ⟨g, 0, cap, cur, rfl, hb, hg, hn, hm, by omega, fun j hj => ?_⟩
    have : (cur.toList.take (xs.length * 1))[j]? = xs[j]? := by rw [ht]
    rw [List.getElem?_take, if_pos (by omega)] at this
    simpa using this
theorem Seg.row (h : Seg w B g t v xs) : ∃ off cap, v = .slice (some ⟨g, off, none⟩) xs.length cap ∧ xs.length ≤ cap ∧ cap ≤ maxLen ∧ (∀ j, j < xs.length → w.cell? ⟨g, off + j, none⟩ = xs[j]?) := by
  obtain ⟨off, cap, cur, h1, h2, h3, h4, h5, h6, h7⟩ := h
  exact ⟨off, cap, h1, h4, h5, fun j hj => by rw [cell_of_row w g (off + j) cur t (0, 0) h3]; exact h7 j hj⟩
theorem Seg.tail {off cap : Nat} {x : Value} (h : Seg w B g t (.slice (some ⟨g, off, none⟩) (xs.length + 1) cap) (x :: xs)) :
    Seg w B g t (.slice (if cap = 1 then some ⟨g, off, none⟩ else some ⟨g, off + 1, none⟩) xs.length (cap - 1)) xs := by
  obtain ⟨off', cap', cur, h1, h2, h3, h4, h5, h6, h7⟩ := h
  injection h1 with e1 _ e3
  injection e1 with e1
  injection e1 with _ e1 _
  subst e1 e3
  simp only [List.length_cons] at h4
  by_cases hc : cap = 1
  · rw [if_pos hc]
    have : xs = [] := List.eq_nil_of_length_eq_zero (by omega)
    subst this
    exact ⟨off, cap - 1, cur, rfl, h2, h3, by simp, by omega, by omega, fun j hj => absurd hj (by simp)⟩
  · rw [if_neg hc]
    refine ⟨off + 1, cap - 1, cur, rfl, h2, h3, by omega, by omega, by omega, fun j hj => ?_⟩
    have := h7 (j + 1) (by simp; omega)
    rw [show off + 1 + j = off + (j + 1) by omega, this]
    simp
end

/-- ONE MORE AT ITS END. -/
theorem seg_run {P : Program} (w : World) {ts e : TypeId} {bytes : Nat} (ty : TypeId) (ht : P.underlying ts = some (.slice e)) (he : Elem P e 1 bytes)
    {B g c : Nat} {v u : Value} {xs : List Value} {ad : Addr} (h : Seg w B g e v xs) (hx : w.cell? ad = some u) (h1 : u.oneCell' = true) (hsmall : xs.length ≤ 1000000) (hbytes : bytes ≤ 100) (hB : B ≤ w.heap.size) :
    ∃ v' w' g', (Builtin.append_ #[ts, ts] ty #[v, .slice (some ad) 1 c]).run P w = .ok v' w' ∧ Seg w' B g' e v' (xs ++ [u]) ∧ w.grownBy w' (some g) ∧ (g' = g ∨ w.heap.size ≤ g') := by
  obtain ⟨⟨i, z, hi, hz, hs, hby, hzs⟩, hpos⟩ := he
  obtain ⟨off, cap, cur, rfl, hb, hg, hn, hm, hoff, hc⟩ := h
  have hnews : ∀ j u', [u][j]? = some u' → w.cell? (ad.add j) = some u' := fun j u' hj => by
    rcases j with _ | j
    · simp only [List.getElem?_cons_zero, Option.some.injEq] at hj
      subst hj
      exact hx
    · simp at hj
  have hone : ∀ u' ∈ [u], u'.oneCell' = true := by simpa using h1
  by_cases hroom : xs.length + 1 ≤ cap
  · have hcell : (w.cell? ⟨g, off + xs.length * i.size + 0, none⟩).isSome = true := by
      rw [hs, cell_of_row w g _ cur e (0, 0) hg]
      rw [Array.getElem?_eq_getElem (by omega)]
      rfl
    have hfree : w.frozen? ⟨g, off + xs.length * i.size + 0, none⟩ = false := by simp [World.frozen?, hg]
    have hr := run_append_room_cells (P := P) w ts ty e i ht hi g off xs.length cap ad 1 c [u] (by rw [hs]; rfl) hnews hone hroom
      (fun j hj => by simp only [List.length_cons, List.length_nil] at hj; obtain rfl : j = 0 := (by omega); exact hcell)
      (fun j hj => by simp only [List.length_cons, List.length_nil] at hj; obtain rfl : j = 0 := (by omega); exact hfree)
    have hw : w.setCells g (off + xs.length * i.size) [u] = w.setCell ⟨g, off + xs.length, none⟩ u := by
      rw [hs, Nat.mul_one]; rfl
    refine ⟨_, _, g, hr, ?_, ?_, .inl rfl⟩
    · rw [hw]
      refine ⟨off, cap, cur.setIfInBounds (off + xs.length) u, by simp, hb, ?_, by simp; omega, hm, by simpa using hoff, fun j hj => ?_⟩
      · simp [World.setCell, Array.getElem?_modify, hg]
      · simp only [List.length_append, List.length_cons, List.length_nil] at hj
        rw [Array.getElem?_setIfInBounds]
        by_cases hjl : j = xs.length
        · subst hjl
          rw [if_pos rfl, if_pos (by omega)]
          simp
        · rw [if_neg (by omega), hc j (by omega), List.getElem?_append_left (by omega)]
    · rw [hw]
      exact ⟨rfl, rfl, rfl, by simp [World.setCell], fun k hk hne => Below.heap_setCell w _ u k (fun x => hne (by rw [x]))⟩
  · obtain ⟨v', w', hr, ho, hgr⟩ := run_append_arg_grows (P := P) w ts ty e i z 1 bytes ht hi hz hs hby hzs hpos ⟨g, off, none⟩ xs.length cap xs (by simp)
      (fun j u' hj => by
        obtain ⟨hjl, _⟩ := List.getElem?_eq_some_iff.1 hj
        rw [show (⟨g, off, none⟩ : Addr).add j = ⟨g, off + j, none⟩ from by unfold Addr.add; split <;> simp_all]
        rw [cell_of_row w g _ cur e (0, 0) hg, hc j hjl, hj])
      ad 1 c [u] rfl hnews (by omega) (by simp only [maxLen]; omega) (Nat.le_trans (Nat.mul_le_mul (show xs.length + 1 ≤ 1000001 by omega) hbytes) (by omega))
    have ho' : w'.ownsRow w.heap.size e 1 v' (xs ++ [u]).length (xs ++ [u]) := by simpa using ho
    obtain ⟨g', sg⟩ := Seg.of_own (size := 1) ho' (by simp)
    have sg' : Seg w' B g' e v' (xs ++ [u]) := by
      obtain ⟨o, c', cu, a1, a2, a3⟩ := sg
      exact ⟨o, c', cu, a1, by omega, a3⟩
    exact ⟨v', w', g', hr, sg', ⟨hgr.os, hgr.tape, hgr.output, hgr.size, fun k hk _ => hgr.block k hk (by simp)⟩, .inr sg.lt.1⟩
theorem seg_put {P : Program} {ops : Array Oper} {rest : List Oper} {o : Oper} {a : Act} {Q : Exit → Act → World → Prop} {w : World} (hgd : o.guard = none) (s x : Operand) {ts : TypeId}
    (ho : o.op = .call { callee := .builtin .append, args := #[s, x], argTypes := #[ts, ts] })
    {e : TypeId} {bytes : Nat} (ht : P.underlying ts = some (.slice e)) (he : Elem P e 1 bytes)
    {B g c : Nat} {v u : Value} {xs : List Value} {ad : Addr} (hs : a.eval s = v) (hsg : Seg w B g e v xs) (hx : a.eval x = .slice (some ad) 1 c) (hc : w.cell? ad = some u) (h1 : u.oneCell' = true)
    (hsmall : xs.length ≤ 1000000) (hbytes : bytes ≤ 100) (hB : B ≤ w.heap.size)
    (h : ∀ v' w' g', Seg w' B g' e v' (xs ++ [u]) → w.grownBy w' (some g) → (g' = g ∨ w.heap.size ≤ g') → wpList P ops Q rest (a.put o.dst v') w') : wpList P ops Q (o :: rest) a w := by
  obtain ⟨v', w', g', hrun, h2, h3, h4⟩ := seg_run (P := P) w o.type ht he (c := c) hsg hc h1 hsmall hbytes hB
  refine wpList_plain hgd fun K hK => ?_
  unfold Oper.wp execOp
  simp only [ho, resolve, invoke, builtin, Sem.run_bind, Sem.run_pure, Result.andThen_ok, List.map_toArray, List.map_cons, List.map_nil, hs, hx, hrun]
  exact hK _ _ (h v' w' g' h2 h3 h4)
end Go.Proofs.Ytoapmmmmdfmaeac

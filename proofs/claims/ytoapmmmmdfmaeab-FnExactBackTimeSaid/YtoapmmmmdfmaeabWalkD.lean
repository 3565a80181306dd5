
/-
  Walks: the model's WalkCount.
-/
import Derived.Test.YtoapmmmmdfmaeabWalkB
import Derived.Test.YtoapmmmmdfmaeabWalkE
import Derived.StillTailTactics
import Derived.OwnWalk
namespace Go.Proofs.Ytoapmmmmdfmaeab
open Go.RowKit
set_option linter.unusedVariables false

def rowM (n : Nat) (f : Nat → Nat) : List Nat := (List.range n).map f
theorem rowM_len (n : Nat) (f : Nat → Nat) : (rowM n f).length = n := by simp [rowM]
theorem rowM_at {n k : Nat} (f : Nat → Nat) (h : k < n) : (rowM n f)[k]?.getD 0 = f k := by simp [rowM, h]
theorem rowM_congr {n : Nat} {f g : Nat → Nat} (h : ∀ b, b < n → f b = g b) : rowM n f = rowM n g := List.map_congr_left fun b hb => h b (List.mem_range.1 hb)
theorem rowM_set {n k : Nat} {f g : Nat → Nat} (h : ∀ b, b < n → g b = if b = k then g k else f b) : (rowM n f).set k (g k) = rowM n g := by
  refine List.ext_getElem (by simp [rowM]) fun b h1 h2 => ?_
  have hb : b < n := by simpa [rowM] using h2
  rw [List.getElem_set]
  have := h b hb
  by_cases e : k = b
  · subst e; simp [rowM]
  · rw [if_neg (fun h' => e h'.symm)] at this
    simp [rowM, e, this]
/-- The sums of the next move, up to the cell k of row a. -/
def nextF (L : List Nat) (v : Nat → Nat) (a k b : Nat) : Nat := if b < k then sm (fun c => v c * goesN L c b) (a + 1) else sm (fun c => v c * goesN L c b) a
theorem next_zero (L : List Nat) (v : Nat → Nat) (n : Nat) : rowM n (nextF L v 0 0) = List.replicate n 0 := by
  refine List.ext_getElem (by simp [rowM]) fun b h1 h2 => ?_
  simp [rowM, nextF, sm]
theorem next_row (L : List Nat) (v : Nat → Nat) (a n : Nat) : rowM n (nextF L v a n) = rowM n (nextF L v (a + 1) 0) := rowM_congr fun b hb => by
  unfold nextF
  rw [if_pos hb, if_neg (by omega)]
theorem next_step (L : List Nat) (v : Nat → Nat) (n : Nat) {a k : Nat} : (rowM n (nextF L v a k)).set k (nextF L v a (k + 1) k) = rowM n (nextF L v a (k + 1)) := rowM_set fun b hb => by
  unfold nextF
  by_cases e : b = k
  · subst e; rw [if_pos rfl]
  · rw [if_neg e]
    by_cases e2 : b < k
    · rw [if_pos e2, if_pos (by omega)]
    · rw [if_neg e2, if_neg (by omega)]
theorem next_here (L : List Nat) (v : Nat → Nat) (a k : Nat) : nextF L v a k k = sm (fun c => v c * goesN L c k) a ∧ nextF L v a (k + 1) k = sm (fun c => v c * goesN L c k) a + v a * goesN L a k := by
  unfold nextF
  exact ⟨if_neg (by omega), if_pos (by omega)⟩
theorem next_le {L : List Nat} {v : Nat → Nat} {B : Nat} (hv : ∀ c, v c ≤ B) (a k : Nat) : sm (fun c => v c * goesN L c k) a ≤ a * B := sm_le fun c _ => by
  have := goes_le L c k
  calc v c * goesN L c k ≤ B * 1 := Nat.mul_le_mul (hv c) this
    _ = B := Nat.mul_one _
theorem made_infoW {P : Program} {e : TypeId} {z : Value} {size bytes : Nat} (h : (P.info? e).map (fun i => (i.zero, i.size, i.bytes)) = some (some z, size, bytes)) : ∃ i, P.info? e = some i ∧ i.zero = some z ∧ i.size = size ∧ i.bytes = bytes := by
  cases hi : P.info? e with
  | none => simp [hi] at h
  | some i =>
    simp only [hi, Option.map_some, Option.some.injEq, Prod.mk.injEq] at h
    exact ⟨i, rfl, h.1, h.2.1, h.2.2⟩
theorem made_intsW {w : World} {base : Nat} {e : TypeId} {v : Value} {n : Nat} {z : Value} (hz : z.cells = #[z]) (h : w.ownsRow base e 1 v n (madeCells z.cells (n * 1)).toList) : w.ownsRow base e 1 v n (List.replicate n z) := by
  rwa [hz, Nat.mul_one, toList_madeCells_one] at h
theorem ints_zeros (n : Nat) : (List.replicate n (Value.int .i64 0)) = ints (natI (List.replicate n 0)) := by simp [ints, natI]
def walkCV (bc br : Int) (s : List UInt8) (i k moves : Int) : Int := match smallK bc br s with
  | some (ss, far) => if (0 ≤ i ∧ i < bc * br) ∧ (0 ≤ k ∧ k < bc * br) ∧ (0 ≤ moves ∧ moves ≤ 8) then (walkN (setsP bc br far ss) i.toNat moves.toNat k.toNat : Int) else -1
  | none => -1
end Go.Proofs.Ytoapmmmmdfmaeab

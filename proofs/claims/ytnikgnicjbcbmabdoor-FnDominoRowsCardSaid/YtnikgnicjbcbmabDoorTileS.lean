
/-
  Covers of boards: the model's spread.
-/
import Derived.Test.YtnikgnicjbcbmabDoorTileL
import Derived.Test.YtnikgnicjbcbmabDoorTileO
namespace Go.Proofs.YtnikgnicjbcbmabDoor
open Go.RowKit
set_option linter.unusedVariables false

/-- Natural numbers as cells. -/
def natV (L : List Nat) : List Int := L.map fun (x : Nat) => (x : Int)
theorem natV_len (L : List Nat) : (natV L).length = L.length := by simp [natV]
theorem natV_at (L : List Nat) (k : Nat) : (natV L)[k]?.getD 0 = ((L[k]?.getD 0 : Nat) : Int) := by
  rw [natV, List.getElem?_map]
  cases L[k]? <;> rfl
/-- A row of natural numbers of the call's own: its cells, and one of them written. -/
theorem own_nat {W : World} {base g n c : Nat} {L : List Nat} (h : W.ownsRow base 3 1 (.slice (some ⟨g, 0, none⟩) n c) n (ints (natV L))) {k : Nat} (hk : k < n) (b : Nat) :
    W.cell? ⟨g, k, none⟩ = some (.int .i64 ((L[k]?.getD 0 : Nat) : Int)) ∧ W.frozen? ⟨g, k, none⟩ = false ∧ (W.setCell ⟨g, k, none⟩ (.int .i64 (b : Int))).ownsRow base 3 1 (.slice (some ⟨g, 0, none⟩) n c) n (ints (natV (L.set k b))) ∧ W.grownBy (W.setCell ⟨g, k, none⟩ (.int .i64 (b : Int))) (some g) := by
  have hl : L.length = n := by have := h.1; simpa [natV] using this
  have hc := h.cellAt k (by omega)
  obtain ⟨o, gr⟩ := h.stored k (.int .i64 (b : Int))
  refine ⟨?_, h.frozenAt k, ?_, gr⟩
  · rw [hc]; simp [natV, List.getElem?_eq_getElem (show k < L.length by omega)]
  · rw [show (ints (natV L)).set k (.int .i64 (b : Int)) = ints (natV (L.set k b)) by simp [natV, ints, List.map_set]] at o
    exact o
/-- The ways added. -/
def addT (w : Nat) (g : Nat → Bool) (s j d x : Nat) (L : List Nat) : List Nat := (List.range L.length).map fun t => L[t]?.getD 0 + x * spr w g s (ind t) j d
theorem addT_len (w : Nat) (g : Nat → Bool) (s j d x : Nat) (L : List Nat) : (addT w g s j d x L).length = L.length := by simp [addT]
theorem addT_at {w : Nat} {g : Nat → Bool} {s j d x : Nat} {L : List Nat} {t : Nat} (ht : t < L.length) : (addT w g s j d x L)[t]?.getD 0 = L[t]?.getD 0 + x * spr w g s (ind t) j d := by
  simp [addT, List.getElem?_map, List.getElem?_range ht]
theorem addT_same {w : Nat} {g : Nat → Bool} {s j d x : Nat} {L L' : List Nat} (hl : L'.length = L.length) (h : ∀ t, t < L.length → L'[t]?.getD 0 = L[t]?.getD 0 + x * spr w g s (ind t) j d) : L' = addT w g s j d x L := by
  apply List.ext_getElem
  · rw [addT_len, hl]
  · intro t h1 h2
    have := h t (by omega)
    rw [List.getElem?_eq_getElem h1, Option.getD_some] at this
    rw [this]
    simp [addT]
def Spread (base g c n : Nat) (L' : List Nat) (W : World) (e : Ending) (w' : World) : Prop := e = .returned (.tuple #[]) ∧ w'.ownsRow base 3 1 (.slice (some ⟨g, 0, none⟩) n c) n (ints (natV L')) ∧ W.grownBy w' (some g)
/-- What may be added. -/
def RoomT (L : List Nat) (x j : Nat) : Prop := ∀ t, t < L.length → L[t]?.getD 0 + x * 2 ^ j ≤ 4000000000000000000

theorem spr_step (w : Nat) (g : Nat → Bool) (s : Nat) (next : Nat → Nat) (j d : Nat) : spr w g s next (j + 1) d =
    if g (w - (j + 1)) then (if bitN s (w - (j + 1)) = 0 then spr w g s next j d else 0) else if bitN s (w - (j + 1)) = 1 then spr w g s next j d else
      spr w g s next j (d + 2 ^ (w - (j + 1))) + if decide (1 ≤ j) && !g (w - (j + 1) + 1) && bitN s (w - (j + 1) + 1) == 0 then spr w g s next (j - 1) d else 0 := by
  cases j with
  | zero =>
    rw [show (0 : Nat) + 1 = 1 from rfl, spr_one, decide_eq_false (show ¬ 1 ≤ 0 by omega)]
    simp only [Bool.false_and, Bool.false_eq_true, if_false, Nat.add_zero]
    rfl
  | succ j =>
    rw [spr_two, decide_eq_true (show 1 ≤ j + 1 by omega), Bool.true_and]
    rfl

end Go.Proofs.YtnikgnicjbcbmabDoor

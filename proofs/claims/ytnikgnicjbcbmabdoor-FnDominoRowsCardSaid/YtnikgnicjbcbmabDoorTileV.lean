
/-
  Covers of boards: the model's TileFirst.
-/
import Derived.Test.YtnikgnicjbcbmabDoorTileU
namespace Go.Proofs.YtnikgnicjbcbmabDoor
open Go.RowKit
set_option linter.unusedVariables false

/-- A row of numbers of the call's own: its cells, and one of them written. -/
theorem own_int {W : World} {base g n c : Nat} {L : List Int} (h : W.ownsRow base 3 1 (.slice (some ⟨g, 0, none⟩) n c) n (ints L)) {k : Nat} (hk : k < n) (b : Int) :
    W.cell? ⟨g, k, none⟩ = some (.int .i64 (L[k]?.getD 0)) ∧ W.frozen? ⟨g, k, none⟩ = false ∧ (W.setCell ⟨g, k, none⟩ (.int .i64 b)).ownsRow base 3 1 (.slice (some ⟨g, 0, none⟩) n c) n (ints (L.set k b)) ∧ W.grownBy (W.setCell ⟨g, k, none⟩ (.int .i64 b)) (some g) := by
  have hl : L.length = n := by have := h.1; simpa using this
  have hc := h.cellAt k (by omega)
  obtain ⟨o, gr⟩ := h.stored k (.int .i64 b)
  refine ⟨?_, h.frozenAt k, ?_, gr⟩
  · rw [hc]; simp [List.getElem?_eq_getElem (show k < L.length by omega)]
  · rw [show (ints L).set k (.int .i64 b) = ints (L.set k b) by simp [ints, List.map_set]] at o
    exact o
def outL (n : Nat) (o : Nat → Int) : List Int := (List.range n).map o
theorem outL_len (n : Nat) (o : Nat → Int) : (outL n o).length = n := by simp [outL]
theorem out_set {n a b : Nat} (o : Nat → Int) (v : Int) : ((outL n o).set a v).set b v = outL n (fun i => if i = a ∨ i = b then v else o i) := by
  apply List.ext_getElem
  · simp [outL]
  · intro i h1 h2
    rw [List.getElem_set, List.getElem_set]
    simp only [outL, List.getElem_map, List.getElem_range]
    by_cases e1 : b = i
    · rw [if_pos e1, if_pos (.inr e1.symm)]
    · rw [if_neg e1]
      by_cases e2 : a = i
      · rw [if_pos e2, if_pos (.inl e2.symm)]
      · rw [if_neg e2, if_neg (by rintro (h | h); exact e2 h.symm; exact e1 h.symm)]
theorem out_start (n : Nat) : List.replicate n (-1) = outL n (fun _ => -1) := by
  apply List.ext_getElem
  · simp [outL]
  · intro i h1 h2; simp [outL]
theorem own_intv {w : World} {base n : Nat} {v : Value} {cs : List Value} (h : w.ownsRow base 3 1 v n cs) (hn : 0 < n) : ∃ g c, v = .slice (some ⟨g, 0, none⟩) n c ∧ base ≤ g := by
  rcases h.2 with ⟨_, rfl⟩ | ⟨g, cap, cur, e, hb, _⟩
  · omega
  · exact ⟨g, cap, e, hb⟩
/-- The first way, if there is one. -/
def firstL (bc br : Int) (hs : List Int) : Option (List Int) :=
  if Holes bc br hs ∧ 0 < coversP bc br hs then some (outL (bc.toNat * br.toNat) (firstG bc.toNat (bc.toNat * br.toNat) (bc.toNat * br.toNat) (inL hs) (fun _ => -1) 0).1) else none
def FirstIs (o : Option (List Int)) (w : World) (e : Ending) (w' : World) : Prop :=
  match o with
  | some l => ∃ v, e = .returned (.tuple #[v, .bool true]) ∧ w'.ownsRow w.heap.size 3 1 v l.length (ints l) ∧ Below w.heap.size w w'
  | none => e = .returned (.tuple #[.slice none 0 0, .bool false]) ∧ Below w.heap.size w w'

end Go.Proofs.YtnikgnicjbcbmabDoor

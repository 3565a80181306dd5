
/-
  Covers of boards: the model's validHoles, holesOf, tile, TileCount.
-/
import Derived.Test.YtnikgnicjbcbmabDoorTileK
import Derived.Test.YtnikgnicjbcbmabDoorBitA
import Derived.Test.YtnikgnicjbcbmabDoorSpecC
import Derived.Test.YtnikgnicjbcbmabDoorOwnWords
namespace Go.Proofs.YtnikgnicjbcbmabDoor
open Go.RowKit
set_option linter.unusedVariables false

abbrev boolsV (l : List Bool) : List Value := l.map Value.bool
def fnB (l : List Bool) : Nat → Bool := fun i => l[i]?.getD false
theorem Row.bool {w : World} {A : Option Addr} {l : List Bool} {k : Nat} (h : Row w A (boolsV l)) (hk : k < l.length) : ∃ ad, A = some ad ∧ w.cell? (ad.add k) = some (.bool (fnB l k)) := by
  obtain ⟨ad, e, hc⟩ := h k (by simpa using hk)
  exact ⟨ad, e, by rw [hc]; simp [fnB, List.getElem?_eq_getElem hk]⟩
theorem fnB_set {l : List Bool} {x : Nat} (hx : x < l.length) (b : Bool) (i : Nat) : fnB (l.set x b) i = if i = x then b else fnB l i := by
  unfold fnB
  by_cases e : i = x
  · subst e; rw [List.getElem?_set_self hx, if_pos rfl]; rfl
  · rw [List.getElem?_set_ne (fun h => e h.symm), if_neg e]
theorem fnB_cov {l : List Bool} {x y : Nat} (hx : x < l.length) (hy : y < l.length) : fnB ((l.set x true).set y true) = cov (fnB l) x y := funext fun i => by
  rw [fnB_set (by simpa using hy), fnB_set hx]
  unfold cov
  by_cases e1 : i = y
  · simp [e1]
  · by_cases e2 : i = x
    · simp [e2]
    · rw [if_neg e1, if_neg e2, beq_eq_false_iff_ne.2 e1, beq_eq_false_iff_ne.2 e2]; simp
theorem elem_bool : Elem Tryd.prog 4 1 1 := Elem.of (z := .bool false) (by kernel_rfl) rfl (by omega)
/-- A row of truth values of the call's own: its cells, and one of them written. -/
theorem own_bool {W : World} {base g n c : Nat} {l : List Bool} (h : W.ownsRow base 4 1 (.slice (some ⟨g, 0, none⟩) n c) n (boolsV l)) {k : Nat} (hk : k < n) (b : Bool) :
    W.cell? ⟨g, k, none⟩ = some (.bool (fnB l k)) ∧ W.frozen? ⟨g, k, none⟩ = false ∧ (W.setCell ⟨g, k, none⟩ (.bool b)).ownsRow base 4 1 (.slice (some ⟨g, 0, none⟩) n c) n (boolsV (l.set k b)) ∧ W.grownBy (W.setCell ⟨g, k, none⟩ (.bool b)) (some g) := by
  have hl : l.length = n := by have := h.1; simpa using this
  have hc := h.cellAt k (by omega)
  obtain ⟨o, gr⟩ := h.stored k (.bool b)
  refine ⟨?_, h.frozenAt k, ?_, gr⟩
  · rw [hc]; simp [fnB, List.getElem?_eq_getElem (show k < l.length by omega)]
  · rw [show (boolsV l).set k (.bool b) = boolsV (l.set k b) by simp [boolsV, List.map_set]] at o
    exact o

/-- The arguments that are valid. -/
def Holes (bc br : Int) (hs : List Int) : Prop := Brd bc br ∧ AscTo (bc * br) hs hs.length
instance (bc br : Int) (hs : List Int) : Decidable (Holes bc br hs) := by unfold Holes; infer_instance

def maskL (n : Nat) (hs : List Int) : List Bool := (List.range n).map (inL hs)
theorem mask_len (n : Nat) (hs : List Int) : (maskL n hs).length = n := by simp [maskL]
theorem mask_at {n i : Nat} (hs : List Int) (hi : i < n) : fnB (maskL n hs) i = inL hs i := by
  simp [fnB, maskL, List.getElem?_map, List.getElem?_range hi]
theorem mask_snoc {n : Nat} {hs : List Int} {k x : Nat} (hk : k < hs.length) (hx : hs[k]?.getD 0 = (x : Int)) : (maskL n (hs.take k)).set x true = maskL n (hs.take (k + 1)) := by
  apply List.ext_getElem
  · simp [maskL]
  · intro i h1 h2
    simp only [maskL, List.length_set, List.length_map, List.length_range] at h1
    rw [List.getElem_set]
    simp only [maskL, List.getElem_map, List.getElem_range, inL]
    rw [take_snoc _ _ hk, hx]
    by_cases e : x = i
    · subst e; simp
    · rw [if_neg e, Bool.eq_iff_iff]
      simp only [List.contains_iff_mem, List.mem_append, List.mem_singleton]
      constructor
      · exact .inl
      · rintro (h | h)
        · exact h
        · omega
theorem made_bools {w : World} {base : Nat} {v : Value} {n : Nat} {z : Value} (hz : z.cells = #[z]) (h : w.ownsRow base 4 1 v n (madeCells z.cells (n * 1)).toList) : w.ownsRow base 4 1 v n (List.replicate n z) := by
  rwa [hz, Nat.mul_one, toList_madeCells_one] at h
theorem info_of {P : Program} {e : TypeId} {z : Value} {size bytes : Nat} (h : (P.info? e).map (fun i => (i.zero, i.size, i.bytes)) = some (some z, size, bytes)) : ∃ i, P.info? e = some i ∧ i.zero = some z ∧ i.size = size ∧ i.bytes = bytes := by
  cases hi : P.info? e with
  | none => simp [hi] at h
  | some i =>
    simp only [hi, Option.map_some, Option.some.injEq, Prod.mk.injEq] at h
    exact ⟨i, rfl, h.1, h.2.1, h.2.2⟩

end Go.Proofs.YtnikgnicjbcbmabDoor

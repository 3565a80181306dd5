
/-
  Six numbers in a block: what the walk asks of their stores and loads. No program.
-/
import Derived.Test.YtnfcklclgcgloabBase
namespace Go.Proofs.Ytnfcklclgcgloab
open Go.RowKit
set_option linter.unusedVariables false

def sixF (f : Nat → Int) : Array Value := #[.int .i64 (f 0), .int .i64 (f 1), .int .i64 (f 2), .int .i64 (f 3), .int .i64 (f 4), .int .i64 (f 5)]
def atF (l : List Int) : Nat → Int := fun i => l[i]?.getD 0
abbrev slideV (l : List Int) : Value := .agg (sixF (atF l))
theorem six_of {k : Nat} (h : k < 6) : k = 0 ∨ k = 1 ∨ k = 2 ∨ k = 3 ∨ k = 4 ∨ k = 5 := by omega
theorem sixF_set (f : Nat → Int) (b : Int) {k : Nat} (h : k < 6) : (sixF f).setIfInBounds k (.int .i64 b) = sixF (fun i => if i = k then b else f i) := by
  obtain rfl | rfl | rfl | rfl | rfl | rfl := six_of h
  all_goals simp [sixF]
theorem sixF_at (f : Nat → Int) {k : Nat} (h : k < 6) : (sixF f)[k]? = some (.int .i64 (f k)) := by
  obtain rfl | rfl | rfl | rfl | rfl | rfl := six_of h
  all_goals rfl
theorem sixF_congr {f g : Nat → Int} (h : ∀ i, i < 6 → f i = g i) : sixF f = sixF g := by
  unfold sixF
  rw [h 0 (by omega), h 1 (by omega), h 2 (by omega), h 3 (by omega), h 4 (by omega), h 5 (by omega)]
theorem box6 {w : World} {g : Nat} {t : TypeId} {f : Nat → Int} (h : Box w g t (sixF f)) :
    w.cell? ⟨g, 0, none⟩ = some (.int .i64 (f 0)) ∧ w.cell? ⟨g, 1, none⟩ = some (.int .i64 (f 1)) ∧ w.cell? ⟨g, 2, none⟩ = some (.int .i64 (f 2)) ∧ w.cell? ⟨g, 3, none⟩ = some (.int .i64 (f 3)) ∧ w.cell? ⟨g, 4, none⟩ = some (.int .i64 (f 4)) ∧ w.cell? ⟨g, 5, none⟩ = some (.int .i64 (f 5)) :=
  ⟨h.cell 0, h.cell 1, h.cell 2, h.cell 3, h.cell 4, h.cell 5⟩
theorem box6_set {w : World} {g : Nat} {t : TypeId} {f : Nat → Int} (h : Box w g t (sixF f)) {k : Nat} (hk : k < 6) (b : Int) :
    w.cell? ⟨g, k, none⟩ = some (.int .i64 (f k)) ∧ w.frozen? ⟨g, k, none⟩ = false ∧ Box (w.setCell ⟨g, k, none⟩ (.int .i64 b)) g t (sixF fun i => if i = k then b else f i) :=
  ⟨(h.cell k).trans (sixF_at f hk), h.free k, by rw [← sixF_set f b hk]; exact h.set k (.int .i64 b)⟩
/-- Six cells stored, one after the other: what the walk asks of each store and of the end. -/
theorem end6 {w : World} {g : Nat} {t : TypeId} {f0 : Nat → Int} (h : Box w g t (sixF f0)) (f : Nat → Int) :
    w.cell? ⟨g, 0, none⟩ = some (.int .i64 (f0 0)) ∧
    w.frozen? ⟨g, 0, none⟩ = false ∧
    (w.setCell ⟨g, 0, none⟩ (.int .i64 (f 0))).cell? ⟨g, 1, none⟩ = some (.int .i64 (f0 1)) ∧
    (w.setCell ⟨g, 0, none⟩ (.int .i64 (f 0))).frozen? ⟨g, 1, none⟩ = false ∧
    ((w.setCell ⟨g, 0, none⟩ (.int .i64 (f 0))).setCell ⟨g, 1, none⟩ (.int .i64 (f 1))).cell? ⟨g, 2, none⟩ = some (.int .i64 (f0 2)) ∧
    ((w.setCell ⟨g, 0, none⟩ (.int .i64 (f 0))).setCell ⟨g, 1, none⟩ (.int .i64 (f 1))).frozen? ⟨g, 2, none⟩ = false ∧
    (((w.setCell ⟨g, 0, none⟩ (.int .i64 (f 0))).setCell ⟨g, 1, none⟩ (.int .i64 (f 1))).setCell ⟨g, 2, none⟩ (.int .i64 (f 2))).cell? ⟨g, 3, none⟩ = some (.int .i64 (f0 3)) ∧
    (((w.setCell ⟨g, 0, none⟩ (.int .i64 (f 0))).setCell ⟨g, 1, none⟩ (.int .i64 (f 1))).setCell ⟨g, 2, none⟩ (.int .i64 (f 2))).frozen? ⟨g, 3, none⟩ = false ∧
    ((((w.setCell ⟨g, 0, none⟩ (.int .i64 (f 0))).setCell ⟨g, 1, none⟩ (.int .i64 (f 1))).setCell ⟨g, 2, none⟩ (.int .i64 (f 2))).setCell ⟨g, 3, none⟩ (.int .i64 (f 3))).cell? ⟨g, 4, none⟩ = some (.int .i64 (f0 4)) ∧
    ((((w.setCell ⟨g, 0, none⟩ (.int .i64 (f 0))).setCell ⟨g, 1, none⟩ (.int .i64 (f 1))).setCell ⟨g, 2, none⟩ (.int .i64 (f 2))).setCell ⟨g, 3, none⟩ (.int .i64 (f 3))).frozen? ⟨g, 4, none⟩ = false ∧
    (((((w.setCell ⟨g, 0, none⟩ (.int .i64 (f 0))).setCell ⟨g, 1, none⟩ (.int .i64 (f 1))).setCell ⟨g, 2, none⟩ (.int .i64 (f 2))).setCell ⟨g, 3, none⟩ (.int .i64 (f 3))).setCell ⟨g, 4, none⟩ (.int .i64 (f 4))).cell? ⟨g, 5, none⟩ = some (.int .i64 (f0 5)) ∧
    (((((w.setCell ⟨g, 0, none⟩ (.int .i64 (f 0))).setCell ⟨g, 1, none⟩ (.int .i64 (f 1))).setCell ⟨g, 2, none⟩ (.int .i64 (f 2))).setCell ⟨g, 3, none⟩ (.int .i64 (f 3))).setCell ⟨g, 4, none⟩ (.int .i64 (f 4))).frozen? ⟨g, 5, none⟩ = false ∧
    ((((((w.setCell ⟨g, 0, none⟩ (.int .i64 (f 0))).setCell ⟨g, 1, none⟩ (.int .i64 (f 1))).setCell ⟨g, 2, none⟩ (.int .i64 (f 2))).setCell ⟨g, 3, none⟩ (.int .i64 (f 3))).setCell ⟨g, 4, none⟩ (.int .i64 (f 4))).setCell ⟨g, 5, none⟩ (.int .i64 (f 5))).cell? ⟨g, 0, none⟩ = some (.int .i64 (f 0)) ∧
    ((((((w.setCell ⟨g, 0, none⟩ (.int .i64 (f 0))).setCell ⟨g, 1, none⟩ (.int .i64 (f 1))).setCell ⟨g, 2, none⟩ (.int .i64 (f 2))).setCell ⟨g, 3, none⟩ (.int .i64 (f 3))).setCell ⟨g, 4, none⟩ (.int .i64 (f 4))).setCell ⟨g, 5, none⟩ (.int .i64 (f 5))).cell? ⟨g, 1, none⟩ = some (.int .i64 (f 1)) ∧
    ((((((w.setCell ⟨g, 0, none⟩ (.int .i64 (f 0))).setCell ⟨g, 1, none⟩ (.int .i64 (f 1))).setCell ⟨g, 2, none⟩ (.int .i64 (f 2))).setCell ⟨g, 3, none⟩ (.int .i64 (f 3))).setCell ⟨g, 4, none⟩ (.int .i64 (f 4))).setCell ⟨g, 5, none⟩ (.int .i64 (f 5))).cell? ⟨g, 2, none⟩ = some (.int .i64 (f 2)) ∧
    ((((((w.setCell ⟨g, 0, none⟩ (.int .i64 (f 0))).setCell ⟨g, 1, none⟩ (.int .i64 (f 1))).setCell ⟨g, 2, none⟩ (.int .i64 (f 2))).setCell ⟨g, 3, none⟩ (.int .i64 (f 3))).setCell ⟨g, 4, none⟩ (.int .i64 (f 4))).setCell ⟨g, 5, none⟩ (.int .i64 (f 5))).cell? ⟨g, 3, none⟩ = some (.int .i64 (f 3)) ∧
    ((((((w.setCell ⟨g, 0, none⟩ (.int .i64 (f 0))).setCell ⟨g, 1, none⟩ (.int .i64 (f 1))).setCell ⟨g, 2, none⟩ (.int .i64 (f 2))).setCell ⟨g, 3, none⟩ (.int .i64 (f 3))).setCell ⟨g, 4, none⟩ (.int .i64 (f 4))).setCell ⟨g, 5, none⟩ (.int .i64 (f 5))).cell? ⟨g, 4, none⟩ = some (.int .i64 (f 4)) ∧
    ((((((w.setCell ⟨g, 0, none⟩ (.int .i64 (f 0))).setCell ⟨g, 1, none⟩ (.int .i64 (f 1))).setCell ⟨g, 2, none⟩ (.int .i64 (f 2))).setCell ⟨g, 3, none⟩ (.int .i64 (f 3))).setCell ⟨g, 4, none⟩ (.int .i64 (f 4))).setCell ⟨g, 5, none⟩ (.int .i64 (f 5))).cell? ⟨g, 5, none⟩ = some (.int .i64 (f 5)) ∧
    Box ((((((w.setCell ⟨g, 0, none⟩ (.int .i64 (f 0))).setCell ⟨g, 1, none⟩ (.int .i64 (f 1))).setCell ⟨g, 2, none⟩ (.int .i64 (f 2))).setCell ⟨g, 3, none⟩ (.int .i64 (f 3))).setCell ⟨g, 4, none⟩ (.int .i64 (f 4))).setCell ⟨g, 5, none⟩ (.int .i64 (f 5))) g t (sixF f) := by
  have b0 : Box w g t #[.int .i64 (f0 0), .int .i64 (f0 1), .int .i64 (f0 2), .int .i64 (f0 3), .int .i64 (f0 4), .int .i64 (f0 5)] := h
  have b1 : Box (w.setCell ⟨g, 0, none⟩ (.int .i64 (f 0))) g t #[.int .i64 (f 0), .int .i64 (f0 1), .int .i64 (f0 2), .int .i64 (f0 3), .int .i64 (f0 4), .int .i64 (f0 5)] := b0.set 0 (.int .i64 (f 0))
  have b2 : Box ((w.setCell ⟨g, 0, none⟩ (.int .i64 (f 0))).setCell ⟨g, 1, none⟩ (.int .i64 (f 1))) g t #[.int .i64 (f 0), .int .i64 (f 1), .int .i64 (f0 2), .int .i64 (f0 3), .int .i64 (f0 4), .int .i64 (f0 5)] := b1.set 1 (.int .i64 (f 1))
  have b3 : Box (((w.setCell ⟨g, 0, none⟩ (.int .i64 (f 0))).setCell ⟨g, 1, none⟩ (.int .i64 (f 1))).setCell ⟨g, 2, none⟩ (.int .i64 (f 2))) g t #[.int .i64 (f 0), .int .i64 (f 1), .int .i64 (f 2), .int .i64 (f0 3), .int .i64 (f0 4), .int .i64 (f0 5)] := b2.set 2 (.int .i64 (f 2))
  have b4 : Box ((((w.setCell ⟨g, 0, none⟩ (.int .i64 (f 0))).setCell ⟨g, 1, none⟩ (.int .i64 (f 1))).setCell ⟨g, 2, none⟩ (.int .i64 (f 2))).setCell ⟨g, 3, none⟩ (.int .i64 (f 3))) g t #[.int .i64 (f 0), .int .i64 (f 1), .int .i64 (f 2), .int .i64 (f 3), .int .i64 (f0 4), .int .i64 (f0 5)] := b3.set 3 (.int .i64 (f 3))
  have b5 : Box (((((w.setCell ⟨g, 0, none⟩ (.int .i64 (f 0))).setCell ⟨g, 1, none⟩ (.int .i64 (f 1))).setCell ⟨g, 2, none⟩ (.int .i64 (f 2))).setCell ⟨g, 3, none⟩ (.int .i64 (f 3))).setCell ⟨g, 4, none⟩ (.int .i64 (f 4))) g t #[.int .i64 (f 0), .int .i64 (f 1), .int .i64 (f 2), .int .i64 (f 3), .int .i64 (f 4), .int .i64 (f0 5)] := b4.set 4 (.int .i64 (f 4))
  have b6 : Box ((((((w.setCell ⟨g, 0, none⟩ (.int .i64 (f 0))).setCell ⟨g, 1, none⟩ (.int .i64 (f 1))).setCell ⟨g, 2, none⟩ (.int .i64 (f 2))).setCell ⟨g, 3, none⟩ (.int .i64 (f 3))).setCell ⟨g, 4, none⟩ (.int .i64 (f 4))).setCell ⟨g, 5, none⟩ (.int .i64 (f 5))) g t #[.int .i64 (f 0), .int .i64 (f 1), .int .i64 (f 2), .int .i64 (f 3), .int .i64 (f 4), .int .i64 (f 5)] := b5.set 5 (.int .i64 (f 5))
  exact ⟨b0.cell 0, b0.free 0, b1.cell 1, b1.free 1, b2.cell 2, b2.free 2, b3.cell 3, b3.free 3, b4.cell 4, b4.free 4, b5.cell 5, b5.free 5, b6.cell 0, b6.cell 1, b6.cell 2, b6.cell 3, b6.cell 4, b6.cell 5, b6⟩
theorem end6_below {w W : World} {B g : Nat} (f : Nat → Int) (hb : Below B W w) (hg : B ≤ g) : Below B W ((((((w.setCell ⟨g, 0, none⟩ (.int .i64 (f 0))).setCell ⟨g, 1, none⟩ (.int .i64 (f 1))).setCell ⟨g, 2, none⟩ (.int .i64 (f 2))).setCell ⟨g, 3, none⟩ (.int .i64 (f 3))).setCell ⟨g, 4, none⟩ (.int .i64 (f 4))).setCell ⟨g, 5, none⟩ (.int .i64 (f 5))) := ((((((hb.setCell hg _).setCell hg _).setCell hg _).setCell hg _).setCell hg _).setCell hg _)
/-- Two cells stored. -/
theorem endTwo {w : World} {g : Nat} {t : TypeId} {x y : Value} (h : Box w g t #[x, y]) (u v : Value) :
    w.cell? ⟨g, 0, none⟩ = some x ∧ w.frozen? ⟨g, 0, none⟩ = false ∧ (w.setCell ⟨g, 0, none⟩ u).cell? ⟨g, 1, none⟩ = some y ∧ (w.setCell ⟨g, 0, none⟩ u).frozen? ⟨g, 1, none⟩ = false ∧
    ((w.setCell ⟨g, 0, none⟩ u).setCell ⟨g, 1, none⟩ v).cell? ⟨g, 0, none⟩ = some u ∧ ((w.setCell ⟨g, 0, none⟩ u).setCell ⟨g, 1, none⟩ v).cell? ⟨g, 1, none⟩ = some v ∧ Box ((w.setCell ⟨g, 0, none⟩ u).setCell ⟨g, 1, none⟩ v) g t #[u, v] :=
  ⟨h.cell 0, h.free 0, (h.set 0 u).cell 1, (h.set 0 u).free 1, ((h.set 0 u).set 1 v).cell 0, ((h.set 0 u).set 1 v).cell 1, (h.set 0 u).set 1 v⟩
/-- The number of the first place. -/
theorem zs_at (f : Nat → Int) {j : Nat} (h : j < 6) : ((List.range 6).map f).getD j 0 = f j := by simp [List.getD, List.getElem?_range h]
end Go.Proofs.Ytnfcklclgcgloab

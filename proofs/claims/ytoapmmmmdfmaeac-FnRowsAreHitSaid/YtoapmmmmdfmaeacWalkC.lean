
/-
  Walks by chance: the model's ShareOf.
-/
import Derived.Test.YtoapmmmmdfmaeacWalkB
namespace Go.Proofs.Ytoapmmmmdfmaeac
open Go.RowKit
set_option linter.unusedVariables false

theorem frac_put {W w : World} {g : Nat} {x y : Value} (bx : Box w g 26 #[x, y]) (hb : Below W.heap.size W w) (hg : W.heap.size ≤ g) (u v : Value) :
    w.cell? ⟨g, 0, none⟩ = some x ∧ w.frozen? ⟨g, 0, none⟩ = false ∧ (w.setCell ⟨g, 0, none⟩ u).cell? ⟨g, 1, none⟩ = some y ∧ (w.setCell ⟨g, 0, none⟩ u).frozen? ⟨g, 1, none⟩ = false ∧ w.cell? ⟨g, 1, none⟩ = some y ∧ w.frozen? ⟨g, 1, none⟩ = false ∧
      Box ((w.setCell ⟨g, 0, none⟩ u).setCell ⟨g, 1, none⟩ v) g 26 #[u, v] ∧ Below W.heap.size W ((w.setCell ⟨g, 0, none⟩ u).setCell ⟨g, 1, none⟩ v) := by
  have b2 := bx.set 0 u
  have b3 := b2.set 1 v
  exact ⟨bx.cell 0, bx.free 0, by simpa using b2.cell 1, b2.free 1, bx.cell 1, bx.free 1, by simpa using b3, below_setW (below_setW hb hb.size hg 0 _) (by simpa using hb.size) hg 1 _⟩
end Go.Proofs.Ytoapmmmmdfmaeac

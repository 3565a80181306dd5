
/-
  Boards: hasAscending, setUp; the methods of pieces.
-/
import Derived.Test.YtnikgnicjbcbmabDoorMoveB
import Derived.Test.YtnikgnicjbcbmabDoorMoveC
namespace Go.Proofs.YtnikgnicjbcbmabDoor
open Go.RowKit
set_option linter.unusedVariables false

theorem lst_c (A : Option Addr) (n c : Nat) (w : World) : Calls Tryd.prog 79 #[.agg #[.slice A n c]] w (Plain (.slice A n c) w) := by
  go_enter Tryd.func79, Tryd.ntmps79
  go_wp2
  go_ret
  exact ⟨rfl, (Below.refl _ _).alloc (Nat.le_refl _) _⟩
theorem lfa_c (A : Option Addr) (n c : Nat) (w : World) : Calls Tryd.prog 78 #[.agg #[.slice A n c]] w (Plain (.bool false) w) := by
  go_enter Tryd.func78, Tryd.ntmps78
  go_wp2
  go_ret
  exact ⟨rfl, (Below.refl _ _).alloc (Nat.le_refl _) _⟩
theorem pieceEnd {w : World} {g : Nat} {t : TypeId} {x y u v : Value} (h : Box w g t #[x, y]) :
    w.cell? ⟨g, 0, none⟩ = some x ∧ w.frozen? ⟨g, 0, none⟩ = false ∧ (w.setCell ⟨g, 0, none⟩ u).cell? ⟨g, 0, none⟩ = some u ∧ (w.setCell ⟨g, 0, none⟩ u).cell? ⟨g, 1, none⟩ = some y ∧ (w.setCell ⟨g, 0, none⟩ u).frozen? ⟨g, 1, none⟩ = false ∧
    ((w.setCell ⟨g, 0, none⟩ u).setCell ⟨g, 1, none⟩ v).cell? ⟨g, 0, none⟩ = some u ∧ ((w.setCell ⟨g, 0, none⟩ u).setCell ⟨g, 1, none⟩ v).cell? ⟨g, 1, none⟩ = some v :=
  ⟨h.cell 0, h.free 0, (h.set 0 u).cell 0, (h.set 0 u).cell 1, (h.set 0 u).free 1, ((h.set 0 u).set 1 v).cell 0, ((h.set 0 u).set 1 v).cell 1⟩

def NotSet (w : World) (e : Ending) (w' : World) : Prop := ∃ x y pv, e = .returned (.tuple #[boardV x y, pv, .bool false]) ∧ Below w.heap.size w w'
end Go.Proofs.YtnikgnicjbcbmabDoor


/-
  pieceOf: the piece of a kind.
-/
import Derived.Test.YtnikgnicjbcbmabDoorMoveA
import Derived.Test.YtnikgnicjbcbmabDoorPure
namespace Go.Proofs.YtnikgnicjbcbmabDoor
open Go.RowKit

theorem from_new {n B : Nat} (h : B ≤ n) : From B (some ⟨n, 0, none⟩) := by rintro _ ⟨rfl⟩; exact h
/-- What the call owns, where there is an element. -/
theorem own_some {w : World} {base : Nat} {e : TypeId} {size n : Nat} {v : Value} {cs : List Value} (h : w.ownsRow base e size v n cs) (hn : 0 < n) : ∃ g c, v = .slice (some ⟨g, 0, none⟩) n c ∧ Row w (some ⟨g, 0, none⟩) cs ∧ base ≤ g := by
  obtain ⟨A, c, rfl, _, _, hrow, hfr⟩ := own_row h
  rcases h.2 with ⟨_, rfl⟩ | ⟨g, cap, cur, e, hb, _⟩
  · omega
  · injection e with e1 e2 e3
    subst e1
    exact ⟨g, c, rfl, hrow, hb⟩
theorem one_flat (ss : List (Int × Int)) : ∀ u ∈ flat ss, u.oneCell' = true := by
  intro u hu
  simp only [flat, List.mem_flatMap, List.mem_cons, List.not_mem_nil, or_false] at hu
  obtain ⟨p, _, rfl | rfl⟩ := hu <;> rfl

end Go.Proofs.YtnikgnicjbcbmabDoor

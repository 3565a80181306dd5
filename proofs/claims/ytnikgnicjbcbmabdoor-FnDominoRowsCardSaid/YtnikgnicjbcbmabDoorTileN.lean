
/-
  Covers of boards: the model's tile and TileCount.
-/
import Derived.Test.YtnikgnicjbcbmabDoorTileM
import Derived.WalkMore
namespace Go.Proofs.YtnikgnicjbcbmabDoor
open Go.RowKit
set_option linter.unusedVariables false

theorem one_bools (l : List Bool) : ∀ u ∈ boolsV l, u.oneCell' = true := by
  intro u hu
  obtain ⟨b, _, rfl⟩ := List.mem_map.1 hu
  rfl
theorem own_bools {w : World} {base n : Nat} {v : Value} {cs : List Value} (h : w.ownsRow base 4 1 v n cs) (hn : 0 < n) : ∃ g c, v = .slice (some ⟨g, 0, none⟩) n c ∧ base ≤ g := by
  rcases h.2 with ⟨_, rfl⟩ | ⟨g, cap, cur, e, hb, _⟩
  · omega
  · exact ⟨g, cap, e, hb⟩
theorem set_back {l : List Bool} {x : Nat} (h : fnB l x = false) (hx : x < l.length) : (l.set x true).set x false = l := by
  rw [List.set_set]
  apply List.ext_getElem
  · simp
  · intro i h1 h2
    rw [List.getElem_set]
    by_cases e : x = i
    · subst e
      rw [if_pos rfl]
      unfold fnB at h
      rw [List.getElem?_eq_getElem hx] at h
      exact h.symm
    · rw [if_neg e]
theorem tile_one {w n k : Nat} {c : Nat → Bool} {a : Nat} (ha : n - (k + 1) = a) (hc : c a = false) : tileT w n (k + 1) c = (if decide (a % w + 1 < w) && !c (a + 1) then tileT w n k (cov c a (a + 1)) else 0) + (if decide (a + w < n) && !c (a + w) then tileT w n k (cov c a (a + w)) else 0) := by
  subst ha
  rw [tile_step, if_neg (by rw [hc]; decide)]

end Go.Proofs.YtnikgnicjbcbmabDoor


/-
  Boards: reach.
-/
import Derived.Test.YtnikgnicjbcbmabDoorMoveD
import Derived.Test.YtnikgnicjbcbmabDoorReach
import Derived.Test.YtnikgnicjbcbmabDoorSorted
import Derived.Deep.LoopGhost
namespace Go.Proofs.YtnikgnicjbcbmabDoor
open Go.RowKit
set_option linter.unusedVariables false

theorem elem_int : Elem Tryd.prog 3 1 8 := Elem.of (z := .int .i64 0) (by kernel_rfl) rfl (by omega)

theorem onward_any (bc br cell dr dc : Int) (w : World) (h1 : 1 ≤ bc) (h2 : bc ≤ 5) (h3 : 1 ≤ br) (h4 : br ≤ 5) (g1 : 0 ≤ cell) (g2 : cell < 25) (g3 : -2 ≤ dr) (g4 : dr ≤ 2) (g5 : -2 ≤ dc) (g6 : dc ≤ 2) :
    Calls Tryd.prog 37 #[boardV bc br, .int .i64 cell, .agg #[.int .i64 dr, .int .i64 dc]] w (Plain (.tuple #[.int .i64 (onP (nextP bc br dr dc cell)).1, .bool (onP (nextP bc br dr dc cell)).2]) w) := by
  unfold nextP
  by_cases h : 0 ≤ cell / bc + dr ∧ cell / bc + dr < br ∧ 0 ≤ cell % bc + dc ∧ cell % bc + dc < bc
  · rw [if_pos h]
    obtain ⟨a, b, c, d⟩ := h
    exact onward_yes bc br cell dr dc w h1 h2 h3 h4 g1 g2 g3 g4 g5 g6 a b c d
  · rw [if_neg h]
    exact onward_no bc br cell dr dc w h1 h2 h3 h4 g1 g2 g3 g4 g5 g6 h

/-- The address is a plain one. -/
def Flat (O : Option Addr) : Prop := ∀ ad, O = some ad → ∃ b off, ad = ⟨b, off, none⟩
theorem contains_c (O : Option Addr) (l : List Int) (oc : Nat) (x : Int) (w : World) (hr : Row w O (ints l)) (hf : Flat O) (hm : l.length ≤ maxLen) :
    Calls Tryd.prog 25 #[.slice O l.length oc, .int .i64 x] w (Plain (.bool (l.contains x)) w) := by
  rcases l with _ | ⟨y, l⟩
  · exact (Tryd.slices_Contains_int_empty O oc x w).mono fun e w' ⟨he, hw⟩ => ⟨he, hw ▸ Below.refl _ _⟩
  · obtain ⟨ad, rfl, _⟩ := hr 0 (by simp)
    obtain ⟨b, off, rfl⟩ := hf ad rfl
    unfold maxLen at hm
    refine (Tryd.slices_Contains_int b off (y :: l).length oc (y :: l) x w (Nat.le_refl _) (by omega) fun j hj => ?_).mono fun e w' ⟨he, hw⟩ => ⟨by simpa using he, hw ▸ Below.refl _ _⟩
    obtain ⟨_, ⟨rfl⟩, hc⟩ := hr.int hj
    rw [← List.getD_eq_getElem?_getD] at hc
    rw [← hc]
    unfold Addr.add
    split
    · subst_vars; rfl
    · rfl

end Go.Proofs.YtnikgnicjbcbmabDoor


/-
  MovesFrom of the program.
-/
import Derived.Test.YtljojjkaeclcfaaMovesA
import Derived.Test.YtljojjkaeclcfaaMoveH
namespace Go.Proofs.Ytljojjkaeclcfaa
open Go.RowKit
set_option linter.unusedVariables false

set_option maxHeartbeats 400000 in
theorem movesFrom_nil (bc br cell : Int) (s : ByteArray) (w : World) (h : ¬ (Brd bc br ∧ (kindL s.toList).isSome = true)) :
    Calls Try.prog 7 #[.int .i64 bc, .int .i64 br, .string s, .int .i64 cell] w (Plain (.slice none 0 0) w) := by
  have H := hide h
  clear h
  go_enter Try.func7, Try.ntmps7
  go_wp2_with fail
  refine (setUp_no bc br s _ H.out).mono ?_
  rintro e w1 ⟨x, y, pv, rfl, hb⟩
  go_wp2_with fail
  go_ret
  exact ⟨rfl, hb.alloc hb.size _⟩
set_option maxHeartbeats 400000 in
theorem movesFrom_out (bc br cell : Int) (s : ByteArray) (w : World) {ss : List (Int × Int)} {far : Bool} (hk : kindL s.toList = some (ss, far)) (h1 : 1 ≤ bc) (h2 : bc ≤ 5) (h3 : 1 ≤ br) (h4 : br ≤ 5)
    (h : ¬ (0 ≤ cell ∧ cell < bc * br)) :
    Calls Try.prog 7 #[.int .i64 bc, .int .i64 br, .string s, .int .i64 cell] w (Plain (.slice none 0 0) w) := by
  have Hk := hide hk
  have H := hide h
  clear hk h
  go_enter Try.func7, Try.ntmps7
  go_wp2_with fail
  refine (setUp_yes bc br s _ Hk.out h1 h2 h3 h4).mono ?_
  rintro e w1 ⟨pv, rfl, hp, hb⟩
  go_wp2_with fail
  refine (has_no bc br cell _ h1 h2 h3 h4 H.out).mono ?_
  rintro e w2 ⟨rfl, hb2⟩
  go_wp2_with fail
  go_ret
  exact ⟨rfl, below_then (hb.alloc hb.size _) (by have := hb.size; simp; omega) hb2⟩
set_option maxHeartbeats 400000 in
theorem movesFrom_yes (bc br cell : Int) (s : ByteArray) (w : World) {ss : List (Int × Int)} {far : Bool} (hk : kindL s.toList = some (ss, far)) (h1 : 1 ≤ bc) (h2 : bc ≤ 5) (h3 : 1 ≤ br) (h4 : br ≤ 5)
    (g1 : 0 ≤ cell) (g2 : cell < bc * br) :
    Calls Try.prog 7 #[.int .i64 bc, .int .i64 br, .string s, .int .i64 cell] w (Owns 3 1 (movesP bc br far ss cell).length (ints (movesP bc br far ss cell)) w) := by
  obtain ⟨k1, k2, _⟩ := kind_ok hk
  have Hk := hide hk
  clear hk
  go_enter Try.func7, Try.ntmps7
  go_wp2_with fail
  refine (setUp_yes bc br s _ Hk.out h1 h2 h3 h4).mono ?_
  rintro e w1 ⟨pv, rfl, hp, hb⟩
  have bx := Box.new w1 43 #[.int .i64 bc, .int .i64 br]
  have hp := hp.then ((Below.refl _ _).alloc (Nat.le_refl _) (.cells #[.int .i64 bc, .int .i64 br] 43))
  go_wp2_with fail
  refine (has_yes bc br cell _ h1 h2 h3 h4 g1 g2).mono ?_
  rintro e w2 ⟨rfl, hb2⟩
  have bx2 := bx.then hb2
  have hp2 := hp.then hb2
  have c0 := bx2.cell 0
  have c1 := bx2.cell 1
  have hb2 := below_then (hb.alloc hb.size _) (by have := hb.size; simp; omega) hb2
  clear bx hp
  go_wp2_with fail
  refine (movesFrom_c bc br cell _ pv far ss _ h1 h2 h3 h4 g1 g2 k1 k2 hp2).mono ?_
  rintro e w4 ⟨v, rfl, hown, hb4⟩
  go_wp2_with fail
  go_ret
  exact ⟨v, rfl, own_mono hown hb2.size, below_then hb2 hb2.size hb4⟩
/-- MOVESFROM OF THE PROGRAM. -/
theorem implMovesFrom_c (bc br cell : Int) (s : ByteArray) (w : World) :
    Calls Try.prog 7 #[.int .i64 bc, .int .i64 br, .string s, .int .i64 cell] w (Owns 3 1 (movesFromP bc br s.toList cell).length (ints (movesFromP bc br s.toList cell)) w) := by
  have nil : ∀ {l : List Int}, l = [] → Calls Try.prog 7 #[.int .i64 bc, .int .i64 br, .string s, .int .i64 cell] w (Plain (.slice none 0 0) w) → Calls Try.prog 7 #[.int .i64 bc, .int .i64 br, .string s, .int .i64 cell] w (Owns 3 1 l.length (ints l) w) := by
    rintro _ rfl h
    exact h.mono fun e w' ⟨he, hb⟩ => ⟨_, he, World.ownsRow_nil _ _ _ _, hb⟩
  unfold movesFromP
  cases hk : kindL s.toList with
  | none => exact nil rfl (movesFrom_nil bc br cell s w (by simp [hk]))
  | some p =>
    obtain ⟨ss, far⟩ := p
    simp only
    by_cases hB : Brd bc br
    · obtain ⟨h1, h2, h3, h4⟩ := hB
      by_cases hc : 0 ≤ cell ∧ cell < bc * br
      · rw [if_pos ⟨⟨h1, h2, h3, h4⟩, hc⟩]
        exact movesFrom_yes bc br cell s w hk h1 h2 h3 h4 hc.1 hc.2
      · rw [if_neg (fun h => hc h.2)]
        exact nil rfl (movesFrom_out bc br cell s w hk h1 h2 h3 h4 hc)
    · rw [if_neg (fun h => hB h.1)]
      exact nil rfl (movesFrom_nil bc br cell s w (fun h => hB h.1))
end Go.Proofs.Ytljojjkaeclcfaa

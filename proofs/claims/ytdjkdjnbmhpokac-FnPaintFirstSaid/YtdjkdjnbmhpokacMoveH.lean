
/-
  ValidKind, ReachOf and AllMoves of the program.
-/
import Derived.Test.YtdjkdjnbmhpokacMoveE
import Derived.Test.YtdjkdjnbmhpokacMoveG
namespace Go.Proofs.Ytdjkdjnbmhpokac
open Go.RowKit
set_option linter.unusedVariables false

set_option maxHeartbeats 400000 in
theorem reachOf_nil (bc br cell : Int) (s : ByteArray) (O : Option Addr) (oc : Nat) (others : List Int) (w : World) (h : ¬ (Brd bc br ∧ (kindL s.toList).isSome = true)) :
    Calls Try.prog 18 #[.int .i64 bc, .int .i64 br, .string s, .int .i64 cell, .slice O others.length oc] w (Plain (.slice none 0 0) w) := by
  have H := hide h
  clear h
  go_enter Try.func18, Try.ntmps18
  go_wp2_with fail
  refine (setUp_no bc br s _ H.out).mono ?_
  rintro e w1 ⟨x, y, pv, rfl, hb⟩
  go_wp2_with fail
  go_ret
  exact ⟨rfl, hb.alloc hb.size _⟩
set_option maxHeartbeats 400000 in
theorem reachOf_out (bc br cell : Int) (s : ByteArray) (O : Option Addr) (oc : Nat) (others : List Int) (w : World) {ss : List (Int × Int)} {far : Bool} (hk : kindL s.toList = some (ss, far)) (h1 : 1 ≤ bc) (h2 : bc ≤ 5) (h3 : 1 ≤ br) (h4 : br ≤ 5)
    (h : ¬ (0 ≤ cell ∧ cell < bc * br)) :
    Calls Try.prog 18 #[.int .i64 bc, .int .i64 br, .string s, .int .i64 cell, .slice O others.length oc] w (Plain (.slice none 0 0) w) := by
  have Hk := hide hk
  have H := hide h
  clear hk h
  go_enter Try.func18, Try.ntmps18
  go_wp2_with fail
  refine (setUp_yes bc br s _ Hk.out h1 h2 h3 h4).mono ?_
  rintro e w1 ⟨pv, rfl, hp, hb⟩
  go_wp2_with fail
  refine (has_no bc br cell _ h1 h2 h3 h4 H.out).mono ?_
  rintro e w2 ⟨rfl, hb2⟩
  go_wp2_with fail
  go_ret
  exact ⟨rfl, below_then (hb.alloc hb.size _) (by have := hb.size; simp; omega) hb2⟩
set_option maxHeartbeats 400000 in
theorem reachOf_unasc (bc br cell : Int) (s : ByteArray) (O : Option Addr) (oc : Nat) (others : List Int) (w : World) {ss : List (Int × Int)} {far : Bool} (hk : kindL s.toList = some (ss, far)) (h1 : 1 ≤ bc) (h2 : bc ≤ 5) (h3 : 1 ≤ br) (h4 : br ≤ 5)
    (g1 : 0 ≤ cell) (g2 : cell < bc * br) (ho : Row w O (ints others)) (hm : others.length ≤ maxLen) (h : ¬ AscTo (bc * br) others others.length) :
    Calls Try.prog 18 #[.int .i64 bc, .int .i64 br, .string s, .int .i64 cell, .slice O others.length oc] w (Plain (.slice none 0 0) w) := by
  have Hk := hide hk
  clear hk
  have ha : ∀ w5 : World, Below w.heap.size w w5 → Calls Try.prog 39 #[boardV bc br, .slice O others.length oc] w5 (Plain (.bool false) w5) := fun w5 h5 => by
    have := asc_c bc br O oc others w5 h1 h2 h3 h4 (ho.below h5) hm
    rwa [decide_eq_false h] at this
  have HA := hide ha
  clear ha h
  go_enter Try.func18, Try.ntmps18
  go_wp2_with fail
  refine (setUp_yes bc br s _ Hk.out h1 h2 h3 h4).mono ?_
  rintro e w1 ⟨pv, rfl, hp, hb⟩
  have bx := Box.new w1 53 #[.int .i64 bc, .int .i64 br]
  go_wp2_with fail
  refine (has_yes bc br cell _ h1 h2 h3 h4 g1 g2).mono ?_
  rintro e w2 ⟨rfl, hb2⟩
  have bx2 := bx.then hb2
  have c0 := bx2.cell 0
  have c1 := bx2.cell 1
  have hb2 := below_then (hb.alloc hb.size _) (by have := hb.size; simp; omega) hb2
  clear bx
  go_wp2_with fail
  refine (HA.out _ hb2).mono ?_
  rintro e w3 ⟨rfl, hb3⟩
  go_wp2_with fail
  go_ret
  exact ⟨rfl, below_then hb2 hb2.size hb3⟩
set_option maxHeartbeats 400000 in
theorem reachOf_yes (bc br cell : Int) (s : ByteArray) (O : Option Addr) (oc : Nat) (others : List Int) (w : World) {ss : List (Int × Int)} {far : Bool} (hk : kindL s.toList = some (ss, far)) (h1 : 1 ≤ bc) (h2 : bc ≤ 5) (h3 : 1 ≤ br) (h4 : br ≤ 5)
    (g1 : 0 ≤ cell) (g2 : cell < bc * br) (ho : Row w O (ints others)) (hof : Flat O) (hm : others.length ≤ maxLen) (h : AscTo (bc * br) others others.length) :
    Calls Try.prog 18 #[.int .i64 bc, .int .i64 br, .string s, .int .i64 cell, .slice O others.length oc] w (Owns 3 1 (reachP bc br far others cell ss).length (ints (reachP bc br far others cell ss)) w) := by
  obtain ⟨k1, k2, _⟩ := kind_ok hk
  have Hk := hide hk
  clear hk
  have ha : ∀ w5 : World, Below w.heap.size w w5 → Calls Try.prog 39 #[boardV bc br, .slice O others.length oc] w5 (Plain (.bool true) w5) := fun w5 h5 => by
    have := asc_c bc br O oc others w5 h1 h2 h3 h4 (ho.below h5) hm
    rwa [decide_eq_true h] at this
  have HA := hide ha
  have Hof := hide hof
  clear ha h hof
  go_enter Try.func18, Try.ntmps18
  go_wp2_with fail
  refine (setUp_yes bc br s _ Hk.out h1 h2 h3 h4).mono ?_
  rintro e w1 ⟨pv, rfl, hp, hb⟩
  have bx := Box.new w1 53 #[.int .i64 bc, .int .i64 br]
  have hp := hp.then ((Below.refl _ _).alloc (Nat.le_refl _) (.cells #[.int .i64 bc, .int .i64 br] 53))
  go_wp2_with fail
  refine (has_yes bc br cell _ h1 h2 h3 h4 g1 g2).mono ?_
  rintro e w2 ⟨rfl, hb2⟩
  have bx2 := bx.then hb2
  have hp2 := hp.then hb2
  have c0 := bx2.cell 0
  have c1 := bx2.cell 1
  have hb2 := below_then (hb.alloc hb.size _) (by have := hb.size; simp; omega) hb2
  clear bx hp
  go_wp2_with fail
  refine (HA.out _ hb2).mono ?_
  rintro e w3 ⟨rfl, hb3⟩
  have bx3 := bx2.then hb3
  have hp3 := hp2.then hb3
  have hb3 := below_then hb2 hb2.size hb3
  clear c0 c1 bx2 hp2 hb2
  have c0 := bx3.cell 0
  have c1 := bx3.cell 1
  go_wp2_with fail
  refine (reach_c bc br cell _ pv far O oc ss others _ h1 h2 h3 h4 g1 g2 k1 k2 hp3 (ho.below hb3) Hof.out hm).mono ?_
  rintro e w4 ⟨v, rfl, hown, hb4⟩
  go_wp2_with fail
  go_ret
  exact ⟨v, rfl, own_mono hown hb3.size, below_then hb3 hb3.size hb4⟩
/-- REACHOF OF THE PROGRAM. -/
theorem implReachOf_c (bc br cell : Int) (s : ByteArray) (O : Option Addr) (oc : Nat) (others : List Int) (w : World) (ho : Row w O (ints others)) (hof : Flat O) (hm : others.length ≤ maxLen) :
    Calls Try.prog 18 #[.int .i64 bc, .int .i64 br, .string s, .int .i64 cell, .slice O others.length oc] w (Owns 3 1 (reachOfP bc br s.toList cell others).length (ints (reachOfP bc br s.toList cell others)) w) := by
  have nil : ∀ {l : List Int}, l = [] → Calls Try.prog 18 #[.int .i64 bc, .int .i64 br, .string s, .int .i64 cell, .slice O others.length oc] w (Plain (.slice none 0 0) w) →
      Calls Try.prog 18 #[.int .i64 bc, .int .i64 br, .string s, .int .i64 cell, .slice O others.length oc] w (Owns 3 1 l.length (ints l) w) := by
    rintro _ rfl h
    exact h.mono fun e w' ⟨he, hb⟩ => ⟨_, he, World.ownsRow_nil _ _ _ _, hb⟩
  unfold reachOfP
  cases hk : kindL s.toList with
  | none => exact nil rfl (reachOf_nil bc br cell s O oc others w (by simp [hk]))
  | some p =>
    obtain ⟨ss, far⟩ := p
    simp only
    by_cases hB : Brd bc br
    · obtain ⟨h1, h2, h3, h4⟩ := hB
      by_cases hc : 0 ≤ cell ∧ cell < bc * br
      · by_cases ha : AscTo (bc * br) others others.length
        · rw [if_pos ⟨⟨h1, h2, h3, h4⟩, hc, ha⟩]
          exact reachOf_yes bc br cell s O oc others w hk h1 h2 h3 h4 hc.1 hc.2 ho hof hm ha
        · rw [if_neg (fun h => ha h.2.2)]
          exact nil rfl (reachOf_unasc bc br cell s O oc others w hk h1 h2 h3 h4 hc.1 hc.2 ho hm ha)
      · rw [if_neg (fun h => hc h.2.1)]
        exact nil rfl (reachOf_out bc br cell s O oc others w hk h1 h2 h3 h4 hc)
    · rw [if_neg (fun h => hB h.1)]
      exact nil rfl (reachOf_nil bc br cell s O oc others w (fun h => hB h.1))
end Go.Proofs.Ytdjkdjnbmhpokac

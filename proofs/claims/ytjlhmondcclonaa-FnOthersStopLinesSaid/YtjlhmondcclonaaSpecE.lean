/-
  The reference model's ReachOf and AllMoves.
-/
import Derived.Test.YtjlhmondcclonaaSpecD
namespace Go.Proofs.Ytjlhmondcclonaa
open Go.RowKit
set_option linter.unusedVariables false

theorem validKind_t {s : ByteArray} (h : (kindL s.toList).isSome = true) (w : World) : Calls Try.prog 40 #[.string s] w (Plain (.bool true) w) := by
  have := validKind_c s w
  rwa [h] at this
theorem validKind_f {s : ByteArray} (h : (kindL s.toList).isSome = false) (w : World) : Calls Try.prog 40 #[.string s] w (Plain (.bool false) w) := by
  have := validKind_c s w
  rwa [h] at this

set_option maxHeartbeats 1000000 in
/-- REACHOF OF THE MODEL. -/
theorem specReachOf_c (bc br cell : Int) (s : ByteArray) (O : Option Addr) (oc : Nat) (others : List Int) (w : World) (ho : Row w O (ints others)) (hm : others.length ≤ maxLen) :
    Calls Try.prog 20 #[.int .i64 bc, .int .i64 br, .string s, .int .i64 cell, .slice O others.length oc] w (Owns 3 1 (reachOfP bc br s.toList cell others).length (ints (reachOfP bc br s.toList cell others)) w) := by
  by_cases hB : Brd bc br
  · have HB := hide hB
    obtain ⟨h1, h2, h3, h4⟩ := hB
    obtain ⟨m1, m2⟩ := mul_bd h1 h2 h3 h4
    cases hk : kindL s.toList with
    | none =>
      have hz : reachOfP bc br s.toList cell others = [] := by simp [reachOfP, hk]
      have Hk := hide (show (kindL s.toList).isSome = false by simp [hk])
      rw [hz]
      clear hz hk
      go_enter Try.func20, Try.ntmps20
      go_wp2_with fail
      refine (validBoard_yes bc br _ HB.out).mono ?_
      rintro e w' ⟨rfl, rfl⟩
      go_wp2_with fail
      refine (validKind_f Hk.out _).mono ?_
      rintro e w1 ⟨rfl, hb1⟩
      go_wp2_with fail
      go_ret
      exact ⟨_, rfl, World.ownsRow_nil _ _ _ _, hb1⟩
    | some p =>
      obtain ⟨ss, far⟩ := p
      have Hk := hide (show (kindL s.toList).isSome = true by simp [hk])
      have Hkk := hide hk
      by_cases hc : 0 ≤ cell ∧ cell ≤ bc * br - 1
      · by_cases ha : AscTo (bc * br) others others.length
        · have hz : reachOfP bc br s.toList cell others = reachP bc br far others cell ss := by simp only [reachOfP, hk]; rw [if_pos ⟨HB.out, ⟨hc.1, by omega⟩, ha⟩]
          rw [hz]
          clear hz hk
          have hva : ∀ w5 : World, Below w.heap.size w w5 → Calls Try.prog 50 #[.int .i64 bc, .int .i64 br, .slice O others.length oc] w5 (Plain (.bool true) w5) := fun w5 h5 => by
            have := validCells_c bc br O oc others w5 h1 h2 h3 h4 (ho.below h5) hm
            rwa [decide_eq_true ha] at this
          have HA := hide hva
          clear hva ha
          obtain ⟨c1, c2⟩ := hc
          go_enter Try.func20, Try.ntmps20
          go_wp2_with fail
          refine (validBoard_yes bc br _ HB.out).mono ?_
          rintro e w' ⟨rfl, rfl⟩
          go_wp2_with fail
          refine (validKind_t Hk.out _).mono ?_
          rintro e w1 ⟨rfl, hb1⟩
          go_wp2_with fail
          refine (inRange_yes cell 0 (bc * br - 1) _ c1 c2).mono ?_
          rintro e w' ⟨rfl, rfl⟩
          go_wp2_with fail
          refine (HA.out _ hb1).mono ?_
          rintro e w2 ⟨rfl, hb2⟩
          have hb2 := below_then hb1 hb1.size hb2
          go_wp2_with fail
          refine (specReach_c bc br cell s O oc ss far others _ Hkk.out h1 h2 h3 h4 c1 (by omega) (ho.below hb2) hm).mono ?_
          rintro e w3 ⟨v, rfl, hown, hb3⟩
          go_wp2_with fail
          go_ret
          exact ⟨v, rfl, own_mono hown hb2.size, below_then hb2 hb2.size hb3⟩
        · have hz : reachOfP bc br s.toList cell others = [] := by simp only [reachOfP, hk]; rw [if_neg (fun h => ha h.2.2)]
          rw [hz]
          clear hz hk
          have hva : ∀ w5 : World, Below w.heap.size w w5 → Calls Try.prog 50 #[.int .i64 bc, .int .i64 br, .slice O others.length oc] w5 (Plain (.bool false) w5) := fun w5 h5 => by
            have := validCells_c bc br O oc others w5 h1 h2 h3 h4 (ho.below h5) hm
            rwa [decide_eq_false ha] at this
          have HA := hide hva
          clear hva ha
          obtain ⟨c1, c2⟩ := hc
          go_enter Try.func20, Try.ntmps20
          go_wp2_with fail
          refine (validBoard_yes bc br _ HB.out).mono ?_
          rintro e w' ⟨rfl, rfl⟩
          go_wp2_with fail
          refine (validKind_t Hk.out _).mono ?_
          rintro e w1 ⟨rfl, hb1⟩
          go_wp2_with fail
          refine (inRange_yes cell 0 (bc * br - 1) _ c1 c2).mono ?_
          rintro e w' ⟨rfl, rfl⟩
          go_wp2_with fail
          refine (HA.out _ hb1).mono ?_
          rintro e w2 ⟨rfl, hb2⟩
          go_wp2_with fail
          go_ret
          exact ⟨_, rfl, World.ownsRow_nil _ _ _ _, below_then hb1 hb1.size hb2⟩
      · have hz : reachOfP bc br s.toList cell others = [] := by simp only [reachOfP, hk]; rw [if_neg (fun h => hc ⟨h.2.1.1, by have := h.2.1.2; omega⟩)]
        rw [hz]
        clear hz hk
        go_enter Try.func20, Try.ntmps20
        go_wp2_with fail
        refine (validBoard_yes bc br _ HB.out).mono ?_
        rintro e w' ⟨rfl, rfl⟩
        go_wp2_with fail
        refine (validKind_t Hk.out _).mono ?_
        rintro e w1 ⟨rfl, hb1⟩
        go_wp2_with fail
        refine (inRange_no cell 0 (bc * br - 1) _ hc).mono ?_
        rintro e w' ⟨rfl, rfl⟩
        go_wp2_with fail
        go_ret
        exact ⟨_, rfl, World.ownsRow_nil _ _ _ _, hb1⟩
  · have hz : reachOfP bc br s.toList cell others = [] := by
      unfold reachOfP
      cases kindL s.toList with
      | none => rfl
      | some p => obtain ⟨ss, far⟩ := p; simp only; rw [if_neg (fun h => hB h.1)]
    rw [hz]
    have HB := hide hB
    clear hz hB
    go_enter Try.func20, Try.ntmps20
    go_wp2_with fail
    refine (validBoard_no bc br _ HB.out).mono ?_
    rintro e w' ⟨rfl, rfl⟩
    go_wp2_with fail
    go_ret
    exact ⟨_, rfl, World.ownsRow_nil _ _ _ _, Below.refl _ _⟩
end Go.Proofs.Ytjlhmondcclonaa

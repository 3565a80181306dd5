
/-
  MovesFrom of the model; the walk of the law FnExactMovesFrom.
-/
import Derived.Test.YtljojjkaeclcfaaMovesB
import Derived.Test.YtljojjkaeclcfaaMovesC
import Derived.Test.YtljojjkaeclcfaaLawsA
namespace Go.Proofs.Ytljojjkaeclcfaa
open Go.RowKit
set_option linter.unusedVariables false

set_option maxHeartbeats 1000000 in
/-- MOVESFROM OF THE MODEL. -/
theorem specMovesFrom_c (bc br cell : Int) (s : ByteArray) (w : World) :
    Calls Try.prog 9 #[.int .i64 bc, .int .i64 br, .string s, .int .i64 cell] w (Owns 3 1 (movesFromP bc br s.toList cell).length (ints (movesFromP bc br s.toList cell)) w) := by
  by_cases hB : Brd bc br
  · have HB := hide hB
    obtain ⟨h1, h2, h3, h4⟩ := hB
    obtain ⟨m1, m2⟩ := mul_bd h1 h2 h3 h4
    cases hk : kindL s.toList with
    | none =>
      have hz : movesFromP bc br s.toList cell = [] := by simp [movesFromP, hk]
      have Hk := hide (show (kindL s.toList).isSome = false by simp [hk])
      rw [hz]
      clear hz hk
      go_enter Try.func9, Try.ntmps9
      go_wp2_with fail
      refine (validBoard_yes bc br _ HB.out).mono ?_
      rintro e w' ⟨rfl, rfl⟩
      go_wp2_with fail
      refine (validKind_f Hk.out _).mono ?_
      rintro e w1 ⟨rfl, hb1⟩
      go_wp2_with fail
      go_ret
      exact ⟨_, rfl, World.ownsRow_nil _ _ _ _, hb1⟩
    | some p =>
      obtain ⟨ss, far⟩ := p
      have Hk := hide (show (kindL s.toList).isSome = true by simp [hk])
      have Hkk := hide hk
      by_cases hc : 0 ≤ cell ∧ cell ≤ bc * br - 1
      · have hz : movesFromP bc br s.toList cell = movesP bc br far ss cell := by simp only [movesFromP, hk]; rw [if_pos ⟨HB.out, hc.1, by omega⟩]
        rw [hz]
        clear hz hk
        obtain ⟨c1, c2⟩ := hc
        go_enter Try.func9, Try.ntmps9
        go_wp2_with fail
        refine (validBoard_yes bc br _ HB.out).mono ?_
        rintro e w' ⟨rfl, rfl⟩
        go_wp2_with fail
        refine (validKind_t Hk.out _).mono ?_
        rintro e w1 ⟨rfl, hb1⟩
        go_wp2_with fail
        refine (inRange_yes cell 0 (bc * br - 1) _ c1 c2).mono ?_
        rintro e w' ⟨rfl, rfl⟩
        go_wp2_with fail
        refine (away_c bc br cell s far ss _ Hkk.out h1 h2 h3 h4 c1 (by omega)).mono ?_
        rintro e w3 ⟨v, rfl, hown, hb3⟩
        go_wp2_with fail
        go_ret
        exact ⟨v, rfl, own_mono hown hb1.size, below_then hb1 hb1.size hb3⟩
      · have hz : movesFromP bc br s.toList cell = [] := by simp only [movesFromP, hk]; rw [if_neg (fun h => hc ⟨h.2.1, by have := h.2.2; omega⟩)]
        rw [hz]
        clear hz hk
        go_enter Try.func9, Try.ntmps9
        go_wp2_with fail
        refine (validBoard_yes bc br _ HB.out).mono ?_
        rintro e w' ⟨rfl, rfl⟩
        go_wp2_with fail
        refine (validKind_t Hk.out _).mono ?_
        rintro e w1 ⟨rfl, hb1⟩
        go_wp2_with fail
        refine (inRange_no cell 0 (bc * br - 1) _ hc).mono ?_
        rintro e w' ⟨rfl, rfl⟩
        go_wp2_with fail
        go_ret
        exact ⟨_, rfl, World.ownsRow_nil _ _ _ _, hb1⟩
  · have hz : movesFromP bc br s.toList cell = [] := by
      unfold movesFromP
      cases kindL s.toList with
      | none => rfl
      | some p => obtain ⟨ss, far⟩ := p; simp only; rw [if_neg (fun h => hB h.1)]
    rw [hz]
    have HB := hide hB
    clear hz hB
    go_enter Try.func9, Try.ntmps9
    go_wp2_with fail
    refine (validBoard_no bc br _ HB.out).mono ?_
    rintro e w' ⟨rfl, rfl⟩
    go_wp2_with fail
    go_ret
    exact ⟨_, rfl, World.ownsRow_nil _ _ _ _, Below.refl _ _⟩

theorem bfs_len (bc br : Int) (far : Bool) (ss : List (Int × Int)) {N : Nat} (hin : ∀ x, ∀ y ∈ reachP bc br far [] x ss, 0 ≤ y ∧ y < (N : Int)) (f : Nat) (st : List Int × List Int) (i : Nat) (h : Met N st) : (bfsP bc br far ss f st i).length = N := by
  induction f generalizing st i with
  | zero => exact h.len
  | succ f ih =>
    unfold bfsP
    split
    · rename_i hi
      refine ih _ _ ?_
      refine (fold_met _ _ (hin _) h ?_).1
      rw [List.getElem?_eq_getElem hi, Option.getD_some]
      exact List.getElem_mem hi
    · exact h.len
theorem movesFromP_len (bc br : Int) (s : List UInt8) (cell : Int) : (movesFromP bc br s cell).length ≤ 25 := by
  unfold movesFromP
  cases hk : kindL s with
  | none => simp
  | some p =>
    obtain ⟨ss, far⟩ := p
    simp only
    split
    · rename_i h
      obtain ⟨⟨h1, h2, h3, h4⟩, g1, g2⟩ := h
      obtain ⟨m1, m2⟩ := mul_bd h1 h2 h3 h4
      obtain ⟨N, hN⟩ : ∃ N : Nat, bc * br = (N : Int) := ⟨(bc * br).toNat, by omega⟩
      have hm := Met.start (N := N) (cell := cell) g1 (by omega)
      unfold movesP
      rw [hN]
      rw [show ((N : Int)).toNat = N from rfl]
      rw [bfs_len bc br far ss (fun x y hy => by
        unfold reachP at hy
        rw [List.mem_mergeSort] at hy
        have := cells_in h1 h2 h3 h4 y hy
        rwa [hN] at this) 26 _ 0 hm]
      omega
    · simp

end Go.Proofs.Ytljojjkaeclcfaa

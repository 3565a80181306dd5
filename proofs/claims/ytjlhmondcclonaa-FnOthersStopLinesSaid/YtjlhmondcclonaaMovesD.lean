/-
  MovesFrom of the model; the walk of the law FnExactMovesFrom.
-/
import Derived.Test.YtjlhmondcclonaaMovesB
import Derived.Test.YtjlhmondcclonaaMovesC
import Derived.Test.YtjlhmondcclonaaLawsA
namespace Go.Proofs.Ytjlhmondcclonaa
open Go.RowKit
set_option linter.unusedVariables false

set_option maxHeartbeats 1000000 in
/-- MOVESFROM OF THE MODEL. -/
theorem specMovesFrom_c (bc br cell : Int) (s : ByteArray) (w : World) :
    Calls Try.prog 25 #[.int .i64 bc, .int .i64 br, .string s, .int .i64 cell] w (Owns 3 1 (movesFromP bc br s.toList cell).length (ints (movesFromP bc br s.toList cell)) w) := by
  by_cases hB : Brd bc br
  · have HB := hide hB
    obtain ⟨h1, h2, h3, h4⟩ := hB
    obtain ⟨m1, m2⟩ := mul_bd h1 h2 h3 h4
    cases hk : kindL s.toList with
    | none =>
      have hz : movesFromP bc br s.toList cell = [] := by simp [movesFromP, hk]
      have Hk := hide (show (kindL s.toList).isSome = false by simp [hk])
      rw [hz]
      clear hz hk
      go_enter Try.func25, Try.ntmps25
      go_wp2_with fail
      refine (validBoard_yes bc br _ HB.out).mono ?_
      rintro e w' ⟨rfl, rfl⟩
      go_wp2_with fail
      refine (validKind_f Hk.out _).mono ?_
      rintro e w1 ⟨rfl, hb1⟩
      go_wp2_with fail
      go_ret
      exact ⟨_, rfl, World.ownsRow_nil _ _ _ _, hb1⟩
    | some p =>
      obtain ⟨ss, far⟩ := p
      have Hk := hide (show (kindL s.toList).isSome = true by simp [hk])
      have Hkk := hide hk
      by_cases hc : 0 ≤ cell ∧ cell ≤ bc * br - 1
      · have hz : movesFromP bc br s.toList cell = movesP bc br far ss cell := by simp only [movesFromP, hk]; rw [if_pos ⟨HB.out, hc.1, by omega⟩]
        rw [hz]
        clear hz hk
        obtain ⟨c1, c2⟩ := hc
        go_enter Try.func25, Try.ntmps25
        go_wp2_with fail
        refine (validBoard_yes bc br _ HB.out).mono ?_
        rintro e w' ⟨rfl, rfl⟩
        go_wp2_with fail
        refine (validKind_t Hk.out _).mono ?_
        rintro e w1 ⟨rfl, hb1⟩
        go_wp2_with fail
        refine (inRange_yes cell 0 (bc * br - 1) _ c1 c2).mono ?_
        rintro e w' ⟨rfl, rfl⟩
        go_wp2_with fail
        refine (away_c bc br cell s far ss _ Hkk.out h1 h2 h3 h4 c1 (by omega)).mono ?_
        rintro e w3 ⟨v, rfl, hown, hb3⟩
        go_wp2_with fail
        go_ret
        exact ⟨v, rfl, own_mono hown hb1.size, below_then hb1 hb1.size hb3⟩
      · have hz : movesFromP bc br s.toList cell = [] := by simp only [movesFromP, hk]; rw [if_neg (fun h => hc ⟨h.2.1, by have := h.2.2; omega⟩)]
        rw [hz]
        clear hz hk
        go_enter Try.func25, Try.ntmps25
        go_wp2_with fail
        refine (validBoard_yes bc br _ HB.out).mono ?_
        rintro e w' ⟨rfl, rfl⟩
        go_wp2_with fail
        refine (validKind_t Hk.out _).mono ?_
        rintro e w1 ⟨rfl, hb1⟩
        go_wp2_with fail
        refine (inRange_no cell 0 (bc * br - 1) _ hc).mono ?_
        rintro e w' ⟨rfl, rfl⟩
        go_wp2_with fail
        go_ret
        exact ⟨_, rfl, World.ownsRow_nil _ _ _ _, hb1⟩
  · have hz : movesFromP bc br s.toList cell = [] := by
      unfold movesFromP
      cases kindL s.toList with
      | none => rfl
      | some p => obtain ⟨ss, far⟩ := p; simp only; rw [if_neg (fun h => hB h.1)]
    rw [hz]
    have HB := hide hB
    clear hz hB
    go_enter Try.func25, Try.ntmps25
    go_wp2_with fail
    refine (validBoard_no bc br _ HB.out).mono ?_
    rintro e w' ⟨rfl, rfl⟩
    go_wp2_with fail
    go_ret
    exact ⟨_, rfl, World.ownsRow_nil _ _ _ _, Below.refl _ _⟩

theorem bfs_len (bc br : Int) (far : Bool) (ss : List (Int × Int)) {N : Nat} (hin : ∀ x, ∀ y ∈ reachP bc br far [] x ss, 0 ≤ y ∧ y < (N : Int)) (f : Nat) (st : List Int × List Int) (i : Nat) (h : Met N st) : (bfsP bc br far ss f st i).length = N := by
  induction f generalizing st i with
  | zero => exact h.len
  | succ f ih =>
    unfold bfsP
    split
    · rename_i hi
      refine ih _ _ ?_
      refine (fold_met _ _ (hin _) h ?_).1
      rw [List.getElem?_eq_getElem hi, Option.getD_some]
      exact List.getElem_mem hi
    · exact h.len
theorem movesFromP_len (bc br : Int) (s : List UInt8) (cell : Int) : (movesFromP bc br s cell).length ≤ 25 := by
  unfold movesFromP
  cases hk : kindL s with
  | none => simp
  | some p =>
    obtain ⟨ss, far⟩ := p
    simp only
    split
    · rename_i h
      obtain ⟨⟨h1, h2, h3, h4⟩, g1, g2⟩ := h
      obtain ⟨m1, m2⟩ := mul_bd h1 h2 h3 h4
      obtain ⟨N, hN⟩ : ∃ N : Nat, bc * br = (N : Int) := ⟨(bc * br).toNat, by omega⟩
      have hm := Met.start (N := N) (cell := cell) g1 (by omega)
      unfold movesP
      rw [hN]
      rw [show ((N : Int)).toNat = N from rfl]
      rw [bfs_len bc br far ss (fun x y hy => by
        unfold reachP at hy
        rw [List.mem_mergeSort] at hy
        have := cells_in h1 h2 h3 h4 y hy
        rwa [hN] at this) 26 _ 0 hm]
      omega
    · simp

set_option maxHeartbeats 2000000 in
set_option maxRecDepth 100000 in
theorem exactMovesFrom_w (a0 a1 a3 : Int) (s : ByteArray) (w : World) (hs : s.size ≤ maxLen) :
    Calls Try.prog 11 #[.int .i64 a0, .int .i64 a1, .string s, .int .i64 a3] w (Plain (.bool true) w) := by
  unfold maxLen at hs
  by_cases hk : 1048576 < (s.size : Int)
  · go_enter Try.func11, Try.ntmps11
    go_wp2
    go_ret
    exact ⟨rfl, Below.refl _ _⟩
  · have hL := movesFromP_len a0 a1 s.toList a3
    have hspec : ∀ (w5 : World), _ := fun w5 => specMovesFrom_c a0 a1 a3 s w5
    have himpl : ∀ (w5 : World), _ := fun w5 => implMovesFrom_c a0 a1 a3 s w5
    generalize movesFromP a0 a1 s.toList a3 = L at *
    have HS := hide hspec
    have HI := hide himpl
    clear hspec himpl
    go_enter Try.func11, Try.ntmps11
    go_wp2_with fail
    refine (HS.out _).mono ?_
    rintro e w2 ⟨v2, rfl, o2, b2⟩
    obtain ⟨A2, c2, rfl, _⟩ := own_row o2
    go_wp2_with fail
    refine (HI.out _).mono ?_
    rintro e w4 ⟨v4, rfl, o4, b4⟩
    have i2 := own_lt o2
    have o2 := own_below o2 b4
    have z2 := b2.size
    have b4 := below_then b2 b2.size b4
    obtain ⟨A4, c4, rfl, _⟩ := own_row o4
    go_wp2_with fail
    refine (eqIntS_t _ _ _ _ _ _ L L _ rfl rfl (own_reads o4) (own_reads o2) (by unfold maxLen; omega) rfl).mono ?_
    rintro e w5 ⟨rfl, b5⟩
    have o2 := own_below o2 b5
    have o4 := own_below o4 b5
    have b5 := below_then b4 b4.size b5
    go_wp2_with fail
    refine (markIntS_c _ _ 1 L _ o4 (by omega) (by omega) (by omega)).mono ?_
    rintro e w10 ⟨rfl, o4', g10⟩
    have o2' := own_other o2 i2 o4 (Nat.le_refl _) g10
    have b10 := below_grown b5 b5.size o4 (by omega) g10
    clear o2 o4 g10
    go_wp2_with fail
    refine (heldIntS_c _ 1 _ _ _ (own_reads o4') (by omega) (by omega) (by omega)).mono ?_
    rintro e w11 ⟨rfl, b11⟩
    have o2 := own_below o2' b11
    have o4 := own_below o4' b11
    have b11 := below_then b10 b10.size b11
    clear o2' o4'
    have hqm : ((1 : Int) + (L.length : Int) != 1 + (L.length : Int)) = false := by simp
    go_wp2_with fail
    refine (HI.out _).mono ?_
    rintro e w13 ⟨v13, rfl, o13, b13⟩
    have o2 := own_below o2 b13
    have o4 := own_below o4 b13
    have b13 := below_then b11 b11.size b13
    obtain ⟨A13, c13, rfl, _⟩ := own_row o13
    go_wp2_with fail
    refine (eqIntS_t _ _ _ _ _ _ L L _ rfl rfl (own_reads o13) (own_reads o2) (by unfold maxLen; omega) rfl).mono ?_
    rintro e w14 ⟨rfl, b14⟩
    have o4 := own_below o4 b14
    have b14 := below_then b13 b13.size b14
    go_wp2_with fail
    refine (heldIntS_c _ 1 _ _ _ (own_reads o4) (by omega) (by omega) (by omega)).mono ?_
    rintro e w15 ⟨rfl, b15⟩
    have b15 := below_then b14 b14.size b15
    go_wp2_with fail
    go_ret
    exact ⟨rfl, b15⟩
end Go.Proofs.Ytjlhmondcclonaa

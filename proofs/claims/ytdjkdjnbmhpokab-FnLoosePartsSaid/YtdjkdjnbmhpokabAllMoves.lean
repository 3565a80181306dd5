
/-
  AllMoves of the program and of the model.
-/
import Derived.Test.YtdjkdjnbmhpokabLawsA
namespace Go.Proofs.Ytdjkdjnbmhpokab
open Go.RowKit
set_option linter.unusedVariables false

theorem flat_none : Flat none := fun ad e => by cases e
theorem implAllMoves_no (bc br : Int) (s : ByteArray) (w : World) (h : ¬ (Brd bc br ∧ (kindL s.toList).isSome = true)) : Calls Try.prog 18 #[.int .i64 bc, .int .i64 br, .string s] w (Plain (.int .i64 (-1)) w) := by
  have H := hide h
  clear h
  go_enter Try.func18, Try.ntmps18
  go_wp2_with fail
  refine (setUp_no bc br s _ H.out).mono ?_
  rintro e w1 ⟨x, y, pv, rfl, hb⟩
  go_wp2_with fail
  go_ret
  exact ⟨rfl, hb.alloc hb.size _⟩
set_option maxHeartbeats 1000000 in
theorem implAllMoves_yes (bc br : Int) (s : ByteArray) (w : World) {ss : List (Int × Int)} {far : Bool} (hk : kindL s.toList = some (ss, far)) (h1 : 1 ≤ bc) (h2 : bc ≤ 5) (h3 : 1 ≤ br) (h4 : br ≤ 5) :
    Calls Try.prog 18 #[.int .i64 bc, .int .i64 br, .string s] w (Plain (.int .i64 (sumP bc br far ss (bc * br).toNat)) w) := by
  obtain ⟨k1, k2, _⟩ := kind_ok hk
  obtain ⟨m1, m2⟩ := mul_bd h1 h2 h3 h4
  have Hk := hide hk
  clear hk
  go_enter Try.func18, Try.ntmps18
  go_wp2_with fail
  refine (setUp_yes bc br s _ Hk.out h1 h2 h3 h4).mono ?_
  rintro e w1 ⟨pv, rfl, hp, hb⟩
  have bx := Box.new w1 54 #[.int .i64 bc, .int .i64 br]
  have hp := hp.then ((Below.refl _ _).alloc (Nat.le_refl _) (.cells #[.int .i64 bc, .int .i64 br] 54))
  have hb := hb.alloc hb.size (.cells #[.int .i64 bc, .int .i64 br] 54)
  have z1 : w1.heap.size < (w1.alloc (.cells #[.int .i64 bc, .int .i64 br] 54)).heap.size := by simp
  go_wp2_with fail
  generalize w1.alloc (.cells #[.int .i64 bc, .int .i64 br] 54) = wa at *
  go_loopw [10, 11] (fun a i wr => ∃ k : Nat, (k : Int) ≤ bc * br ∧ i = .int .i64 k ∧ a = .int .i64 (sumP bc br far ss k) ∧ Below wa.heap.size wa wr) (fun _ i _ => (bc * br - intOf i).toNat)
  case atStart => exact ⟨0, by omega, rfl, rfl, Below.refl _ _⟩
  case round =>
    obtain ⟨k, hk, rfl, rfl, hbr⟩ := hrel
    obtain ⟨wo, rfl⟩ : ∃ wo : World, wo = wr := ⟨_, rfl⟩
    have bx2 := bx.then hbr
    have c0 := bx2.cell 0
    have c1 := bx2.cell 1
    obtain ⟨s1, s2⟩ := sum_bd bc br far ss k2 k
    by_cases hlt : (k : Int) < bc * br
    · go_wp2_with fail
      refine (size_c bc br _ h1 h2 h3 h4).mono ?_
      rintro e w2 ⟨rfl, hb2⟩
      have bx3 := bx2.then hb2
      have hbr2 := below_then hbr hbr.size hb2
      clear c0 c1
      have c0 := bx3.cell 0
      have c1 := bx3.cell 1
      go_wp2_with fail
      refine (reach_c bc br k _ pv far none 0 ss [] _ h1 h2 h3 h4 (by omega) hlt k1 k2 (hp.then hbr2) (Row.empty _ _) flat_none (by simp [maxLen])).mono ?_
      rintro e w3 ⟨v, rfl, hown, hb3⟩
      obtain ⟨A, c, rfl, _⟩ := own_row hown
      have HS : Hid (sumP bc br far ss (k + 1) = sumP bc br far ss k + ((reachP bc br far [] k ss).length : Int)) := rfl
      have hlen := reach_len bc br far [] k ss
      generalize reachP bc br far [] (k : Int) ss = L at *
      go_wp2_with fail
      exact ⟨⟨k + 1, by push_cast; omega, rfl, by rw [HS.out], below_then hbr2 hbr2.size hb3⟩, by simp [intOf]; omega⟩
    · have hkk : Hid ((bc * br).toNat = k) := hide (by omega)
      go_wp2_with fail
      refine (size_c bc br _ h1 h2 h3 h4).mono ?_
      rintro e w2 ⟨rfl, hb2⟩
      go_wp2_with fail
      go_ret
      exact ⟨by rw [hkk.out]; rfl, below_then hb hb.size (below_then hbr hbr.size hb2)⟩
theorem implAllMoves_c (bc br : Int) (s : ByteArray) (w : World) : Calls Try.prog 18 #[.int .i64 bc, .int .i64 br, .string s] w (Plain (.int .i64 (allMovesP bc br s.toList)) w) := by
  unfold allMovesP
  cases hk : kindL s.toList with
  | none => exact implAllMoves_no bc br s w (by simp [hk])
  | some p =>
    obtain ⟨ss, far⟩ := p
    simp only
    by_cases hB : Brd bc br
    · rw [if_pos hB]
      obtain ⟨h1, h2, h3, h4⟩ := hB
      exact implAllMoves_yes bc br s w hk h1 h2 h3 h4
    · rw [if_neg hB]
      exact implAllMoves_no bc br s w (fun h => hB h.1)

end Go.Proofs.Ytdjkdjnbmhpokab


/-
  Boards: hasAscending.
-/
import Derived.Test.YtdjkdjnbmhpokacMoveC
namespace Go.Proofs.Ytdjkdjnbmhpokac
open Go.RowKit
set_option linter.unusedVariables false

theorem has_yes (bc br cell : Int) (w : World) (h1 : 1 ≤ bc) (h2 : bc ≤ 5) (h3 : 1 ≤ br) (h4 : br ≤ 5) (h5 : 0 ≤ cell) (h6 : cell < bc * br) : Calls Try.prog 38 #[boardV bc br, .int .i64 cell] w (Plain (.bool true) w) := by
  have := has_c bc br cell w h1 h2 h3 h4
  rwa [decide_eq_true ⟨h5, h6⟩] at this
theorem has_no (bc br cell : Int) (w : World) (h1 : 1 ≤ bc) (h2 : bc ≤ 5) (h3 : 1 ≤ br) (h4 : br ≤ 5) (h5 : ¬ (0 ≤ cell ∧ cell < bc * br)) : Calls Try.prog 38 #[boardV bc br, .int .i64 cell] w (Plain (.bool false) w) := by
  have := has_c bc br cell w h1 h2 h3 h4
  rwa [decide_eq_false h5] at this

set_option maxHeartbeats 400000 in
theorem asc_c (bc br : Int) (A : Option Addr) (c : Nat) (l : List Int) (w : World) (h1 : 1 ≤ bc) (h2 : bc ≤ 5) (h3 : 1 ≤ br) (h4 : br ≤ 5) (hr : Row w A (ints l)) (hm : l.length ≤ maxLen) :
    Calls Try.prog 39 #[boardV bc br, .slice A l.length c] w (Plain (.bool (decide (AscTo (bc * br) l l.length))) w) := by
  unfold maxLen at hm
  go_enter Try.func39, Try.ntmps39
  go_wp2
  go_loopw [9] (fun i wr => ∃ k : Nat, k ≤ l.length ∧ i = .int .i64 k ∧ AscTo (bc * br) l k ∧ Below w.heap.size w wr ∧ Box wr w.heap.size 53 #[.int .i64 bc, .int .i64 br]) (fun i _ => l.length - (intOf i).toNat)
  case atStart => exact ⟨0, Nat.zero_le _, rfl, AscTo.zero _ _, (Below.refl _ _).alloc (Nat.le_refl _) _, Box.new _ _ _⟩
  case round =>
    obtain ⟨k, hk, rfl, ha, hb, hbox⟩ := hrel
    obtain ⟨wo, rfl⟩ : ∃ wo : World, wo = wr := ⟨_, rfl⟩
    have z := hb.size
    have c0 := hbox.cell 0
    have c1 := hbox.cell 1
    by_cases hlt : k < l.length
    · obtain ⟨ad, rfl, hca⟩ := (hr.below hb).int hlt
      obtain ⟨x, hx⟩ : ∃ x, l[k]?.getD 0 = x := ⟨_, rfl⟩
      rw [hx] at hca
      have X := hide hx
      clear hx
      by_cases hin : 0 ≤ x ∧ x < bc * br
      · have hq : ∀ w1, Calls Try.prog 38 #[boardV bc br, .int .i64 x] w1 (Plain (.bool true) w1) := fun w1 => has_yes bc br x w1 h1 h2 h3 h4 hin.1 hin.2
        have HQ := hide hq
        obtain ⟨i1, i2⟩ := hin
        clear hq
        by_cases hp : 0 < k
        · obtain ⟨ad', e, hcb⟩ := (hr.below hb).int (k := k - 1) (by omega)
          obtain rfl : ad = ad' := by injection e
          obtain ⟨y, hy⟩ : ∃ y, l[k - 1]?.getD 0 = y := ⟨_, rfl⟩
          rw [hy] at hcb
          have Y := hide hy
          clear hy e
          by_cases hlt2 : y < x
          · go_wp2_with fail
            refine (HQ.out _).mono ?_
            rintro e w1 ⟨rfl, hb1⟩
            have hcb1 := hb1.cell (World.block_lt_of_cell? _ _ hcb)
            rw [hcb] at hcb1
            go_wp2_with fail
            exact ⟨⟨k + 1, hlt, rfl, ha.succ (by rw [X.out]; exact i1) (by rw [X.out]; exact i2) (by rw [X.out, Y.out]; exact fun _ => hlt2), below_then hb z hb1, hbox.then hb1⟩, by simp [intOf]; omega⟩
          · go_wp2_with fail
            refine (HQ.out _).mono ?_
            rintro e w1 ⟨rfl, hb1⟩
            have hcb1 := hb1.cell (World.block_lt_of_cell? _ _ hcb)
            rw [hcb] at hcb1
            go_wp2_with fail
            go_ret
            exact ⟨ret_bool (by symm; simp only [decide_eq_false_iff_not]; exact AscTo.not hlt (.inr ⟨hp, by rw [X.out, Y.out]; omega⟩)), below_then hb z hb1⟩
        · go_wp2_with fail
          refine (HQ.out _).mono ?_
          rintro e w1 ⟨rfl, hb1⟩
          go_wp2_with fail
          exact ⟨⟨k + 1, hlt, rfl, ha.succ (by rw [X.out]; exact i1) (by rw [X.out]; exact i2) (by omega), below_then hb z hb1, hbox.then hb1⟩, by simp [intOf]; omega⟩
      · go_wp2_with fail
        refine (has_no bc br x _ h1 h2 h3 h4 hin).mono ?_
        rintro e w1 ⟨rfl, hb1⟩
        go_wp2_with fail
        go_ret
        exact ⟨ret_bool (by symm; simp only [decide_eq_false_iff_not]; exact AscTo.not hlt (.inl (by rw [X.out]; exact hin))), below_then hb z hb1⟩
    · have hk2 : Hid (k = l.length) := hide (by omega)
      go_wp2
      go_ret
      exact ⟨ret_bool (by symm; simp only [decide_eq_true_eq]; rw [← hk2.out]; exact ha), hb⟩
end Go.Proofs.Ytdjkdjnbmhpokac

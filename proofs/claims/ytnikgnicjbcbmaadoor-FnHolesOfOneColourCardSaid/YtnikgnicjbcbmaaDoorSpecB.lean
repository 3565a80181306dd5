
/-
  The reference model's validCells; a number in a list; ascending.
-/
import Derived.Test.YtnikgnicjbcbmaaDoorSpecA
import Derived.Deep.LoopGhost
namespace Go.Proofs.YtnikgnicjbcbmaaDoor
open Go.RowKit
set_option linter.unusedVariables false

theorem inRange_t (n lo hi : Int) (w : World) (h1 : lo ≤ n) (h2 : n ≤ hi) : Calls Tryd.prog 38 #[.int .i64 n, .int .i64 lo, .int .i64 hi] w fun e w' => e = .returned (.bool true) ∧ w' = w :=
  (inRange_c n lo hi w).mono fun e w' ⟨he, hw⟩ => ⟨by rw [he, decide_eq_true ⟨h1, h2⟩], hw⟩
theorem inRange_f (n lo hi : Int) (w : World) (h : ¬ (lo ≤ n ∧ n ≤ hi)) : Calls Tryd.prog 38 #[.int .i64 n, .int .i64 lo, .int .i64 hi] w fun e w' => e = .returned (.bool false) ∧ w' = w :=
  (inRange_c n lo hi w).mono fun e w' ⟨he, hw⟩ => ⟨by rw [he, decide_eq_false h], hw⟩

set_option maxHeartbeats 1000000 in
theorem validCells_c (bc br : Int) (A : Option Addr) (c : Nat) (l : List Int) (w : World) (h1 : 1 ≤ bc) (h2 : bc ≤ 5) (h3 : 1 ≤ br) (h4 : br ≤ 5) (hr : Row w A (ints l)) (hm : l.length ≤ maxLen) :
    Calls Tryd.prog 34 #[.int .i64 bc, .int .i64 br, .slice A l.length c] w (Plain (.bool (decide (AscTo (bc * br) l l.length))) w) := by
  unfold maxLen at hm
  obtain ⟨m1, m2⟩ := mul_bd h1 h2 h3 h4
  go_enter Tryd.func34, Tryd.ntmps34
  go_wp2
  go_loopw [7] (fun i wr => ∃ k : Nat, k ≤ l.length ∧ i = .int .i64 k ∧ AscTo (bc * br) l k ∧ Below w.heap.size w wr) (fun i _ => l.length - (intOf i).toNat)
  case atStart => exact ⟨0, Nat.zero_le _, rfl, AscTo.zero _ _, Below.refl _ _⟩
  case round =>
    obtain ⟨k, hk, rfl, ha, hb⟩ := hrel
    obtain ⟨wo, rfl⟩ : ∃ wo : World, wo = wr := ⟨_, rfl⟩
    by_cases hlt : k < l.length
    · obtain ⟨ad, rfl, hca⟩ := (hr.below hb).int hlt
      obtain ⟨x, hx⟩ : ∃ x, l[k]?.getD 0 = x := ⟨_, rfl⟩
      rw [hx] at hca
      have X := hide hx
      clear hx
      by_cases hin : 0 ≤ x ∧ x < bc * br
      · have hq : ∀ w1, Calls Tryd.prog 38 #[.int .i64 x, .int .i64 0, .int .i64 (bc * br - 1)] w1 fun e w' => e = .returned (.bool true) ∧ w' = w1 := fun w1 => inRange_t x 0 (bc * br - 1) w1 hin.1 (by omega)
        have HQ := hide hq
        obtain ⟨i1, i2⟩ := hin
        clear hq
        by_cases hp : 0 < k
        · obtain ⟨ad', e, hcb⟩ := (hr.below hb).int (k := k - 1) (by omega)
          obtain rfl : ad = ad' := by injection e
          obtain ⟨y, hy⟩ : ∃ y, l[k - 1]?.getD 0 = y := ⟨_, rfl⟩
          rw [hy] at hcb
          have Y := hide hy
          clear hy e
          by_cases hlt2 : y < x
          · go_wp2_with fail
            have e1 : IntKind.i64.wrap (bc * br) = bc * br := IntWalk.i64_in _ (by omega)
            have e2 : IntKind.i64.wrap (bc * br - 1) = bc * br - 1 := IntWalk.i64_in _ (by omega)
            have e3 : IntKind.i64.wrap ((k : Int) - 1) = (k : Int) - 1 := IntWalk.i64_in _ (by omega)
            go_quiet ((go_at_call 38; exact Calls.quiet_of_same (HQ.out _)))
            all_goals clear e1 e2 e3
            all_goals go_wp2_with fail
            exact ⟨⟨k + 1, hlt, rfl, ha.succ (by rw [X.out]; exact i1) (by rw [X.out]; exact i2) (by rw [X.out, Y.out]; exact fun _ => hlt2), below_drewN hb _⟩, by simp [intOf]; omega⟩
          · have hle : x ≤ y := by omega
            go_wp2_with fail
            have e1 : IntKind.i64.wrap (bc * br) = bc * br := IntWalk.i64_in _ (by omega)
            have e2 : IntKind.i64.wrap (bc * br - 1) = bc * br - 1 := IntWalk.i64_in _ (by omega)
            have e3 : IntKind.i64.wrap ((k : Int) - 1) = (k : Int) - 1 := IntWalk.i64_in _ (by omega)
            go_quiet ((go_at_call 38; exact Calls.quiet_of_same (HQ.out _)))
            all_goals clear e1 e2 e3
            all_goals go_wp2_with fail
            go_ret
            exact ⟨ret_bool (by symm; simp only [decide_eq_false_iff_not]; exact AscTo.not hlt (.inr ⟨hp, by rw [X.out, Y.out]; omega⟩)), below_drewN hb _⟩
        · have hd : decide ((k : Int) > 0) = false := by simp; omega
          go_wp2_with fail
          have e1 : IntKind.i64.wrap (bc * br) = bc * br := IntWalk.i64_in _ (by omega)
          have e2 : IntKind.i64.wrap (bc * br - 1) = bc * br - 1 := IntWalk.i64_in _ (by omega)
          have e3 : IntKind.i64.wrap ((k : Int) - 1) = (k : Int) - 1 := IntWalk.i64_in _ (by omega)
          go_quiet ((go_at_call 38; exact Calls.quiet_of_same (HQ.out _)))
          all_goals clear e1 e2 e3
          all_goals go_wp2_with fail
          exact ⟨⟨k + 1, hlt, rfl, ha.succ (by rw [X.out]; exact i1) (by rw [X.out]; exact i2) (by omega), below_drewN hb _⟩, by simp [intOf]; omega⟩
      · have hq : ∀ w1, Calls Tryd.prog 38 #[.int .i64 x, .int .i64 0, .int .i64 (bc * br - 1)] w1 fun e w' => e = .returned (.bool false) ∧ w' = w1 := fun w1 => inRange_f x 0 (bc * br - 1) w1 (by omega)
        have HQ := hide hq
        have Hin := hide hin
        clear hq hin
        go_wp2_with fail
        have e1 : IntKind.i64.wrap (bc * br) = bc * br := IntWalk.i64_in _ (by omega)
        have e2 : IntKind.i64.wrap (bc * br - 1) = bc * br - 1 := IntWalk.i64_in _ (by omega)
        have e3 : IntKind.i64.wrap ((k : Int) - 1) = (k : Int) - 1 := IntWalk.i64_in _ (by omega)
        go_quiet ((go_at_call 38; exact Calls.quiet_of_same (HQ.out _)))
        all_goals clear e1 e2 e3
        all_goals go_wp2_with fail
        go_ret
        exact ⟨ret_bool (by symm; simp only [decide_eq_false_iff_not]; exact AscTo.not hlt (.inl (by rw [X.out]; exact Hin.out))), below_drewN hb _⟩
    · have hk2 : Hid (k = l.length) := hide (by omega)
      go_wp2
      go_ret
      exact ⟨ret_bool (by symm; simp only [decide_eq_true_eq]; rw [← hk2.out]; exact ha), hb⟩
end Go.Proofs.YtnikgnicjbcbmaaDoor


/-
  The drawn arguments of the functions of chapter 6.
-/
import Derived.Test.YtgbbmnnpphkkbaaDrawG
import Derived.Test.YtgbbmnnpphkkbaaLightA
import Derived.Lib.MinMax
namespace Go.Proofs.Ytgbbmnnpphkkbaa
open Go.RowKit
set_option linter.unusedVariables false

set_option maxHeartbeats 2000000 in
set_option maxRecDepth 100000 in
theorem aSet_c (n : Int) (R B N : Nat) (w : World) (h : Reader w R B N) (hN : N ≤ 800000) (n1 : -36 ≤ n) (n2 : n ≤ 36) :
    Calls Try.prog 35 #[.pointer (some ⟨R, 0, none⟩), .int .i64 n] w (Drawn (fun x => -5000 ≤ x ∧ x ≤ 5000) R B (N + 20) w) := by
  obtain ⟨m0, m, hm1, hm2, hm3, hm4, m12⟩ : ∃ m0 : Int, ∃ m : Nat, (if (0 : Int) > n then 0 else n) = m0 ∧ max n 0 = m0 ∧ (if (12 : Int) < m0 then 12 else m0) = (m : Int) ∧ min m0 12 = (m : Int) ∧ m ≤ 12 := by
    by_cases h0 : n < 0
    · exact ⟨0, 0, by rw [if_pos (by omega)], by omega, by decide, by decide, by omega⟩
    · by_cases h12 : 12 < n
      · exact ⟨n, 12, by rw [if_neg (by omega)], by omega, by rw [if_pos (by omega)]; rfl, by omega, by omega⟩
      · exact ⟨n, n.toNat, by rw [if_neg (by omega)], by omega, by rw [if_neg (by omega)]; omega, by omega, by omega⟩
  have HPm := hide (fun w5 => specPower12_c m m12 w5)
  have HPW := hide (fun (j : Nat) (hj : j ≤ 12) w5 => specPower12_c j hj w5)
  obtain ⟨pm1, pm2⟩ := pow12 m12
  generalize 2 ^ m = PM at *
  have H1 := hide hm1
  have H2 := hide hm2
  have H3 := hide hm3
  have H4 := hide hm4
  clear hm1 hm2 hm3 hm4
  go_enter Try.func35, Try.ntmps35
  go_wp2_with fail
  refine (one_new [2, 3, 8] R B N w h (by omega) (by decide) (by decide)).mono ?_
  rintro e w1 ⟨often, rfl, hm, rd1, hg1⟩
  have ho : -1000 ≤ often ∧ often ≤ 1000 := by simp only [List.mem_cons, List.not_mem_nil, or_false] at hm; omega
  clear hm
  go_wp2_with fail
  go_loopw [5, 7] (fun a i wr => ∃ k o : Nat, k ≤ 12 ∧ i = .int .i64 (k : Int) ∧ a = .int .i64 (o : Int) ∧ o < 2 ^ k ∧ Reader wr R B (N + 1 + k) ∧ w.grownBy wr (some R)) (fun _ i _ => 12 - (intOf i).toNat)
  case atStart => exact ⟨0, 0, by omega, rfl, rfl, by simp, rd1, hg1⟩
  case round =>
    clear rd1 hg1
    obtain ⟨k, o, hk, rfl, rfl, hob, rd, hg⟩ := hrel
    obtain ⟨wo, rfl⟩ : ∃ wo : World, wo = wr := ⟨_, rfl⟩
    obtain ⟨p1, p2⟩ := pow12 hk
    by_cases hc : (k : Int) < n ∧ (k : Int) < 12
    · obtain ⟨hc1, hc2⟩ := hc
      have HPk := hide (fun w5 => HPW.out k hk w5)
      have hpp : Hid (2 ^ (k + 1) = 2 * 2 ^ k) := Nat.pow_succ'
      have HOB : Hid (∀ x, x = o ∨ x = o + 2 ^ k → x < 2 ^ (k + 1)) := fun x hx => by rw [Nat.pow_succ]; rcases hx with rfl | rfl <;> omega
      have eo : o ≤ 4096 := by omega
      clear hob hpp
      generalize 2 ^ k = P at *
      go_wp2_with fail
      refine (pick_c often R B (N + 1 + k) _ rd (by omega) (by omega) (by omega)).mono ?_
      rintro e w2 ⟨x, rfl, _, _, rd2, hg2⟩
      have hg2 := hg.trans hg2
      cases hx : (x == 0) with
      | true =>
        have e1 : IntKind.i64.wrap ((o : Int) + (P : Int)) = ((o + P : Nat) : Int) := (IntWalk.i64_in _ (by omega)).trans (by omega)
        go_wp2_with fail
        refine (HPk.out _).mono ?_
        rintro e w3 ⟨rfl, rfl⟩
        go_wp2_with fail
        exact ⟨⟨k + 1, o + P, by omega, by go_num, by push_cast; rfl, HOB.out _ (.inr rfl), rd2, hg2⟩, by simp [intOf]; omega⟩
      | false =>
        go_wp2_with fail
        exact ⟨⟨k + 1, o, by omega, by go_num, rfl, HOB.out _ (.inl rfl), rd2, hg2⟩, by simp [intOf]; omega⟩
    · have ob : o < 4096 := by omega
      clear hob
      generalize 2 ^ k = P at *
      have hc' : ¬ (k : Int) < n ∨ ((k : Int) < n ∧ ¬ (k : Int) < 12) := by omega
      clear hc
      rcases hc' with hc1 | ⟨hc1, hc2⟩
      all_goals
        have rd := rd.mono (show N + 1 + k ≤ N + 13 by omega)
        go_wp2_with fail
        refine (pick_c 3 R B (N + 13) _ rd (by omega) (by omega) (by omega)).mono ?_
        rintro e w2 ⟨x, rfl, _, _, rd2, hg2⟩
        have hg2 := hg.trans hg2
        clear rd hg
        have hm1 := H1.out
        have hm2 := H2.out
        have hm3 := H3.out
        have hm4 := H4.out
        cases hx : (x == 0) with
        | true =>
          go_wp2_with fail
          refine (HPm.out _).mono ?_
          rintro e w3 ⟨rfl, rfl⟩
          have e1 : IntKind.i64.wrap ((PM : Int) - 1) = (PM : Int) - 1 := IntWalk.i64_in _ (by omega)
          have e2 : IntKind.i64.wrap ((PM : Int) - 1 - (o : Int)) = (PM : Int) - 1 - (o : Int) := IntWalk.i64_in _ (by omega)
          go_wp2_with fail
          refine (pick_c 30 R B (N + 14) _ rd2 (by omega) (by omega) (by omega)).mono ?_
          rintro e w3 ⟨y, rfl, _, _, rd3, hg3⟩
          have hg3 := hg2.trans hg3
          cases hy : (y == 0) with
          | true =>
            go_wp2_with fail
            refine (HPm.out _).mono ?_
            rintro e w4 ⟨rfl, rfl⟩
            go_wp2_with fail
            refine (one_new [-1, (PM : Int)] R B (N + 15) _ rd3 (by omega) (by simp) (by simp)).mono ?_
            rintro e w4 ⟨z, rfl, hz, rd4, hg4⟩
            have hz' : -5000 ≤ z ∧ z ≤ 5000 := by simp only [List.mem_cons, List.not_mem_nil, or_false] at hz; omega
            go_wp2_with fail
            go_ret
            exact ⟨z, rfl, hz', rd4.mono (by omega), hg3.trans hg4⟩
          | false =>
            go_wp2_with fail
            go_ret
            exact ⟨_, rfl, by omega, rd3.mono (by omega), hg3⟩
        | false =>
          go_wp2_with fail
          refine (pick_c 30 R B (N + 14) _ rd2 (by omega) (by omega) (by omega)).mono ?_
          rintro e w3 ⟨y, rfl, _, _, rd3, hg3⟩
          have hg3 := hg2.trans hg3
          cases hy : (y == 0) with
          | true =>
            go_wp2_with fail
            refine (HPm.out _).mono ?_
            rintro e w4 ⟨rfl, rfl⟩
            go_wp2_with fail
            refine (one_new [-1, (PM : Int)] R B (N + 15) _ rd3 (by omega) (by simp) (by simp)).mono ?_
            rintro e w4 ⟨z, rfl, hz, rd4, hg4⟩
            have hz' : -5000 ≤ z ∧ z ≤ 5000 := by simp only [List.mem_cons, List.not_mem_nil, or_false] at hz; omega
            go_wp2_with fail
            go_ret
            exact ⟨z, rfl, hz', rd4.mono (by omega), hg3.trans hg4⟩
          | false =>
            go_wp2_with fail
            go_ret
            exact ⟨_, rfl, by omega, rd3.mono (by omega), hg3⟩

def DrawnLights (w : World) (e : Ending) (w' : World) : Prop := ∃ (x y l : Int), e = .returned (.tuple #[.int .i64 x, .int .i64 y, .int .i64 l]) ∧ (-1 ≤ x ∧ x ≤ 6) ∧ (-1 ≤ y ∧ y ≤ 6) ∧ (-5000 ≤ l ∧ l ≤ 5000) ∧ Below w.heap.size w w'
def DrawnPresses (w : World) (e : Ending) (w' : World) : Prop := ∃ (x y l s : Int), e = .returned (.tuple #[.int .i64 x, .int .i64 y, .int .i64 l, .int .i64 s]) ∧ (-1 ≤ x ∧ x ≤ 6) ∧ (-1 ≤ y ∧ y ≤ 6) ∧ (-5000 ≤ l ∧ l ≤ 5000) ∧ (-5000 ≤ s ∧ s ≤ 5000) ∧ Below w.heap.size w w'
def DrawnBrd (w : World) (e : Ending) (w' : World) : Prop := ∃ (x y : Int), e = .returned (.tuple #[.int .i64 x, .int .i64 y]) ∧ (-1 ≤ x ∧ x ≤ 6) ∧ (-1 ≤ y ∧ y ≤ 6) ∧ Below w.heap.size w w'
end Go.Proofs.Ytgbbmnnpphkkbaa

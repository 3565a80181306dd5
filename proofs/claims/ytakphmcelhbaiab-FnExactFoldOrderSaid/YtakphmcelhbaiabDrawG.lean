
/-
  Drawn small boards; the drawn arguments of the functions of chapter 4.
-/
import Derived.Test.YtakphmcelhbaiabDrawC
namespace Go.Proofs.Ytakphmcelhbaiab
open Go.RowKit
set_option linter.unusedVariables false

theorem small_less {m x y : Int} (hm : 1 ≤ m) (hx : 1 ≤ x ∧ x ≤ 5) (hy : 1 ≤ y ∧ y ≤ 5) (h : m < x * y) : (y < x → 2 ≤ x) ∧ (¬ y < x → 2 ≤ y) := by
  refine ⟨fun h' => by omega, fun h' => ?_⟩
  by_cases e : y = 1
  · subst e
    have : x = 1 := by omega
    subst this
    omega
  · omega
theorem small_mul {x y : Int} (hx : 1 ≤ x ∧ x ≤ 5) (hy : 1 ≤ y ∧ y ≤ 5) : 1 ≤ x * y ∧ x * y ≤ 25 := mul_bd hx.1 hx.2 hy.1 hy.2

set_option maxHeartbeats 1000000 in
theorem smallBoard_c (m : Int) (R B N : Nat) (w : World) (h : Reader w R B N) (hN : N ≤ 900000) (hm1 : 1 ≤ m) (hm2 : m ≤ 100) : Calls Try.prog 26 #[.pointer (some ⟨R, 0, none⟩), .int .i64 m] w (SomeBoard R B (N + 4) w) := by
  go_enter Try.func26, Try.ntmps26
  go_wp2_with fail
  refine (one_new [3, 2, 3, 4, 1, 5] R B N w h (by omega) (by decide) (by decide)).mono ?_
  rintro e w1 ⟨x0, rfl, hm, rd1, hg1⟩
  have hx0 : 1 ≤ x0 ∧ x0 ≤ 5 := by simp only [List.mem_cons, List.not_mem_nil, or_false] at hm; omega
  clear hm
  go_wp2_with fail
  refine (one_new [3, 2, 4, 1, 3, 5] R B (N + 1) w1 rd1 (by omega) (by decide) (by decide)).mono ?_
  rintro e w2 ⟨y0, rfl, hm, rd2, hg2⟩
  have hy0 : 1 ≤ y0 ∧ y0 ≤ 5 := by simp only [List.mem_cons, List.not_mem_nil, or_false] at hm; omega
  clear hm
  go_wp2_with fail
  go_loopw [6, 7] (fun a b wr => ∃ x y : Int, a = .int .i64 x ∧ b = .int .i64 y ∧ (1 ≤ x ∧ x ≤ 5) ∧ (1 ≤ y ∧ y ≤ 5) ∧ w2 = wr) (fun a b _ => (intOf a + intOf b).toNat)
  case atStart => exact ⟨x0, y0, rfl, rfl, hx0, hy0, rfl⟩
  case round =>
    clear hx0 hy0
    obtain ⟨x, y, rfl, rfl, hx, hy, rfl⟩ := hrel
    obtain ⟨q1, q2⟩ := small_mul hx hy
    have hl := small_less (m := m) hm1 hx hy
    have e0 : IntKind.i64.wrap (x * y) = x * y := IntWalk.i64_in _ (by omega)
    by_cases hc : m < x * y
    · obtain ⟨l1, l2⟩ := hl hc
      by_cases hxy : y < x
      · have l1 := l1 hxy
        clear l2 hl
        obtain ⟨p, hp⟩ : ∃ p, x * y = p := ⟨_, rfl⟩
        replace e0 := e0.trans hp
        rw [hp] at hc q1 q2
        clear hp
        go_wp2_with fail
        exact ⟨⟨x - 1, y, rfl, rfl, by omega, hy, trivial⟩, by simp [intOf]; omega⟩
      · have l2 := l2 hxy
        clear l1 hl
        obtain ⟨p, hp⟩ : ∃ p, x * y = p := ⟨_, rfl⟩
        replace e0 := e0.trans hp
        rw [hp] at hc q1 q2
        clear hp
        go_wp2_with fail
        exact ⟨⟨x, y - 1, rfl, rfl, hx, by omega, trivial⟩, by simp [intOf]; omega⟩
    · clear hl
      obtain ⟨p, hp⟩ : ∃ p, x * y = p := ⟨_, rfl⟩
      replace e0 := e0.trans hp
      rw [hp] at hc q1 q2
      clear hp
      have hx : -1 ≤ x ∧ x ≤ 6 := by omega
      have hy : -1 ≤ y ∧ y ≤ 6 := by omega
      go_wp2_with fail
      refine (pick_c 40 R B (N + 1 + 1) w2 rd2 (by omega) (by omega) (by omega)).mono ?_
      rintro e w3 ⟨z, rfl, _, _, rd3, hg3⟩
      have hg3 := (hg1.trans hg2).trans hg3
      clear hg1 hg2
      cases h0 : (z == 0) with
      | true =>
        go_wp2_with fail
        refine (one_new [0, 6, -1] R B (N + 1 + 1 + 1) w3 rd3 (by omega) (by decide) (by decide)).mono ?_
        rintro e w4 ⟨x', rfl, hm, rd4, hg4⟩
        have hx' : -1 ≤ x' ∧ x' ≤ 6 := by simp only [List.mem_cons, List.not_mem_nil, or_false] at hm; omega
        clear hm
        go_wp2_with fail
        go_ret2
        exact ⟨x', y, rfl, hx', hy, rd4, hg3.trans hg4⟩
      | false =>
        cases h1 : (z == 1) with
        | true =>
          go_wp2_with fail
          refine (one_new [0, 5, 6] R B (N + 1 + 1 + 1) w3 rd3 (by omega) (by decide) (by decide)).mono ?_
          rintro e w4 ⟨y', rfl, hm, rd4, hg4⟩
          have hy' : -1 ≤ y' ∧ y' ≤ 6 := by simp only [List.mem_cons, List.not_mem_nil, or_false] at hm; omega
          clear hm
          go_wp2_with fail
          go_ret2
          exact ⟨x, y', rfl, hx, hy', rd4, hg3.trans hg4⟩
        | false =>
          go_wp2_with fail
          go_ret2
          exact ⟨x, y, rfl, hx, hy, rd3.mono (by omega), hg3⟩
end Go.Proofs.Ytakphmcelhbaiab


/-
  The model's queens: lessList, purely and by the model.
-/
import Derived.Test.YtlccohoblplddadQueenB
namespace Go.Proofs.Ytlccohoblplddad
open Go.RowKit
set_option linter.unusedVariables false

/-- Which of two lists of one length comes first. -/
def lessP : List Int → List Int → Bool
  | x :: a, y :: b => if x = y then lessP a b else decide (x < y)
  | _, _ => false
theorem lessP_same : ∀ (a : List Int), lessP a a = false
  | [] => rfl
  | x :: a => by rw [lessP, if_pos rfl]; exact lessP_same a
theorem lessP_at : ∀ (a b : List Int) (k : Nat), k < a.length → k < b.length → a.take k = b.take k → a[k]?.getD 0 ≠ b[k]?.getD 0 → lessP a b = decide (a[k]?.getD 0 < b[k]?.getD 0)
  | x :: a, y :: b, 0, _, _, _, h => by
    simp only [List.getElem?_cons_zero, Option.getD_some] at h ⊢
    rw [lessP, if_neg h]
  | x :: a, y :: b, k + 1, h1, h2, ht, h => by
    simp only [List.take_succ_cons, List.cons.injEq] at ht
    simp only [List.getElem?_cons_succ, List.length_cons] at h h1 h2 ⊢
    rw [lessP, if_pos ht.1]
    exact lessP_at a b k (by omega) (by omega) ht.2 h
  | [], _, _, h1, _, _, _ => by simp at h1
  | _ :: _, [], _, _, h2, _, _ => by simp at h2
set_option maxHeartbeats 400000 in
theorem specLessList_c (A C : Option Addr) (xs ys : List Int) (ca cc : Nat) (w : World) (ha : Row w A (ints xs)) (hc : Row w C (ints ys))
    (hn : xs.length ≤ 1048576) (hl : xs.length = ys.length) :
    Calls Try.prog 40 #[.slice A xs.length ca, .slice C ys.length cc] w (Plain (.bool (lessP xs ys)) w) := by
  have hm : ys.length ≤ 1048576 := by omega
  have HL := hide hl
  clear hl
  go_enter Try.func40, Try.ntmps40
  go_wp2
  go_loopw [5] (fun i wr => ∃ (k n : Nat), k ≤ xs.length ∧ i = .int .i64 k ∧ Hid (xs.take k = ys.take k) ∧ wr = w.drewN n) (fun i _ => xs.length - (intOf i).toNat)
  case atStart => exact ⟨0, 0, Nat.zero_le _, rfl, rfl, rfl⟩
  case round =>
    obtain ⟨k, n, hk, rfl, he, rfl⟩ := hrel
    by_cases hlt : k < xs.length
    · have hlt2 : k < ys.length := HL.out ▸ hlt
      obtain ⟨ad, rfl, hca⟩ := ha.int hlt
      obtain ⟨ad', rfl, hcc⟩ := hc.int hlt2
      obtain ⟨x, hx⟩ : ∃ x, xs[k]?.getD 0 = x := ⟨_, rfl⟩
      obtain ⟨y, hy⟩ : ∃ y, ys[k]?.getD 0 = y := ⟨_, rfl⟩
      rw [hx] at hca
      rw [hy] at hcc
      have X := hide hx
      have Y := hide hy
      clear hx hy
      cases hb : (x != y) with
      | true =>
        have HP : Hid (lessP xs ys = decide (x < y)) := by
          show _ = _
          rw [lessP_at xs ys k hlt hlt2 he.out (by rw [X.out, Y.out]; simpa using hb), X.out, Y.out]
        go_wp2
        go_quiet (fail)
        all_goals go_wp2
        go_quiet (fail)
        all_goals go_wp2
        all_goals go_ret
        all_goals exact ⟨ret_bool (by rw [HP.out]), below_drewN (below_drewN (below_drewN (Below.refl _ _) _) _) _⟩
      | false =>
        have HS : Hid (xs.take (k + 1) = ys.take (k + 1)) := eqlist_step hlt HL.out he.out (by
          have e : x = y := by simpa using hb
          have h1 := X.out
          have h2 := Y.out
          rw [List.getElem?_eq_getElem hlt] at h1
          rw [List.getElem?_eq_getElem hlt2] at h2
          simp only [Option.getD_some] at h1 h2
          rw [List.getElem?_eq_getElem hlt, List.getElem?_eq_getElem hlt2, h1, h2, e])
        go_wp2
        go_quiet (fail)
        all_goals go_wp2
        exact ⟨⟨k + 1, n + nq, hlt, by go_num, HS.out, rfl⟩, by simp [intOf]; omega⟩
    · have hk2 : Hid (k = xs.length) := hide (by omega)
      have HP : Hid (lessP xs ys = false) := by
        show _ = _
        have e := he.out
        rw [hk2.out, List.take_of_length_le (Nat.le_refl _), List.take_of_length_le (by rw [HL.out]; exact Nat.le_refl _)] at e
        rw [e]
        exact lessP_same _
      go_wp2
      go_ret
      exact ⟨ret_bool HP.out.symm, below_drewN (Below.refl _ _) _⟩
end Go.Proofs.Ytlccohoblplddad

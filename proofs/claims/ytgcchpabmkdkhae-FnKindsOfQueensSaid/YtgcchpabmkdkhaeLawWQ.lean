
/-
  Words of chapter 3's laws: lessRow, equalRows.
-/
import Derived.Test.YtgcchpabmkdkhaeQueenG
namespace Go.Proofs.Ytgcchpabmkdkhae
open Go.RowKit
set_option linter.unusedVariables false

set_option maxHeartbeats 400000 in
theorem equalInts_q (A C : Option Addr) (xs : List Int) (ca cc : Nat) (w : World) (ha : Row w A (ints xs)) (hc : Row w C (ints xs)) (hn : xs.length ≤ 1048576) :
    Calls Try.prog 8 #[.slice A xs.length ca, .slice C xs.length cc] w fun e w' => e = .returned (.bool true) ∧ ∃ m, w' = w.drewN m := by
  go_enter Try.func8, Try.ntmps8
  go_wp2
  go_loopw [5] (fun i wr => ∃ (k n : Nat), k ≤ xs.length ∧ i = .int .i64 k ∧ wr = w.drewN n) (fun i _ => xs.length - (intOf i).toNat)
  case atStart => exact ⟨0, 0, Nat.zero_le _, rfl, rfl⟩
  case round =>
    obtain ⟨k, n, hk, rfl, rfl⟩ := hrel
    by_cases hlt : k < xs.length
    · obtain ⟨ad, rfl, hca⟩ := ha.int hlt
      obtain ⟨ad', rfl, hcc⟩ := hc.int hlt
      obtain ⟨x, hx⟩ : ∃ x, xs[k]?.getD 0 = x := ⟨_, rfl⟩
      rw [hx] at hca hcc
      clear hx
      go_wp2
      go_quiet (fail)
      all_goals go_wp2
      exact ⟨⟨k + 1, n + nq, hlt, by go_num, rfl⟩, by simp [intOf]; omega⟩
    · have hk2 : Hid (k = xs.length) := hide (by omega)
      go_wp2
      go_ret
      exact ⟨rfl, n, rfl⟩
end Go.Proofs.Ytgcchpabmkdkhae

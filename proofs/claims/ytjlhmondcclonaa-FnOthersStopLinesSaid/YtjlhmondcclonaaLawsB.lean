/-
  The walk of the law FnValidKind.
-/
import Derived.Test.YtjlhmondcclonaaLawsA
import Derived.Test.YtjlhmondcclonaaDrawC
namespace Go.Proofs.Ytjlhmondcclonaa
open Go.RowKit
set_option linter.unusedVariables false

/-- What the law's shell knows of its code. -/
theorem code_of {w : World} {a : Option Addr} {len cap : Nat} {zs : List Int}
    (h : (a = none ∧ len = 0 ∧ cap = 0 ∧ zs = []) ∨ ∃ x, a = some x ∧ len ≤ cap ∧ cap ≤ maxLen ∧ zs.length = cap ∧ (∀ i, i < zs.length → w.cell? (x.add i) = some (.int .u8 (zs.getD i 0))) ∧ ∀ n ∈ zs, (Lit.int .u8 n).wf = true) : Code w a len cap := by
  rcases h with ⟨rfl, rfl, rfl, rfl⟩ | ⟨x, rfl, hl, hm, hz, hc, hw⟩
  · exact ⟨[], rfl, Nat.le_refl _, by simp [maxLen], Row.empty _ _, fun z h => by cases h⟩
  · refine ⟨zs.take len, by simp; omega, hl, hm, fun j hj => ⟨x, rfl, ?_⟩, fun z h => ?_⟩
    · simp only [List.length_map, List.length_take] at hj
      rw [hc j (by omega)]
      simp [List.getElem?_eq_getElem (show j < zs.length by omega)]
    · have := hw z (List.mem_of_mem_take h)
      simp [Lit.wf, IntKind.min, IntKind.max, IntKind.bits, IntKind.signed] at this
      omega

set_option maxHeartbeats 1000000 in
theorem kind_goes {s : List UInt8} (h : (kindL s).isSome = true) : 4 ≤ (reachOfP 5 5 s 12 []).length := by
  unfold reachOfP
  unfold kindL at h ⊢
  repeat' (split at h)
  all_goals first | (simp at h; done) | simp only [*, if_true, if_false, Bool.false_eq_true]
  all_goals
    rw [if_pos (by decide +kernel)]
    unfold reachP
    rw [List.length_mergeSort]
    decide +kernel

set_option maxHeartbeats 1000000 in
theorem validKind_w (A : Option Addr) (n c : Nat) (w : World) (h : Code w A n c) : Calls Try.prog 3 #[.slice A n c] w (Plain (.bool true) w) := by
  by_cases hl : 1048576 < (n : Int)
  · go_enter Try.func3, Try.ntmps3
    go_wp2
    go_ret
    exact ⟨rfl, Below.refl _ _⟩
  · have HC := hide (drawValidKind_c A n c w h)
    clear h
    go_enter Try.func3, Try.ntmps3
    go_wp2_with fail
    refine HC.out.mono ?_
    rintro e w1 ⟨s, rfl, hs, b1⟩
    go_wp2_with fail
    refine (implValidKind_c s _).mono ?_
    rintro e w2 ⟨rfl, b2⟩
    have b2 := below_then b1 b1.size b2
    go_wp2_with fail
    refine (specValidKind_c s _).mono ?_
    rintro e w3 ⟨rfl, b3⟩
    have b3 := below_then b2 b2.size b3
    cases hk : (kindL s.toList).isSome with
    | true =>
      have hlen := hide (kind_goes hk)
      have hi := hide (fun (w5 : World) => implReachOf_c 5 5 12 s none 0 [] w5 (Row.empty _ _) (fun ad e => by cases e) (by simp [maxLen]))
      clear hk
      go_wp2_with fail
      refine (hi.out _).mono ?_
      rintro e w4 ⟨v, rfl, own, b4⟩
      obtain ⟨A4, c4, rfl, _⟩ := own_row own
      generalize reachOfP 5 5 s.toList 12 [] = L at *
      have hL : (4 : Int) ≤ (L.length : Int) := by have := hlen.out; unfold Hid at *; omega
      go_wp2_with fail
      go_ret
      exact ⟨ret_bool (by simp <;> omega), below_then b3 b3.size b4⟩
    | false =>
      have Hk := hide hk
      clear hk
      go_wp2_with fail
      refine (specValidKind_c s _).mono ?_
      rintro e w4 ⟨rfl, b4⟩
      rw [Hk.out]
      go_wp2_with fail
      go_ret
      exact ⟨rfl, below_then b3 b3.size b4⟩
end Go.Proofs.Ytjlhmondcclonaa

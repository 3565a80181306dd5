
/-
  The program's queens: fitQueens, areColumns, isFree, CanStand.
-/
import Derived.Test.YtgcchpabmkdkhaeQueenB
namespace Go.Proofs.Ytgcchpabmkdkhae
open Go.RowKit
set_option linter.unusedVariables false

theorem fitQueens_c (n : Int) (w : World) : Calls Try.prog 13 #[.int .i64 n] w fun e w' => e = .returned (.bool (decide (1 ≤ n ∧ n ≤ 6))) ∧ w = w' := by
  by_cases h1 : 1 ≤ n
  · by_cases h6 : n ≤ 6
    · have HN := hide (show decide (1 ≤ n ∧ n ≤ 6) = true from decide_eq_true ⟨h1, h6⟩)
      rw [HN.out]
      go_enter Try.func13, Try.ntmps13
      go_wp2_with fail
      go_ret
      exact ⟨rfl, rfl⟩
    · have HN := hide (show decide (1 ≤ n ∧ n ≤ 6) = false from decide_eq_false (fun h => h6 h.2))
      rw [HN.out]
      go_enter Try.func13, Try.ntmps13
      go_wp2_with fail
      go_ret
      exact ⟨rfl, rfl⟩
  · have HN := hide (show decide (1 ≤ n ∧ n ≤ 6) = false from decide_eq_false (fun h => h1 h.1))
    rw [HN.out]
    go_enter Try.func13, Try.ntmps13
    go_wp2_with fail
    go_ret
    exact ⟨rfl, rfl⟩
set_option maxHeartbeats 400000 in
theorem isFree_c (A : Option Addr) (cc : Nat) (head : List Int) (c : Int) (w : World) (hr : Row w A (ints head)) (hs : Small head) (c0 : -1 ≤ c) (c1 : c ≤ 10) :
    Calls Try.prog 27 #[.slice A head.length cc, .int .i64 c] w fun e w' => e = .returned (.bool (apartP head c)) ∧ w = w' := by
  obtain ⟨hl, hb⟩ := hs
  have HB := hide hb
  have HA := hide (fun (h : apartTo head c head.length) => apart_all h)
  have HN := hide (fun (k : Nat) (hk : k < head.length) (h : withP head c k = false) => apart_not hk h)
  clear hb
  generalize apartP head c = res at *
  go_enter Try.func27, Try.ntmps27
  go_wp2_with fail
  go_loopw [10] (fun i wr => ∃ k : Nat, k ≤ head.length ∧ i = .int .i64 (k : Int) ∧ Hid (apartTo head c k) ∧ w = wr) (fun i _ => head.length - (intOf i).toNat)
  case atStart => exact ⟨0, Nat.zero_le _, rfl, fun i hi => absurd hi (by omega), rfl⟩
  case round =>
    obtain ⟨k, hk, rfl, ha, rfl⟩ := hrel
    by_cases hlt : k < head.length
    · obtain ⟨ad, rfl, hc⟩ := hr.int hlt
      obtain ⟨b0, b1⟩ := HB.out k hlt
      have hw : Hid (withP head c k = !(head[k]?.getD 0 == c || head[k]?.getD 0 - c == (head.length : Int) - (k : Int) || c - head[k]?.getD 0 == (head.length : Int) - (k : Int))) := rfl
      generalize head[k]?.getD 0 = x at *
      obtain ⟨d, hd⟩ : ∃ d : Int, (head.length : Int) - (k : Int) = d := ⟨_, rfl⟩
      rw [hd] at hw
      have ed : IntKind.i64.wrap ((head.length : Int) - (k : Int)) = d := (IntWalk.i64_in _ (by omega)).trans hd
      have k0 : (0 : Int) ≤ (k : Int) := by omega
      have k1 : (k : Int) < (head.length : Int) := by omega
      have d0 : 0 < d ∧ d ≤ 7 := by omega
      have e1 : IntKind.i64.wrap (c - d) = c - d := IntWalk.i64_in _ (by omega)
      have e2 : IntKind.i64.wrap (c + d) = c + d := IntWalk.i64_in _ (by omega)
      have s1 : Hid ((c - x == d) = (x == c - d)) := by
        show _ = _
        rw [Bool.eq_iff_iff, beq_iff_eq, beq_iff_eq]; omega
      have s2 : Hid ((x - c == d) = (x == c + d)) := by
        show _ = _
        rw [Bool.eq_iff_iff, beq_iff_eq, beq_iff_eq]; omega
      clear hd
      cases q1 : (x == c) with
      | true =>
        have hf : Hid (withP head c k = false) := by show _ = _; rw [hw.out, q1]; rfl
        clear hw
        go_wp2_with fail
        go_ret
        exact ⟨by rw [HN.out k hlt hf.out]; rfl, rfl⟩
      | false =>
        cases q2 : (x == c - d) with
        | true =>
          have hf : Hid (withP head c k = false) := by show _ = _; rw [hw.out, q1, s1.out, q2]; simp
          clear hw
          go_wp2_with fail
          go_ret
          exact ⟨by rw [HN.out k hlt hf.out]; rfl, rfl⟩
        | false =>
          cases q3 : (x == c + d) with
          | true =>
            have hf : Hid (withP head c k = false) := by show _ = _; rw [hw.out, q1, s1.out, q2, s2.out, q3]; rfl
            clear hw
            go_wp2_with fail
            go_ret
            exact ⟨by rw [HN.out k hlt hf.out]; rfl, rfl⟩
          | false =>
            have hf : Hid (withP head c k = true) := by show _ = _; rw [hw.out, q1, s1.out, q2, s2.out, q3]; rfl
            clear hw
            go_wp2_with fail
            exact ⟨⟨k + 1, hlt, rfl, fun i hi => by
              by_cases e : i = k
              · subst e; exact hf.out
              · exact ha.out i (by omega), trivial⟩, by simp [intOf]; omega⟩
    · have hkl : Hid (k = head.length) := hide (by omega)
      go_wp2_with fail
      go_ret
      exact ⟨by rw [HA.out (by rw [← hkl.out]; exact ha.out)]; rfl, rfl⟩
end Go.Proofs.Ytgcchpabmkdkhae

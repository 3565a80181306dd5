
/-
  Words of chapter 3's laws: lists of lists that are alike.
-/
import Derived.Test.YtgcchpabmkdkhacQueenG
namespace Go.Proofs.Ytgcchpabmkdkhac
open Go.RowKit
set_option linter.unusedVariables false

set_option maxHeartbeats 400000 in
theorem eqIntS_q (A C : Option Addr) (xs : List Int) (ca cc : Nat) (w : World) (ha : Row w A (ints xs)) (hc : Row w C (ints xs)) (hn : xs.length ≤ 1048576) :
    Calls Try.prog 21 #[.slice A xs.length ca, .slice C xs.length cc] w fun e w' => e = .returned (.bool true) ∧ ∃ m, w' = w.drewN m := by
  go_enter Try.func21, Try.ntmps21
  go_wp2
  go_loopw [5] (fun i wr => ∃ (k n : Nat), k ≤ xs.length ∧ i = .int .i64 k ∧ wr = w.drewN n) (fun i _ => xs.length - (intOf i).toNat)
  case atStart => exact ⟨0, 0, Nat.zero_le _, rfl, rfl⟩
  case round =>
    obtain ⟨k, n, hk, rfl, rfl⟩ := hrel
    by_cases hlt : k < xs.length
    · obtain ⟨ad, rfl, hca⟩ := ha.int hlt
      obtain ⟨ad', rfl, hcc⟩ := hc.int hlt
      obtain ⟨x, hx⟩ : ∃ x, xs[k]?.getD 0 = x := ⟨_, rfl⟩
      rw [hx] at hca hcc
      clear hx
      go_wp2
      go_quiet (fail)
      all_goals go_wp2
      exact ⟨⟨k + 1, n + nq, hlt, by go_num, rfl⟩, by simp [intOf]; omega⟩
    · have hk2 : Hid (k = xs.length) := hide (by omega)
      go_wp2
      go_ret
      exact ⟨rfl, n, rfl⟩
set_option maxHeartbeats 400000 in
theorem eqIntSS_q (A C : Option Addr) (vs us : List Value) (L : List (List Int)) (B B' ca cc : Nat) (w : World) (ha : Row w A vs) (hc : Row w C us) (rv : Reads w B vs L) (ru : Reads w B' us L)
    (hn : L.length ≤ 1048576) (hrows : ∀ x ∈ L, x.length ≤ 1048576) :
    Calls Try.prog 15 #[.slice A L.length ca, .slice C L.length cc] w fun e w' => e = .returned (.bool true) ∧ ∃ m, w' = w.drewN m := by
  have RV := hide (fun (i : Nat) (hi : i < L.length) => rv.at_ (i := i) hi)
  have RU := hide (fun (i : Nat) (hi : i < L.length) => ru.at_ (i := i) hi)
  have HX := hide (fun (i : Nat) (hi : i < L.length) => show (L[i]?.getD []).length ≤ 1048576 by rw [List.getElem?_eq_getElem hi]; exact hrows _ (List.getElem_mem hi))
  have hv : vs.length = L.length := rv.1
  have hu : us.length = L.length := ru.1
  have HV := hide hv
  have HU := hide hu
  clear rv ru hv hu hrows
  go_enter Try.func15, Try.ntmps15
  go_wp2
  go_loopw [5] (fun i wr => ∃ (k n : Nat), k ≤ L.length ∧ i = .int .i64 k ∧ wr = w.drewN n) (fun i _ => L.length - (intOf i).toNat)
  case atStart => exact ⟨0, 0, Nat.zero_le _, rfl, rfl⟩
  case round =>
    obtain ⟨k, n, hk, rfl, hwr⟩ := hrel
    obtain ⟨wo, rfl⟩ : ∃ wo : World, wo = wr := ⟨_, rfl⟩
    have HW := hide hwr
    clear hwr
    by_cases hlt : k < L.length
    · obtain ⟨A1, c1, e1, r1, _, _⟩ := RV.out k hlt
      obtain ⟨A2, c2, e2, r2, _, _⟩ := RU.out k hlt
      have ha' : Row wo A vs := by rw [HW.out]; exact ha.drewN n
      have hc' : Row wo C us := by rw [HW.out]; exact hc.drewN n
      have r1 : Row wo A1 (ints (L[k]?.getD [])) := by rw [HW.out]; exact r1.drewN n
      have r2 : Row wo A2 (ints (L[k]?.getD [])) := by rw [HW.out]; exact r2.drewN n
      obtain ⟨ad, rfl, hca⟩ := ha'.at_ (k := k) (by rw [HV.out]; exact hlt)
      obtain ⟨ad', rfl, hcc⟩ := hc'.at_ (k := k) (by rw [HU.out]; exact hlt)
      rw [e1] at hca
      rw [e2] at hcc
      have hx := HX.out k hlt
      clear e1 e2
      generalize L[k]?.getD [] = x at *
      have HE := hide (fun (m : Nat) => eqIntS_q A1 A2 x c1 c2 (wo.drewN m) (r1.drewN m) (r2.drewN m) hx)
      have k0 : (0 : Int) ≤ (k : Int) := by omega
      have k1 : (k : Int) < (L.length : Int) := by omega
      go_wp2
      go_quiet ((go_at_call 21; exact Calls.quiet_of (HE.out _)))
      all_goals go_wp2
      exact ⟨⟨k + 1, n + nq, hlt, by go_num, by rw [HW.out, World.drewN_drewN]⟩, by simp [intOf]; omega⟩
    · have hk2 : Hid (k = L.length) := hide (by omega)
      go_wp2
      go_ret
      exact ⟨rfl, n, HW.out⟩
end Go.Proofs.Ytgcchpabmkdkhac

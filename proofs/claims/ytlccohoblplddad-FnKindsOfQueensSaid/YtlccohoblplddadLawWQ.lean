
/-
  Words of chapter 3's laws: lessRow, equalRows.
-/
import Derived.Test.YtlccohoblplddadQueenG
namespace Go.Proofs.Ytlccohoblplddad
open Go.RowKit
set_option linter.unusedVariables false

set_option maxHeartbeats 400000 in
theorem lessRow_c (A C : Option Addr) (xs ys : List Int) (ca cc : Nat) (w : World) (ha : Row w A (ints xs)) (hc : Row w C (ints ys))
    (hn : xs.length ≤ 1048576) (hl : xs.length = ys.length) :
    Calls Try.prog 14 #[.slice A xs.length ca, .slice C ys.length cc] w (Plain (.bool (lessP xs ys)) w) := by
  have hm : ys.length ≤ 1048576 := by omega
  have HL := hide hl
  clear hl
  go_enter Try.func14, Try.ntmps14
  go_wp2
  go_loopw [5] (fun i wr => ∃ (k n : Nat), k ≤ xs.length ∧ i = .int .i64 k ∧ Hid (xs.take k = ys.take k) ∧ wr = w.drewN n) (fun i _ => xs.length - (intOf i).toNat)
  case atStart => exact ⟨0, 0, Nat.zero_le _, rfl, rfl, rfl⟩
  case round =>
    obtain ⟨k, n, hk, rfl, he, rfl⟩ := hrel
    by_cases hlt : k < xs.length
    · have hlt2 : k < ys.length := HL.out ▸ hlt
      obtain ⟨ad, rfl, hca⟩ := ha.int hlt
      obtain ⟨ad', rfl, hcc⟩ := hc.int hlt2
      obtain ⟨x, hx⟩ : ∃ x, xs[k]?.getD 0 = x := ⟨_, rfl⟩
      obtain ⟨y, hy⟩ : ∃ y, ys[k]?.getD 0 = y := ⟨_, rfl⟩
      rw [hx] at hca
      rw [hy] at hcc
      have X := hide hx
      have Y := hide hy
      clear hx hy
      cases hb : (x != y) with
      | true =>
        have HP : Hid (lessP xs ys = decide (x < y)) := by
          show _ = _
          rw [lessP_at xs ys k hlt hlt2 he.out (by rw [X.out, Y.out]; simpa using hb), X.out, Y.out]
        go_wp2
        go_quiet (fail)
        all_goals go_wp2
        go_quiet (fail)
        all_goals go_wp2
        all_goals go_ret
        all_goals exact ⟨ret_bool (by rw [HP.out]), below_drewN (below_drewN (below_drewN (Below.refl _ _) _) _) _⟩
      | false =>
        have HS : Hid (xs.take (k + 1) = ys.take (k + 1)) := eqlist_step hlt HL.out he.out (by
          have e : x = y := by simpa using hb
          have h1 := X.out
          have h2 := Y.out
          rw [List.getElem?_eq_getElem hlt] at h1
          rw [List.getElem?_eq_getElem hlt2] at h2
          simp only [Option.getD_some] at h1 h2
          rw [List.getElem?_eq_getElem hlt, List.getElem?_eq_getElem hlt2, h1, h2, e])
        go_wp2
        go_quiet (fail)
        all_goals go_wp2
        exact ⟨⟨k + 1, n + nq, hlt, by go_num, HS.out, rfl⟩, by simp [intOf]; omega⟩
    · have hk2 : Hid (k = xs.length) := hide (by omega)
      have HP : Hid (lessP xs ys = false) := by
        show _ = _
        have e := he.out
        rw [hk2.out, List.take_of_length_le (Nat.le_refl _), List.take_of_length_le (by rw [HL.out]; exact Nat.le_refl _)] at e
        rw [e]
        exact lessP_same _
      go_wp2
      go_ret
      exact ⟨ret_bool HP.out.symm, below_drewN (Below.refl _ _) _⟩

set_option maxHeartbeats 400000 in
theorem equalInts_q (A C : Option Addr) (xs : List Int) (ca cc : Nat) (w : World) (ha : Row w A (ints xs)) (hc : Row w C (ints xs)) (hn : xs.length ≤ 1048576) :
    Calls Try.prog 12 #[.slice A xs.length ca, .slice C xs.length cc] w fun e w' => e = .returned (.bool true) ∧ ∃ m, w' = w.drewN m := by
  go_enter Try.func12, Try.ntmps12
  go_wp2
  go_loopw [5] (fun i wr => ∃ (k n : Nat), k ≤ xs.length ∧ i = .int .i64 k ∧ wr = w.drewN n) (fun i _ => xs.length - (intOf i).toNat)
  case atStart => exact ⟨0, 0, Nat.zero_le _, rfl, rfl⟩
  case round =>
    obtain ⟨k, n, hk, rfl, rfl⟩ := hrel
    by_cases hlt : k < xs.length
    · obtain ⟨ad, rfl, hca⟩ := ha.int hlt
      obtain ⟨ad', rfl, hcc⟩ := hc.int hlt
      obtain ⟨x, hx⟩ : ∃ x, xs[k]?.getD 0 = x := ⟨_, rfl⟩
      rw [hx] at hca hcc
      clear hx
      go_wp2
      go_quiet (fail)
      all_goals go_wp2
      exact ⟨⟨k + 1, n + nq, hlt, by go_num, rfl⟩, by simp [intOf]; omega⟩
    · have hk2 : Hid (k = xs.length) := hide (by omega)
      go_wp2
      go_ret
      exact ⟨rfl, n, rfl⟩
set_option maxHeartbeats 400000 in
theorem equalRows_q (A C : Option Addr) (vs us : List Value) (L : List (List Int)) (B B' ca cc : Nat) (w : World) (ha : Row w A vs) (hc : Row w C us) (rv : Reads w B vs L) (ru : Reads w B' us L)
    (hn : L.length ≤ 1048576) (hrows : ∀ x ∈ L, x.length ≤ 1048576) :
    Calls Try.prog 9 #[.slice A L.length ca, .slice C L.length cc] w fun e w' => e = .returned (.bool true) ∧ ∃ m, w' = w.drewN m := by
  have RV := hide (fun (i : Nat) (hi : i < L.length) => rv.at_ (i := i) hi)
  have RU := hide (fun (i : Nat) (hi : i < L.length) => ru.at_ (i := i) hi)
  have HX := hide (fun (i : Nat) (hi : i < L.length) => show (L[i]?.getD []).length ≤ 1048576 by rw [List.getElem?_eq_getElem hi]; exact hrows _ (List.getElem_mem hi))
  have hv : vs.length = L.length := rv.1
  have hu : us.length = L.length := ru.1
  have HV := hide hv
  have HU := hide hu
  clear rv ru hv hu hrows
  go_enter Try.func9, Try.ntmps9
  go_wp2
  go_loopw [5] (fun i wr => ∃ (k n : Nat), k ≤ L.length ∧ i = .int .i64 k ∧ wr = w.drewN n) (fun i _ => L.length - (intOf i).toNat)
  case atStart => exact ⟨0, 0, Nat.zero_le _, rfl, rfl⟩
  case round =>
    obtain ⟨k, n, hk, rfl, hwr⟩ := hrel
    obtain ⟨wo, rfl⟩ : ∃ wo : World, wo = wr := ⟨_, rfl⟩
    have HW := hide hwr
    clear hwr
    by_cases hlt : k < L.length
    · obtain ⟨A1, c1, e1, r1, _, _⟩ := RV.out k hlt
      obtain ⟨A2, c2, e2, r2, _, _⟩ := RU.out k hlt
      have ha' : Row wo A vs := by rw [HW.out]; exact ha.drewN n
      have hc' : Row wo C us := by rw [HW.out]; exact hc.drewN n
      have r1 : Row wo A1 (ints (L[k]?.getD [])) := by rw [HW.out]; exact r1.drewN n
      have r2 : Row wo A2 (ints (L[k]?.getD [])) := by rw [HW.out]; exact r2.drewN n
      obtain ⟨ad, rfl, hca⟩ := ha'.at_ (k := k) (by rw [HV.out]; exact hlt)
      obtain ⟨ad', rfl, hcc⟩ := hc'.at_ (k := k) (by rw [HU.out]; exact hlt)
      rw [e1] at hca
      rw [e2] at hcc
      have hx := HX.out k hlt
      clear e1 e2
      generalize L[k]?.getD [] = x at *
      have HE := hide (fun (m : Nat) => equalInts_q A1 A2 x c1 c2 (wo.drewN m) (r1.drewN m) (r2.drewN m) hx)
      have k0 : (0 : Int) ≤ (k : Int) := by omega
      have k1 : (k : Int) < (L.length : Int) := by omega
      go_wp2
      go_quiet ((go_at_call 12; exact Calls.quiet_of (HE.out _)))
      all_goals go_wp2
      exact ⟨⟨k + 1, n + nq, hlt, by go_num, by rw [HW.out, World.drewN_drewN]⟩, by simp [intOf]; omega⟩
    · have hk2 : Hid (k = L.length) := hide (by omega)
      go_wp2
      go_ret
      exact ⟨rfl, n, HW.out⟩
end Go.Proofs.Ytlccohoblplddad

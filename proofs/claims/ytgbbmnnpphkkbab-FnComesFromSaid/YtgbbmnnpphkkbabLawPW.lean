
/-
  Words of the laws of chapter 8: powers, bits, how many, ascending.
-/
import Derived.Test.YtgbbmnnpphkkbabPegF
namespace Go.Proofs.Ytgbbmnnpphkkbab
open Go.RowKit
set_option linter.unusedVariables false

set_option maxHeartbeats 400000 in
theorem bitsOfP_c (s : Nat) (hs : s < 4096) (w : World) : Calls Try.prog 19 #[.int .i64 (s : Int)] w fun e w' => e = .returned (.int .i64 ((pcN 12 s : Nat) : Int)) ∧ w = w' := by
  have hle := pcN_most 12 s
  go_enter Try.func19, Try.ntmps19
  go_wp2_with fail
  go_loopw [0, 3] (fun a p wr => ∃ x m f : Nat, x < 2 ^ f ∧ x < 4096 ∧ m ≤ 12 ∧ a = .int .i64 (x : Int) ∧ p = .int .i64 (m : Int) ∧ Hid (m + pcN f x = pcN 12 s) ∧ w = wr) (fun a _ _ => (intOf a).toNat)
  case atStart => exact ⟨s, 0, 12, hs, hs, Nat.zero_le _, rfl, rfl, Nat.zero_add _, rfl⟩
  case round =>
    obtain ⟨x, m, f, hxf, hx, hm12, rfl, rfl, hm, rfl⟩ := hrel
    by_cases hp : 0 < x
    · obtain ⟨f, rfl⟩ : ∃ f', f = f' + 1 := ⟨f - 1, by
        rcases f with _ | f
        · simp at hxf; omega
        · rfl⟩
      have hh : Hid (pcN (f + 1) x = x % 2 + pcN f (x / 2)) := rfl
      have hxf' : x / 2 < 2 ^ f := by rw [Nat.pow_succ] at hxf; omega
      have hd : x / 2 < x := by omega
      have hr : x % 2 ≤ 1 := by omega
      have t1 : Int.tdiv (x : Int) 2 = ((x / 2 : Nat) : Int) := Int.tdiv_eq_ediv_of_nonneg (by omega)
      have t2 : Int.tmod (x : Int) 2 = ((x % 2 : Nat) : Int) := Int.tmod_eq_emod_of_nonneg (by omega)
      have hp' : (0 : Int) < (x : Int) := by omega
      generalize hQ : x / 2 = q at *
      generalize hR : x % 2 = r at *
      have HN : Hid (m + r + pcN f q = pcN 12 s) := by
        show _ = _
        have i1 := hm.out
        have i2 := hh.out
        rw [i2] at i1
        omega
      have hm12' : m + r ≤ 12 := by have := HN.out; omega
      have e1 : IntKind.i64.wrap (q : Int) = (q : Int) := IntWalk.i64_in _ (by omega)
      have e2 : IntKind.i64.wrap (r : Int) = (r : Int) := IntWalk.i64_in _ (by omega)
      have e3 : IntKind.i64.wrap ((m : Int) + (r : Int)) = ((m + r : Nat) : Int) := (IntWalk.i64_in _ (by omega)).trans (by omega)
      have hqx : (q : Int) < (x : Int) := by omega
      have HXF := hide hxf'
      clear hQ hR hle hm hh hxf hxf'
      go_wp2_with fail
      exact ⟨⟨q, m + r, f, HXF.out, by omega, hm12', rfl, rfl, HN, trivial⟩, by simp [intOf]; omega⟩
    · obtain rfl : x = 0 := by omega
      have hm' := hm.out
      rw [pcN_none] at hm'
      have HM := hide hm'
      clear hm hm' hle hxf
      go_wp2_with fail
      go_ret
      exact ⟨by rw [← HM.out]; rfl, rfl⟩
set_option maxHeartbeats 400000 in
theorem ascendsP_t (A : Option Addr) (l : List Int) (c : Nat) (w : World) (hr : Row w A (ints l)) (hm : l.length ≤ 1048576) (hu : Hid (∀ i, i + 1 < l.length → l[i]?.getD 0 < l[i + 1]?.getD 0)) :
    Calls Try.prog 21 #[.slice A l.length c] w (Plain (.bool true) w) := by
  go_enter Try.func21, Try.ntmps21
  go_wp2
  go_loopw [3] (fun i wr => ∃ k : Nat, 1 ≤ k ∧ i = .int .i64 k ∧ Below w.heap.size w wr) (fun i _ => l.length - (intOf i).toNat)
  case atStart => exact ⟨1, by omega, rfl, Below.refl _ _⟩
  case round =>
    obtain ⟨k, hk, rfl, hb⟩ := hrel
    obtain ⟨wo, rfl⟩ : ∃ wo : World, wo = wr := ⟨_, rfl⟩
    by_cases hlt : k < l.length
    · obtain ⟨ad, rfl, hca⟩ := (hr.below hb).int hlt
      obtain ⟨ad', e, hcb⟩ := (hr.below hb).int (k := k - 1) (by omega)
      obtain rfl : ad = ad' := by injection e
      have hxy := hu.out (k - 1) (by omega)
      rw [show k - 1 + 1 = k by omega] at hxy
      generalize l[k]?.getD 0 = x at *
      generalize l[k - 1]?.getD 0 = y at *
      have e3 : IntKind.i64.wrap ((k : Int) - 1) = (k : Int) - 1 := IntWalk.i64_in _ (by omega)
      clear e
      go_wp2_with fail
      go_quiet (fail)
      all_goals clear e3
      all_goals go_wp2_with fail
      exact ⟨⟨k + 1, by omega, rfl, below_drewN hb _⟩, by simp [intOf]; omega⟩
    · go_wp2_with fail
      go_ret
      exact ⟨rfl, hb⟩
theorem isInP_c (A : Option Addr) (n : Nat) (l : List Int) (c : Nat) (x : Int) (w : World) (hn : l.length = n) (hr : Row w A (ints l)) (hm : l.length ≤ 1048576) : Calls Try.prog 20 #[.slice A n c, .int .i64 x] w (Plain (.bool (decide (x ∈ l))) w) := by
  subst hn
  exact isIn_c A l c x w hr (by simp [maxLen]; omega)
theorem equalIntsP_t (A C : Option Addr) (n m ca cc : Nat) (xs ys : List Int) (w : World) (hx : xs.length = n) (hy : ys.length = m) (ha : Row w A (ints xs)) (hc : Row w C (ints ys)) (hn : xs.length ≤ 1048576) (he : xs = ys) :
    Calls Try.prog 17 #[.slice A n ca, .slice C m cc] w (Plain (.bool true) w) := by
  subst hx hy he
  have := equalInts_c A C xs xs ca cc w ha hc (by simp [maxLen]; omega) (by simp [maxLen]; omega)
  rwa [decide_eq_true rfl] at this
end Go.Proofs.Ytgbbmnnpphkkbab


/-
  Words of the laws of chapter 8: powers, bits, how many, ascending.
-/
import Derived.Test.YtgbbmnnpphkkbacPegF
namespace Go.Proofs.Ytgbbmnnpphkkbac
open Go.RowKit
set_option linter.unusedVariables false

theorem lawPowerP_c (n : Nat) (hn : n ≤ 12) (w : World) : Calls Try.prog 16 #[.int .i64 (n : Int)] w fun e w' => e = .returned (.int .i64 ((2 ^ n : Nat) : Int)) ∧ w = w' := by
  go_enter Try.func16, Try.ntmps16
  go_wp2_with fail
  go_loopw [0, 3] (fun a p wr => ∃ k : Nat, k ≤ n ∧ a = .int .i64 ((n - k : Nat) : Int) ∧ p = .int .i64 ((2 ^ k : Nat) : Int) ∧ w = wr) (fun a _ _ => (intOf a).toNat)
  case atStart => exact ⟨0, Nat.zero_le _, by simp, rfl, rfl⟩
  case round =>
    obtain ⟨k, hk, rfl, rfl, rfl⟩ := hrel
    by_cases hlt : k < n
    · have hb := pow12 (n := k) (by omega)
      have hpos : (0 : Int) < ((n - k : Nat) : Int) := by omega
      have hle : ((n - k : Nat) : Int) ≤ 12 := by omega
      have hp2 : Hid ((2 ^ (k + 1) : Nat) = 2 * 2 ^ k) := by show 2 ^ (k + 1) = 2 * 2 ^ k; rw [Nat.pow_succ, Nat.mul_comm]
      have hs := hide (show ((n - k : Nat) : Int) - 1 = ((n - (k + 1) : Nat) : Int) by omega)
      generalize hP : (2 ^ k : Nat) = P at *
      generalize hM : ((n - k : Nat) : Int) = M at *
      clear hP
      go_wp2_with fail
      exact ⟨⟨k + 1, hlt, by rw [hs.out], by rw [hp2.out]; push_cast; rfl, trivial⟩, by simp [intOf]; omega⟩
    · have hkk : Hid (k = n) := hide (by omega)
      have hz : ((n - k : Nat) : Int) = 0 := by omega
      rw [hz]
      go_wp2_with fail
      go_ret
      exact ⟨by rw [hkk.out]; rfl, rfl⟩
set_option maxHeartbeats 400000 in
theorem bitsOfP_c (s : Nat) (hs : s < 4096) (w : World) : Calls Try.prog 11 #[.int .i64 (s : Int)] w fun e w' => e = .returned (.int .i64 ((pcN 12 s : Nat) : Int)) ∧ w = w' := by
  have hle := pcN_most 12 s
  go_enter Try.func11, Try.ntmps11
  go_wp2_with fail
  go_loopw [0, 3] (fun a p wr => ∃ x m f : Nat, x < 2 ^ f ∧ x < 4096 ∧ m ≤ 12 ∧ a = .int .i64 (x : Int) ∧ p = .int .i64 (m : Int) ∧ Hid (m + pcN f x = pcN 12 s) ∧ w = wr) (fun a _ _ => (intOf a).toNat)
  case atStart => exact ⟨s, 0, 12, hs, hs, Nat.zero_le _, rfl, rfl, Nat.zero_add _, rfl⟩
  case round =>
    obtain ⟨x, m, f, hxf, hx, hm12, rfl, rfl, hm, rfl⟩ := hrel
    by_cases hp : 0 < x
    · obtain ⟨f, rfl⟩ : ∃ f', f = f' + 1 := ⟨f - 1, by
        rcases f with _ | f
        · simp at hxf; omega
        · rfl⟩
      have hh : Hid (pcN (f + 1) x = x % 2 + pcN f (x / 2)) := rfl
      have hxf' : x / 2 < 2 ^ f := by rw [Nat.pow_succ] at hxf; omega
      have hd : x / 2 < x := by omega
      have hr : x % 2 ≤ 1 := by omega
      have t1 : Int.tdiv (x : Int) 2 = ((x / 2 : Nat) : Int) := Int.tdiv_eq_ediv_of_nonneg (by omega)
      have t2 : Int.tmod (x : Int) 2 = ((x % 2 : Nat) : Int) := Int.tmod_eq_emod_of_nonneg (by omega)
      have hp' : (0 : Int) < (x : Int) := by omega
      generalize hQ : x / 2 = q at *
      generalize hR : x % 2 = r at *
      have HN : Hid (m + r + pcN f q = pcN 12 s) := by
        show _ = _
        have i1 := hm.out
        have i2 := hh.out
        rw [i2] at i1
        omega
      have hm12' : m + r ≤ 12 := by have := HN.out; omega
      have e1 : IntKind.i64.wrap (q : Int) = (q : Int) := IntWalk.i64_in _ (by omega)
      have e2 : IntKind.i64.wrap (r : Int) = (r : Int) := IntWalk.i64_in _ (by omega)
      have e3 : IntKind.i64.wrap ((m : Int) + (r : Int)) = ((m + r : Nat) : Int) := (IntWalk.i64_in _ (by omega)).trans (by omega)
      have hqx : (q : Int) < (x : Int) := by omega
      have HXF := hide hxf'
      clear hQ hR hle hm hh hxf hxf'
      go_wp2_with fail
      exact ⟨⟨q, m + r, f, HXF.out, by omega, hm12', rfl, rfl, HN, trivial⟩, by simp [intOf]; omega⟩
    · obtain rfl : x = 0 := by omega
      have hm' := hm.out
      rw [pcN_none] at hm'
      have HM := hide hm'
      clear hm hm' hle hxf
      go_wp2_with fail
      go_ret
      exact ⟨by rw [← HM.out]; rfl, rfl⟩
theorem isInP_c (A : Option Addr) (n : Nat) (l : List Int) (c : Nat) (x : Int) (w : World) (hn : l.length = n) (hr : Row w A (ints l)) (hm : l.length ≤ 1048576) : Calls Try.prog 17 #[.slice A n c, .int .i64 x] w (Plain (.bool (decide (x ∈ l))) w) := by
  subst hn
  exact isIn_c A l c x w hr (by simp [maxLen]; omega)
theorem equalIntsP_t (A C : Option Addr) (n m ca cc : Nat) (xs ys : List Int) (w : World) (hx : xs.length = n) (hy : ys.length = m) (ha : Row w A (ints xs)) (hc : Row w C (ints ys)) (hn : xs.length ≤ 1048576) (he : xs = ys) :
    Calls Try.prog 34 #[.slice A n ca, .slice C m cc] w (Plain (.bool true) w) := by
  subst hx hy he
  have := equalInts_c A C xs xs ca cc w ha hc (by simp [maxLen]; omega) (by simp [maxLen]; omega)
  rwa [decide_eq_true rfl] at this
end Go.Proofs.Ytgbbmnnpphkkbac

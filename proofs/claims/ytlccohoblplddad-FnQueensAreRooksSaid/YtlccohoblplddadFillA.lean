
/-
  The walk of the law FnSeatsFilled.
-/
import Derived.Test.YtlccohoblplddadRookC
import Derived.Test.YtlccohoblplddadSeatB
import Derived.Test.YtlccohoblplddadCodeWords
namespace Go.Proofs.Ytlccohoblplddad
open Go.RowKit
set_option linter.unusedVariables false

theorem equalInts_u (A C : Option Addr) (n m ca cc : Nat) (xs ys : List Int) (w : World) (hx : xs.length = n) (hy : ys.length = m) (ha : Row w A (ints xs)) (hc : Row w C (ints ys)) (hn : xs.length ≤ 1000) (he : xs = ys) :
    Calls Try.prog 12 #[.slice A n ca, .slice C m cc] w (Plain (.bool true) w) := by
  subst hx hy he
  have := equalInts_c A C xs xs ca cc w ha hc (by simp [maxLen]; omega) (by simp [maxLen]; omega)
  rwa [decide_eq_true rfl] at this
theorem counts_len (l : List Int) : (countsP l).length = l.length + 1 := by simp [countsP]
theorem counts_at (l : List Int) (k : Nat) (h : k ≤ l.length) : (countsP l)[k]?.getD 0 = ((rk (natsP l) 0 k : Nat) : Int) := by
  simp [countsP, List.getElem?_map, List.getElem?_range (show k < l.length + 1 by omega)]

theorem lawsPower_c (n : Nat) (hn : n ≤ 6) (w : World) : Calls Try.prog 23 #[.int .i64 (n : Int)] w fun e w' => e = .returned (.int .i64 ((2 ^ n : Nat) : Int)) ∧ w = w' := by
  go_enter Try.func23, Try.ntmps23
  go_wp2_with fail
  go_loopw [0, 3] (fun a p wr => ∃ k : Nat, k ≤ n ∧ a = .int .i64 ((n - k : Nat) : Int) ∧ p = .int .i64 ((2 ^ k : Nat) : Int) ∧ w = wr) (fun a _ _ => (intOf a).toNat)
  case atStart => exact ⟨0, Nat.zero_le _, by simp, rfl, rfl⟩
  case round =>
    obtain ⟨k, hk, rfl, rfl, rfl⟩ := hrel
    by_cases hlt : k < n
    · have hb := pow_bd (n := k) (by omega)
      have hpos : (0 : Int) < ((n - k : Nat) : Int) := by omega
      have hle : ((n - k : Nat) : Int) ≤ 6 := by omega
      have hp2 : Hid ((2 ^ (k + 1) : Nat) = 2 * 2 ^ k) := by show 2 ^ (k + 1) = 2 * 2 ^ k; rw [Nat.pow_succ, Nat.mul_comm]
      have hs := hide (show ((n - k : Nat) : Int) - 1 = ((n - (k + 1) : Nat) : Int) by omega)
      generalize hP : (2 ^ k : Nat) = P at *
      generalize hM : ((n - k : Nat) : Int) = M at *
      clear hP
      go_wp2_with fail
      exact ⟨⟨k + 1, hlt, by rw [hs.out], by rw [hp2.out]; push_cast; rfl, trivial⟩, by simp [intOf]; omega⟩
    · have hkk : Hid (k = n) := hide (by omega)
      have hz : ((n - k : Nat) : Int) = 0 := by omega
      rw [hz]
      go_wp2_with fail
      go_ret
      exact ⟨by rw [hkk.out]; rfl, rfl⟩

/-- All cells allowed. -/
def fullL (n : Nat) : List Int := List.replicate n (fullP n)
theorem full_seats {n : Nat} (h1 : 1 ≤ n) (h5 : n ≤ 5) : Seats (fullL n) := by
  have hb := full_bd h1 h5
  refine ⟨by simp [fullL]; omega, fun i hi => ?_⟩
  simp only [fullL, List.length_replicate] at hi ⊢
  rw [List.getElem?_replicate, if_pos hi]
  simp only [Option.getD_some]
  omega
theorem full_bits {n d : Nat} (h5 : n ≤ 5) (hd : d < n) : ((fullP n).toNat).testBit d = true := by
  exact (by decide +kernel : ∀ n : Fin 6, ∀ d : Fin 5, d.val < n.val → ((fullP n.val).toNat).testBit d.val = true) ⟨n, by omega⟩ ⟨d, by omega⟩ hd
theorem filled_le {l : List Int} (h : Seats l) (k : Nat) (hk : k ≤ l.length) : (countsP l)[k]?.getD 0 ≤ (countsP (fullL l.length))[k]?.getD 0 := by
  rw [counts_at l k hk, counts_at _ k (by simpa [fullL] using hk)]
  have := rk_mono (natsP l) (natsP (fullL l.length)) (by simp [natsP, fullL]) (fun i d hb => by
    by_cases hi : i < l.length
    · have hd := nats_within h hi d hb
      rw [natsP, List.getElem?_map, fullL, List.getElem?_replicate, if_pos hi]
      simp only [Option.map_some, Option.getD_some]
      exact full_bits h.1.2 hd
    · rw [natsP, List.getElem?_map, List.getElem?_eq_none (by omega)] at hb
      simp at hb) 0 k
  omega
end Go.Proofs.Ytlccohoblplddad

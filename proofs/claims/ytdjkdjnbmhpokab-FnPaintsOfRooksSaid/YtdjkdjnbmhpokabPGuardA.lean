
/-
  The program's guards: sumOf, isGuard, isLoose.
-/
import Derived.Test.YtdjkdjnbmhpokabGuardQ
import Derived.Test.YtdjkdjnbmhpokabGuardB
namespace Go.Proofs.Ytdjkdjnbmhpokab
open Go.RowKit
set_option linter.unusedVariables false

theorem shl9 (k : Nat) (h : k ≤ 9) : IntKind.i64.wrap ((2 : Int) ^ k) = ((2 ^ k : Nat) : Int) := by
  have := pow9 h
  rw [show ((2 : Int) ^ k) = ((2 ^ k : Nat) : Int) by push_cast; rfl]
  exact IntWalk.i64_in _ (by omega)
theorem orL_snoc (l : List Int) (k : Nat) (h : k < l.length) : orL (l.take (k + 1)) = orL (l.take k) ||| 2 ^ (l[k]?.getD 0).toNat := by
  unfold orL
  rw [take_snoc _ _ h, List.foldl_append]
  rfl
theorem orL_bd (l : List Int) (hl : ∀ i, i < l.length → 0 ≤ l[i]?.getD 0 ∧ l[i]?.getD 0 < 9) : ∀ k, k ≤ l.length → orL (l.take k) < 512
  | 0, _ => by simp [orL]
  | k + 1, h => by
    rw [orL_snoc _ _ (by omega)]
    obtain ⟨h2, h3⟩ := hl k (by omega)
    exact (i64_or9 _ _ (orL_bd l hl k (by omega)) (Nat.lt_of_le_of_lt (Nat.pow_le_pow_right (by omega) (by omega : (l[k]?.getD 0).toNat ≤ 8)) (by decide))).2

set_option maxHeartbeats 1000000 in
theorem sumOf_c (A : Option Addr) (c : Nat) (l : List Int) (w : World) (hr : Row w A (ints l)) (hl : ∀ i, i < l.length → 0 ≤ l[i]?.getD 0 ∧ l[i]?.getD 0 < 9) (hm : l.length ≤ 1000) :
    Calls Try.prog 43 #[.slice A l.length c] w fun e w' => e = .returned (.int .i64 ((orL l : Nat) : Int)) ∧ w = w' := by
  have HR := hide hr
  have HL := hide hl
  clear hr hl
  go_enter Try.func43, Try.ntmps43
  go_wp2_with fail
  go_loopw [3, 8] (fun a i wr => ∃ k : Nat, k ≤ l.length ∧ i = .int .i64 (k : Int) ∧ a = .int .i64 ((orL (l.take k) : Nat) : Int) ∧ w = wr) (fun _ i _ => l.length - (intOf i).toNat)
  case atStart => exact ⟨0, Nat.zero_le _, rfl, rfl, rfl⟩
  case round =>
    obtain ⟨k, hk, rfl, rfl, rfl⟩ := hrel
    by_cases hlt : k < l.length
    · obtain ⟨ad, rfl, hck⟩ := HR.out.int (k := k) hlt
      obtain ⟨x0, x1⟩ := HL.out k hlt
      have hbd := orL_bd l HL.out k hk
      have HS := hide (orL_snoc l k hlt)
      obtain ⟨x, hx⟩ : ∃ x : Nat, l[k]?.getD 0 = (x : Int) := ⟨(l[k]?.getD 0).toNat, by omega⟩
      rw [hx] at hck HS x0 x1
      rw [Int.toNat_natCast] at HS
      have es := shl9 x (by omega)
      have px := pow9 (n := x) (by omega)
      have px : 2 ^ x < 512 := Nat.lt_of_le_of_lt (Nat.pow_le_pow_right (by omega) (by omega : x ≤ 8)) (by decide)
      have eo := (i64_or9 _ _ hbd px).1
      generalize (2 ^ x : Nat) = P at *
      generalize orL (l.take k) = b at *
      have k0 : (0 : Int) ≤ (k : Int) := by omega
      have k1 : (k : Int) < (l.length : Int) := by omega
      clear hx
      go_wp2_with fail
      exact ⟨⟨k + 1, hlt, by go_num, by rw [HS.out], trivial⟩, by simp [intOf]; omega⟩
    · obtain rfl : k = l.length := by omega
      rw [List.take_length]
      go_wp2_with fail
      go_ret
      exact ⟨rfl, rfl⟩

theorem shr9 (s k : Nat) (hs : s < 512) : bits .and .i64 ((s : Int) / 2 ^ k) 1 = ((bitN s k : Nat) : Int) := by
  have h : s / 2 ^ k < 512 := Nat.lt_of_le_of_lt (Nat.div_le_self _ _) hs
  rw [show ((s : Int) / 2 ^ k) = ((s / 2 ^ k : Nat) : Int) by push_cast; rfl, show (1 : Int) = ((1 : Nat) : Int) from rfl, (i64_and9 _ 1 h (by omega)).1, Nat.and_one_is_mod]
  rfl

end Go.Proofs.Ytdjkdjnbmhpokab

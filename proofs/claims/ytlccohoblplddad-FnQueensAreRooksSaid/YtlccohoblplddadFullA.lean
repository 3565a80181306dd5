
/-
  Full sets of rooks by the others: the program and the model.
-/
import Derived.Test.YtlccohoblplddadIncP
import Derived.Test.YtlccohoblplddadFillA
import Derived.Test.YtlccohoblplddadSeatD
namespace Go.Proofs.Ytlccohoblplddad
open Go.RowKit
set_option linter.unusedVariables false

theorem fact_bd : ∀ n : Fin 7, 1 ≤ fact n.val ∧ fact n.val ≤ 720 := by decide +kernel
theorem lawsFact_c (n : Nat) (hn : n ≤ 6) (w : World) : Calls Try.prog 25 #[.int .i64 (n : Int)] w fun e w' => e = .returned (.int .i64 ((fact n : Nat) : Int)) ∧ w = w' := by
  go_enter Try.func25, Try.ntmps25
  go_wp2_with fail
  go_loopw [3, 4] (fun p i wr => ∃ k : Nat, 1 ≤ k ∧ (k = 1 ∨ k ≤ n) ∧ i = .int .i64 ((k + 1 : Nat) : Int) ∧ p = .int .i64 ((fact k : Nat) : Int) ∧ w = wr) (fun _ i _ => n + 2 - (intOf i).toNat)
  case atStart => exact ⟨1, by omega, .inl rfl, rfl, rfl, rfl⟩
  case round =>
    obtain ⟨k, k1, hk, rfl, rfl, rfl⟩ := hrel
    have hb := fact_bd ⟨k, by omega⟩
    simp only at hb
    obtain ⟨b1, b2⟩ := hb
    have hsuc : Hid (fact (k + 1) = (k + 1) * fact k) := rfl
    by_cases hlt : k + 1 ≤ n
    · have hb2 := fact_bd ⟨k + 1, by omega⟩
      simp only at hb2
      rw [hsuc.out] at hb2
      generalize hF : fact k = F at *
      generalize hK : k + 1 = K at *
      obtain ⟨M, hM⟩ : ∃ M, K * F = M := ⟨_, rfl⟩
      have e1 : IntKind.i64.wrap ((F : Int) * (K : Int)) = (M : Int) := by
        have : (F : Int) * (K : Int) = (M : Int) := by rw [← hM, Int.natCast_mul, Int.mul_comm]
        rw [this]
        exact IntWalk.i64_in _ (by rw [hM] at hb2; omega)
      have hKk := hide hK
      have HMM := hide hM
      have hle : (K : Int) ≤ (n : Int) := by omega
      clear hM hb2 hK
      go_wp2_with fail
      exact ⟨⟨K, by have := hKk.out; omega, .inr hlt, by push_cast; rfl, by rw [hsuc.out, HMM.out], trivial⟩, by have := hKk.out; simp [intOf]; omega⟩
    · have hend : Hid (fact k = fact n) := by
        rcases hk with h | h
        · subst h
          have : n = 0 ∨ n = 1 := by omega
          rcases this with h | h <;> (subst h; rfl)
        · have : k = n := by omega
          subst this; rfl
      generalize hF : fact k = F at *
      generalize hK : k + 1 = K at *
      have hle : ¬ (K : Int) ≤ (n : Int) := by omega
      go_wp2_with fail
      go_ret
      exact ⟨by rw [hend.out]; rfl, rfl⟩

theorem Seats.others {l : List Int} (h : Seats l) : Seats (othersP l) := by
  refine ⟨by simpa [othersP] using h.1, fun i hi => ?_⟩
  have hi' : i < l.length := by simpa [othersP] using hi
  have := h.2 i hi'
  have hl : (othersP l).length = l.length := by simp [othersP]
  rw [hl, othersP, List.getElem?_map, List.getElem?_eq_getElem hi', Option.map_some, Option.getD_some]
  rw [List.getElem?_eq_getElem hi', Option.getD_some] at this
  omega
/-- The number told by the others. -/
def fullV (l : List Int) : Int := altE l.length (natsP (othersP l)) 0
theorem co_bits : ∀ n : Fin 6, ∀ x : Fin 32, ∀ c : Fin 5, x.val < 2 ^ n.val → (2 ^ n.val - 1 - x.val).testBit c.val = (decide (c.val < n.val) && !x.val.testBit c.val) := by decide +kernel
theorem free_all : ∀ n : Fin 6, free n.val 0 = n.val := by decide +kernel
/-- What the sum is. -/
theorem fullV_eq {l : List Int} (h : Seats l) : fullV l = ((rk (natsP l) 0 l.length : Nat) : Int) := by
  have ho := h.others
  have hol : (othersP l).length = l.length := by simp [othersP]
  have hnl : (natsP (othersP l)).length = l.length := by rw [nats_len, hol]
  have hw : Within l.length (natsP (othersP l)) := fun r hr c hc => by
    obtain ⟨i, hi, rfl⟩ := List.getElem_of_mem hr
    have hi2 : i < (othersP l).length := by rw [nats_len] at hi; exact hi
    have := nats_within ho hi2 c (by rw [List.getElem?_eq_getElem hi]; exact hc)
    rwa [hol] at this
  have hf : free l.length 0 = (natsP (othersP l)).length := by rw [hnl]; exact free_all ⟨l.length, by have := h.1.2; omega⟩
  -- a number's columns turned round, within the first n
  have hbit : ∀ r, r < 2 ^ l.length → ∀ c, c < 5 → (2 ^ l.length - 1 - r).testBit c = (decide (c < l.length) && !r.testBit c) := fun r hr c hc =>
    co_bits ⟨l.length, by have := h.1.2; omega⟩ ⟨r, Nat.lt_of_lt_of_le hr (pow32 h.1.2)⟩ ⟨c, hc⟩ hr
  have hco : ∀ r c, c < 5 → ((fun x => if x < 2 ^ l.length then 2 ^ l.length - 1 - x else (List.range 5).foldr (fun d acc => if decide (d < l.length) && !x.testBit d then acc ||| 2 ^ d else acc) 0) r).testBit c = (decide (c < l.length) && !r.testBit c) := fun r c hc => by
    by_cases hr : r < 2 ^ l.length
    · simp only [if_pos hr]; exact hbit r hr c hc
    · simp only [if_neg hr]
      have e : List.range 5 = [0, 1, 2, 3, 4] := by decide
      rw [e]
      simp only [List.foldr_cons, List.foldr_nil]
      obtain rfl | rfl | rfl | rfl | rfl : c = 0 ∨ c = 1 ∨ c = 2 ∨ c = 3 ∨ c = 4 := by omega
      all_goals
        generalize (decide (0 < l.length) && !r.testBit 0) = b0
        generalize (decide (1 < l.length) && !r.testBit 1) = b1
        generalize (decide (2 < l.length) && !r.testBit 2) = b2
        generalize (decide (3 < l.length) && !r.testBit 3) = b3
        generalize (decide (4 < l.length) && !r.testBit 4) = b4
        revert b0 b1 b2 b3 b4
        decide
  have := alt_full l.length _ hco (natsP (othersP l)) 0 hw hf
  rw [hnl] at this
  unfold fullV
  rw [this]
  congr 2
  apply List.ext_getElem
  · rw [List.length_map, hnl, nats_len]
  · intro i i1 i2
    have hi : i < l.length := by rw [nats_len] at i2; exact i2
    have h1 := nats_at h hi
    have hx := h.2 i hi
    rw [List.getElem_map]
    have e1 : (natsP (othersP l))[i]'(by rw [hnl]; exact hi) = (fullP l.length - l[i]).toNat := by simp [natsP, othersP]
    have e2 : (natsP l)[i]'i2 = l[i].toNat := by simp [natsP]
    rw [e1, e2]
    rw [List.getElem?_eq_getElem hi, Option.getD_some] at hx
    have hp := (pow_bd (n := l.length) (by have := h.1.2; omega)).1
    unfold fullP at hx ⊢
    rw [if_pos (by omega)]
    omega
end Go.Proofs.Ytlccohoblplddad


/-
  The model's queens: validStand, CanStand, EndsOf.
-/
import Derived.Test.YtgcchpabmkdkhadQueenA
import Derived.Deep.RegionHeld3
namespace Go.Proofs.Ytgcchpabmkdkhad
open Go.RowKit
set_option linter.unusedVariables false

def Stand (n : Int) (l : List Int) : Prop := (1 ≤ n ∧ n ≤ 6) ∧ (l.length : Int) ≤ n ∧ ∀ i, i < l.length → 0 ≤ l[i]?.getD 0 ∧ l[i]?.getD 0 < n
instance (n : Int) (l : List Int) : Decidable (Stand n l) := by unfold Stand; infer_instance
def apartsTo (l : List Int) (k : Nat) : Prop := ∀ i, i < k → apartP (l.take i) (l[i]?.getD 0) = true
instance (l : List Int) (k : Nat) : Decidable (apartsTo l k) := by unfold apartsTo; infer_instance
def Can (n : Int) (l : List Int) : Prop := Stand n l ∧ apartsTo l l.length
instance (n : Int) (l : List Int) : Decidable (Can n l) := by unfold Can; infer_instance
def endsP (n : Int) (l : List Int) : Int := if Stand n l then (if apartsTo l l.length then ((queensP n.toNat (n.toNat - l.length) l).length : Int) else 0) else -1
theorem inRange_b (n lo hi : Int) (b : Bool) (h : decide (lo ≤ n ∧ n ≤ hi) = b) (w : World) : Calls Try.prog 28 #[.int .i64 n, .int .i64 lo, .int .i64 hi] w fun e w' => e = .returned (.bool b) ∧ w = w' := by
  subst h
  exact (inRange_c n lo hi w).mono fun e w' ⟨he, hw⟩ => ⟨he, hw.symm⟩
set_option maxHeartbeats 400000 in
theorem specStand_c (n : Int) (A : Option Addr) (c : Nat) (l : List Int) (w : World) (hr : Row w A (ints l)) (hm : l.length ≤ 1048576) :
    Calls Try.prog 21 #[.int .i64 n, .slice A l.length c] w fun e w' => e = .returned (.bool (decide (Stand n l))) ∧ w = w' := by
  by_cases hn : 1 ≤ n ∧ n ≤ 6
  · have HR := hide (fun w5 => inRange_yes n 1 6 w5 hn.1 hn.2)
    have HS := hide (show decide (Stand n l) = decide ((l.length : Int) ≤ n ∧ ∀ i, i < l.length → 0 ≤ l[i]?.getD 0 ∧ l[i]?.getD 0 < n) by
      apply decide_eq_decide.2; unfold Stand; exact ⟨fun h => h.2, fun h => ⟨hn, h⟩⟩)
    obtain ⟨n1, n6⟩ := hn
    have en : IntKind.i64.wrap (n - 1) = n - 1 := IntWalk.i64_in _ (by omega)
    go_enter Try.func21, Try.ntmps21
    go_wp2_with fail
    go_loopw [5] (fun i wr => ∃ k : Nat, k ≤ l.length ∧ i = .int .i64 (k : Int) ∧ Hid (∀ i, i < k → 0 ≤ l[i]?.getD 0 ∧ l[i]?.getD 0 < n) ∧ w = wr) (fun i _ => l.length - (intOf i).toNat)
    case atStart => exact ⟨0, Nat.zero_le _, rfl, fun i hi => absurd hi (by omega), rfl⟩
    case round =>
      obtain ⟨k, hk, rfl, hall, rfl⟩ := hrel
      by_cases hlt : k < l.length
      · obtain ⟨ad, rfl, hc⟩ := hr.int hlt
        obtain ⟨x, hx⟩ : ∃ x, l[k]?.getD 0 = x := ⟨_, rfl⟩
        rw [hx] at hc
        have X := hide hx
        have k0 : (0 : Int) ≤ (k : Int) := by omega
        have k1 : (k : Int) < (l.length : Int) := by omega
        clear hx
        by_cases hin : 0 ≤ x ∧ x ≤ n - 1
        · have HI := hide (fun w5 => inRange_yes x 0 (n - 1) w5 hin.1 hin.2)
          have HIN := hide hin
          clear hin
          go_wp2_with fail
          refine (HI.out _).mono ?_
          rintro e w1 ⟨rfl, rfl⟩
          go_wp2_with fail
          exact ⟨⟨k + 1, hlt, rfl, fun i hi => by
            by_cases e : i = k
            · subst e; rw [X.out]; have := HIN.out; omega
            · exact hall.out i (by omega), trivial⟩, by simp [intOf]; omega⟩
        · have HI := hide (fun w5 => inRange_no x 0 (n - 1) w5 hin)
          have HIN := hide hin
          clear hin
          go_wp2_with fail
          refine (HI.out _).mono ?_
          rintro e w1 ⟨rfl, rfl⟩
          go_wp2_with fail
          go_ret
          exact ⟨ret_bool (by rw [HS.out]; symm; rw [decide_eq_false_iff_not]; intro h; have := h.2 k hlt; rw [X.out] at this; exact HIN.out (by omega)), rfl⟩
      · have hkl : Hid (k = l.length) := hide (by omega)
        by_cases hlen : (l.length : Int) ≤ n
        · have HLN := hide hlen
          go_wp2_with fail
          refine (HR.out _).mono ?_
          rintro e w1 ⟨rfl, rfl⟩
          go_wp2_with fail
          go_ret
          exact ⟨ret_bool (by rw [HS.out]; symm; rw [decide_eq_true_eq]; exact ⟨HLN.out, by rw [← hkl.out]; exact hall.out⟩), rfl⟩
        · have HLN := hide hlen
          go_wp2_with fail
          refine (HR.out _).mono ?_
          rintro e w1 ⟨rfl, rfl⟩
          go_wp2_with fail
          go_ret
          exact ⟨ret_bool (by rw [HS.out]; have hl := HLN.out; exact decide_eq_decide.2 ⟨fun h => absurd h (by omega), fun h => absurd h.1 (by omega)⟩), rfl⟩
  · have HR := hide (fun w5 => inRange_no n 1 6 w5 hn)
    have HS := hide (show decide (Stand n l) = false by rw [decide_eq_false_iff_not]; exact fun h => hn h.1)
    clear hn
    obtain ⟨wn, en⟩ : ∃ wn, IntKind.i64.wrap (n - 1) = wn := ⟨_, rfl⟩
    go_enter Try.func21, Try.ntmps21
    go_wp2_with fail
    go_loopw [5] (fun i wr => ∃ k : Nat, k ≤ l.length ∧ i = .int .i64 (k : Int) ∧ w = wr) (fun i _ => l.length - (intOf i).toNat)
    case atStart => exact ⟨0, Nat.zero_le _, rfl, rfl⟩
    case round =>
      obtain ⟨k, hk, rfl, rfl⟩ := hrel
      by_cases hlt : k < l.length
      · obtain ⟨ad, rfl, hc⟩ := hr.int hlt
        obtain ⟨x, hx⟩ : ∃ x, l[k]?.getD 0 = x := ⟨_, rfl⟩
        rw [hx] at hc
        have k0 : (0 : Int) ≤ (k : Int) := by omega
        have k1 : (k : Int) < (l.length : Int) := by omega
        clear hx
        obtain ⟨b, hb⟩ : ∃ b, decide (0 ≤ x ∧ x ≤ wn) = b := ⟨_, rfl⟩
        have HI := hide (fun w5 => inRange_b x 0 wn b hb w5)
        clear hb
        cases b with
        | true =>
          go_wp2_with fail
          refine (HI.out _).mono ?_
          rintro e w1 ⟨rfl, rfl⟩
          go_wp2_with fail
          exact ⟨⟨k + 1, hlt, rfl, trivial⟩, by simp [intOf]; omega⟩
        | false =>
          go_wp2_with fail
          refine (HI.out _).mono ?_
          rintro e w1 ⟨rfl, rfl⟩
          go_wp2_with fail
          go_ret
          exact ⟨ret_bool HS.out.symm, rfl⟩
      · go_wp2_with fail
        refine (HR.out _).mono ?_
        rintro e w1 ⟨rfl, rfl⟩
        go_wp2_with fail
        go_ret
        exact ⟨ret_bool HS.out.symm, rfl⟩
theorem Stand.heads {n : Int} {l : List Int} (h : Stand n l) : Heads n.toNat l := fun i hi => by have := h.2.2 i hi; have := h.1; omega
theorem take_at (l : List Int) (k i : Nat) (hi : i < k) : (l.take k)[i]?.getD 0 = l[i]?.getD 0 := by rw [List.getElem?_take, if_pos hi]
theorem Stand.take_small {n : Int} {l : List Int} (h : Stand n l) (k : Nat) (hk : k ≤ l.length) : Small (l.take k) := ⟨by rw [List.length_take]; have := h.1; have := h.2.1; omega, fun i hi => by
  rw [List.length_take] at hi
  rw [take_at _ _ _ (by omega)]
  have := h.2.2 i (by omega)
  have := h.1
  omega⟩
end Go.Proofs.Ytgcchpabmkdkhad


/-
  The law's small words: isIn leaves the world as it was; different.
-/
import Derived.Test.YtdjkdjnbmhpokacSpecM
import Derived.Deep.RegionHeld3
namespace Go.Proofs.Ytdjkdjnbmhpokac
open Go.RowKit
set_option linter.unusedVariables false

theorem inl_stepD {xs : List Int} {k : Nat} {x : Int} (hk : k < xs.length) (h : (xs.take k).contains x = false) (hx : (xs[k]?.getD 0 == x) = false) : (xs.take (k + 1)).contains x = false := by
  rw [take_snoc xs k hk]
  simp only [List.contains_eq_mem, decide_eq_false_iff_not, List.mem_append, List.mem_singleton, not_or] at h ⊢
  exact ⟨h, fun e => by rw [← e] at hx; simp at hx⟩
theorem inl_hitD {xs : List Int} {k : Nat} {x : Int} (hk : k < xs.length) (hx : (xs[k]?.getD 0 == x) = true) : xs.contains x = true := by
  rw [List.contains_eq_mem, decide_eq_true_eq]
  have := beq_iff_eq.1 hx
  rw [List.getElem?_eq_getElem hk, Option.getD_some] at this
  rw [← this]
  exact List.getElem_mem hk
set_option maxHeartbeats 400000 in
theorem isIn_sameD (A : Option Addr) (l : List Int) (c : Nat) (x : Int) (w : World) (hr : Row w A (ints l)) (hm : l.length ≤ maxLen) :
    Calls Try.prog 41 #[.slice A l.length c, .int .i64 x] w fun e w' => e = .returned (.bool (decide (x ∈ l))) ∧ w = w' := by
  unfold maxLen at hm
  go_enter Try.func41, Try.ntmps41
  go_wp2
  go_loop [5] (fun i => ∃ k : Nat, k ≤ l.length ∧ i = .int .i64 k ∧ Hid ((l.take k).contains x = false)) (fun i => l.length - (intOf i).toNat)
  case atStart => exact ⟨0, Nat.zero_le _, rfl, rfl⟩
  case round =>
    obtain ⟨k, hk, rfl, he⟩ := hrel
    by_cases hlt : k < l.length
    · obtain ⟨ad, rfl, hca⟩ := hr.int hlt
      obtain ⟨y, hy⟩ : ∃ y, l[k]?.getD 0 = y := ⟨_, rfl⟩
      rw [hy] at hca
      have Y := hide hy
      clear hy
      cases hb : (y == x) with
      | true =>
        go_wp2
        go_ret
        exact ⟨ret_bool (by rw [← List.contains_eq_mem]; exact (inl_hitD hlt (by rw [Y.out]; exact hb)).symm), rfl⟩
      | false =>
        go_wp2
        exact ⟨⟨k + 1, hlt, rfl, inl_stepD hlt he.out (by rw [Y.out]; exact hb)⟩, by simp [intOf]; omega⟩
    · have hk2 : Hid (k = l.length) := hide (by omega)
      go_wp2
      go_ret
      exact ⟨ret_bool (by have e := he.out; rw [hk2.out, List.take_of_length_le (Nat.le_refl _)] at e; rw [← List.contains_eq_mem]; exact e.symm), rfl⟩
set_option maxHeartbeats 1000000 in
theorem different_cD (A : Option Addr) (c : Nat) (l : List Int) (w : World) (hr : Row w A (ints l)) (hm : l.length ≤ 1000) (hcc : l.length ≤ c) (hcm : c ≤ maxLen) (hd : ∀ i, i < l.length → ¬ l[i]?.getD 0 ∈ l.take i) :
    Calls Try.prog 19 #[.slice A l.length c] w (Plain (.int .i64 (l.length : Int)) w) := by
  unfold maxLen at hcm
  have HA := hide (fun (k : Nat) (hk : k < l.length) (A' : Option Addr) (cc : Nat) (w5 : World) (h5 : Row w5 A' (ints (l.take k))) => show Calls Try.prog 41 #[.slice A' k cc, .int .i64 (l[k]?.getD 0)] w5 fun e w' => e = .returned (.bool false) ∧ w5 = w' by
    have := isIn_sameD A' (l.take k) cc (l[k]?.getD 0) w5 h5 (by rw [List.length_take]; simp [maxLen]; omega)
    rw [decide_eq_false (hd k hk)] at this
    rwa [List.length_take, Nat.min_eq_left (by omega)] at this)
  clear hd
  go_enter Try.func19, Try.ntmps19
  go_wp2_with fail
  go_loopw [3, 4] (fun s i wr => ∃ k : Nat, k ≤ l.length ∧ s = .int .i64 (k : Int) ∧ i = .int .i64 (k : Int) ∧ Below w.heap.size w wr) (fun _ i _ => l.length - (intOf i).toNat)
  case atStart => exact ⟨0, Nat.zero_le _, rfl, rfl, Below.refl _ _⟩
  case round =>
    obtain ⟨k, hk, rfl, rfl, hb⟩ := hrel
    obtain ⟨wo, rfl⟩ : ∃ wo : World, wo = wr := ⟨_, rfl⟩
    by_cases hlt : k < l.length
    · have hrk := (hr.below hb).upto k
      obtain ⟨ad, rfl, hc⟩ := (hr.below hb).int hlt
      have HAk := hide (fun (w5 : World) (h5 : Row w5 (some ad) (ints (l.take k))) => HA.out k hlt (some ad) c w5 h5)
      generalize l[k]?.getD 0 = x at *
      have k0 : (0 : Int) ≤ (k : Int) := by omega
      have k1 : (k : Int) < (l.length : Int) := by omega
      have k2 : (k : Int) ≤ (c : Int) := by omega
      have k3 : (l.length : Int) ≤ (c : Int) := by omega
      have hrd := hrk.drew
      go_wp2_with fail
      go_region_held3 (fun w' => w'.cell? (ad.add k) = some (.int .i64 x)) (go_keep)
        (first
          | (go_at_call 41; refine (HAk.out _ hrd).mono ?_; rintro e w7 ⟨rfl, rfl⟩))
      go_wp2_with fail
      exact ⟨⟨k + 1, hlt, by go_num, by go_num, hb.drew⟩, by simp [intOf]; omega⟩
    · obtain rfl : k = l.length := by omega
      go_wp2_with fail
      go_ret
      exact ⟨rfl, hb⟩

end Go.Proofs.Ytdjkdjnbmhpokac

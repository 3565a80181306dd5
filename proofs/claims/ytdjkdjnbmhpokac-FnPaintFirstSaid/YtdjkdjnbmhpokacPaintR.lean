
/-
  Colours: the laws' small words: different and greatestOf of a row; what ReachOf hands back, as the law of the first colours wants it.
-/
import Derived.Test.YtdjkdjnbmhpokacPaintE
import Derived.Test.YtdjkdjnbmhpokacDiffW
import Derived.Lib.MinMax
namespace Go.Proofs.Ytdjkdjnbmhpokac
open Go.RowKit
set_option linter.unusedVariables false

/-- The cells of a set, ascending. -/
def reachH (L : List Nat) (i : Nat) : List Nat := (List.range L.length).filter fun x => bitN (L[i]?.getD 0) x == 1
def diffH (l : List Int) : Nat → Nat
  | 0 => 0
  | k + 1 => diffH l k + if l[k]?.getD 0 ∈ l.take k then 0 else 1
theorem diffH_le (l : List Int) : ∀ k, diffH l k ≤ k
  | 0 => Nat.le_refl _
  | k + 1 => by
    have := diffH_le l k
    unfold diffH
    split <;> omega
def maxH (l : List Int) : Nat → Int
  | 0 => 0
  | k + 1 => max (maxH l k) (l[k]?.getD 0)
def hueLaw (L : List Nat) : Bool :=
  let F := natI (firstC L L.length)
  ((diffH F L.length : Int) == maxH F L.length + 1) && (decide (0 ≤ maxH F L.length) && decide (maxH F L.length ≤ 8)) && decide ((fewTo L : Int) ≤ maxH F L.length + 1)
theorem hue_law : chTab.all (fun e => hueLaw e.1) = true := by decide +kernel
/-- What the law wants of the first colours. -/
structure HueLaw (L F : List Nat) (n : Nat) : Prop where
  len : F.length = n
  reach : ∀ i, i < n → (reachH L i).length ≤ 9
  near : ∀ i, i < n → ∀ k, k < (reachH L i).length → (reachH L i)[k]?.getD 0 < n ∧ F[(reachH L i)[k]?.getD 0]?.getD 0 ≠ F[i]?.getD 0
  great : 0 ≤ maxH (natI F) n ∧ maxH (natI F) n ≤ 8
  diff : (diffH (natI F) n : Int) = maxH (natI F) n + 1
  few : (fewTo L : Int) ≤ maxH (natI F) n + 1
theorem hueLaw_of {L : List Nat} {n : Nat} (hlen : L.length = n) (h9 : n ≤ 9) (h : (chTab.any fun e => e.1 == L) = true) : HueLaw L (firstC L n) n := by
  obtain ⟨e, he, rfl, _⟩ := chOf_mem h
  have h1 := List.all_eq_true.1 first_all e he
  have h2 := List.all_eq_true.1 hue_law e he
  unfold firstOk at h1
  unfold hueLaw at h2
  simp only [Bool.and_eq_true, decide_eq_true_eq, beq_iff_eq] at h1 h2
  have h1 := h1.1.1.1.2
  subst hlen
  refine ⟨firstC_len _ _, fun i hi => ?_, fun i hi k hk => ?_, h2.1.2, h2.1.1, h2.2⟩
  · have : (reachH e.1 i).length ≤ (List.range e.1.length).length := List.length_filter_le _ _
    rw [List.length_range] at this
    omega
  · obtain ⟨x, hx⟩ : ∃ x, (reachH e.1 i)[k]?.getD 0 = x := ⟨_, rfl⟩
    have hmem : x ∈ reachH e.1 i := by
      rw [← hx, List.getElem?_eq_getElem hk, Option.getD_some]
      exact List.getElem_mem hk
    rw [hx]
    obtain ⟨g1, g2⟩ := List.mem_filter.1 hmem
    have g1 := List.mem_range.1 g1
    have h3 := List.all_eq_true.1 (List.all_eq_true.1 h1 i (List.mem_range.2 hi)) x (List.mem_range.2 g1)
    rw [g2] at h3
    refine ⟨g1, fun e' => ?_⟩
    rw [e'] at h3
    simp at h3
set_option maxHeartbeats 400000 in
theorem greatest_h (A : Option Addr) (l : List Int) (n c : Nat) (w : World) (hn : l.length = n) (hr : Row w A (ints l)) (hm : l.length ≤ 1000) :
    Calls Try.prog 20 #[.slice A n c] w (Plain (.int .i64 (maxH l n)) w) := by
  subst hn
  have HR := hide hr
  clear hr
  go_enter Try.func20, Try.ntmps20
  go_wp2_with fail
  go_loopw [3, 4] (fun a i wr => ∃ k : Nat, k ≤ l.length ∧ i = .int .i64 (k : Int) ∧ a = .int .i64 (maxH l k) ∧ Below w.heap.size w wr) (fun _ i _ => l.length - (intOf i).toNat)
  case atStart => exact ⟨0, Nat.zero_le _, rfl, rfl, Below.refl _ _⟩
  case round =>
    obtain ⟨k, hk, rfl, rfl, hb⟩ := hrel
    obtain ⟨wo, rfl⟩ : ∃ wo : World, wo = wr := ⟨_, rfl⟩
    by_cases hlt : k < l.length
    · obtain ⟨ad, rfl, hca⟩ := (HR.out.below hb).int hlt
      have hs := hide (show maxH l (k + 1) = max (maxH l k) (l[k]?.getD 0) from rfl)
      generalize l[k]?.getD 0 = x at *
      generalize maxH l k = m at *
      go_wp2_with fail
      all_goals exact ⟨⟨k + 1, hlt, by go_num, by rw [hs.out], hb⟩, by simp [intOf]; omega⟩
    · obtain rfl : k = l.length := by omega
      go_wp2_with fail
      go_ret
      exact ⟨rfl, hb⟩
set_option maxHeartbeats 1000000 in
theorem different_h (A : Option Addr) (n c : Nat) (l : List Int) (w : World) (hn : l.length = n) (hr : Row w A (ints l)) (hm : l.length ≤ 1000) (hcc : l.length ≤ c) (hcm : c ≤ maxLen) :
    Calls Try.prog 19 #[.slice A n c] w (Plain (.int .i64 (diffH l n : Int)) w) := by
  subst hn
  unfold maxLen at hcm
  have HA := hide (fun (k : Nat) (hk : k < l.length) (A' : Option Addr) (cc : Nat) (w5 : World) (h5 : Row w5 A' (ints (l.take k))) => show Calls Try.prog 41 #[.slice A' k cc, .int .i64 (l[k]?.getD 0)] w5 fun e w' => e = .returned (.bool (decide (l[k]?.getD 0 ∈ l.take k))) ∧ w5 = w' by
    have := isIn_sameD A' (l.take k) cc (l[k]?.getD 0) w5 h5 (by rw [List.length_take]; simp [maxLen]; omega)
    rwa [List.length_take, Nat.min_eq_left (by omega)] at this)
  have HS := hide (fun k => show diffH l (k + 1) = diffH l k + if l[k]?.getD 0 ∈ l.take k then 0 else 1 from rfl)
  have HB := hide (fun k => diffH_le l k)
  go_enter Try.func19, Try.ntmps19
  go_wp2_with fail
  go_loopw [3, 4] (fun s i wr => ∃ k : Nat, k ≤ l.length ∧ s = .int .i64 (diffH l k : Int) ∧ i = .int .i64 (k : Int) ∧ Below w.heap.size w wr) (fun _ i _ => l.length - (intOf i).toNat)
  case atStart => exact ⟨0, Nat.zero_le _, rfl, rfl, Below.refl _ _⟩
  case round =>
    obtain ⟨k, hk, rfl, rfl, hb⟩ := hrel
    obtain ⟨wo, rfl⟩ : ∃ wo : World, wo = wr := ⟨_, rfl⟩
    have HSk := hide (HS.out k)
    have hbk := HB.out k
    by_cases hlt : k < l.length
    · have hrk := (hr.below hb).upto k
      obtain ⟨ad, rfl, hc⟩ := (hr.below hb).int hlt
      have HAk := hide (fun (w5 : World) (h5 : Row w5 (some ad) (ints (l.take k))) => HA.out k hlt (some ad) c w5 h5)
      generalize diffH l k = d at *
      have k0 : (0 : Int) ≤ (k : Int) := by omega
      have k1 : (k : Int) < (l.length : Int) := by omega
      have k2 : (k : Int) ≤ (c : Int) := by omega
      have k3 : (l.length : Int) ≤ (c : Int) := by omega
      have hrd := hrk.drew
      by_cases hin : l[k]?.getD 0 ∈ l.take k
      · rw [decide_eq_true hin] at HAk
        rw [if_pos hin] at HSk
        clear hin
        generalize l[k]?.getD 0 = x at *
        go_wp2_with fail
        go_region_held3 (fun w' => w'.cell? (ad.add k) = some (.int .i64 x)) (go_keep)
          (first
            | (go_at_call 41; refine (HAk.out _ hrd).mono ?_; rintro e w7 ⟨rfl, rfl⟩))
        go_wp2_with fail
        exact ⟨⟨k + 1, hlt, by rw [HSk.out]; rfl, by go_num, hb.drew⟩, by simp [intOf]; omega⟩
      · rw [decide_eq_false hin] at HAk
        rw [if_neg hin] at HSk
        clear hin
        generalize l[k]?.getD 0 = x at *
        go_wp2_with fail
        go_region_held3 (fun w' => w'.cell? (ad.add k) = some (.int .i64 x)) (go_keep)
          (first
            | (go_at_call 41; refine (HAk.out _ hrd).mono ?_; rintro e w7 ⟨rfl, rfl⟩))
        go_wp2_with fail
        exact ⟨⟨k + 1, hlt, by rw [HSk.out]; go_num, by go_num, hb.drew⟩, by simp [intOf]; omega⟩
    · obtain rfl : k = l.length := by omega
      go_wp2_with fail
      go_ret
      exact ⟨rfl, hb⟩
end Go.Proofs.Ytdjkdjnbmhpokac

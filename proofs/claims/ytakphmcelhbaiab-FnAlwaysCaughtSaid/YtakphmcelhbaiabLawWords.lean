
/-
  The law's own small words: equality of two slices of integers.
-/
import Derived.Test.YtakphmcelhbaiabBase
import Derived.Test.YtakphmcelhbaiabProg
import Derived.RegionTactic
import Derived.Deep.QuietTactic
import Derived.BigQuiet
import Derived.ProofKit
import Derived.Handy
import Derived.OwnWalk
namespace Go.Proofs.Ytakphmcelhbaiab
open Go.RowKit
set_option linter.unusedVariables false

theorem eqlist_step {xs ys : List Int} {k : Nat} (hk : k < xs.length) (hl : xs.length = ys.length) (he : xs.take k = ys.take k) (h : xs[k]?.getD 0 = ys[k]?.getD 0) : xs.take (k + 1) = ys.take (k + 1) := by
  rw [take_snoc xs k hk, take_snoc ys k (hl ▸ hk), he, h]

set_option maxHeartbeats 400000 in
theorem equalInts_c (A C : Option Addr) (xs ys : List Int) (ca cc : Nat) (w : World) (ha : Row w A (ints xs)) (hc : Row w C (ints ys))
    (hn : xs.length ≤ maxLen) (hm : ys.length ≤ maxLen) :
    Calls Try.prog 13 #[.slice A xs.length ca, .slice C ys.length cc] w (Plain (.bool (decide (xs = ys))) w) := by
  unfold maxLen at hn hm
  by_cases hl : xs.length = ys.length
  · have hl' : ((xs.length : Int) != (ys.length : Int)) = false := by simp [hl]
    have HL := hide hl
    clear hl
    go_enter Try.func13, Try.ntmps13
    go_wp2
    go_loopw [5] (fun i wr => ∃ (k n : Nat), k ≤ xs.length ∧ i = .int .i64 k ∧ Hid (xs.take k = ys.take k) ∧ wr = w.drewN n) (fun i _ => xs.length - (intOf i).toNat)
    case atStart => exact ⟨0, 0, Nat.zero_le _, rfl, rfl, rfl⟩
    case round =>
      obtain ⟨k, n, hk, rfl, he, rfl⟩ := hrel
      by_cases hlt : k < xs.length
      · have hlt2 : k < ys.length := HL.out ▸ hlt
        obtain ⟨ad, rfl, hca⟩ := ha.int hlt
        obtain ⟨ad', rfl, hcc⟩ := hc.int hlt2
        go_wp2
        go_quiet (fail)
        all_goals go_wp2
        · have h1 : (xs[k] != ys[k]) = true := by assumption
          go_ret
          exact ⟨ret_bool (by symm; simp only [decide_eq_false_iff_not]; rintro rfl; simp at h1), below_drewN (below_drewN (Below.refl _ _) _) _⟩
        · have h1 : (xs[k] != ys[k]) = false := by assumption
          exact ⟨⟨k + 1, n + nq, hlt, by go_num, eqlist_step hlt HL.out he.out (by simp [hlt, hlt2]; simpa using h1), rfl⟩, by simp [intOf]; omega⟩
      · have hk2 : Hid (k = xs.length) := hide (by omega)
        go_wp2
        go_ret
        exact ⟨ret_bool (by have e := he.out; rw [hk2.out, List.take_of_length_le (Nat.le_refl _), List.take_of_length_le (by rw [HL.out]; exact Nat.le_refl _)] at e; simpa using e.symm ▸ rfl), below_drewN (Below.refl _ _) _⟩
  · have hl' : ((xs.length : Int) != (ys.length : Int)) = true := by simp; omega
    go_enter Try.func13, Try.ntmps13
    go_wp2
    go_ret
    exact ⟨ret_bool (by simp; rintro rfl; exact hl rfl), Below.refl _ _⟩
set_option maxHeartbeats 400000 in
theorem eqIntS_c (A C : Option Addr) (xs ys : List Int) (ca cc : Nat) (w : World) (ha : Row w A (ints xs)) (hc : Row w C (ints ys))
    (hn : xs.length ≤ maxLen) (hm : ys.length ≤ maxLen) :
    Calls Try.prog 9 #[.slice A xs.length ca, .slice C ys.length cc] w (Plain (.bool (decide (xs = ys))) w) := by
  unfold maxLen at hn hm
  by_cases hl : xs.length = ys.length
  · have hl' : ((xs.length : Int) != (ys.length : Int)) = false := by simp [hl]
    have HL := hide hl
    clear hl
    go_enter Try.func9, Try.ntmps9
    go_wp2
    go_loopw [5] (fun i wr => ∃ (k n : Nat), k ≤ xs.length ∧ i = .int .i64 k ∧ Hid (xs.take k = ys.take k) ∧ wr = w.drewN n) (fun i _ => xs.length - (intOf i).toNat)
    case atStart => exact ⟨0, 0, Nat.zero_le _, rfl, rfl, rfl⟩
    case round =>
      obtain ⟨k, n, hk, rfl, he, rfl⟩ := hrel
      by_cases hlt : k < xs.length
      · have hlt2 : k < ys.length := HL.out ▸ hlt
        obtain ⟨ad, rfl, hca⟩ := ha.int hlt
        obtain ⟨ad', rfl, hcc⟩ := hc.int hlt2
        go_wp2
        go_quiet (fail)
        all_goals go_wp2
        · have h1 : (xs[k] != ys[k]) = true := by assumption
          go_ret
          exact ⟨ret_bool (by symm; simp only [decide_eq_false_iff_not]; rintro rfl; simp at h1), below_drewN (below_drewN (Below.refl _ _) _) _⟩
        · have h1 : (xs[k] != ys[k]) = false := by assumption
          exact ⟨⟨k + 1, n + nq, hlt, by go_num, eqlist_step hlt HL.out he.out (by simp [hlt, hlt2]; simpa using h1), rfl⟩, by simp [intOf]; omega⟩
      · have hk2 : Hid (k = xs.length) := hide (by omega)
        go_wp2
        go_ret
        exact ⟨ret_bool (by have e := he.out; rw [hk2.out, List.take_of_length_le (Nat.le_refl _), List.take_of_length_le (by rw [HL.out]; exact Nat.le_refl _)] at e; simpa using e.symm ▸ rfl), below_drewN (Below.refl _ _) _⟩
  · have hl' : ((xs.length : Int) != (ys.length : Int)) = true := by simp; omega
    go_enter Try.func9, Try.ntmps9
    go_wp2
    go_ret
    exact ⟨ret_bool (by simp; rintro rfl; exact hl rfl), Below.refl _ _⟩

theorem elem_int0 : Elem Try.prog 3 1 8 := Elem.of (z := .int .i64 0) (by kernel_rfl) rfl (by omega)
def marks (k : Int) (n : Nat) : List Int := (List.range n).map fun (j : Nat) => k + (j : Int)
theorem marks_len (k : Int) (n : Nat) : (marks k n).length = n := by simp [marks]
theorem marks_at (k : Int) (n j : Nat) (h : j < n) : (marks k n)[j]? = some (k + (j : Int)) := by simp [marks, h]
def Marked (v : Value) (B : Nat) (k : Int) (n : Nat) (w : World) (e : Ending) (w' : World) : Prop :=
  e = .returned (.int .i64 (k + n)) ∧ w'.ownsRow B 3 1 v n (ints (marks k n)) ∧ w.grownBy w' v.ownBlock
set_option maxHeartbeats 400000 in
theorem markIntS_c (v : Value) (B : Nat) (k : Int) (xs : List Int) (w : World) (hown : w.ownsRow B 3 1 v xs.length (ints xs)) (hn : xs.length ≤ 1048576) (k0 : 0 ≤ k) (k1 : k ≤ 1048576) :
    Calls Try.prog 10 #[v, .int .i64 k] w (Marked v B k xs.length w) := by
  generalize hxl : xs.length = n at *
  obtain ⟨ys0, hys0⟩ : ∃ ys, ys = ints xs := ⟨_, rfl⟩
  rw [← hys0] at hown
  clear hys0 hxl
  rcases hown.2 with ⟨rfl, rfl⟩ | ⟨g, cap, cur, rfl, hB, _⟩
  · go_enter Try.func10, Try.ntmps10
    go_wp2
    refine wp_loop_rounds 1 ?_
    rw [rounds_succ]
    go_wp2
    go_ret
    exact ⟨by simp, by simpa [marks] using World.ownsRow_nil _ _ _ _, World.grownBy.refl _ _⟩
  · go_enter Try.func10, Try.ntmps10
    go_wp2
    go_loopw [1, 5] (fun a i wr => ∃ (j : Nat) (ys : List Value), j ≤ n ∧ i = .int .i64 j ∧ a = .int .i64 (k + j) ∧ wr.ownsRow B 3 1 (.slice (some ⟨g, 0, none⟩) n cap) n ys ∧ Hid (∀ m, m < j → ys[m]? = some (.int .i64 (k + (m : Int)))) ∧ w.grownBy wr (some g)) (fun _ i _ => n - (intOf i).toNat)
    case atStart => exact ⟨0, ys0, Nat.zero_le _, rfl, by simp, hown, fun j h => absurd h (by omega), World.grownBy.refl _ _⟩
    case round =>
      obtain ⟨j, ys, hj, rfl, rfl, hown, hys, hg⟩ := hrel
      obtain ⟨wo, rfl⟩ : ∃ wo : World, wo = wr := ⟨_, rfl⟩
      have hyl := hide hown.1
      by_cases hlt : j < n
      · have hcell := hown.cellAt j (by omega)
        rw [List.getElem?_eq_getElem (by rw [hyl.out]; omega)] at hcell
        have hfree := hown.frozenAt j
        obtain ⟨hst, hg2⟩ := hown.stored j (.int .i64 (k + j))
        have Hst := hide hst
        have Hg := hide hg2
        clear hst hg2 hown
        go_wp2
        refine ⟨⟨j + 1, ys.set j (.int .i64 (k + j)), hlt, rfl, by push_cast; rw [Int.add_assoc], Hst.out, fun m hm => ?_, hg.trans Hg.out⟩, by simp [intOf]; omega⟩
        by_cases e : m = j
        · subst e
          rw [List.getElem?_set_self (by rw [hyl.out]; omega)]
        · rw [List.getElem?_set_ne (fun h => e h.symm)]
          exact hys.out m (by omega)
      · have hk2 : Hid (j = n) := hide (by omega)
        go_wp2
        go_ret
        have e : ys = ints (marks k n) := List.ext_getElem? fun m => by
          by_cases hm : m < j
          · rw [hys.out m hm]; simp [marks_at k n m (by rw [← hk2.out]; exact hm)]
          · rw [List.getElem?_eq_none (by rw [hyl.out, ← hk2.out]; omega), List.getElem?_eq_none (by simp [marks_len]; rw [← hk2.out]; omega)]
        exact ⟨by rw [hk2.out]; rfl, e ▸ hown, hg⟩
set_option maxHeartbeats 400000 in
theorem heldIntS_c (A : Option Addr) (k : Int) (n c : Nat) (w : World) (hr : Row w A (ints (marks k n))) (hn : n ≤ 1048576) (k0 : 0 ≤ k) (k1 : k ≤ 1048576) :
    Calls Try.prog 11 #[.slice A n c, .int .i64 k] w (Plain (.int .i64 (k + n)) w) := by
  go_enter Try.func11, Try.ntmps11
  go_wp2
  go_loop [1, 5] (fun a i => ∃ j : Nat, j ≤ n ∧ i = .int .i64 j ∧ a = .int .i64 (k + j)) (fun _ i => n - (intOf i).toNat)
  case atStart => exact ⟨0, Nat.zero_le _, rfl, by simp⟩
  case round =>
    obtain ⟨j, hj, rfl, rfl⟩ := hrel
    by_cases hlt : j < n
    · obtain ⟨ad, rfl, hca⟩ := hr.int (k := j) (by rw [marks_len]; exact hlt)
      rw [marks_at k n j hlt, Option.getD_some] at hca
      have hne : (k + (j : Int) != k + (j : Int)) = false := by simp
      go_wp2
      exact ⟨⟨j + 1, hlt, rfl, by push_cast; rw [Int.add_assoc]⟩, by simp [intOf]; omega⟩
    · have hk2 : Hid (j = n) := hide (by omega)
      go_wp2
      go_ret
      exact ⟨by rw [hk2.out]; rfl, Below.refl _ _⟩
end Go.Proofs.Ytakphmcelhbaiab


/-
  The law's own small words: equality of two slices of integers.
-/
import Derived.Test.YtijidecdokbmnadBase
import Derived.Test.YtijidecdokbmnadProg
import Derived.RegionTactic
import Derived.Deep.QuietTactic
import Derived.BigQuiet
import Derived.ProofKit
import Derived.Handy
import Derived.OwnWalk
namespace Go.Proofs.Ytijidecdokbmnad
open Go.RowKit
set_option linter.unusedVariables false

theorem eqlist_step {xs ys : List Int} {k : Nat} (hk : k < xs.length) (hl : xs.length = ys.length) (he : xs.take k = ys.take k) (h : xs[k]?.getD 0 = ys[k]?.getD 0) : xs.take (k + 1) = ys.take (k + 1) := by
  rw [take_snoc xs k hk, take_snoc ys k (hl ▸ hk), he, h]

set_option maxHeartbeats 400000 in
theorem eqIntS_c (A C : Option Addr) (xs ys : List Int) (ca cc : Nat) (w : World) (ha : Row w A (ints xs)) (hc : Row w C (ints ys))
    (hn : xs.length ≤ maxLen) (hm : ys.length ≤ maxLen) :
    Calls Try.prog 8 #[.slice A xs.length ca, .slice C ys.length cc] w (Plain (.bool (decide (xs = ys))) w) := by
  unfold maxLen at hn hm
  by_cases hl : xs.length = ys.length
  · have hl' : ((xs.length : Int) != (ys.length : Int)) = false := by simp [hl]
    have HL := hide hl
    clear hl
    go_enter Try.func8, Try.ntmps8
    go_wp2
    go_loopw [5] (fun i wr => ∃ (k n : Nat), k ≤ xs.length ∧ i = .int .i64 k ∧ Hid (xs.take k = ys.take k) ∧ wr = w.drewN n) (fun i _ => xs.length - (intOf i).toNat)
    case atStart => exact ⟨0, 0, Nat.zero_le _, rfl, rfl, rfl⟩
    case round =>
      obtain ⟨k, n, hk, rfl, he, rfl⟩ := hrel
      by_cases hlt : k < xs.length
      · have hlt2 : k < ys.length := HL.out ▸ hlt
        obtain ⟨ad, rfl, hca⟩ := ha.int hlt
        obtain ⟨ad', rfl, hcc⟩ := hc.int hlt2
        go_wp2
        go_quiet (fail)
        all_goals go_wp2
        · have h1 : (xs[k] != ys[k]) = true := by assumption
          go_ret
          exact ⟨ret_bool (by symm; simp only [decide_eq_false_iff_not]; rintro rfl; simp at h1), below_drewN (below_drewN (Below.refl _ _) _) _⟩
        · have h1 : (xs[k] != ys[k]) = false := by assumption
          exact ⟨⟨k + 1, n + nq, hlt, by go_num, eqlist_step hlt HL.out he.out (by simp [hlt, hlt2]; simpa using h1), rfl⟩, by simp [intOf]; omega⟩
      · have hk2 : Hid (k = xs.length) := hide (by omega)
        go_wp2
        go_ret
        exact ⟨ret_bool (by have e := he.out; rw [hk2.out, List.take_of_length_le (Nat.le_refl _), List.take_of_length_le (by rw [HL.out]; exact Nat.le_refl _)] at e; simpa using e.symm ▸ rfl), below_drewN (Below.refl _ _) _⟩
  · have hl' : ((xs.length : Int) != (ys.length : Int)) = true := by simp; omega
    go_enter Try.func8, Try.ntmps8
    go_wp2
    go_ret
    exact ⟨ret_bool (by simp; rintro rfl; exact hl rfl), Below.refl _ _⟩

theorem elem_int0 : Elem Try.prog 3 1 8 := Elem.of (z := .int .i64 0) (by kernel_rfl) rfl (by omega)
set_option maxHeartbeats 400000 in
theorem toIntS_c (A : Option Addr) (l : List Int) (c : Nat) (w : World) (hr : Row w A (ints l)) (hm : l.length ≤ 1048576) :
    Calls Try.prog 6 #[.slice A l.length c] w (Owns 3 1 l.length (ints l) w) := by
  obtain ⟨⟨i0, z0, hi0, hz0, hz1, hz2, hz3⟩, _⟩ := elem_int0
  go_enter Try.func6, Try.ntmps6
  go_wp2_with ((at_make; refine wpList_make_full _ rfl (.tmp 6) (.tmp 6) 22 rfl w.heap.size 3 i0 z0 1 Try.underlying22 hi0 hz0 hz1 .i64 .i64 l.length l.length l.length rfl rfl rfl rfl (by rw [hz2]; omega) (by simp [maxLen]; omega) (Nat.le_refl _) ?_; intro w1 hown1 hg1))
  clear hi0 hz0 hz1 hz2 hz3
  have hb1 : Below w.heap.size w w1 := (Below.refl _ _).grown hg1 (Nat.le_refl _) (fun k h => by cases h)
  have hl1 := hown1.1
  generalize (madeCells z0.cells (l.length * 1)).toList = ys0 at *
  have Hl1 := hide hl1
  clear hl1 hg1
  go_loopw [4] (fun i wr => ∃ (k : Nat) (ys : List Value), k ≤ l.length ∧ i = .int .i64 k ∧ wr.ownsRow w.heap.size 3 1 (.slice (some ⟨w.heap.size, 0, none⟩) l.length l.length) l.length ys ∧ Hid (∀ j, j < k → ys[j]? = (ints l)[j]?) ∧ Below w.heap.size w wr) (fun i _ => l.length - (intOf i).toNat)
  case atStart => exact ⟨0, ys0, Nat.zero_le _, rfl, hown1, fun j h => absurd h (by omega), hb1⟩
  case round =>
    obtain ⟨k, ys, hk, rfl, hown, hys, hb⟩ := hrel
    obtain ⟨wo, rfl⟩ : ∃ wo : World, wo = wr := ⟨_, rfl⟩
    have hyl := hide hown.1
    by_cases hlt : k < l.length
    · obtain ⟨ad, rfl, hca⟩ := (hr.below hb).int hlt
      have hcell := hown.cellAt k (by omega)
      rw [List.getElem?_eq_getElem (by rw [hyl.out]; omega)] at hcell
      have hfree := hown.frozenAt k
      obtain ⟨hst, hg⟩ := hown.stored k (.int .i64 (l[k]?.getD 0))
      have Hst := hide hst
      have Hg := hide hg
      clear hst hg hown
      go_wp2
      refine ⟨⟨k + 1, ys.set k (.int .i64 (l[k]?.getD 0)), hlt, rfl, by simpa [hlt] using Hst.out, fun j hj => ?_, by simpa [hlt] using hb.setCell (p := ⟨w.heap.size, k, none⟩) (Nat.le_refl _) (.int .i64 (l[k]?.getD 0))⟩, by simp [intOf]; omega⟩
      by_cases e : j = k
      · subst e
        rw [List.getElem?_set_self (by rw [hyl.out]; omega)]
        simp [hlt]
      · rw [List.getElem?_set_ne (fun h => e h.symm)]
        exact hys.out j (by omega)
    · have hk2 : Hid (k = l.length) := hide (by omega)
      go_wp2
      go_ret
      have e : ys = ints l := List.ext_getElem? fun j => by
        by_cases hj : j < k
        · exact hys.out j hj
        · rw [List.getElem?_eq_none (by rw [hyl.out, ← hk2.out]; omega), List.getElem?_eq_none (by simp; rw [← hk2.out]; omega)]
      exact ⟨_, rfl, e ▸ hown, hb⟩

def marks (k : Int) (n : Nat) : List Int := (List.range n).map fun (j : Nat) => k + (j : Int)
theorem marks_len (k : Int) (n : Nat) : (marks k n).length = n := by simp [marks]
theorem marks_at (k : Int) (n j : Nat) (h : j < n) : (marks k n)[j]? = some (k + (j : Int)) := by simp [marks, h]
def Marked (v : Value) (B : Nat) (k : Int) (n : Nat) (w : World) (e : Ending) (w' : World) : Prop :=
  e = .returned (.int .i64 (k + n)) ∧ w'.ownsRow B 3 1 v n (ints (marks k n)) ∧ w.grownBy w' v.ownBlock
end Go.Proofs.Ytijidecdokbmnad

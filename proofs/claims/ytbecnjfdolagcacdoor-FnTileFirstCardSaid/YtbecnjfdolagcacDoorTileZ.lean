
/-
  What the law of first ways asks, purely: near cells; mates; how many numbers there are.
-/
import Derived.Test.YtbecnjfdolagcacDoorTileV
import Derived.Test.YtbecnjfdolagcacDoorReach
namespace Go.Proofs.YtbecnjfdolagcacDoor
open Go.RowKit
set_option linter.unusedVariables false

def nearOk (w h : Nat) : Bool := (List.range (w * h)).all fun i => (List.range (w * h)).all fun k => (cellsP (w : Int) (h : Int) false [] (i : Int) straight).contains (k : Int) == adjG w i k
theorem near_ok : ∀ a : Fin 5, ∀ b : Fin 5, nearOk (a.val + 1) (b.val + 1) = true := by decide +kernel
theorem near {w h : Nat} (hw : 1 ≤ w ∧ w ≤ 5) (hh : 1 ≤ h ∧ h ≤ 5) {i k : Nat} (hi : i < w * h) (hk : k < w * h) : (reachP (w : Int) (h : Int) false [] (i : Int) straight).contains (k : Int) = adjG w i k := by
  have h0 := near_ok ⟨w - 1, by omega⟩ ⟨h - 1, by omega⟩
  simp only [show w - 1 + 1 = w by omega, show h - 1 + 1 = h by omega] at h0
  have h1 := beq_iff_eq.1 (List.all_eq_true.1 (List.all_eq_true.1 h0 i (List.mem_range.2 hi)) k (List.mem_range.2 hk))
  rw [← h1, Bool.eq_iff_iff, List.contains_iff_mem, List.contains_iff_mem]
  unfold reachP
  exact (List.mergeSort_perm _ _).mem_iff
/-- What the first way is like, from the holes on. -/
structure FirstWay (w n : Nat) (g : Nat → Bool) (o : Nat → Int) (m : Nat) : Prop where
  hole : ∀ i, i < n → (o i < 0 ↔ g i = true)
  pair : ∀ i, i < n → g i = false → ∃ j, j < n ∧ j ≠ i ∧ adjG w i j = true ∧ o j = o i ∧ ∀ l, l < n → o l = o i → l = i ∨ l = j
  top : ∀ i, i < n → o i < (m : Int)
  all : ∀ p : Nat, p < m → ∃ i, i < n ∧ o i = (p : Int)
  num : freeN (fun _ => true) g n = 2 * m
theorem first_way {w h n : Nat} (hn : n = w * h) (hw : 1 ≤ w) {g : Nat → Bool} (hp : 0 < tileT w n n g) : FirstWay w n g (firstG w n n g (fun _ => -1) 0).1 (firstG w n n g (fun _ => -1) 0).2 := by
  obtain ⟨g', hg', ok⟩ := first_ok (g0 := g) hn hw n g (fun _ => -1) 0 (Nat.le_refl _) (fun i hi => absurd hi (by omega)) hp (OnWay.start w n g)
  generalize firstG w n n g (fun _ => -1) 0 = F at *
  have hz : freeN (fun _ => true) g' n = 0 := by
    unfold freeN
    rw [sumN_congr n (g := fun _ => 0) (fun i hi => by rw [hg' i hi]; rfl), sumN_zero]
  refine ⟨fun i hi => ?_, fun i hi hgi => ?_, fun i hi => ?_, ok.some_, by have := ok.num; omega⟩
  · cases hgi : g i with
    | true => rw [(ok.hole i hi hgi).1]; simp
    | false =>
      obtain ⟨_, _, _, _, h1, _⟩ := ok.pair i hi (hg' i hi) hgi
      constructor
      · intro h2; omega
      · intro h2; cases h2
  · obtain ⟨j, hj, hji, ha, _, _, he, hl⟩ := ok.pair i hi (hg' i hi) hgi
    exact ⟨j, hj, hji, ha, he, hl⟩
  · cases hgi : g i with
    | true => rw [(ok.hole i hi hgi).1]; omega
    | false =>
      obtain ⟨_, _, _, _, _, h2, _⟩ := ok.pair i hi (hg' i hi) hgi
      exact h2
end Go.Proofs.YtbecnjfdolagcacDoor


/-
  The walk of the law FnReachOf.
-/
import Derived.Test.YtljojjkaeclcfaaLawsC
import Derived.Test.YtljojjkaeclcfaaReachFacts
namespace Go.Proofs.Ytljojjkaeclcfaa
open Go.RowKit
set_option linter.unusedVariables false

theorem isIn_t (A : Option Addr) (n : Nat) (l : List Int) (c : Nat) (x : Int) (w : World) (hn : l.length = n) (hr : Row w A (ints l)) (hm : l.length ≤ 1048576) (h : x ∈ l) : Calls Try.prog 11 #[.slice A n c, .int .i64 x] w (Plain (.bool true) w) := by
  subst hn
  have := isIn_c A l c x w hr (by simp [maxLen]; omega)
  rwa [decide_eq_true h] at this
theorem isIn_f (A : Option Addr) (n : Nat) (l : List Int) (c : Nat) (x : Int) (w : World) (hn : l.length = n) (hr : Row w A (ints l)) (hm : l.length ≤ 1048576) (h : x ∉ l) : Calls Try.prog 11 #[.slice A n c, .int .i64 x] w (Plain (.bool false) w) := by
  subst hn
  have := isIn_c A l c x w hr (by simp [maxLen]; omega)
  rwa [decide_eq_false h] at this
theorem equalInts_t (A C : Option Addr) (n m ca cc : Nat) (xs ys : List Int) (w : World) (hx : xs.length = n) (hy : ys.length = m) (ha : Row w A (ints xs)) (hc : Row w C (ints ys)) (hn : xs.length ≤ 1048576) (he : xs = ys) :
    Calls Try.prog 8 #[.slice A n ca, .slice C m cc] w (Plain (.bool true) w) := by
  subst hx hy he
  have := equalInts_c A C xs xs ca cc w ha hc (by simp [maxLen]; omega) (by simp [maxLen]; omega)
  rwa [decide_eq_true rfl] at this
/-- What the law wants of ReachOf's answer, where there is one. -/
structure Moved (bc br cell : Int) (s : List UInt8) (xs : List Int) : Prop where
  free : ∀ y ∈ reachOfP bc br s cell xs, y ∈ reachOfP bc br s cell []
  back : ∀ y ∈ reachOfP bc br s cell xs, cell ∈ reachOfP bc br s y xs
  up : Hid (∀ i, i + 1 < (reachOfP bc br s cell xs).length → (reachOfP bc br s cell xs)[i]?.getD 0 < (reachOfP bc br s cell xs)[i + 1]?.getD 0)
  out : cell ∉ reachOfP bc br s cell xs
theorem moved_of {bc br cell : Int} {s : List UInt8} {xs : List Int} (h : reachOfP bc br s cell xs ≠ []) : Moved bc br cell s xs := by
  cases hk : kindL s with
  | none => exact absurd (by simp [reachOfP, hk]) h
  | some p =>
    obtain ⟨ss, far⟩ := p
    by_cases hv : Brd bc br ∧ (0 ≤ cell ∧ cell < bc * br) ∧ AscTo (bc * br) xs xs.length
    · obtain ⟨hB, ⟨g1, g2⟩, ha⟩ := hv
      have e : ∀ y zs, 0 ≤ y → y < bc * br → AscTo (bc * br) zs zs.length → reachOfP bc br s y zs = reachP bc br far zs y ss := fun y zs y1 y2 hz => by
        simp only [reachOfP, hk]
        rw [if_pos ⟨hB, ⟨y1, y2⟩, hz⟩]
      have hb := back_of hB (kind_six hk) g1 g2
      have e1 := e cell xs g1 g2 ha
      have e2 := e cell [] g1 g2 (AscTo.zero _ _)
      refine ⟨fun y hy => ?_, fun y hy => ?_, ?_, ?_⟩
      · rw [e1, reach_mem] at hy
        rw [e2, reach_mem]
        exact (cells_sub bc br far ss cell xs).subset hy
      · rw [e1, reach_mem] at hy
        obtain ⟨y1, y2⟩ := cells_in hB.1 hB.2.1 hB.2.2.1 hB.2.2.2 y hy
        rw [e y xs y1 y2 ha, reach_mem]
        exact cells_back hb hy
      · rw [e1]; exact fun i hi => reach_up hb i hi
      · rw [e1, reach_mem]
        exact fun hc => hb.out ((cells_sub bc br far ss cell xs).subset hc)
    · exact absurd (by simp only [reachOfP, hk]; rw [if_neg hv]) h

end Go.Proofs.Ytljojjkaeclcfaa

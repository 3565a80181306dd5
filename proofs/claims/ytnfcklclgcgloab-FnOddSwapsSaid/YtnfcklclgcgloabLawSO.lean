
/-
  The walks of the laws FnOddSwaps and FnCanSlide.
-/
import Derived.Test.YtnfcklclgcgloabDrawO
import Derived.Test.YtnfcklclgcgloabPSlideE
import Derived.Test.YtnfcklclgcgloabPSlideG
import Derived.Test.YtnfcklclgcgloabSlideC
import Derived.Test.YtnfcklclgcgloabCodeWords
namespace Go.Proofs.Ytnfcklclgcgloab
open Go.RowKit
set_option linter.unusedVariables false

theorem odd_sym (bc br : Int) (a b : List Int) : oddSwapsP bc br b a = oddSwapsP bc br a b := by
  unfold oddSwapsP
  by_cases h : SlideIs bc br a ∧ SlideIs bc br b
  · rw [if_pos h, if_pos ⟨h.2, h.1⟩, Nat.add_comm]
  · rw [if_neg h, if_neg (fun g => h ⟨g.2, g.1⟩)]
theorem odd_self {bc br : Int} {a : List Int} (h : SlideIs bc br a) : oddSwapsP bc br a a = 0 := by
  unfold oddSwapsP
  rw [if_pos ⟨h, h⟩]
  omega
theorem odd_bd (bc br : Int) (a b : List Int) : oddSwapsP bc br a b ≤ 1 ∧ (SlideIs bc br a ∧ SlideIs bc br b ∧ 0 ≤ oddSwapsP bc br a b ∨ oddSwapsP bc br a b = -1) := by
  unfold oddSwapsP
  by_cases h : SlideIs bc br a ∧ SlideIs bc br b
  · rw [if_pos h]; exact ⟨by omega, .inl ⟨h.1, h.2, by omega⟩⟩
  · rw [if_neg h]; exact ⟨by omega, .inr rfl⟩
theorem can_sym (bc br : Int) (a b : List Int) : canSlideP bc br b a = canSlideP bc br a b := by
  unfold canSlideP
  rw [apN_swap, Nat.add_comm (oddP b), show decide (SlideIs bc br b ∧ SlideIs bc br a) = decide (SlideIs bc br a ∧ SlideIs bc br b) from by rw [decide_eq_decide]; exact ⟨fun h => ⟨h.2, h.1⟩, fun h => ⟨h.2, h.1⟩⟩,
    show decide (numsP b = numsP a) = decide (numsP a = numsP b) from by rw [decide_eq_decide]; exact ⟨Eq.symm, Eq.symm⟩]
theorem can_self {bc br : Int} {a : List Int} (h : SlideIs bc br a) : canSlideP bc br a a = true := by
  unfold canSlideP
  rw [decide_eq_true ⟨h, h⟩, Bool.true_and]
  by_cases h1 : bc = 1 ∨ br = 1
  · rw [if_pos h1]; simp
  · rw [if_neg h1]
    simp only [beq_iff_eq]
    unfold apN
    omega

set_option maxHeartbeats 1000000 in
set_option maxRecDepth 100000 in
theorem oddSwaps_w (A : Option Addr) (n c : Nat) (w : World) (h : Code w A n c) : Calls Try.prog 4 #[.slice A n c] w (Plain (.bool true) w) := by
  by_cases hl : 1048576 < (n : Int)
  · go_enter Try.func4, Try.ntmps4
    go_wp2
    go_ret
    exact ⟨rfl, Below.refl _ _⟩
  · have HC := hide (drawOddSwaps_c A n c w h)
    clear h
    go_enter Try.func4, Try.ntmps4
    go_wp2_with fail
    refine HC.out.mono ?_
    rintro e w1 ⟨x, y, va, vb, a, b, rfl, hx, hy, oa, la, ob, lb, b1⟩
    obtain ⟨Aa, ca, rfl, ha1, ha2, _, _⟩ := own_row oa
    obtain ⟨Ab, cb, rfl, hb1, hb2, _, _⟩ := own_row ob
    have ma : a.length ≤ maxLen := by unfold maxLen; omega
    have mb : b.length ≤ maxLen := by unfold maxLen; omega
    have zb := b1.size
    have RA := hide (own_reads oa)
    have RB := hide (own_reads ob)
    have HIs := hide (fun (w5 : World) (h5 : Below w1.heap.size w1 w5) => implOddSwaps_c (x : Int) (y : Int) Aa Ab ca cb a b w5 (RA.out.below h5) (RB.out.below h5) ma mb)
    have HJs := hide (fun (w5 : World) (h5 : Below w1.heap.size w1 w5) => implOddSwaps_c (x : Int) (y : Int) Ab Aa cb ca b a w5 (RB.out.below h5) (RA.out.below h5) mb ma)
    have HKs := hide (fun (w5 : World) (h5 : Below w1.heap.size w1 w5) => implOddSwaps_c (x : Int) (y : Int) Aa Aa ca ca a a w5 (RA.out.below h5) (RA.out.below h5) ma ma)
    have HSs := hide (fun (w5 : World) (h5 : Below w1.heap.size w1 w5) => specOddSwaps_c (x : Int) (y : Int) Aa Ab ca cb a b w5 (RA.out.below h5) (RB.out.below h5) ha1 ha2 hb1 hb2)
    rw [odd_sym] at HJs
    obtain ⟨q1, q2⟩ := odd_bd (x : Int) (y : Int) a b
    have HSF := hide (fun (h : SlideIs (x : Int) (y : Int) a) => odd_self h)
    clear oa ob HC
    generalize oddSwapsP (x : Int) (y : Int) a b = X at *
    generalize oddSwapsP (x : Int) (y : Int) a a = Y at *
    rcases q2 with ⟨sa, sb, q2⟩ | rfl
    · obtain rfl : Y = 0 := HSF.out sa
      have hXX : (X != X) = false := by simp
      have hneg : decide (X < 0) = false := by simp; omega
      have hle : decide (X ≤ 1) = true := by simp; omega
      clear sa sb HSF
      go_wp2_with fail
      refine (HIs.out _ (Below.refl _ _)).mono ?_
      rintro e w2 ⟨rfl, b2⟩
      go_wp2_with fail
      refine (HSs.out _ b2).mono ?_
      rintro e w3 ⟨rfl, b3⟩
      have b3 := below_then b2 b2.size b3
      go_wp2_with fail
      refine (HJs.out _ b3).mono ?_
      rintro e w4 ⟨rfl, b4⟩
      have b4 := below_then b3 b3.size b4
      go_wp2_with fail
      refine (HKs.out _ b4).mono ?_
      rintro e w5 ⟨rfl, b5⟩
      have b5 := below_then b1 zb (below_then b4 b4.size b5)
      go_wp2_with fail
      go_ret
      exact ⟨rfl, b5⟩
    · clear HSF HJs HKs
      go_wp2_with fail
      refine (HIs.out _ (Below.refl _ _)).mono ?_
      rintro e w2 ⟨rfl, b2⟩
      go_wp2_with fail
      refine (HSs.out _ b2).mono ?_
      rintro e w3 ⟨rfl, b3⟩
      have b3 := below_then b2 b2.size b3
      go_wp2_with fail
      refine (HSs.out _ b3).mono ?_
      rintro e w4 ⟨rfl, b4⟩
      have b4 := below_then b1 zb (below_then b3 b3.size b4)
      go_wp2_with fail
      go_ret
      exact ⟨rfl, b4⟩

set_option maxHeartbeats 1000000 in
set_option maxRecDepth 100000 in
theorem canSlide_w (A : Option Addr) (n c : Nat) (w : World) (h : Code w A n c) : Calls Try.prog 5 #[.slice A n c] w (Plain (.bool true) w) := by
  by_cases hl : 1048576 < (n : Int)
  · go_enter Try.func5, Try.ntmps5
    go_wp2
    go_ret
    exact ⟨rfl, Below.refl _ _⟩
  · have HC := hide (drawCanSlide_c A n c w h)
    clear h
    go_enter Try.func5, Try.ntmps5
    go_wp2_with fail
    refine HC.out.mono ?_
    rintro e w1 ⟨x, y, va, vb, a, b, rfl, hx, hy, oa, la, ob, lb, b1⟩
    obtain ⟨Aa, ca, rfl, ha1, ha2, _, _⟩ := own_row oa
    obtain ⟨Ab, cb, rfl, hb1, hb2, _, _⟩ := own_row ob
    have ma : a.length ≤ maxLen := by unfold maxLen; omega
    have mb : b.length ≤ maxLen := by unfold maxLen; omega
    have zb := b1.size
    have RA := hide (own_reads oa)
    have RB := hide (own_reads ob)
    have HIs := hide (fun (w5 : World) (h5 : Below w1.heap.size w1 w5) => implCanSlide_c (x : Int) (y : Int) Aa Ab ca cb a b w5 (RA.out.below h5) (RB.out.below h5) ma mb)
    have HJs := hide (fun (w5 : World) (h5 : Below w1.heap.size w1 w5) => implCanSlide_c (x : Int) (y : Int) Ab Aa cb ca b a w5 (RB.out.below h5) (RA.out.below h5) mb ma)
    have HKs := hide (fun (w5 : World) (h5 : Below w1.heap.size w1 w5) => implCanSlide_c (x : Int) (y : Int) Aa Aa ca ca a a w5 (RA.out.below h5) (RA.out.below h5) ma ma)
    have HSs := hide (fun (w5 : World) (h5 : Below w1.heap.size w1 w5) => specCanSlide_c (x : Int) (y : Int) Aa Ab ca cb a b w5 (RA.out.below h5) (RB.out.below h5) ha1 ha2 hb1 hb2)
    have HVa := hide (fun (w5 : World) (h5 : Below w1.heap.size w1 w5) => implValidSlide_c (x : Int) (y : Int) Aa ca a w5 (RA.out.below h5) ma)
    have HVb := hide (fun (w5 : World) (h5 : Below w1.heap.size w1 w5) => implValidSlide_c (x : Int) (y : Int) Ab cb b w5 (RB.out.below h5) mb)
    rw [can_sym] at HJs
    have HSF := hide (fun (h : SlideIs (x : Int) (y : Int) a) => can_self h)
    clear oa ob HC
    generalize canSlideP (x : Int) (y : Int) a b = X at *
    generalize canSlideP (x : Int) (y : Int) a a = Y at *
    have hXX : (X != X) = false := by simp
    by_cases sa : SlideIs (x : Int) (y : Int) a
    · rw [decide_eq_true sa] at HVa
      obtain rfl : Y = true := HSF.out sa
      by_cases sb : SlideIs (x : Int) (y : Int) b
      · rw [decide_eq_true sb] at HVb
        clear sa sb HSF
        go_wp2_with fail
        refine (HIs.out _ (Below.refl _ _)).mono ?_
        rintro e w2 ⟨rfl, b2⟩
        go_wp2_with fail
        refine (HSs.out _ b2).mono ?_
        rintro e w3 ⟨rfl, b3⟩
        have b3 := below_then b2 b2.size b3
        go_wp2_with fail
        refine (HVa.out _ b3).mono ?_
        rintro e w4 ⟨rfl, b4⟩
        have b4 := below_then b3 b3.size b4
        go_wp2_with fail
        refine (HVb.out _ b4).mono ?_
        rintro e w5 ⟨rfl, b5⟩
        have b5 := below_then b4 b4.size b5
        go_wp2_with fail
        refine (HJs.out _ b5).mono ?_
        rintro e w6 ⟨rfl, b6⟩
        have b6 := below_then b5 b5.size b6
        go_wp2_with fail
        refine (HKs.out _ b6).mono ?_
        rintro e w7 ⟨rfl, b7⟩
        have b7 := below_then b1 zb (below_then b6 b6.size b7)
        go_wp2_with fail
        go_ret
        exact ⟨rfl, b7⟩
      · rw [decide_eq_false sb] at HVb
        clear sa sb HSF HJs HKs
        go_wp2_with fail
        refine (HIs.out _ (Below.refl _ _)).mono ?_
        rintro e w2 ⟨rfl, b2⟩
        go_wp2_with fail
        refine (HSs.out _ b2).mono ?_
        rintro e w3 ⟨rfl, b3⟩
        have b3 := below_then b2 b2.size b3
        go_wp2_with fail
        refine (HVa.out _ b3).mono ?_
        rintro e w4 ⟨rfl, b4⟩
        have b4 := below_then b3 b3.size b4
        go_wp2_with fail
        refine (HVb.out _ b4).mono ?_
        rintro e w5 ⟨rfl, b5⟩
        have b5 := below_then b4 b4.size b5
        go_wp2_with fail
        refine (HSs.out _ b5).mono ?_
        rintro e w6 ⟨rfl, b6⟩
        have b6 := below_then b1 zb (below_then b5 b5.size b6)
        go_wp2_with fail
        go_ret
        exact ⟨by simp, b6⟩
    · rw [decide_eq_false sa] at HVa
      clear sa HSF HJs HKs HVb
      go_wp2_with fail
      refine (HIs.out _ (Below.refl _ _)).mono ?_
      rintro e w2 ⟨rfl, b2⟩
      go_wp2_with fail
      refine (HSs.out _ b2).mono ?_
      rintro e w3 ⟨rfl, b3⟩
      have b3 := below_then b2 b2.size b3
      go_wp2_with fail
      refine (HVa.out _ b3).mono ?_
      rintro e w4 ⟨rfl, b4⟩
      have b4 := below_then b3 b3.size b4
      go_wp2_with fail
      refine (HSs.out _ b4).mono ?_
      rintro e w5 ⟨rfl, b5⟩
      have b5 := below_then b1 zb (below_then b4 b4.size b5)
      go_wp2_with fail
      go_ret
      exact ⟨by simp, b5⟩
end Go.Proofs.Ytnfcklclgcgloab


/-
  The walk of the law FnValidSlide.
-/
import Derived.Test.YtnfcklclgcgloabDrawV
import Derived.Test.YtnfcklclgcgloabPSlideC
import Derived.Test.YtnfcklclgcgloabSlideA
import Derived.Test.YtnfcklclgcgloabCodeWords
namespace Go.Proofs.Ytnfcklclgcgloab
open Go.RowKit
set_option linter.unusedVariables false

theorem slide_row {x y : Nat} {l : List Int} (h : SlideIs (x : Int) (y : Int) l) (h5 : x * y ≤ 5) : SlideIs ((x * y : Nat) : Int) 1 l := by
  obtain ⟨⟨h1, h2, h3, h4⟩, _, hl, ho⟩ := h
  have : 1 ≤ x * y := Nat.mul_le_mul (show 1 ≤ x by omega) (show 1 ≤ y by omega)
  rw [← Int.natCast_mul] at hl
  exact ⟨⟨by omega, by omega, by omega, by omega⟩, by omega, by omega, ho⟩

set_option maxHeartbeats 1000000 in
set_option maxRecDepth 100000 in
theorem validSlide_w (A : Option Addr) (n c : Nat) (w : World) (h : Code w A n c) : Calls Try.prog 3 #[.slice A n c] w (Plain (.bool true) w) := by
  by_cases hl : 1048576 < (n : Int)
  · go_enter Try.func3, Try.ntmps3
    go_wp2
    go_ret
    exact ⟨rfl, Below.refl _ _⟩
  · have HC := hide (drawValidSlide_c A n c w h)
    clear h
    go_enter Try.func3, Try.ntmps3
    go_wp2_with fail
    refine HC.out.mono ?_
    rintro e w1 ⟨x, y, v, l, rfl, hx, hy, hown, hl8, b1⟩
    obtain ⟨Ah, ch, rfl, hc1, hc2, _, _⟩ := own_row hown
    have hm : l.length ≤ maxLen := by unfold maxLen; omega
    have zb := b1.size
    have HR := hide (own_reads hown)
    have HIs := hide (fun (w5 : World) (h5 : Below w1.heap.size w1 w5) => implValidSlide_c (x : Int) (y : Int) Ah ch l w5 (HR.out.below h5) hm)
    have HSs := hide (fun (w5 : World) (h5 : Below w1.heap.size w1 w5) => specValidSlide_c (x : Int) (y : Int) Ah ch l w5 (HR.out.below h5) hc1 hc2)
    clear hown HC
    by_cases hs : SlideIs (x : Int) (y : Int) l
    · rw [decide_eq_true hs] at HIs HSs
      have hn15 : x * y ≤ 15 := Nat.mul_le_mul hx hy
      have emul : IntKind.i64.wrap ((x : Int) * (y : Int)) = ((x * y : Nat) : Int) := by rw [Int.natCast_mul]; exact IntWalk.i64_in _ (by rw [← Int.natCast_mul]; omega)
      have HJs := hide (fun (h5 : x * y ≤ 5) (w5 : World) (g5 : Below w1.heap.size w1 w5) => show Calls Try.prog 7 #[.int .i64 ((x * y : Nat) : Int), .int .i64 1, .slice Ah l.length ch] w5 (Plain (.bool true) w5) by
        have := implValidSlide_c ((x * y : Nat) : Int) 1 Ah ch l w5 (HR.out.below g5) hm
        rw [decide_eq_true (slide_row hs h5)] at this
        exact this)
      clear hs
      generalize x * y = p at *
      rcases Int.lt_or_le 5 (p : Int) with h5 | h5
      · clear HJs
        go_wp2_with fail
        refine (HIs.out _ (Below.refl _ _)).mono ?_
        rintro e w2 ⟨rfl, b2⟩
        go_wp2_with fail
        refine (HSs.out _ b2).mono ?_
        rintro e w3 ⟨rfl, b3⟩
        have b3 := below_then b1 zb (below_then b2 b2.size b3)
        go_wp2_with fail
        go_ret
        exact ⟨rfl, b3⟩
      · have HJs := hide (HJs.out (by omega))
        go_wp2_with fail
        refine (HIs.out _ (Below.refl _ _)).mono ?_
        rintro e w2 ⟨rfl, b2⟩
        go_wp2_with fail
        refine (HSs.out _ b2).mono ?_
        rintro e w3 ⟨rfl, b3⟩
        have b3 := below_then b2 b2.size b3
        go_wp2_with fail
        refine (HJs.out _ b3).mono ?_
        rintro e w4 ⟨rfl, b4⟩
        have b4 := below_then b1 zb (below_then b3 b3.size b4)
        go_wp2_with fail
        go_ret
        exact ⟨rfl, b4⟩
    · rw [decide_eq_false hs] at HIs HSs
      clear hs
      go_wp2_with fail
      refine (HIs.out _ (Below.refl _ _)).mono ?_
      rintro e w2 ⟨rfl, b2⟩
      go_wp2_with fail
      refine (HSs.out _ b2).mono ?_
      rintro e w3 ⟨rfl, b3⟩
      have b3 := below_then b2 b2.size b3
      go_wp2_with fail
      refine (HSs.out _ b3).mono ?_
      rintro e w4 ⟨rfl, b4⟩
      have b4 := below_then b1 zb (below_then b3 b3.size b4)
      go_wp2_with fail
      go_ret
      exact ⟨rfl, b4⟩
end Go.Proofs.Ytnfcklclgcgloab

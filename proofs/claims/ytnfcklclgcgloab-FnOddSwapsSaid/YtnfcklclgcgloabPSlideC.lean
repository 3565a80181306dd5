
/-
  The program's slides: ValidSlide, SlideOn.
-/
import Derived.Test.YtnfcklclgcgloabPSlideB
import Derived.Test.YtnfcklclgcgloabMoveE
namespace Go.Proofs.Ytnfcklclgcgloab
open Go.RowKit
set_option linter.unusedVariables false

theorem slideOf_no (bc br : Int) (A : Option Addr) (c : Nat) (l : List Int) (W : World) (hr : Row W A (ints l)) (hm : l.length ≤ maxLen) (hn : ¬ SlideIs bc br l) :
    Calls Try.prog 18 #[.int .i64 bc, .int .i64 br, .slice A l.length c] W (Plain (sofV 0 0 [] false) W) := by
  by_cases hB : Brd bc br
  · by_cases h6 : bc * br ≤ 6
    · by_cases hl : (l.length : Int) = bc * br
      · exact slideOf_no4 bc br A c l W hr hm hB h6 hl (fun h => hn ⟨hB, h6, hl, h⟩)
      · exact slideOf_no3 bc br A c l W hr hm hB h6 hl
    · exact slideOf_no2 bc br A c l W hr hm hB h6
  · exact slideOf_no1 bc br A c l.length W hB
theorem slideOf_is (bc br : Int) (A : Option Addr) (c : Nat) (l : List Int) (W : World) (hr : Row W A (ints l)) (hm : l.length ≤ maxLen) (hs : SlideIs bc br l) :
    Calls Try.prog 18 #[.int .i64 bc, .int .i64 br, .slice A l.length c] W (Plain (sofV bc br l true) W) := slideOf_yes bc br A c l W hr hm hs.1 hs.2.1 hs.2.2.1 hs.2.2.2
/-- The same, the numbers written out. -/
theorem slideOf_isE (bc br : Int) (A : Option Addr) (c : Nat) (l : List Int) (W : World) (hr : Row W A (ints l)) (hm : l.length ≤ maxLen) (hs : SlideIs bc br l) :
    Calls Try.prog 18 #[.int .i64 bc, .int .i64 br, .slice A l.length c] W (Plain (.tuple #[boardV bc br, .agg #[.int .i64 (atF l 0), .int .i64 (atF l 1), .int .i64 (atF l 2), .int .i64 (atF l 3), .int .i64 (atF l 4), .int .i64 (atF l 5)], .bool true]) W) := slideOf_is bc br A c l W hr hm hs
theorem slideOf_noE (bc br : Int) (A : Option Addr) (c : Nat) (l : List Int) (W : World) (hr : Row W A (ints l)) (hm : l.length ≤ maxLen) (hn : ¬ SlideIs bc br l) :
    Calls Try.prog 18 #[.int .i64 bc, .int .i64 br, .slice A l.length c] W (Plain (.tuple #[boardV 0 0, .agg #[.int .i64 0, .int .i64 0, .int .i64 0, .int .i64 0, .int .i64 0, .int .i64 0], .bool false]) W) := slideOf_no bc br A c l W hr hm hn
set_option maxHeartbeats 1000000 in
theorem implValidSlide_c (bc br : Int) (A : Option Addr) (c : Nat) (l : List Int) (W : World) (hr : Row W A (ints l)) (hm : l.length ≤ maxLen) :
    Calls Try.prog 7 #[.int .i64 bc, .int .i64 br, .slice A l.length c] W (Plain (.bool (decide (SlideIs bc br l))) W) := by
  by_cases hs : SlideIs bc br l
  · have HS := hide (slideOf_isE bc br A c l W hr hm hs)
    rw [decide_eq_true hs]
    clear hs hr hm
    go_enter Try.func7, Try.ntmps7
    go_wp2_with fail
    refine HS.out.mono ?_
    rintro e w1 ⟨rfl, d1⟩
    go_wp2_with fail
    go_ret
    exact ⟨rfl, (d1.alloc d1.size _).alloc (by have := d1.size; simp; omega) _⟩
  · have HS := hide (slideOf_noE bc br A c l W hr hm hs)
    rw [decide_eq_false hs]
    clear hs hr hm
    go_enter Try.func7, Try.ntmps7
    go_wp2_with fail
    refine HS.out.mono ?_
    rintro e w1 ⟨rfl, d1⟩
    go_wp2_with fail
    go_ret
    exact ⟨rfl, (d1.alloc d1.size _).alloc (by have := d1.size; simp; omega) _⟩

theorem six_list {M : List Int} (h : M.length ≤ 6) : ((List.range 6).map (atF M)).take M.length = M := by
  apply List.ext_getElem
  · simp; omega
  · intro i h1 h2
    rw [List.getElem_take, List.getElem_map, List.getElem_range]
    unfold atF
    rw [List.getElem?_eq_getElem h2, Option.getD_some]
end Go.Proofs.Ytnfcklclgcgloab

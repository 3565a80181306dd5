
/-
  The program's slides: ValidSlide, SlideOn.
-/
import Derived.Test.YtnfcklclgcgloaaPSlideB
import Derived.Test.YtnfcklclgcgloaaMoveE
namespace Go.Proofs.Ytnfcklclgcgloaa
open Go.RowKit
set_option linter.unusedVariables false

theorem slideOf_no (bc br : Int) (A : Option Addr) (c : Nat) (l : List Int) (W : World) (hr : Row W A (ints l)) (hm : l.length ≤ maxLen) (hn : ¬ SlideIs bc br l) :
    Calls Try.prog 20 #[.int .i64 bc, .int .i64 br, .slice A l.length c] W (Plain (sofV 0 0 [] false) W) := by
  by_cases hB : Brd bc br
  · by_cases h6 : bc * br ≤ 6
    · by_cases hl : (l.length : Int) = bc * br
      · exact slideOf_no4 bc br A c l W hr hm hB h6 hl (fun h => hn ⟨hB, h6, hl, h⟩)
      · exact slideOf_no3 bc br A c l W hr hm hB h6 hl
    · exact slideOf_no2 bc br A c l W hr hm hB h6
  · exact slideOf_no1 bc br A c l.length W hB
theorem slideOf_is (bc br : Int) (A : Option Addr) (c : Nat) (l : List Int) (W : World) (hr : Row W A (ints l)) (hm : l.length ≤ maxLen) (hs : SlideIs bc br l) :
    Calls Try.prog 20 #[.int .i64 bc, .int .i64 br, .slice A l.length c] W (Plain (sofV bc br l true) W) := slideOf_yes bc br A c l W hr hm hs.1 hs.2.1 hs.2.2.1 hs.2.2.2
/-- The same, the numbers written out. -/
theorem slideOf_isE (bc br : Int) (A : Option Addr) (c : Nat) (l : List Int) (W : World) (hr : Row W A (ints l)) (hm : l.length ≤ maxLen) (hs : SlideIs bc br l) :
    Calls Try.prog 20 #[.int .i64 bc, .int .i64 br, .slice A l.length c] W (Plain (.tuple #[boardV bc br, .agg #[.int .i64 (atF l 0), .int .i64 (atF l 1), .int .i64 (atF l 2), .int .i64 (atF l 3), .int .i64 (atF l 4), .int .i64 (atF l 5)], .bool true]) W) := slideOf_is bc br A c l W hr hm hs
theorem slideOf_noE (bc br : Int) (A : Option Addr) (c : Nat) (l : List Int) (W : World) (hr : Row W A (ints l)) (hm : l.length ≤ maxLen) (hn : ¬ SlideIs bc br l) :
    Calls Try.prog 20 #[.int .i64 bc, .int .i64 br, .slice A l.length c] W (Plain (.tuple #[boardV 0 0, .agg #[.int .i64 0, .int .i64 0, .int .i64 0, .int .i64 0, .int .i64 0, .int .i64 0], .bool false]) W) := slideOf_no bc br A c l W hr hm hn
set_option maxHeartbeats 1000000 in
theorem implValidSlide_c (bc br : Int) (A : Option Addr) (c : Nat) (l : List Int) (W : World) (hr : Row W A (ints l)) (hm : l.length ≤ maxLen) :
    Calls Try.prog 9 #[.int .i64 bc, .int .i64 br, .slice A l.length c] W (Plain (.bool (decide (SlideIs bc br l))) W) := by
  by_cases hs : SlideIs bc br l
  · have HS := hide (slideOf_isE bc br A c l W hr hm hs)
    rw [decide_eq_true hs]
    clear hs hr hm
    go_enter Try.func9, Try.ntmps9
    go_wp2_with fail
    refine HS.out.mono ?_
    rintro e w1 ⟨rfl, d1⟩
    go_wp2_with fail
    go_ret
    exact ⟨rfl, (d1.alloc d1.size _).alloc (by have := d1.size; simp; omega) _⟩
  · have HS := hide (slideOf_noE bc br A c l W hr hm hs)
    rw [decide_eq_false hs]
    clear hs hr hm
    go_enter Try.func9, Try.ntmps9
    go_wp2_with fail
    refine HS.out.mono ?_
    rintro e w1 ⟨rfl, d1⟩
    go_wp2_with fail
    go_ret
    exact ⟨rfl, (d1.alloc d1.size _).alloc (by have := d1.size; simp; omega) _⟩

theorem six_list {M : List Int} (h : M.length ≤ 6) : ((List.range 6).map (atF M)).take M.length = M := by
  apply List.ext_getElem
  · simp; omega
  · intro i h1 h2
    rw [List.getElem_take, List.getElem_map, List.getElem_range]
    unfold atF
    rw [List.getElem?_eq_getElem h2, Option.getD_some]
theorem cloneSix_c (g n : Nat) (M : List Int) (hM : M.length = n) (h6 : n ≤ 6) (w : World) (hb : Box w g 35 (sixF (atF M))) :
    Calls Try.prog 28 #[.slice (some ⟨g, 0, none⟩) n 6] w (Owns 3 1 n (ints M) w) := by
  subst hM
  have := Try.slices_Clone_int g 0 M.length 6 ((List.range 6).map (atF M)) w (by simp; omega) (by omega) (fun j hj => by
    have hj6 : j < 6 := by simpa using hj
    rw [Nat.zero_add, hb.cell j, sixF_at (atF M) hj6, zs_at (atF M) hj6])
  rw [six_list h6] at this
  exact this.mono fun e w' ⟨v, h1, h2, _, h3⟩ => ⟨v, h1, h2, h3⟩
set_option maxHeartbeats 2000000 in
set_option maxRecDepth 100000 in
theorem implSlideOn_c (bc br : Int) (A : Option Addr) (ca : Nat) (l : List Int) (cell : Int) (w : World) (hr : Row w A (ints l)) (hm : l.length ≤ maxLen) :
    Calls Try.prog 12 #[.int .i64 bc, .int .i64 br, .slice A l.length ca, .int .i64 cell] w (SlidIs (slideOnP bc br l cell) w) := by
  by_cases hs : SlideIs bc br l
  · have HS := hide (slideOf_isE bc br A ca l w hr hm hs)
    obtain ⟨⟨b1, b2, b3, b4⟩, h6, hlen, honce⟩ := id hs
    have ho := hs.ord
    obtain ⟨m1, m2⟩ := mul_bd b1 b2 b3 b4
    by_cases hc : 0 ≤ cell ∧ cell < bc * br
    · obtain ⟨x, rfl⟩ := Int.eq_ofNat_of_zero_le (show 0 ≤ bc by omega)
      obtain ⟨y, rfl⟩ := Int.eq_ofNat_of_zero_le (show 0 ≤ br by omega)
      obtain ⟨k, rfl⟩ := Int.eq_ofNat_of_zero_le hc.1
      have hk : k < l.length := by omega
      have HH := hide (fun w5 => has_yes (x : Int) (y : Int) (k : Int) w5 b1 b2 b3 b4 hc.1 hc.2)
      by_cases hn : apN x k (gapP l) = 1
      · have HE := hide (show slideOnP (x : Int) (y : Int) l (k : Int) = some (swapP l (gapP l) k) by
          unfold slideOnP
          rw [if_pos ⟨hs, hc, hn⟩]
          rfl)
        have HD := hide (fun w5 => show Calls Try.prog 27 #[boardV (x : Int) (y : Int), .agg #[.int .i64 (atF l 0), .int .i64 (atF l 1), .int .i64 (atF l 2), .int .i64 (atF l 3), .int .i64 (atF l 4), .int .i64 (atF l 5)], .int .i64 (k : Int)] w5 (Plain (.tuple #[.agg #[.int .i64 (atF (swapP l (gapP l) k) 0), .int .i64 (atF (swapP l (gapP l) k) 1), .int .i64 (atF (swapP l (gapP l) k) 2), .int .i64 (atF (swapP l (gapP l) k) 3), .int .i64 (atF (swapP l (gapP l) k) 4), .int .i64 (atF (swapP l (gapP l) k) 5)], .bool true]) w5) from slid_yes x y l k w5 hs hk hn)
        have hsl := swapP_len l (gapP l) k
        have HZ := hide (fun w5 => by
          have := size_c (x : Int) (y : Int) w5 b1 b2 b3 b4
          rwa [← hlen] at this)
        rw [HE.out]
        have hl6 : l.length ≤ 6 := ho.1
        have HC := hide (fun g w5 h5 => cloneSix_c g l.length (swapP l (gapP l) k) hsl hl6 w5 h5)
        clear hn HE hr hs honce ho hlen m1 m2 h6 hm
        generalize swapP l (gapP l) k = M at *
        go_enter Try.func12, Try.ntmps12
        go_wp2_with fail
        refine HS.out.mono ?_
        rintro e w1 ⟨rfl, d1⟩
        have bb := (Box.new w1 33 #[.int .i64 (x : Int), .int .i64 (y : Int)]).alloc (.cells #[.int .i64 (atF l 0), .int .i64 (atF l 1), .int .i64 (atF l 2), .int .i64 (atF l 3), .int .i64 (atF l 4), .int .i64 (atF l 5)] 35)
        have bs := Box.new (w1.alloc (.cells #[.int .i64 (x : Int), .int .i64 (y : Int)] 33)) 35 #[.int .i64 (atF l 0), .int .i64 (atF l 1), .int .i64 (atF l 2), .int .i64 (atF l 3), .int .i64 (atF l 4), .int .i64 (atF l 5)]
        simp only [World.size_alloc] at bs
        have z1 := d1.size
        have d1 := (d1.alloc z1 (.cells #[.int .i64 (x : Int), .int .i64 (y : Int)] 33)).alloc (by simp; omega) (.cells #[.int .i64 (atF l 0), .int .i64 (atF l 1), .int .i64 (atF l 2), .int .i64 (atF l 3), .int .i64 (atF l 4), .int .i64 (atF l 5)] 35)
        go_wp2_with fail
        refine (HH.out _).mono ?_
        rintro e w2 ⟨rfl, d2⟩
        have bb := bb.then d2
        have bs := bs.then d2
        have d2 := below_then d1 d1.size d2
        have k0 := bb.cell 0
        have k1 := bb.cell 1
        obtain ⟨s1, s2, s3, s4, s5, s6⟩ := box6 (f := atF l) bs
        go_wp2_with fail
        refine (HD.out _).mono ?_
        rintro e w3 ⟨rfl, d3⟩
        have bb := (bb.then d3).alloc (.cells #[.int .i64 (atF M 0), .int .i64 (atF M 1), .int .i64 (atF M 2), .int .i64 (atF M 3), .int .i64 (atF M 4), .int .i64 (atF M 5)] 35)
        have bm := Box.new w3 35 #[.int .i64 (atF M 0), .int .i64 (atF M 1), .int .i64 (atF M 2), .int .i64 (atF M 3), .int .i64 (atF M 4), .int .i64 (atF M 5)]
        have d3 := below_then d2 d2.size d3
        have z3 := d3.size
        have d3 := d3.alloc z3 (.cells #[.int .i64 (atF M 0), .int .i64 (atF M 1), .int .i64 (atF M 2), .int .i64 (atF M 3), .int .i64 (atF M 4), .int .i64 (atF M 5)] 35)
        clear k0 k1 s1 s2 s3 s4 s5 s6
        have k0 := bb.cell 0
        have k1 := bb.cell 1
        go_wp2_with fail
        refine (HZ.out _).mono ?_
        rintro e w4 ⟨rfl, d4⟩
        have bm := bm.then d4
        have d4 := below_then d3 d3.size d4
        have n0 : (0 : Int) ≤ (l.length : Int) := by omega
        have n6 : (l.length : Int) ≤ 6 := by omega
        clear k0 k1
        go_wp2_with fail
        refine (HC.out _ _ bm).mono ?_
        rintro e w5 ⟨v5, rfl, o5, d5⟩
        have o5 := own_mono o5 d4.size
        have d5 := below_then d4 d4.size d5
        rw [← hsl] at o5
        go_wp2_with fail
        go_ret2
        exact ⟨v5, rfl, o5, d5⟩
      · have HE := hide (show slideOnP (x : Int) (y : Int) l (k : Int) = none by unfold slideOnP; rw [if_neg (fun h => hn h.2.2)])
        have HD := hide (fun w5 => show Calls Try.prog 27 #[boardV (x : Int) (y : Int), .agg #[.int .i64 (atF l 0), .int .i64 (atF l 1), .int .i64 (atF l 2), .int .i64 (atF l 3), .int .i64 (atF l 4), .int .i64 (atF l 5)], .int .i64 (k : Int)] w5 (Plain (.tuple #[.agg #[.int .i64 0, .int .i64 0, .int .i64 0, .int .i64 0, .int .i64 0, .int .i64 0], .bool false]) w5) from slid_no x y l k w5 hs hk hn)
        rw [HE.out]
        clear hn HE hr hs honce ho hlen m1 m2 h6 hm
        go_enter Try.func12, Try.ntmps12
        go_wp2_with fail
        refine HS.out.mono ?_
        rintro e w1 ⟨rfl, d1⟩
        have bb := (Box.new w1 33 #[.int .i64 (x : Int), .int .i64 (y : Int)]).alloc (.cells #[.int .i64 (atF l 0), .int .i64 (atF l 1), .int .i64 (atF l 2), .int .i64 (atF l 3), .int .i64 (atF l 4), .int .i64 (atF l 5)] 35)
        have bs := Box.new (w1.alloc (.cells #[.int .i64 (x : Int), .int .i64 (y : Int)] 33)) 35 #[.int .i64 (atF l 0), .int .i64 (atF l 1), .int .i64 (atF l 2), .int .i64 (atF l 3), .int .i64 (atF l 4), .int .i64 (atF l 5)]
        simp only [World.size_alloc] at bs
        have z1 := d1.size
        have d1 := (d1.alloc z1 (.cells #[.int .i64 (x : Int), .int .i64 (y : Int)] 33)).alloc (by simp; omega) (.cells #[.int .i64 (atF l 0), .int .i64 (atF l 1), .int .i64 (atF l 2), .int .i64 (atF l 3), .int .i64 (atF l 4), .int .i64 (atF l 5)] 35)
        go_wp2_with fail
        refine (HH.out _).mono ?_
        rintro e w2 ⟨rfl, d2⟩
        have bb := bb.then d2
        have bs := bs.then d2
        have d2 := below_then d1 d1.size d2
        have k0 := bb.cell 0
        have k1 := bb.cell 1
        obtain ⟨s1, s2, s3, s4, s5, s6⟩ := box6 (f := atF l) bs
        go_wp2_with fail
        refine (HD.out _).mono ?_
        rintro e w3 ⟨rfl, d3⟩
        have d3 := below_then d2 d2.size d3
        have z3 := d3.size
        have d3 := d3.alloc z3 (.cells #[.int .i64 0, .int .i64 0, .int .i64 0, .int .i64 0, .int .i64 0, .int .i64 0] 35)
        go_wp2_with fail
        go_ret2
        exact slid_none d3
    · have HE := hide (show slideOnP bc br l cell = none by unfold slideOnP; rw [if_neg (fun h => hc h.2.1)])
      have HH := hide (fun w5 => has_no bc br cell w5 b1 b2 b3 b4 hc)
      rw [HE.out]
      clear HE hr hs honce ho hlen m1 m2 h6 hm hc
      go_enter Try.func12, Try.ntmps12
      go_wp2_with fail
      refine HS.out.mono ?_
      rintro e w1 ⟨rfl, d1⟩
      have z1 := d1.size
      have d1 := (d1.alloc z1 (.cells #[.int .i64 bc, .int .i64 br] 33)).alloc (by simp; omega) (.cells #[.int .i64 (atF l 0), .int .i64 (atF l 1), .int .i64 (atF l 2), .int .i64 (atF l 3), .int .i64 (atF l 4), .int .i64 (atF l 5)] 35)
      go_wp2_with fail
      refine (HH.out _).mono ?_
      rintro e w2 ⟨rfl, d2⟩
      have d2 := below_then d1 d1.size d2
      go_wp2_with fail
      go_ret2
      exact slid_none d2
  · have HE := hide (show slideOnP bc br l cell = none by unfold slideOnP; rw [if_neg (fun h => hs h.1)])
    have HS := hide (slideOf_noE bc br A ca l w hr hm hs)
    rw [HE.out]
    clear HE hs hr hm
    go_enter Try.func12, Try.ntmps12
    go_wp2_with fail
    refine HS.out.mono ?_
    rintro e w1 ⟨rfl, d1⟩
    have z1 := d1.size
    have d1 := (d1.alloc z1 (.cells #[.int .i64 0, .int .i64 0] 33)).alloc (by simp; omega) (.cells #[.int .i64 0, .int .i64 0, .int .i64 0, .int .i64 0, .int .i64 0, .int .i64 0] 35)
    go_wp2_with fail
    go_ret2
    exact slid_none d1
end Go.Proofs.Ytnfcklclgcgloaa

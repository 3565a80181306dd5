
/-
  Drawn slides.
-/
import Derived.Test.YtnfcklclgcgloabDrawC
import Derived.Test.YtnfcklclgcgloabSpecC
import Derived.Test.YtnfcklclgcgloabOwnWords
import Derived.Test.YtnfcklclgcgloabSlideB
import Derived.Deep.RegionHeld3
namespace Go.Proofs.Ytnfcklclgcgloab
open Go.RowKit
set_option linter.unusedVariables false

theorem below_by {w w' : World} (h : Below w.heap.size w w') (r : Option Nat) : w.grownBy w' r := ⟨h.os, h.tape, h.output, h.size, fun k hk _ => h.block k hk⟩
def SlideBoard (R B N : Nat) (w : World) (e : Ending) (w' : World) : Prop := ∃ x y : Nat, e = .returned (.tuple #[.int .i64 (x : Int), .int .i64 (y : Int)]) ∧ x ≤ 5 ∧ y ≤ 3 ∧ Reader w' R B N ∧ w.grownBy w' (some R)
set_option maxHeartbeats 1000000 in
theorem slideBoard_c (R B N : Nat) (w : World) (h : Reader w R B N) (hN : N ≤ 900000) : Calls Try.prog 16 #[.pointer (some ⟨R, 0, none⟩)] w (SlideBoard R B (N + 3) w) := by
  go_enter Try.func16, Try.ntmps16
  go_wp2_with fail
  refine (pick_c 8 R B N w h (by omega) (by omega) (by omega)).mono ?_
  rintro e w1 ⟨z, rfl, _, _, rd1, hg1⟩
  have fin : ∀ (x y : Nat) (w' : World) (N' : Nat), x ≤ 5 → y ≤ 3 → Reader w' R B N' → N' ≤ N + 3 → w.grownBy w' (some R) → SlideBoard R B (N + 3) w (.returned (.tuple #[.int .i64 (x : Int), .int .i64 (y : Int)])) w' := fun x y w' N' h1 h2 h3 h4 h5 => ⟨x, y, rfl, h1, h2, h3.mono h4, h5⟩
  cases h0 : (z == 0) with
  | true =>
    go_wp2_with fail
    go_ret2
    exact fin 2 2 _ _ (by omega) (by omega) rd1 (by omega) hg1
  | false =>
    cases h1 : (z == 1) with
    | true =>
      go_wp2_with fail
      go_ret2
      exact fin 2 3 _ _ (by omega) (by omega) rd1 (by omega) hg1
    | false =>
      cases h2 : (z == 2) with
      | true =>
        go_wp2_with fail
        refine (one_new [3, 4, 5] R B _ w1 rd1 (by omega) (by decide) (by decide)).mono ?_
        rintro e w2 ⟨x, rfl, hm, rd2, hg2⟩
        have hx : 0 ≤ x ∧ x ≤ 5 := by simp only [List.mem_cons, List.not_mem_nil, or_false] at hm; omega
        obtain ⟨x, rfl⟩ := Int.eq_ofNat_of_zero_le hx.1
        clear hm
        go_wp2_with fail
        go_ret2
        exact fin x 1 _ _ (by omega) (by omega) rd2 (by omega) (hg1.trans hg2)
      | false =>
        cases h3 : (z == 3) with
        | true =>
          go_wp2_with fail
          refine (one_new [2, 3, 1] R B _ w1 rd1 (by omega) (by decide) (by decide)).mono ?_
          rintro e w2 ⟨x, rfl, hm, rd2, hg2⟩
          have hx : 0 ≤ x ∧ x ≤ 3 := by simp only [List.mem_cons, List.not_mem_nil, or_false] at hm; omega
          obtain ⟨x, rfl⟩ := Int.eq_ofNat_of_zero_le hx.1
          clear hm
          go_wp2_with fail
          go_ret2
          exact fin 1 x _ _ (by omega) (by omega) rd2 (by omega) (hg1.trans hg2)
        | false =>
          cases h4 : (z == 4) with
          | true =>
            go_wp2_with fail
            refine (one_new [3, 0, 4] R B _ w1 rd1 (by omega) (by decide) (by decide)).mono ?_
            rintro e w2 ⟨x, rfl, hm, rd2, hg2⟩
            have hx : 0 ≤ x ∧ x ≤ 5 := by simp only [List.mem_cons, List.not_mem_nil, or_false] at hm; omega
            obtain ⟨x, rfl⟩ := Int.eq_ofNat_of_zero_le hx.1
            clear hm
            go_wp2_with fail
            refine (one_new [2, 3] R B _ w2 rd2 (by omega) (by decide) (by decide)).mono ?_
            rintro e w3 ⟨y, rfl, hm, rd3, hg3⟩
            have hy : 0 ≤ y ∧ y ≤ 3 := by simp only [List.mem_cons, List.not_mem_nil, or_false] at hm; omega
            obtain ⟨y, rfl⟩ := Int.eq_ofNat_of_zero_le hy.1
            clear hm
            go_wp2_with fail
            go_ret2
            exact fin x y _ _ (by omega) (by omega) rd3 (by omega) ((hg1.trans hg2).trans hg3)
          | false =>
            go_wp2_with fail
            go_ret2
            exact fin 3 2 _ _ (by omega) (by omega) rd1 (by omega) hg1

def SomeSlide (m R B N : Nat) (w : World) (e : Ending) (w' : World) : Prop := ∃ (v : Value) (xs : List Int), e = .returned v ∧ w'.ownsRow w.heap.size 3 1 v xs.length (ints xs) ∧ xs.length = m ∧ Reader w' R B N ∧ w.grownBy w' (some R)
set_option maxHeartbeats 2000000 in
set_option maxRecDepth 100000 in
theorem someSlide_c (m : Nat) (hml : m ≤ 8) (R B N : Nat) (w : World) (h : Reader w R B N) (hN : N ≤ 900000) : Calls Try.prog 17 #[.pointer (some ⟨R, 0, none⟩), .int .i64 (m : Int)] w (SomeSlide m R B (N + 10) w) := by
  have hRl := h.lt
  go_enter Try.func17, Try.ntmps17
  go_wp2_with fail
  go_loopw [5, 6] (fun v i wr => ∃ xs : List Int, xs.length ≤ m ∧ i = .int .i64 (xs.length : Int) ∧ wr.ownsRow w.heap.size 3 1 v xs.length (ints xs) ∧ Reader wr R B (N + xs.length) ∧ w.grownBy wr (some R) ∧ Hid (∃ ao c, v = .slice (some ao) xs.length c)) (fun _ i _ => m - (intOf i).toNat)
  case atStart => exact ⟨[], Nat.zero_le _, rfl, World.ownsRow_made w #[] 0 (Nat.le_refl _) (by simp [maxLen]) rfl, h.grown_alloc _, World.grownBy_alloc _ _ _, ⟨_, _, rfl⟩⟩
  case round =>
    obtain ⟨xs, hxm, rfl, hown, rdo, hg, hform⟩ := hrel
    obtain ⟨wo, rfl⟩ : ∃ wo : World, wo = wr := ⟨_, rfl⟩
    obtain ⟨Av, c0, rfl, hc1, hc2, hro, _⟩ := own_row hown
    obtain ⟨ao, rfl⟩ : ∃ ao, Av = some ao := by
      obtain ⟨ao, c', e⟩ := hform.out
      injection e with e
      exact ⟨_, e⟩
    clear hform hro
    unfold maxLen at hc2
    have zo := hg.size
    by_cases hlt : xs.length < m
    · go_wp2_with fail
      refine (pick_c ((xs.length : Int) + 1) R _ _ _ rdo (by omega) (by omega) (by omega)).mono ?_
      rintro e wq ⟨j, rfl, hj, _, rdq, hgq⟩
      obtain ⟨j0, j1⟩ := hj (by omega)
      obtain ⟨q, rfl⟩ := Int.eq_ofNat_of_zero_le j0
      have hq : q ≤ xs.length := by omega
      have ownq := own_aside hown hRl hgq
      have hgq := hg.trans hgq
      have rq := own_reads ownq
      have zq := hgq.size
      have rt := rq.upto q
      have rd' := rq.cut (j := q) (c := c0) hq hc1
      have mk0 := World.ownsRow_made (base := wq.heap.size) (e := 3) (size := 1) wq #[] 0 (Nat.le_refl _) (by simp [maxLen]) rfl
      have mkc := World.ownsRow_made (base := wq.heap.size) (e := 3) (size := 1) (wq.alloc (.cells #[.int .i64 (xs.length : Int)] 3)) #[] 0 (by simp) (by simp [maxLen]) rfl
      rw [World.size_alloc] at mkc
      have hba : Below wq.heap.size wq (wq.alloc (.cells #[] 3)) := (Below.refl _ _).alloc (Nat.le_refl _) _
      have hbb : Below wq.heap.size wq ((wq.alloc (.cells #[] 3)).alloc (.cells #[.int .i64 (xs.length : Int)] 3)) := hba.alloc (by simp) _
      have hbc : Below wq.heap.size wq ((wq.alloc (.cells #[.int .i64 (xs.length : Int)] 3)).alloc (.cells #[] 3)) := ((Below.refl _ _).alloc (Nat.le_refl _) _).alloc (by simp) _
      have rxb : Row ((wq.alloc (.cells #[] 3)).alloc (.cells #[.int .i64 (xs.length : Int)] 3)) (some ⟨wq.heap.size + 1, 0, none⟩) [.int .i64 (xs.length : Int)] := row_new _ _ _ (by simp)
      have rxc : Row ((wq.alloc (.cells #[.int .i64 (xs.length : Int)] 3)).alloc (.cells #[] 3)) (some ⟨wq.heap.size, 0, none⟩) [.int .i64 (xs.length : Int)] := (row_new wq #[.int .i64 (xs.length : Int)] 3 rfl).alloc _
      have b1 : (0 : Int) ≤ (q : Int) := by omega
      have b2 : (q : Int) ≤ (xs.length : Int) := by omega
      have b3 : (xs.length : Int) ≤ (c0 : Int) := by omega
      have b4 : (q : Int) ≤ (c0 : Int) := by omega
      have RDQ := hide rdq
      have HGQ := hide hgq
      clear hown rdo hg rdq ownq
      go_wp2_with fail
      go_region_held3 (fun w' => True) (trivial)
        (first
          | (refine step_put (by rfl) (.tmp 19) (.tmp 22) (by rfl) Try.underlying23 elem_int' (v := .slice (some ⟨wq.heap.size, 0, none⟩) 0 0) (A := some ao) (m := q) (c := c0) (xs := []) (news := ints (xs.take q)) (B := wq.heap.size) (by rfl) (mk0.drew) (by rfl) (by simp; omega) (rt.below hba.drew) (one_ints _) (by omega) (by omega) (by simp) ?_
             intro v2 w2 hown2 hg2 ho2
             have hb2' := below_grown hba.drew (by simp) mk0.drew (Nat.le_refl _) hg2)
          | (refine step_put (by rfl) (.tmp 19) (.tmp 22) (by rfl) Try.underlying23 elem_int' (v := .slice (some ⟨wq.heap.size, 0, none⟩) 0 0) (A := some ao) (m := q) (c := c0) (xs := []) (news := ints (xs.take q)) (B := wq.heap.size) (by rfl) ((mk0.alloc (.cells #[.int .i64 (xs.length : Int)] 3)).drew) (by rfl) (by simp; omega) (rt.below hbb.drew) (one_ints _) (by omega) (by omega) (by simp; omega) ?_
             intro v2 w2 hown2 hg2 ho2
             have hb2' := below_grown hbb.drew (by simp; omega) (mk0.alloc (.cells #[.int .i64 (xs.length : Int)] 3)).drew (Nat.le_refl _) hg2
             have rx2 := rxb.drew.grown hg2 (by rintro _ ⟨rfl⟩; simp [Value.ownBlock]))
          | (refine step_put (by rfl) (.tmp 19) (.tmp 22) (by rfl) Try.underlying23 elem_int' (v := .slice (some ⟨wq.heap.size + 1, 0, none⟩) 0 0) (A := some ao) (m := q) (c := c0) (xs := []) (news := ints (xs.take q)) (B := wq.heap.size) (by rfl) (mkc.drew) (by rfl) (by simp; omega) (rt.below hbc.drew) (one_ints _) (by omega) (by omega) (by simp; omega) ?_
             intro v2 w2 hown2 hg2 ho2
             have hb2' := below_grown hbc.drew (by simp; omega) mkc.drew (Nat.le_refl _) hg2
             have rx2 := rxc.drew.grown hg2 (by rintro _ ⟨rfl⟩; simp [Value.ownBlock]))
          | (refine step_put (by rfl) (.tmp 23) (.tmp 25) (by rfl) Try.underlying23 elem_int' (v := v2) (A := some ⟨w2.heap.size, 0, none⟩) (m := 1) (c := 1) (news := [.int .i64 (xs.length : Int)]) (B := wq.heap.size) (by rfl) (hown2.alloc _) (by rfl) (by rfl) (row_new w2 _ _ rfl) (by simp [Value.oneCell']) (by omega) (by omega) (by have := hb2'.size; simp; omega) ?_
             intro v3 w3 hown3 hg3 ho3
             have hb3' := below_grown (hb2'.alloc hb2'.size _) (by have := hb2'.size; simp; omega) (hown2.alloc _) (Nat.le_refl _) hg3)
          | (refine step_put (by rfl) (.tmp 23) (.tmp 25) (by rfl) Try.underlying23 elem_int' (v := v2) (m := 1) (c := 1) (news := [.int .i64 (xs.length : Int)]) (B := wq.heap.size) (by rfl) hown2 (by rfl) (by rfl) rx2 (by simp [Value.oneCell']) (by omega) (by omega) hb2'.size ?_
             intro v3 w3 hown3 hg3 ho3
             have hb3' := below_grown hb2' hb2'.size hown2 (Nat.le_refl _) hg3)
          | (refine step_put (by rfl) (.tmp 26) (.tmp 29) (by rfl) Try.underlying23 elem_int' (v := v3) (A := if c0 = q then some ao else some (ao.add q)) (m := xs.length - q) (c := c0 - q) (news := ints (xs.drop q)) (B := wq.heap.size) (by rfl) hown3 (by rfl) (by simp) (rd'.below hb3') (one_ints _) (by omega) (by omega) hb3'.size ?_
             intro v4 w4 hown4 hg4 ho4
             have hb4' := below_grown hb3' hb3'.size hown3 (Nat.le_refl _) hg4))
      all_goals
        have B4 := hide hb4'
        have hlen4 : 0 + q + 1 + (xs.length - q) = xs.length + 1 := by omega
        have O4 := hide (show w4.ownsRow wq.heap.size 3 1 v4 (xs.take q ++ (xs.length : Int) :: xs.drop q).length (ints (xs.take q ++ (xs.length : Int) :: xs.drop q)) by
          rw [show (xs.take q ++ (xs.length : Int) :: xs.drop q).length = 0 + q + 1 + (xs.length - q) by simp; omega]
          simpa [ints] using hown4)
        have HL4 := hide (show (xs.take q ++ (xs.length : Int) :: xs.drop q).length = xs.length + 1 by simp; omega)
        obtain ⟨g4, c4, e4, _⟩ := own_one hown4 (by omega)
        go_wp2_with fail
        refine ⟨⟨xs.take q ++ (xs.length : Int) :: xs.drop q, by rw [HL4.out]; omega, by rw [HL4.out]; go_num, own_mono O4.out zq, (RDQ.out.then B4.out).mono (by rw [HL4.out]; omega), ⟨HGQ.out.os.symm ▸ B4.out.os, HGQ.out.tape.symm ▸ B4.out.tape, HGQ.out.output.symm ▸ B4.out.output, Nat.le_trans zq B4.out.size, fun x hx hne => (B4.out.block x (by omega)).trans (HGQ.out.block x hx hne)⟩, ⟨_, _, by rw [e4, HL4.out, hlen4]⟩⟩, by simp [intOf]; omega⟩
    · have hxm' : Hid (xs.length = m) := hide (by omega)
      have RDo := hide rdo
      have HGo := hide hg
      by_cases h0 : 0 < m
      · obtain ⟨q, hq⟩ : ∃ q, m = q + 1 := ⟨m - 1, by omega⟩
        subst hq
        have hxq : xs.length = q + 1 := hxm'.out
        rw [hxq] at hown
        obtain ⟨g0, c1, e0, _, _, _, g1, g2⟩ := own_one hown (by omega)
        injection e0 with e0 _ e2
        injection e0 with e0
        subst e0 e2
        have m0 : (0 : Int) < (q : Int) + 1 := by omega
        have HX := hide hxq
        have hq5 : q ≤ 7 := by omega
        rw [hxq]
        clear hxm' hxq hlt hg h0
        go_wp2_with fail
        refine (pick_c 30 R _ _ _ rdo (by omega) (by omega) (by omega)).mono ?_
        rintro e w3 ⟨a, rfl, _, _, rd3, hg3⟩
        have own3 := own_aside hown hRl hg3
        have hg3 := HGo.out.trans hg3
        clear hown rdo
        cases ha : (a == 0) with
        | true =>
          have hcq := own3.cellAt q (by omega)
          rw [List.getElem?_eq_getElem (by simp; have := HX.out; omega)] at hcq
          have hyq : (ints xs)[q]'(by simp; have := HX.out; omega) = .int .i64 (xs[q]?.getD 0) := by simp [List.getElem?_eq_getElem (show q < xs.length by have := HX.out; omega)]
          rw [hyq] at hcq
          clear hyq
          generalize xs[q]?.getD 0 = y at *
          have e1 : IntKind.i64.wrap ((q : Int) + 1 - 1) = (q : Int) := by rw [IntWalk.i64_in _ (by omega)]; omega
          have q0 : (0 : Int) ≤ (q : Int) := by omega
          go_wp2_with fail
          refine (one_new [-1, (q : Int) + 1, y] R _ _ _ rd3 (by omega) (by simp) (by simp)).mono ?_
          rintro e w4 ⟨z, rfl, _, rd4, hg4⟩
          have own4 := own_aside own3 hRl hg4
          have hg4 := hg3.trans hg4
          obtain ⟨ost, gst⟩ := own4.stored 0 (.int .i64 z)
          rw [set_ints] at ost
          have hfree := own4.frozenAt 0
          have hcell := own4.cellAt 0 (by omega)
          rw [List.getElem?_eq_getElem (by simp; have := HX.out; omega)] at hcell
          have Ost := hide ost
          have Hg := hide (grown_own hg4 own4 (Nat.le_refl _) gst)
          have Rd := hide (rd4.grown gst (fun k e => by have := (own4.lt k e).1; omega))
          clear ost gst own4 rd4 hg4 own3 rd3 hg3 hcq
          go_wp2_with fail
          go_ret
          refine ⟨_, xs.set 0 z, rfl, ?_, by rw [List.length_set, HX.out], Rd.out.mono (by have := HX.out; omega), Hg.out⟩
          rw [List.length_set, HX.out]
          exact Ost.out
        | false =>
          have O3 := hide own3
          have Rd := hide rd3
          clear own3 rd3
          go_wp2_with fail
          go_ret
          exact ⟨_, xs, rfl, by rw [HX.out]; exact O3.out, HX.out, Rd.out.mono (by have := HX.out; omega), hg3⟩
      · obtain rfl : m = 0 := by omega
        obtain rfl : xs = [] := List.eq_nil_of_length_eq_zero (by have := hxm'.out; omega)
        have O := hide hown
        clear hown
        go_wp2_with fail
        go_ret
        exact ⟨_, [], rfl, O.out, rfl, RDo.out.mono (by simp), HGo.out⟩

end Go.Proofs.Ytnfcklclgcgloab

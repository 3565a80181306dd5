
/-
  Drawn numbers and columns of queens.
-/
import Derived.Test.YtgcchpabmkdkhadDrawC
import Derived.Test.YtgcchpabmkdkhadQueenB
namespace Go.Proofs.Ytgcchpabmkdkhad
open Go.RowKit
set_option linter.unusedVariables false

def DrawnN (w : World) (e : Ending) (w' : World) : Prop := ∃ n : Int, e = .returned (.int .i64 n) ∧ (0 ≤ n ∧ n ≤ 7) ∧ Below w.heap.size w w'
theorem drawCountQueens_c (A : Option Addr) (n c : Nat) (w : World) (h : Code w A n c) : Calls Try.prog 10 #[.slice A n c] w (DrawnN w) := by
  have HC := hide (newReader_c A n c w h)
  clear h
  go_enter Try.func10, Try.ntmps10
  go_wp2_with fail
  refine HC.out.mono ?_
  rintro e w1 ⟨R, rfl, rd, hb⟩
  have hR : w.heap.size ≤ R := by obtain ⟨_, _, _, _, _, _, _, h, _⟩ := rd; exact h
  go_wp2_with fail
  refine (one_new [4, 5, 6, 3, 2, 1, 0, 7] R _ 0 w1 rd (by omega) (by decide) (by decide)).mono ?_
  rintro e w2 ⟨x, rfl, hm, rd2, hg2⟩
  have hx : 0 ≤ x ∧ x ≤ 7 := by simp only [List.mem_cons, List.not_mem_nil, or_false] at hm; omega
  clear hm
  go_wp2_with fail
  go_ret
  exact ⟨x, rfl, hx, below_reader hb hR hg2⟩
theorem one_at (xs : List Int) (R B N g : Nat) (w : World) (hgz : w.heap.size = g) (h : Reader w R B N) (hN : N ≤ 1000000) (h0 : 0 < xs.length) (h1 : xs.length ≤ 1000) :
    Calls Try.prog 25 #[.pointer (some ⟨R, 0, none⟩), .slice (some ⟨g, 0, none⟩) xs.length xs.length] (w.alloc (.cells (ints xs).toArray 3)) (Drawn (· ∈ xs) R B (N + 1) w) := by
  subst hgz
  exact one_new xs R B N w h hN h0 h1
theorem set_intsQ (l : List Int) (i : Nat) (u : Int) : (ints l).set i (.int .i64 u) = ints (l.set i u) := by simp [ints, List.map_set]
def Seven (xs : List Int) : Prop := ∀ i, i < xs.length → 0 ≤ xs[i]?.getD 0 ∧ xs[i]?.getD 0 ≤ 7
theorem Seven.snoc {xs : List Int} {c : Int} (h : Seven xs) (h0 : 0 ≤ c) (h7 : c ≤ 7) : Seven (xs ++ [c]) := fun i hi => by
  by_cases e : i < xs.length
  · rw [List.getElem?_append_left e]; exact h i e
  · have : i = xs.length := by simp at hi; omega
    subst this
    simp; omega
theorem Seven.small {xs : List Int} (h : Seven xs) (hl : xs.length ≤ 7) : Small xs := ⟨hl, fun i hi => by have := h i hi; omega⟩
def SomeStand (R B N : Nat) (w : World) (e : Ending) (w' : World) : Prop := ∃ (n : Int) (v : Value) (xs : List Int), e = .returned (.tuple #[.int .i64 n, v]) ∧ (0 ≤ n ∧ n ≤ 7) ∧ w'.ownsRow w.heap.size 3 1 v (List.length xs) (ints xs) ∧ xs.length ≤ 7 ∧ Reader w' R B N ∧ w.grownBy w' (some R)
set_option maxHeartbeats 2000000 in
set_option maxRecDepth 100000 in
theorem someStand_c (R B N : Nat) (w : World) (h : Reader w R B N) (hN : N ≤ 800000) :
    Calls Try.prog 18 #[.pointer (some ⟨R, 0, none⟩)] w (SomeStand R B (N + 60) w) := by
  have hlt := h.lt
  go_enter Try.func18, Try.ntmps18
  go_wp2_with fail
  refine (one_new [5, 6, 4, 3, 1, 0, 7] R B N w h (by omega) (by decide) (by decide)).mono ?_
  rintro e w1 ⟨n, rfl, hm, rd1, hg1⟩
  have hn : 0 ≤ n ∧ n ≤ 7 := by simp only [List.mem_cons, List.not_mem_nil, or_false] at hm; omega
  clear hm
  obtain ⟨n0, n7⟩ := hn
  have z1 := hg1.size
  have own1 : (w1.alloc (.cells #[] 3)).ownsRow w.heap.size 3 1 (.slice (some ⟨w1.heap.size, 0, none⟩) 0 0) 0 [] := World.ownsRow_made w1 #[] 0 z1 (by simp [maxLen]) rfl
  have rd1a := rd1.grown_alloc (.cells #[] 3)
  have hg1a := hg1.trans (World.grownBy_alloc w1 (.cells #[] 3) (some R))
  go_wp2_with fail
  refine (one_at [2, 1, 3, 0, 4, 6] R B (N + 1) (w1.heap.size + 1) (w1.alloc (.cells #[] 3)) (by simp) rd1a (by omega) (by decide) (by decide)).mono ?_
  rintro e w2 ⟨k0, rfl, hm, rd2, hg2⟩
  have hk0 : 0 ≤ k0 ∧ k0 ≤ 6 := by simp only [List.mem_cons, List.not_mem_nil, or_false] at hm; omega
  clear hm
  have own2 := own_aside own1 hlt hg2
  have hg2 := hg1a.trans hg2
  obtain ⟨k00, k06⟩ := hk0
  clear own1 rd1a hg1a rd1 hg1
  go_wp2_with fail
  go_loopw [5, 6] (fun v k wr => ∃ (xs : List Int) (j : Int), (0 ≤ j ∧ (xs.length : Int) + j ≤ 6) ∧ k = .int .i64 j ∧ Hid (Seven xs) ∧ wr.ownsRow w.heap.size 3 1 v xs.length (ints xs) ∧ Reader wr R B (N + 2 + xs.length) ∧ w.grownBy wr (some R)) (fun _ k _ => (intOf k).toNat)
  case atStart => exact ⟨[], k0, ⟨k00, by simpa using k06⟩, rfl, fun i hi => by simp at hi, own2, rd2, hg2⟩
  case round =>
    obtain ⟨xs, j, ⟨j0, j6⟩, rfl, hsev, hown, rd, hg⟩ := hrel
    obtain ⟨wo, rfl⟩ : ∃ wo : World, wo = wr := ⟨_, rfl⟩
    obtain ⟨A0, c0, rfl, _⟩ := own_row hown
    have zo := hg.size
    by_cases hj : 0 < j
    · by_cases hxn : (xs.length : Int) < n
      · have hxl : xs.length ≤ 5 := by omega
        have HAP := hide (fun (x : Int) (h0 : 0 ≤ x) (h7 : x ≤ 7) (w5 : World) (h5 : Row w5 A0 (ints xs)) => specApart_c A0 c0 xs x w5 h5 (hsev.out.small (by omega)) (by omega) (by omega))
        go_wp2_with fail
        refine (pick_c n R B _ _ rd (by omega) (by omega) (by omega)).mono ?_
        rintro e w3 ⟨c, rfl, hc, _, rd3, hg3⟩
        obtain ⟨hc0, hc1⟩ := hc (by omega)
        have own3 := own_aside hown hlt hg3
        have hg3 := hg.trans hg3
        have z3 := hg3.size
        have hr3 := own_reads own3
        have O3 := hide own3
        have R3 := hide rd3
        have G3 := hide hg3
        clear own3 rd3 hg3 hown rd hg hc
        go_wp2_with fail
        go_loopw [7, 8] (fun y i wi => ∃ k : Nat, (k : Int) ≤ n ∧ y = .int .i64 c ∧ i = .int .i64 (k : Int) ∧ w3 = wi) (fun _ i _ => n.toNat - (intOf i).toNat)
        case atStart => exact ⟨0, by omega, rfl, rfl, rfl⟩
        case round =>
          obtain ⟨k, hk, rfl, rfl, rfl⟩ := hrel
          by_cases hkn : (k : Int) < n
          · have hn0 : n ≠ 0 := by omega
            obtain ⟨r, hr⟩ : ∃ r, (c + (k : Int)).tmod n = r := ⟨_, rfl⟩
            have r0 : 0 ≤ r := by rw [← hr]; exact Int.tmod_nonneg _ (by omega)
            have r1 : r < n := by rw [← hr]; exact Int.tmod_lt_of_pos _ (by omega)
            have HA := hide (HAP.out r r0 (by omega) w3 hr3)
            go_wp2_with fail
            refine HA.out.mono ?_
            rintro e w4 ⟨rfl, rfl⟩
            cases hap : apartP xs r with
            | true =>
              have own4 := O3.out.alloc (.cells #[.int .i64 r] 3)
              go_wp2_with ((at_builtin; refine put_own rfl (.tmp 46) (.tmp 48) rfl Try.underlying23 elem_intd rfl own4 rfl (m := 1) (news := [.int .i64 r]) rfl (row_new _ _ _ rfl) (by simp [Value.oneCell']) (by omega) (by omega) (by simp; omega) ?_; intro v5 w5 own5 hg5 ho5))
              go_round
              case rel => exact ⟨xs ++ [r], j - 1, ⟨by omega, by simp; omega⟩, rfl, hsev.out.snoc (by omega) (by omega), by simpa using own5, ((R3.out.grown_alloc _).grown hg5 (fun q e => by have := (own4.lt q e).1; omega)).mono (by simp; omega), grown_own (G3.out.trans (World.grownBy_alloc _ _ _)) own4 (Nat.le_refl _) hg5⟩
              case measure => simp [intOf]; omega
            | false =>
              go_wp2_with fail
              exact ⟨⟨k + 1, by omega, rfl, rfl, trivial⟩, by simp [intOf]; omega⟩
          · clear hr3
            have own4 := O3.out.alloc (.cells #[.int .i64 c] 3)
            go_wp2_with ((at_builtin; refine put_own rfl (.tmp 46) (.tmp 48) rfl Try.underlying23 elem_intd rfl own4 rfl (m := 1) (news := [.int .i64 c]) rfl (row_new _ _ _ rfl) (by simp [Value.oneCell']) (by omega) (by omega) (by simp; omega) ?_; intro v5 w5 own5 hg5 ho5))
            go_round
            case rel => exact ⟨xs ++ [c], j - 1, ⟨by omega, by simp; omega⟩, rfl, hsev.out.snoc (by omega) (by omega), by simpa using own5, ((R3.out.grown_alloc _).grown hg5 (fun q e => by have := (own4.lt q e).1; omega)).mono (by simp; omega), grown_own (G3.out.trans (World.grownBy_alloc _ _ _)) own4 (Nat.le_refl _) hg5⟩
            case measure => simp [intOf]; omega
      · have hxn' : ¬ ((xs.length : Int) < n) := hxn
        by_cases hx0 : 0 < xs.length
        · have hxl6 : xs.length ≤ 6 := by omega
          obtain ⟨g0, c1, e0, _, _, _, g1, g2⟩ := own_one hown hx0
          injection e0 with e0 _ e2
          subst e0 e2
          have hxp : (0 : Int) < (xs.length : Int) := by omega
          have zz := hg.size
          go_wp2_with fail
          refine (pick_c 12 R B _ _ rd (by omega) (by omega) (by omega)).mono ?_
          rintro e w3 ⟨a, rfl, _, _, rd3, hg3⟩
          have own3 := own_aside hown hlt hg3
          have hg3 := hg.trans hg3
          clear hown rd hg
          cases h0 : (a == 0) with
          | true =>
            go_wp2_with fail
            refine (pick_c (xs.length : Int) R B _ _ rd3 (by omega) (by omega) (by omega)).mono ?_
            rintro e w4 ⟨i, rfl, hi, _, rd4, hg4⟩
            obtain ⟨i0, i1⟩ := hi (by omega)
            obtain ⟨q, rfl⟩ := Int.eq_ofNat_of_zero_le i0
            have hq : q < xs.length := by omega
            have own4 := own_aside own3 hlt hg4
            have hg4 := hg3.trans hg4
            clear own3 rd3 hg3
            go_wp2_with fail
            refine (one_new [-1, n, 0] R B _ _ rd4 (by omega) (by simp) (by simp)).mono ?_
            rintro e w5 ⟨y, rfl, _, rd5, hg5⟩
            have own5 := own_aside own4 hlt hg5
            have hg5 := hg4.trans hg5
            obtain ⟨ost, gst⟩ := own5.stored q (.int .i64 y)
            rw [set_intsQ] at ost
            have hfree := own5.frozenAt q
            have hcell := own5.cellAt q (by omega)
            rw [List.getElem?_eq_getElem (by simp; omega)] at hcell
            have Ost := hide ost
            have Rd := hide (rd5.grown gst (fun j e => by injection e with e; omega))
            have Hg := hide (grown_own hg5 own5 (Nat.le_refl _) gst)
            clear ost gst own5 rd5 hg5 own4 rd4 hg4
            go_wp2_with fail
            go_ret2
            refine ⟨n, _, xs.set q y, rfl, ⟨n0, n7⟩, ?_, by simp; omega, Rd.out.mono (by omega), Hg.out⟩
            rw [List.length_set]
            exact Ost.out
          | false =>
            go_wp2_with fail
            go_ret2
            exact ⟨n, _, xs, rfl, ⟨n0, n7⟩, own3, by omega, rd3.mono (by omega), hg3⟩
        · obtain rfl : xs = [] := List.eq_nil_of_length_eq_zero (by omega)
          go_wp2_with fail
          go_ret2
          exact ⟨n, _, [], rfl, ⟨n0, n7⟩, hown, by simp, rd.mono (by simp), hg⟩
    · have hj' : ¬ (0 < j) := hj
      by_cases hx0 : 0 < xs.length
      · have hxl6 : xs.length ≤ 6 := by omega
        obtain ⟨g0, c1, e0, _, _, _, g1, g2⟩ := own_one hown hx0
        injection e0 with e0 _ e2
        subst e0 e2
        have hxp : (0 : Int) < (xs.length : Int) := by omega
        have zz := hg.size
        go_wp2_with fail
        refine (pick_c 12 R B _ _ rd (by omega) (by omega) (by omega)).mono ?_
        rintro e w3 ⟨a, rfl, _, _, rd3, hg3⟩
        have own3 := own_aside hown hlt hg3
        have hg3 := hg.trans hg3
        clear hown rd hg
        cases h0 : (a == 0) with
        | true =>
          go_wp2_with fail
          refine (pick_c (xs.length : Int) R B _ _ rd3 (by omega) (by omega) (by omega)).mono ?_
          rintro e w4 ⟨i, rfl, hi, _, rd4, hg4⟩
          obtain ⟨i0, i1⟩ := hi (by omega)
          obtain ⟨q, rfl⟩ := Int.eq_ofNat_of_zero_le i0
          have hq : q < xs.length := by omega
          have own4 := own_aside own3 hlt hg4
          have hg4 := hg3.trans hg4
          clear own3 rd3 hg3
          go_wp2_with fail
          refine (one_new [-1, n, 0] R B _ _ rd4 (by omega) (by simp) (by simp)).mono ?_
          rintro e w5 ⟨y, rfl, _, rd5, hg5⟩
          have own5 := own_aside own4 hlt hg5
          have hg5 := hg4.trans hg5
          obtain ⟨ost, gst⟩ := own5.stored q (.int .i64 y)
          rw [set_intsQ] at ost
          have hfree := own5.frozenAt q
          have hcell := own5.cellAt q (by omega)
          rw [List.getElem?_eq_getElem (by simp; omega)] at hcell
          have Ost := hide ost
          have Rd := hide (rd5.grown gst (fun j e => by injection e with e; omega))
          have Hg := hide (grown_own hg5 own5 (Nat.le_refl _) gst)
          clear ost gst own5 rd5 hg5 own4 rd4 hg4
          go_wp2_with fail
          go_ret2
          refine ⟨n, _, xs.set q y, rfl, ⟨n0, n7⟩, ?_, by simp; omega, Rd.out.mono (by omega), Hg.out⟩
          rw [List.length_set]
          exact Ost.out
        | false =>
          go_wp2_with fail
          go_ret2
          exact ⟨n, _, xs, rfl, ⟨n0, n7⟩, own3, by omega, rd3.mono (by omega), hg3⟩
      · obtain rfl : xs = [] := List.eq_nil_of_length_eq_zero (by omega)
        go_wp2_with fail
        go_ret2
        exact ⟨n, _, [], rfl, ⟨n0, n7⟩, hown, by simp, rd.mono (by simp), hg⟩
def DrawnStand (w : World) (e : Ending) (w' : World) : Prop := ∃ (n : Int) (v : Value) (xs : List Int), e = .returned (.tuple #[.int .i64 n, v]) ∧ (0 ≤ n ∧ n ≤ 7) ∧ w'.ownsRow w.heap.size 3 1 v (List.length xs) (ints xs) ∧ xs.length ≤ 7 ∧ Below w.heap.size w w'
theorem drawEndsOf_c (A : Option Addr) (n c : Nat) (w : World) (h : Code w A n c) : Calls Try.prog 6 #[.slice A n c] w (DrawnStand w) := by
  have HC := hide (newReader_c A n c w h)
  clear h
  go_enter Try.func6, Try.ntmps6
  go_wp2_with fail
  refine HC.out.mono ?_
  rintro e w1 ⟨R, rfl, rd, hb⟩
  have hR : w.heap.size ≤ R := by obtain ⟨_, _, _, _, _, _, _, h, _⟩ := rd; exact h
  go_wp2_with fail
  refine (someStand_c R _ 0 w1 rd (by omega)).mono ?_
  rintro e w2 ⟨n, v, xs, rfl, hn, own, hl, rd2, hg2⟩
  obtain ⟨A1, c1, rfl, _⟩ := own_row own
  go_wp2_with fail
  go_ret2
  exact ⟨n, _, xs, rfl, hn, own_mono own hb.size, hl, below_reader hb hR hg2⟩
end Go.Proofs.Ytgcchpabmkdkhad

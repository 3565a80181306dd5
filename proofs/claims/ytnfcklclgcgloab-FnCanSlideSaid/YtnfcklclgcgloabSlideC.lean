
/-
  The model's slides: CanSlide.
-/
import Derived.Test.YtnfcklclgcgloabSlideB
import Derived.Deep.RegionHeld3
namespace Go.Proofs.Ytnfcklclgcgloab
open Go.RowKit
set_option linter.unusedVariables false

theorem nums_len {l : List Int} (h : gapP l < l.length) : (numsP l).length = l.length - 1 := by
  unfold numsP
  simp
  omega
theorem can_same {bc br : Int} {a b : List Int} (sa : SlideIs bc br a) (sb : SlideIs bc br b) (h : bc = 1 ∨ br = 1) : canSlideP bc br a b = decide (numsP a = numsP b) := by
  unfold canSlideP
  rw [decide_eq_true ⟨sa, sb⟩, Bool.true_and, if_pos h]
theorem can_other {bc br : Int} {a b : List Int} (sa : SlideIs bc br a) (sb : SlideIs bc br b) (h : ¬ (bc = 1 ∨ br = 1)) : canSlideP bc br a b = ((oddP a + oddP b) % 2 == apN bc.toNat (gapP a) (gapP b) % 2) := by
  unfold canSlideP
  rw [decide_eq_true ⟨sa, sb⟩, Bool.true_and, if_neg h]
theorem can_not {bc br : Int} {a b : List Int} (h : ¬ (SlideIs bc br a ∧ SlideIs bc br b)) : canSlideP bc br a b = false := by
  unfold canSlideP
  rw [decide_eq_false h, Bool.false_and]
theorem ap_mod (w a b : Nat) : apN w a b % 2 = (a / w + a % w + b / w + b % w) % 2 := by unfold apN; omega

/-- Lists of one length that part nowhere. -/
theorem all_same {xs ys : List Int} (hl : xs.length = ys.length) (h : ∀ i, i < xs.length → xs[i]?.getD 0 = ys[i]?.getD 0) : xs = ys := by
  apply List.ext_getElem hl
  intro i h1 h2
  have := h i h1
  rwa [List.getElem?_eq_getElem h1, List.getElem?_eq_getElem h2] at this

set_option maxHeartbeats 4000000 in
set_option maxRecDepth 100000 in
theorem specCan_row (bc br : Int) (A C : Addr) (ca cc : Nat) (a b : List Int) (w : World) (ha : Row w (some A) (ints a)) (hb : Row w (some C) (ints b)) (h1 : a.length ≤ ca) (h2 : ca ≤ maxLen) (h3 : b.length ≤ cc) (h4 : cc ≤ maxLen)
    (sa : SlideIs bc br a) (sb : SlideIs bc br b) (h0 : bc = 1 ∨ br = 1) :
    Calls Try.prog 14 #[.int .i64 bc, .int .i64 br, .slice (some A) a.length ca, .slice (some C) b.length cc] w (Plain (.bool (canSlideP bc br a b)) w) := by
  have HA := hide ha
  have HB := hide hb
  have hla := sa.2.2.1
  have hlb := sb.2.2.1
  have h6a := sa.ord.1
  obtain ⟨b1, b2, b3, b4⟩ := id sa.1
  have m1 := (mul_bd b1 b2 b3 b4).1
  have hga := gap_lt sa.ord (by omega)
  have hgb := gap_lt sb.ord (by omega)
  have HV1 := hide (fun w5 (h5 : Below w.heap.size w w5) => validSlide_yes rfl (HA.out.below h5) h1 h2 sa)
  have HV2 := hide (fun w5 (h5 : Below w.heap.size w w5) => validSlide_yes rfl (HB.out.below h5) h3 h4 sb)
  have HP1 := hide (fun w5 (h5 : Below w.heap.size w w5) => show Calls Try.prog _ _ w5 fun e w' => e = .returned (.int .i64 ((gapP a : Nat) : Int)) ∧ w5 = w' from placeOf_c (some A) a ca a.length 0 w5 rfl (HA.out.below h5) (by unfold maxLen at *; omega) (ord_has sa.ord (Int.le_refl _) (by omega)))
  have HP2 := hide (fun w5 (h5 : Below w.heap.size w w5) => show Calls Try.prog _ _ w5 fun e w' => e = .returned (.int .i64 ((gapP b : Nat) : Int)) ∧ w5 = w' from placeOf_c (some C) b cc b.length 0 w5 rfl (HB.out.below h5) (by unfold maxLen at *; omega) (ord_has sb.ord (Int.le_refl _) (by omega)))
  have HE := hide (can_same sa sb h0)
  have hna := nums_len hga
  have hnb := nums_len hgb
  have HX := hide (show ints (numsP a) = ints (a.take (gapP a)) ++ ints (a.drop (gapP a + 1)) by unfold numsP; simp [ints])
  have HY := hide (show ints (numsP b) = ints (b.take (gapP b)) ++ ints (b.drop (gapP b + 1)) by unfold numsP; simp [ints])
  have hlab : a.length = b.length := by omega
  rw [HE.out]
  have rta := fun (w5 : World) (h5 : Below w.heap.size w w5) => (HA.out.below h5).upto (gapP a)
  have rda := fun (w5 : World) (h5 : Below w.heap.size w w5) => (HA.out.below h5).cut (j := gapP a + 1) (c := ca) (by omega) h1
  have rtb := fun (w5 : World) (h5 : Below w.heap.size w w5) => (HB.out.below h5).upto (gapP b)
  have rdb := fun (w5 : World) (h5 : Below w.heap.size w w5) => (HB.out.below h5).cut (j := gapP b + 1) (c := cc) (by omega) h3
  have lta : (a.take (gapP a)).length = gapP a := by simp; omega
  have lda : (a.drop (gapP a + 1)).length = a.length - (gapP a + 1) := by simp
  have ltb : (b.take (gapP b)).length = gapP b := by simp; omega
  have ldb : (b.drop (gapP b + 1)).length = b.length - (gapP b + 1) := by simp
  have RTA := hide rta
  have RDA := hide rda
  have RTB := hide rtb
  have RDB := hide rdb
  unfold maxLen at h2 h4
  clear rta rda rtb rdb sa sb HE hla hlb ha hb
  generalize numsP a = xs at *
  generalize numsP b = ys at *
  generalize gapP a = ga at *
  generalize gapP b = gb at *
  generalize a.take ga = ta at *
  generalize a.drop (ga + 1) = da at *
  generalize b.take gb = tb at *
  generalize b.drop (gb + 1) = db at *
  generalize hN : a.length = N at *
  generalize hM : b.length = M at *
  obtain rfl : N = M := hlab
  have ga0 : (0 : Int) ≤ (ga : Int) := by omega
  have ga1 : (ga : Int) ≤ (N : Int) := by omega
  have ga2 : (ga : Int) ≤ (ca : Int) := by omega
  obtain ⟨qga, hqga⟩ : ∃ q, ga + 1 = q := ⟨_, rfl⟩
  have ga3 : (qga : Int) ≤ (N : Int) := by omega
  have ga5 : (0 : Int) ≤ (qga : Int) := by omega
  have ga6 : (qga : Int) ≤ (ca : Int) := by omega
  have ga4 : (N : Int) ≤ (ca : Int) := by omega
  have eg1 : IntKind.i64.wrap ((ga : Int) + 1) = (qga : Int) := (IntWalk.i64_in _ (by omega)).trans (by omega)
  have HQga := hide hqga
  have gb0 : (0 : Int) ≤ (gb : Int) := by omega
  have gb1 : (gb : Int) ≤ (N : Int) := by omega
  have gb2 : (gb : Int) ≤ (cc : Int) := by omega
  obtain ⟨qgb, hqgb⟩ : ∃ q, gb + 1 = q := ⟨_, rfl⟩
  have gb3 : (qgb : Int) ≤ (N : Int) := by omega
  have gb5 : (0 : Int) ≤ (qgb : Int) := by omega
  have gb6 : (qgb : Int) ≤ (cc : Int) := by omega
  have gb4 : (N : Int) ≤ (cc : Int) := by omega
  have eg2 : IntKind.i64.wrap ((gb : Int) + 1) = (qgb : Int) := (IntWalk.i64_in _ (by omega)).trans (by omega)
  have HQgb := hide hqgb
  rw [hqga] at RDA lda
  rw [hqgb] at RDB ldb
  clear hqga hqgb
  have hor : bc = 1 ∨ (bc ≠ 1 ∧ br = 1) := by omega
  clear h0 hN hM
  rcases hor with rfl | ⟨hne, rfl⟩
  all_goals
    go_enter Try.func14, Try.ntmps14
    go_wp2_with fail
    refine (HV1.out _ (Below.refl _ _)).mono ?_
    rintro e w1 ⟨rfl, d1⟩
    go_wp2_with fail
    refine (HV2.out _ d1).mono ?_
    rintro e w2 ⟨rfl, d2⟩
    have d2 := below_then d1 d1.size d2
    go_wp2_with fail
    refine (HP1.out _ d2).mono ?_
    rintro e w' ⟨rfl, rfl⟩
    go_wp2_with fail
    refine (HP2.out _ d2).mono ?_
    rintro e w' ⟨rfl, rfl⟩
    have mk0 := World.ownsRow_made (base := w2.heap.size) (e := 3) (size := 1) w2 #[] 0 (Nat.le_refl _) (by simp [maxLen]) rfl
    have hba : Below w2.heap.size w2 (w2.alloc (.cells #[] 3)) := (Below.refl _ _).alloc (Nat.le_refl _) _
    have q1 := RTA.out _ (below_then d2 d2.size hba)
    clear d1
    go_wp2_with fail
    go_region_held3 (fun w' => True) (trivial)
      (first
        | (refine step_put (by rfl) (.tmp 36) (.tmp 39) (by rfl) Try.underlying23 elem_int' (v := .slice (some ⟨w2.heap.size, 0, none⟩) 0 0) (A := some A) (m := ga) (c := ca) (xs := []) (news := ints ta) (B := w2.heap.size) (by rfl) (mk0.drew) (by rfl) (by simp; omega) (q1.drew) (one_ints _) (by omega) (by omega) (by simp) ?_
           intro v2 w3 hown2 hg2 ho2
           have hb2 := below_grown hba.drew (by simp) mk0.drew (Nat.le_refl _) hg2)
        | (refine step_put (by rfl) (.tmp 40) (.tmp 44) (by rfl) Try.underlying23 elem_int' (v := v2) (A := if ca = qga then some A else some (A.add qga)) (m := N - qga) (c := ca - qga) (news := ints da) (B := w2.heap.size) (by rfl) hown2 (by rfl) (by simp; omega) (RDA.out _ (below_then d2 d2.size hb2)) (one_ints _) (by omega) (by omega) hb2.size ?_
           intro v3 w4 hown3 hg3 ho3
           have hb3 := below_grown hb2 hb2.size hown2 (Nat.le_refl _) hg3)
        | fail)
    generalize (if ca = qga then some A else some (A.add qga)) = zA
    have hqa : ga + 1 = qga := HQga.out
    have hqb : gb + 1 = qgb := HQgb.out
    have hl3 : 0 + ga + (N - qga) = N - 1 := by omega
    have O3 : w4.ownsRow w2.heap.size 3 1 v3 (N - 1) (ints xs) := by
      rw [HX.out]
      rw [hl3, List.nil_append] at hown3
      exact hown3
    obtain ⟨Ax, cx, rfl, _, _, _, _⟩ := own_row O3
    have d4 := below_then d2 d2.size hb3
    have O3h := hide O3
    clear hown2 hg2 ho2 hb2 hown3 hg3 ho3 hb3 mk0 hba q1 hl3 O3 hqa hqb
    have mk0 := World.ownsRow_made (base := w4.heap.size) (e := 3) (size := 1) w4 #[] 0 (Nat.le_refl _) (by simp [maxLen]) rfl
    have hba : Below w4.heap.size w4 (w4.alloc (.cells #[] 3)) := (Below.refl _ _).alloc (Nat.le_refl _) _
    have q1 := RTB.out _ (below_then d4 d4.size hba)
    go_wp2_with fail
    go_region_held3 (fun w' => True) (trivial)
      (first
        | (refine step_put (by rfl) (.tmp 46) (.tmp 49) (by rfl) Try.underlying23 elem_int' (v := .slice (some ⟨w4.heap.size, 0, none⟩) 0 0) (A := some C) (m := gb) (c := cc) (xs := []) (news := ints tb) (B := w4.heap.size) (by rfl) (mk0.drew) (by rfl) (by simp; omega) (q1.drew) (one_ints _) (by omega) (by omega) (by simp) ?_
           intro v2 w5 hown2 hg2 ho2
           have hb2 := below_grown hba.drew (by simp) mk0.drew (Nat.le_refl _) hg2)
        | (refine step_put (by rfl) (.tmp 50) (.tmp 54) (by rfl) Try.underlying23 elem_int' (v := v2) (A := if cc = qgb then some C else some (C.add qgb)) (m := N - qgb) (c := cc - qgb) (news := ints db) (B := w4.heap.size) (by rfl) hown2 (by rfl) (by simp; omega) (RDB.out _ (below_then d4 d4.size hb2)) (one_ints _) (by omega) (by omega) hb2.size ?_
           intro v3 w6 hown3 hg3 ho3
           have hb3 := below_grown hb2 hb2.size hown2 (Nat.le_refl _) hg3)
        | fail)
    generalize (if cc = qgb then some C else some (C.add qgb)) = zC
    have hqb : gb + 1 = qgb := HQgb.out
    have hl3 : 0 + gb + (N - qgb) = N - 1 := by omega
    have O5 : w6.ownsRow w4.heap.size 3 1 v3 (N - 1) (ints ys) := by
      rw [HY.out]
      rw [hl3, List.nil_append] at hown3
      exact hown3
    have R3 := hide (own_reads (own_below O3h.out hb3))
    obtain ⟨Ay, cy, rfl, _, _, _, _⟩ := own_row O5
    have R5 := hide (own_reads O5)
    have d6 := hide (below_then d4 d4.size hb3)
    have hxl : xs.length = N - 1 := hna
    have hyl : ys.length = N - 1 := hnb
    have HXL := hide hxl
    have HYL := hide hyl
    obtain ⟨N1, hN1⟩ : ∃ N1, N - 1 = N1 := ⟨_, rfl⟩
    rw [hN1] at HXL HYL
    have e7 : ((N - 1 : Nat) : Int) = (N1 : Int) := by rw [hN1]
    have hN16 : N1 ≤ 6 := by omega
    clear hown2 hg2 ho2 hb2 hown3 hg3 ho3 hb3 mk0 hba q1 hl3 O5 O3h hqb hxl hyl hna hnb HX HY HQga HQgb RTA RDA RTB RDB eg1 eg2
    rw [hN1]
    go_wp2_with fail
    go_loopw [13] (fun i wr => ∃ (k n : Nat), k ≤ N1 ∧ i = .int .i64 (k : Int) ∧ Hid (xs.take k = ys.take k) ∧ wr = w6.drewN n) (fun i _ => N1 - (intOf i).toNat)
    case atStart => exact ⟨0, 0, Nat.zero_le _, rfl, rfl, rfl⟩
    case round =>
      obtain ⟨k, n, hk, rfl, he, rfl⟩ := hrel
      by_cases hlt : k < N1
      · obtain ⟨ad1, rfl, hc1⟩ := R3.out.int (k := k) (by rw [HXL.out]; exact hlt)
        obtain ⟨ad2, rfl, hc2⟩ := R5.out.int (k := k) (by rw [HYL.out]; exact hlt)
        have HNO := hide (fun (h : xs[k]?.getD 0 ≠ ys[k]?.getD 0) => show decide (xs = ys) = false from decide_eq_false (fun e => h (by rw [e])))
        have HYE := hide (fun (h : xs[k]?.getD 0 = ys[k]?.getD 0) => show xs.take (k + 1) = ys.take (k + 1) from eqlist_step (by rw [HXL.out]; exact hlt) (by rw [HXL.out, HYL.out]) he.out h)
        generalize xs[k]?.getD 0 = x at *
        generalize ys[k]?.getD 0 = y at *
        have k0 : (0 : Int) ≤ (k : Int) := by omega
        have k1 : (k : Int) < (N1 : Int) := by omega
        cases hxy : (x != y) with
        | true =>
          have HN := hide (HNO.out (by simpa using hxy))
          go_wp2_with fail
          go_quiet (fail)
          go_wp2_with fail
          go_ret
          exact ⟨by rw [HN.out]; rfl, below_drewN (below_drewN d6.out _) _⟩
        | false =>
          have HT := hide (HYE.out (by simpa using hxy))
          go_wp2_with fail
          go_quiet (fail)
          go_wp2_with fail
          exact ⟨⟨k + 1, n + nq, hlt, by go_num, HT.out, rfl⟩, by simp [intOf]; omega⟩
      · obtain rfl : k = N1 := by omega
        have HT := hide (show decide (xs = ys) = true from decide_eq_true (by have e := he.out; rwa [List.take_of_length_le (by rw [HXL.out]; exact Nat.le_refl _), List.take_of_length_le (by rw [HYL.out]; exact Nat.le_refl _)] at e))
        go_wp2_with fail
        go_ret
        exact ⟨by rw [HT.out]; rfl, below_drewN d6.out _⟩

set_option maxHeartbeats 4000000 in
set_option maxRecDepth 100000 in
theorem specCan_wide (x y : Nat) (A C : Addr) (ca cc : Nat) (a b : List Int) (w : World) (ha : Row w (some A) (ints a)) (hb : Row w (some C) (ints b)) (h1 : a.length ≤ ca) (h2 : ca ≤ maxLen) (h3 : b.length ≤ cc) (h4 : cc ≤ maxLen)
    (sa : SlideIs (x : Int) (y : Int) a) (sb : SlideIs (x : Int) (y : Int) b) (h0 : ¬ ((x : Int) = 1 ∨ (y : Int) = 1)) :
    Calls Try.prog 14 #[.int .i64 (x : Int), .int .i64 (y : Int), .slice (some A) a.length ca, .slice (some C) b.length cc] w (Plain (.bool (canSlideP (x : Int) (y : Int) a b)) w) := by
  have HA := hide ha
  have HB := hide hb
  have hla := sa.2.2.1
  have hlb := sb.2.2.1
  have h6a := sa.ord.1
  have h6b := sb.ord.1
  obtain ⟨b1, b2, b3, b4⟩ := id sa.1
  have m1 := (mul_bd b1 b2 b3 b4).1
  have hga := gap_lt sa.ord (by omega)
  have hgb := gap_lt sb.ord (by omega)
  have HV1 := hide (fun w5 (h5 : Below w.heap.size w w5) => validSlide_yes rfl (HA.out.below h5) h1 h2 sa)
  have HV2 := hide (fun w5 (h5 : Below w.heap.size w w5) => validSlide_yes rfl (HB.out.below h5) h3 h4 sb)
  have HP1 := hide (fun w5 (h5 : Below w.heap.size w w5) => show Calls Try.prog _ _ w5 fun e w' => e = .returned (.int .i64 ((gapP a : Nat) : Int)) ∧ w5 = w' from placeOf_c (some A) a ca a.length 0 w5 rfl (HA.out.below h5) (by unfold maxLen at *; omega) (ord_has sa.ord (Int.le_refl _) (by omega)))
  have HP2 := hide (fun w5 (h5 : Below w.heap.size w w5) => show Calls Try.prog _ _ w5 fun e w' => e = .returned (.int .i64 ((gapP b : Nat) : Int)) ∧ w5 = w' from placeOf_c (some C) b cc b.length 0 w5 rfl (HB.out.below h5) (by unfold maxLen at *; omega) (ord_has sb.ord (Int.le_refl _) (by omega)))
  have HO1 := hide (fun w5 (h5 : Below w.heap.size w w5) => odd_q (some A) a ca a.length w5 rfl (HA.out.below h5) sa.ord)
  have HO2 := hide (fun w5 (h5 : Below w.heap.size w w5) => odd_q (some C) b cc b.length w5 rfl (HB.out.below h5) sb.ord)
  have HE := hide (show canSlideP (x : Int) (y : Int) a b = (((oddP a + oddP b) % 2 : Nat) == (gapP a / x + gapP a % x + gapP b / x + gapP b % x) % 2) by rw [can_other sa sb h0, ap_mod, Int.toNat_natCast])
  have hx0 : (x : Int) ≠ 0 := by omega
  have hx00 : ¬ x = 0 := by omega
  have o1 := odd_le a
  have o2 := odd_le b
  rw [HE.out]
  have ne1 : ((x : Int) == 1) = false := by simp; omega
  have ne2 : ((y : Int) == 1) = false := by simp; omega
  clear sa sb HE hla hlb ha hb h0
  generalize oddP a = oa at *
  generalize oddP b = ob at *
  generalize gapP a = ga at *
  generalize gapP b = gb at *
  have dv1 := Nat.div_le_self ga x
  have dv2 := Nat.mod_le ga x
  have dv3 := Nat.div_le_self gb x
  have dv4 := Nat.mod_le gb x
  have t1 : Int.tdiv (ga : Int) (x : Int) = ((ga / x : Nat) : Int) := rfl
  have t2 : Int.tmod (ga : Int) (x : Int) = ((ga % x : Nat) : Int) := rfl
  have t3 : Int.tdiv (gb : Int) (x : Int) = ((gb / x : Nat) : Int) := rfl
  have t4 : Int.tmod (gb : Int) (x : Int) = ((gb % x : Nat) : Int) := rfl
  have t1' : (ga : Int) / (x : Int) = ((ga / x : Nat) : Int) := rfl
  have t2' : (ga : Int) % (x : Int) = ((ga % x : Nat) : Int) := rfl
  have t3' : (gb : Int) / (x : Int) = ((gb / x : Nat) : Int) := rfl
  have t4' : (gb : Int) % (x : Int) = ((gb % x : Nat) : Int) := rfl
  generalize ga / x = d1 at *
  generalize ga % x = d2 at *
  generalize gb / x = d3 at *
  generalize gb % x = d4 at *
  have w1 : IntKind.i64.wrap (d1 : Int) = (d1 : Int) := IntWalk.i64_in _ (by omega)
  have w2 : IntKind.i64.wrap (d2 : Int) = (d2 : Int) := IntWalk.i64_in _ (by omega)
  have w3 : IntKind.i64.wrap (d3 : Int) = (d3 : Int) := IntWalk.i64_in _ (by omega)
  have w4 : IntKind.i64.wrap (d4 : Int) = (d4 : Int) := IntWalk.i64_in _ (by omega)
  have s1 : IntKind.i64.wrap ((d1 : Int) + (d2 : Int)) = ((d1 + d2 : Nat) : Int) := (IntWalk.i64_in _ (by omega)).trans (by omega)
  have s2 : IntKind.i64.wrap (((d1 + d2 : Nat) : Int) + (d3 : Int)) = ((d1 + d2 + d3 : Nat) : Int) := (IntWalk.i64_in _ (by omega)).trans (by omega)
  have s3 : IntKind.i64.wrap (((d1 + d2 + d3 : Nat) : Int) + (d4 : Int)) = ((d1 + d2 + d3 + d4 : Nat) : Int) := (IntWalk.i64_in _ (by omega)).trans (by omega)
  have s4 : IntKind.i64.wrap ((oa : Int) + (ob : Int)) = ((oa + ob : Nat) : Int) := (IntWalk.i64_in _ (by omega)).trans (by omega)
  have u1 : Int.tmod ((oa + ob : Nat) : Int) 2 = (((oa + ob) % 2 : Nat) : Int) := rfl
  have u2 : Int.tmod ((d1 + d2 + d3 + d4 : Nat) : Int) 2 = (((d1 + d2 + d3 + d4) % 2 : Nat) : Int) := rfl
  have u1' : ((oa + ob : Nat) : Int) % 2 = (((oa + ob) % 2 : Nat) : Int) := rfl
  have u2' : ((d1 + d2 + d3 + d4 : Nat) : Int) % 2 = (((d1 + d2 + d3 + d4) % 2 : Nat) : Int) := rfl
  have p1 : (oa + ob) % 2 < 2 := Nat.mod_lt _ (by omega)
  have p2 : (d1 + d2 + d3 + d4) % 2 < 2 := Nat.mod_lt _ (by omega)
  have HR := hide (show (((((oa + ob) % 2 : Nat) : Int)) == ((((d1 + d2 + d3 + d4) % 2 : Nat) : Int))) = ((oa + ob) % 2 == (d1 + d2 + d3 + d4) % 2) by rw [Bool.eq_iff_iff, beq_iff_eq, beq_iff_eq]; omega)
  generalize ((oa + ob) % 2 == (d1 + d2 + d3 + d4) % 2) = res at *
  generalize (oa + ob) % 2 = r1 at *
  generalize (d1 + d2 + d3 + d4) % 2 = r2 at *
  have v1 : IntKind.i64.wrap (r1 : Int) = (r1 : Int) := IntWalk.i64_in _ (by omega)
  have v2 : IntKind.i64.wrap (r2 : Int) = (r2 : Int) := IntWalk.i64_in _ (by omega)
  generalize oa + ob = oab at *
  generalize d1 + d2 + d3 + d4 = d1234 at *
  generalize d1 + d2 + d3 = d123 at *
  generalize d1 + d2 = d12 at *
  go_enter Try.func14, Try.ntmps14
  go_wp2_with fail
  refine (HV1.out _ (Below.refl _ _)).mono ?_
  rintro e wa ⟨rfl, e1⟩
  go_wp2_with fail
  refine (HV2.out _ e1).mono ?_
  rintro e wb ⟨rfl, e2⟩
  have e2 := below_then e1 e1.size e2
  go_wp2_with fail
  refine (HP1.out _ e2).mono ?_
  rintro e w' ⟨rfl, rfl⟩
  go_wp2_with fail
  refine (HP2.out _ e2).mono ?_
  rintro e w' ⟨rfl, rfl⟩
  go_wp2_with fail
  have E2 := hide e2
  clear e1
  refine wp_region_quiet_lit (by kernel_rfl) (by kernel_rfl) ?_
  repeat (quiet_step (fail))
  quiet_step ((go_at_call 26; exact Calls.quiet_of (HO1.out _ (below_drewN E2.out _))))
  repeat (quiet_step (fail))
  quiet_step ((go_at_call 26; exact Calls.quiet_of (HO2.out _ (below_drewN E2.out _))))
  repeat (quiet_step (fail))
  refine wpQuiet_nil ?_
  intro _ hw'
  obtain ⟨nq, hw''⟩ := hw'
  subst hw''
  go_wp2_with fail
  go_ret
  exact ⟨by rw [← HR.out]; rfl, below_drewN E2.out _⟩

theorem slide_some {bc br : Int} {A : Option Addr} {a : List Int} {w : World} (s : SlideIs bc br a) (h : Row w A (ints a)) : ∃ ad, A = some ad := by
  obtain ⟨b1, b2, b3, b4⟩ := id s.1
  have m1 := (mul_bd b1 b2 b3 b4).1
  have := s.2.2.1
  obtain ⟨ad, e, _⟩ := h.int (k := 0) (by omega)
  exact ⟨ad, e⟩
set_option maxHeartbeats 1000000 in
theorem specCanSlide_c (bc br : Int) (A C : Option Addr) (ca cc : Nat) (a b : List Int) (w : World) (ha : Row w A (ints a)) (hb : Row w C (ints b)) (h1 : a.length ≤ ca) (h2 : ca ≤ maxLen) (h3 : b.length ≤ cc) (h4 : cc ≤ maxLen) :
    Calls Try.prog 14 #[.int .i64 bc, .int .i64 br, .slice A a.length ca, .slice C b.length cc] w (Plain (.bool (canSlideP bc br a b)) w) := by
  have HA := hide ha
  have HB := hide hb
  by_cases sa : SlideIs bc br a
  · by_cases sb : SlideIs bc br b
    · obtain ⟨A', rfl⟩ := slide_some sa ha
      obtain ⟨C', rfl⟩ := slide_some sb hb
      by_cases h0 : bc = 1 ∨ br = 1
      · exact specCan_row bc br A' C' ca cc a b w ha hb h1 h2 h3 h4 sa sb h0
      · obtain ⟨b1, b2, b3, b4⟩ := id sa.1
        obtain ⟨x, rfl⟩ := Int.eq_ofNat_of_zero_le (show 0 ≤ bc by omega)
        obtain ⟨y, rfl⟩ := Int.eq_ofNat_of_zero_le (show 0 ≤ br by omega)
        exact specCan_wide x y A' C' ca cc a b w ha hb h1 h2 h3 h4 sa sb h0
    · have HV1 := hide (fun w5 (h5 : Below w.heap.size w w5) => validSlide_yes rfl (HA.out.below h5) h1 h2 sa)
      have HV2 := hide (fun w5 (h5 : Below w.heap.size w w5) => validSlide_no rfl (HB.out.below h5) h3 h4 sb)
      have HE := hide (can_not (bc := bc) (br := br) (a := a) (b := b) (fun h => sb h.2))
      rw [HE.out]
      clear sa sb ha hb
      go_enter Try.func14, Try.ntmps14
      go_wp2_with fail
      refine (HV1.out _ (Below.refl _ _)).mono ?_
      rintro e w1 ⟨rfl, b1⟩
      go_wp2_with fail
      refine (HV2.out _ b1).mono ?_
      rintro e w2 ⟨rfl, b2⟩
      have b2 := below_then b1 b1.size b2
      go_wp2_with fail
      go_ret
      exact ⟨rfl, b2⟩
  · have HV1 := hide (fun w5 (h5 : Below w.heap.size w w5) => validSlide_no rfl (HA.out.below h5) h1 h2 sa)
    have HE := hide (can_not (bc := bc) (br := br) (a := a) (b := b) (fun h => sa h.1))
    rw [HE.out]
    clear sa ha hb
    go_enter Try.func14, Try.ntmps14
    go_wp2_with fail
    refine (HV1.out _ (Below.refl _ _)).mono ?_
    rintro e w1 ⟨rfl, b1⟩
    go_wp2_with fail
    go_ret
    exact ⟨rfl, b1⟩
end Go.Proofs.Ytnfcklclgcgloab


/-
  Drawn pairs of slides.
-/
import Derived.Test.YtnfcklclgcgloabDrawV
import Derived.Test.YtnfcklclgcgloabSlideA
import Derived.Test.YtnfcklclgcgloabSlideB
import Derived.Test.YtnfcklclgcgloabSpecD
namespace Go.Proofs.Ytnfcklclgcgloab
open Go.RowKit
set_option linter.unusedVariables false

theorem near_in {x y : Nat} (b1 : 1 ≤ (x : Int)) (b2 : (x : Int) ≤ 5) (b3 : 1 ≤ (y : Int)) (b4 : (y : Int) ≤ 5) {g z : Int} (hz : z ∈ reachP (x : Int) (y : Int) false [] g straight) : 0 ≤ z ∧ z < (x : Int) * (y : Int) := by
  unfold reachP at hz
  rw [List.mem_mergeSort] at hz
  exact cells_in b1 b2 b3 b4 z hz
def DrawnPair (w : World) (e : Ending) (w' : World) : Prop := ∃ (x y : Nat) (v u : Value) (a b : List Int), e = .returned (.tuple #[.int .i64 (x : Int), .int .i64 (y : Int), v, u]) ∧ x ≤ 5 ∧ y ≤ 3 ∧ w'.ownsRow w.heap.size 3 1 v a.length (ints a) ∧ a.length ≤ 8 ∧ w'.ownsRow w.heap.size 3 1 u b.length (ints b) ∧ b.length ≤ 8 ∧ Below w.heap.size w w'

set_option maxHeartbeats 2000000 in
set_option maxRecDepth 100000 in
theorem drawOddSwaps_c (A : Option Addr) (n c : Nat) (w : World) (h : Code w A n c) : Calls Try.prog 9 #[.slice A n c] w (DrawnPair w) := by
  have HC := hide (newReader_c A n c w h)
  clear h
  go_enter Try.func9, Try.ntmps9
  go_wp2_with fail
  refine HC.out.mono ?_
  rintro e w1 ⟨R, rfl, rd, hb⟩
  have hR : w.heap.size ≤ R := by obtain ⟨_, _, _, _, _, _, _, h, _⟩ := rd; exact h
  have zb := hb.size
  go_wp2_with fail
  refine (slideBoard_c R _ 0 w1 rd (by omega)).mono ?_
  rintro e w2 ⟨x, y, rfl, hx, hy, rd2, hg2⟩
  have hR2 := rd2.lt
  have z2 := hg2.size
  have hn15 : x * y ≤ 15 := Nat.mul_le_mul hx hy
  have emul : IntKind.i64.wrap ((x : Int) * (y : Int)) = ((x * y : Nat) : Int) := by rw [Int.natCast_mul]; exact IntWalk.i64_in _ (by rw [← Int.natCast_mul]; omega)
  obtain ⟨p, hp⟩ : ∃ p, x * y = p := ⟨_, rfl⟩
  rw [hp] at emul hn15
  have HP := hide hp
  clear hp
  obtain ⟨m, hm8, hsel⟩ : ∃ m : Int, (0 ≤ m ∧ m ≤ 8) ∧ (if (8 : Int) < (p : Int) then (8 : Int) else (p : Int)) = m := ⟨_, by split <;> omega, rfl⟩
  have HA := hide (someSlide_i m hm8.1 hm8.2 R _ _ w2 rd2 (by omega))
  have HB := hide (fun w5 (r5 : Reader w5 R w.heap.size (0 + 3 + 10)) => someSlide_i m hm8.1 hm8.2 R w.heap.size _ w5 r5 (by omega))
  have fin : ∀ (w3 w4 : World) (Aa Ab : Option Addr) (ca cb : Nat) (a b : List Int), w1.grownBy w4 (some R) → w4.ownsRow w2.heap.size 3 1 (.slice Aa a.length ca) a.length (ints a) → a.length ≤ 8 → w4.ownsRow w2.heap.size 3 1 (.slice Ab b.length cb) b.length (ints b) → b.length ≤ 8 → DrawnPair w (.returned (.tuple #[.int .i64 (x : Int), .int .i64 (y : Int), .slice Aa a.length ca, .slice Ab b.length cb])) w4 := fun w3 w4 Aa Ab ca cb a b g oa la ob lb => ⟨x, y, _, _, a, b, rfl, hx, hy, own_mono oa (by omega), la, own_mono ob (by omega), lb, below_reader hb hR g⟩
  have FIN := hide fin
  clear fin HC
  rcases Int.lt_or_le 8 (p : Int) with h8 | h8
  all_goals
    have hme := hsel
    first | rw [if_pos h8] at hme | rw [if_neg (by omega)] at hme
    subst hme
    go_wp2_with fail
    refine HA.out.mono ?_
    rintro e w3 ⟨va, a, rfl, oa, hla, rd3, hg3⟩
    have hla8 : a.length ≤ 8 := by omega
    clear hla
    have z3 := hg3.size
    have hg3 := hg2.trans hg3
    obtain ⟨Aa, ca, rfl, ha1, ha2, _⟩ := own_row oa
    go_wp2_with fail
    refine (HB.out _ rd3).mono ?_
    rintro e w4 ⟨vb, b, rfl, ob, hlb, rd4, hg4⟩
    have oa := own_aside oa hR2 hg4
    have ob := own_mono ob (base' := w2.heap.size) z3
    have z4 := hg4.size
    have hg4 := hg3.trans hg4
    obtain ⟨Ab, cb, rfl, hb1, hb2, _⟩ := own_row ob
    have hlb8 : b.length ≤ 8 := by omega
    clear hlb
    by_cases sl : SlideIs (x : Int) (y : Int) a
    · have HV := hide (validSlide_yes rfl (own_reads oa) ha1 ha2 sl)
      have OA := hide oa
      have OB := hide ob
      clear oa ob HA HB
      go_wp2_with fail
      refine HV.out.mono ?_
      rintro e w5 ⟨rfl, d5⟩
      have rd5 := rd4.then d5
      have oa5 := own_below OA.out d5
      have ob5 := own_below OB.out d5
      have hg5 := hg4.trans (below_by d5 (some R))
      go_wp2_with fail
      refine (pick_c 2 R _ _ _ rd5 (by omega) (by omega) (by omega)).mono ?_
      rintro e w6 ⟨z, rfl, _, _, rd6, hg6⟩
      have oa6 := own_aside oa5 hR2 hg6
      have ob6 := own_aside ob5 hR2 hg6
      have hg6 := hg5.trans hg6
      clear OA OB oa5 ob5 rd5 rd3 rd4 rd
      cases hz : (z == 0) with
      | false =>
        have O6 := hide oa6
        have P6 := hide ob6
        clear oa6 ob6
        go_wp2_with fail
        refine bodyPost_ret (results_tmp4 rfl _ _ _) rfl ?_
        exact FIN.out w6 w6 _ _ _ _ _ _ hg6 O6.out hla8 P6.out hlb8
      | true =>
        have O6 := hide oa6
        clear oa6 ob6
        go_wp2_with fail
        refine (pick_c 9 R _ _ _ rd6 (by omega) (by omega) (by omega)).mono ?_
        rintro e w7 ⟨k, rfl, hk, _, rd7, hg7⟩
        have hk9 := hk (by omega)
        have oa7 := own_aside O6.out hR2 hg7
        have hg7 := hg6.trans hg7
        clear O6 hk
        obtain ⟨k, rfl⟩ := Int.eq_ofNat_of_zero_le hk9.1
        obtain ⟨hB, h6, hlen, honce⟩ := id sl
        have hord := sl.ord
        obtain ⟨b1, b2, b3, b4⟩ := id hB
        have hxy : a.length = p := by have := hlen; rw [← Int.natCast_mul, HP.out] at this; omega
        have HRe := hide (fun (g : Nat) (hg : g < a.length) (O : Option Addr) (oc : Nat) w5 => specReach_c (x : Int) (y : Int) (g : Int) ⟨#[115, 116, 101, 112]⟩ O oc straight false [] w5 (by kernel_rfl) b1 b2 b3 b4 (by omega) (by rw [← hlen]; omega) (Row.empty _ _) (by simp [maxLen]))
        have HIN := hide (fun (g : Nat) (z : Int) (hz : z ∈ reachP (x : Int) (y : Int) false [] (g : Int) straight) => show 0 ≤ z ∧ z < (a.length : Int) from by rw [hlen]; exact near_in b1 b2 b3 b4 hz)
        have HLN := hide (fun (g : Nat) => reach_near_len x y g)
        have ORD := hide hord
        have ha0 : 0 < a.length := by
          have := Nat.mul_le_mul (show 1 ≤ x by omega) (show 1 ≤ y by omega)
          rw [HP.out] at this
          omega
        clear hxy hord sl hB b1 b2 b3 b4 hlen honce h6 HV
        go_wp2_with fail
        go_loopw [10, 11] (fun v i wr => ∃ (j : Nat) (bb : List Int), j ≤ k ∧ i = .int .i64 (j : Int) ∧ bb.length = a.length ∧ Hid (Ordr bb) ∧ wr.ownsRow w2.heap.size 3 1 v a.length (ints bb) ∧ wr.ownsRow w2.heap.size 3 1 (.slice Aa a.length ca) a.length (ints a) ∧ Reader wr R w.heap.size (0 + 3 + 10 + 10 + 2 + (k - j)) ∧ w1.grownBy wr (some R)) (fun _ i _ => (intOf i).toNat)
        case atStart => exact ⟨k, a, Nat.le_refl _, rfl, rfl, ORD, oa7, oa7, rd7.mono (by omega), hg7⟩
        case round =>
          obtain ⟨j, bb, hj, rfl, hbl, hord, hown, hoa, rdo, hg⟩ := hrel
          obtain ⟨wo, rfl⟩ : ∃ wo : World, wo = wr := ⟨_, rfl⟩
          have zo := hg.size
          have zw2 : w2.heap.size ≤ wo.heap.size := by
            obtain ⟨g, _, _, _, _, _, z1, z2⟩ := own_one hoa ha0
            omega
          obtain ⟨A0, c0, rfl, q1, q2, _⟩ := own_row hown
          by_cases hlt : 0 < j
          · have j0 : (0 : Int) < (j : Int) := by omega
            have hgl := gap_lt hord.out (by omega)
            have hmem := ord_has hord.out (x := 0) (Int.le_refl _) (by omega)
            have HPl := hide (fun (w5 : World) (h5 : Below wo.heap.size wo w5) => placeOf_c A0 bb c0 a.length 0 w5 hbl ((own_reads hown).below h5) (by unfold maxLen; omega) hmem)
            rw [show placeP bb 0 = gapP bb from rfl] at HPl
            have HRg := hide (HRe.out (gapP bb) (by omega))
            have HIg := hide (HIN.out (gapP bb))
            have HLg := HLN.out (gapP bb)
            have HSw := hide (fun (z : Nat) (hz : z < a.length) (w5 : World) (r5 : Row w5 A0 (ints bb)) => swapped_c A0 bb c0 a.length (gapP bb) z w5 hbl r5 (by omega) (by omega) hz)
            have HOw := hide (fun (z : Nat) (hz : z < a.length) => show (swapP bb (gapP bb) z).length = a.length ∧ Ordr (swapP bb (gapP bb) z) from ⟨by rw [swapP_len, hbl], ord_swap hord.out hgl (by omega)⟩)
            clear hmem
            generalize reachP (x : Int) (y : Int) false [] (gapP bb : Int) straight = NL at *
            have HOWN := hide hown
            have HOA := hide hoa
            clear hown hoa
            go_wp2_with fail
            refine (HPl.out _ (Below.refl _ _)).mono ?_
            rintro e w' ⟨rfl, rfl⟩
            go_wp2_with fail
            refine (HRg.out _ _ _).mono ?_
            rintro e w8 ⟨v8, rfl, o8, d8⟩
            obtain ⟨A8, c8, rfl, _⟩ := own_row o8
            have d8 := below_then ((Below.refl _ _).alloc (Nat.le_refl _) _) (by simp) d8
            have ow8 := own_below HOWN.out d8
            have oa8 := own_below HOA.out d8
            have rd8 := rdo.then d8
            have hg8 := hg.trans (below_by d8 (some R))
            have o8 := own_mono o8 (base' := w2.heap.size) (by simp; omega)
            have z8 := d8.size
            by_cases hnl : 0 < NL.length
            · have n0 : (0 : Int) < (NL.length : Int) := by omega
              have OW8 := hide ow8
              have OA8 := hide oa8
              have O8 := hide o8
              clear ow8 oa8 o8
              go_wp2_with fail
              refine (HPl.out _ d8).mono ?_
              rintro e w' ⟨rfl, rfl⟩
              go_wp2_with fail
              refine (pick_c (NL.length : Int) R _ _ _ rd8 (by omega) (by omega) (by omega)).mono ?_
              rintro e w9 ⟨q, rfl, hq, _, rd9, hg9⟩
              have hqq := hq (by omega)
              obtain ⟨q, rfl⟩ := Int.eq_ofNat_of_zero_le hqq.1
              have hqn : q < NL.length := by omega
              have ow9 := own_aside OW8.out hR2 hg9
              have oa9 := own_aside OA8.out hR2 hg9
              have o9 := own_aside O8.out hR2 hg9
              have z9 := hg9.size
              have hg9 := hg8.trans hg9
              obtain ⟨ad, rfl, hca⟩ := (own_reads o9).int hqn
              have hzin := HIg.out (NL[q]?.getD 0) (by rw [List.getElem?_eq_getElem hqn]; exact List.getElem_mem _)
              have q0 : (0 : Int) ≤ (q : Int) := by omega
              have q1' : (q : Int) < (NL.length : Int) := by omega
              generalize NL[q]?.getD 0 = zz at *
              obtain ⟨zn, rfl⟩ := Int.eq_ofNat_of_zero_le hzin.1
              have hzn : zn < a.length := by omega
              have RB := hide (own_reads ow9)
              have OA9 := hide oa9
              clear ow9 oa9 o9 OW8 OA8 O8 hq hqq
              go_wp2_with fail
              refine (HSw.out zn hzn _ RB.out).mono ?_
              rintro e w10 ⟨v10, rfl, o10, d10⟩
              have oa10 := own_below OA9.out d10
              have rd10 := rd9.then d10
              have hg10 := hg9.trans (below_by d10 (some R))
              have o10 := hide (own_mono o10 (base' := w2.heap.size) (by omega))
              obtain ⟨l10, r10⟩ := HOw.out zn hzn
              clear hca RB OA9
              go_wp2_with fail
              exact ⟨⟨j - 1, swapP bb (gapP bb) zn, by omega, by go_num, l10, r10, o10.out, oa10, rd10.mono (by omega), hg10⟩, by simp [intOf]; omega⟩
            · have n0 : NL.length = 0 := by omega
              obtain rfl : NL = [] := List.eq_nil_of_length_eq_zero n0
              have O8 := hide (show w8.ownsRow w2.heap.size 3 1 (.slice A0 a.length c0) a.length (ints bb) ∧ w8.ownsRow w2.heap.size 3 1 (.slice Aa a.length ca) a.length (ints a) from ⟨ow8, oa8⟩)
              clear ow8 oa8 o8
              go_wp2_with fail
              exact ⟨⟨j - 1, bb, by omega, by go_num, hbl, hord, O8.out.1, O8.out.2, rd8.mono (by omega), hg8⟩, by simp [intOf]; omega⟩
          · obtain rfl : j = 0 := by omega
            have O8 := hide (show wo.ownsRow w2.heap.size 3 1 (.slice A0 a.length c0) a.length (ints bb) ∧ wo.ownsRow w2.heap.size 3 1 (.slice Aa a.length ca) a.length (ints a) from ⟨hown, hoa⟩)
            clear hown hoa
            go_wp2_with fail
            refine bodyPost_ret (results_tmp4 rfl _ _ _) rfl ?_
            have := FIN.out wo wo Aa A0 ca c0 a bb hg O8.out.2 hla8 (by rw [hbl]; exact O8.out.1) (by omega)
            rw [hbl] at this
            exact this
    · have HV := hide (validSlide_no rfl (own_reads oa) ha1 ha2 sl)
      have OA := hide oa
      have OB := hide ob
      clear oa ob HA HB sl
      go_wp2_with fail
      refine HV.out.mono ?_
      rintro e w5 ⟨rfl, d5⟩
      have oa5 := hide (own_below OA.out d5)
      have ob5 := hide (own_below OB.out d5)
      have hg5 := hg4.trans (below_by d5 (some R))
      clear OA OB
      go_wp2_with fail
      refine bodyPost_ret (results_tmp4 rfl _ _ _) rfl ?_
      exact FIN.out w5 w5 _ _ _ _ _ _ hg5 oa5.out hla8 ob5.out hlb8

set_option maxHeartbeats 2000000 in
set_option maxRecDepth 100000 in
theorem drawCanSlide_c (A : Option Addr) (n c : Nat) (w : World) (h : Code w A n c) : Calls Try.prog 12 #[.slice A n c] w (DrawnPair w) := by
  have HC := hide (newReader_c A n c w h)
  clear h
  go_enter Try.func12, Try.ntmps12
  go_wp2_with fail
  refine HC.out.mono ?_
  rintro e w1 ⟨R, rfl, rd, hb⟩
  have hR : w.heap.size ≤ R := by obtain ⟨_, _, _, _, _, _, _, h, _⟩ := rd; exact h
  have zb := hb.size
  go_wp2_with fail
  refine (slideBoard_c R _ 0 w1 rd (by omega)).mono ?_
  rintro e w2 ⟨x, y, rfl, hx, hy, rd2, hg2⟩
  have hR2 := rd2.lt
  have z2 := hg2.size
  have hn15 : x * y ≤ 15 := Nat.mul_le_mul hx hy
  have emul : IntKind.i64.wrap ((x : Int) * (y : Int)) = ((x * y : Nat) : Int) := by rw [Int.natCast_mul]; exact IntWalk.i64_in _ (by rw [← Int.natCast_mul]; omega)
  obtain ⟨p, hp⟩ : ∃ p, x * y = p := ⟨_, rfl⟩
  rw [hp] at emul hn15
  have HP := hide hp
  clear hp
  obtain ⟨m, hm8, hsel⟩ : ∃ m : Int, (0 ≤ m ∧ m ≤ 8) ∧ (if (8 : Int) < (p : Int) then (8 : Int) else (p : Int)) = m := ⟨_, by split <;> omega, rfl⟩
  have HA := hide (someSlide_i m hm8.1 hm8.2 R _ _ w2 rd2 (by omega))
  have HB := hide (fun w5 (r5 : Reader w5 R w.heap.size (0 + 3 + 10)) => someSlide_i m hm8.1 hm8.2 R w.heap.size _ w5 r5 (by omega))
  have fin : ∀ (w3 w4 : World) (Aa Ab : Option Addr) (ca cb : Nat) (a b : List Int), w1.grownBy w4 (some R) → w4.ownsRow w2.heap.size 3 1 (.slice Aa a.length ca) a.length (ints a) → a.length ≤ 8 → w4.ownsRow w2.heap.size 3 1 (.slice Ab b.length cb) b.length (ints b) → b.length ≤ 8 → DrawnPair w (.returned (.tuple #[.int .i64 (x : Int), .int .i64 (y : Int), .slice Aa a.length ca, .slice Ab b.length cb])) w4 := fun w3 w4 Aa Ab ca cb a b g oa la ob lb => ⟨x, y, _, _, a, b, rfl, hx, hy, own_mono oa (by omega), la, own_mono ob (by omega), lb, below_reader hb hR g⟩
  have FIN := hide fin
  clear fin HC
  rcases Int.lt_or_le 8 (p : Int) with h8 | h8
  all_goals
    have hme := hsel
    first | rw [if_pos h8] at hme | rw [if_neg (by omega)] at hme
    subst hme
    go_wp2_with fail
    refine HA.out.mono ?_
    rintro e w3 ⟨va, a, rfl, oa, hla, rd3, hg3⟩
    have hla8 : a.length ≤ 8 := by omega
    clear hla
    have z3 := hg3.size
    have hg3 := hg2.trans hg3
    obtain ⟨Aa, ca, rfl, ha1, ha2, _⟩ := own_row oa
    go_wp2_with fail
    refine (HB.out _ rd3).mono ?_
    rintro e w4 ⟨vb, b, rfl, ob, hlb, rd4, hg4⟩
    have oa := own_aside oa hR2 hg4
    have ob := own_mono ob (base' := w2.heap.size) z3
    have z4 := hg4.size
    have hg4 := hg3.trans hg4
    obtain ⟨Ab, cb, rfl, hb1, hb2, _⟩ := own_row ob
    have hlb8 : b.length ≤ 8 := by omega
    clear hlb
    by_cases sl : SlideIs (x : Int) (y : Int) a
    · have HV := hide (validSlide_yes rfl (own_reads oa) ha1 ha2 sl)
      have OA := hide oa
      have OB := hide ob
      clear oa ob HA HB
      go_wp2_with fail
      refine HV.out.mono ?_
      rintro e w5 ⟨rfl, d5⟩
      have rd5 := rd4.then d5
      have oa5 := own_below OA.out d5
      have ob5 := own_below OB.out d5
      have hg5 := hg4.trans (below_by d5 (some R))
      go_wp2_with fail
      refine (pick_c 2 R _ _ _ rd5 (by omega) (by omega) (by omega)).mono ?_
      rintro e w6 ⟨z, rfl, _, _, rd6, hg6⟩
      have oa6 := own_aside oa5 hR2 hg6
      have ob6 := own_aside ob5 hR2 hg6
      have hg6 := hg5.trans hg6
      clear OA OB oa5 ob5 rd5 rd3 rd4 rd
      cases hz : (z == 0) with
      | false =>
        have O6 := hide oa6
        have P6 := hide ob6
        clear oa6 ob6
        go_wp2_with fail
        refine bodyPost_ret (results_tmp4 rfl _ _ _) rfl ?_
        exact FIN.out w6 w6 _ _ _ _ _ _ hg6 O6.out hla8 P6.out hlb8
      | true =>
        have O6 := hide oa6
        clear oa6 ob6
        go_wp2_with fail
        refine (pick_c 9 R _ _ _ rd6 (by omega) (by omega) (by omega)).mono ?_
        rintro e w7 ⟨k, rfl, hk, _, rd7, hg7⟩
        have hk9 := hk (by omega)
        have oa7 := own_aside O6.out hR2 hg7
        have hg7 := hg6.trans hg7
        clear O6 hk
        obtain ⟨k, rfl⟩ := Int.eq_ofNat_of_zero_le hk9.1
        obtain ⟨hB, h6, hlen, honce⟩ := id sl
        have hord := sl.ord
        obtain ⟨b1, b2, b3, b4⟩ := id hB
        have hxy : a.length = p := by have := hlen; rw [← Int.natCast_mul, HP.out] at this; omega
        have HRe := hide (fun (g : Nat) (hg : g < a.length) (O : Option Addr) (oc : Nat) w5 => specReach_c (x : Int) (y : Int) (g : Int) ⟨#[115, 116, 101, 112]⟩ O oc straight false [] w5 (by kernel_rfl) b1 b2 b3 b4 (by omega) (by rw [← hlen]; omega) (Row.empty _ _) (by simp [maxLen]))
        have HIN := hide (fun (g : Nat) (z : Int) (hz : z ∈ reachP (x : Int) (y : Int) false [] (g : Int) straight) => show 0 ≤ z ∧ z < (a.length : Int) from by rw [hlen]; exact near_in b1 b2 b3 b4 hz)
        have HLN := hide (fun (g : Nat) => reach_near_len x y g)
        have ORD := hide hord
        have ha0 : 0 < a.length := by
          have := Nat.mul_le_mul (show 1 ≤ x by omega) (show 1 ≤ y by omega)
          rw [HP.out] at this
          omega
        clear hxy hord sl hB b1 b2 b3 b4 hlen honce h6 HV
        go_wp2_with fail
        go_loopw [10, 11] (fun v i wr => ∃ (j : Nat) (bb : List Int), j ≤ k ∧ i = .int .i64 (j : Int) ∧ bb.length = a.length ∧ Hid (Ordr bb) ∧ wr.ownsRow w2.heap.size 3 1 v a.length (ints bb) ∧ wr.ownsRow w2.heap.size 3 1 (.slice Aa a.length ca) a.length (ints a) ∧ Reader wr R w.heap.size (0 + 3 + 10 + 10 + 2 + (k - j)) ∧ w1.grownBy wr (some R)) (fun _ i _ => (intOf i).toNat)
        case atStart => exact ⟨k, a, Nat.le_refl _, rfl, rfl, ORD, oa7, oa7, rd7.mono (by omega), hg7⟩
        case round =>
          obtain ⟨j, bb, hj, rfl, hbl, hord, hown, hoa, rdo, hg⟩ := hrel
          obtain ⟨wo, rfl⟩ : ∃ wo : World, wo = wr := ⟨_, rfl⟩
          have zo := hg.size
          have zw2 : w2.heap.size ≤ wo.heap.size := by
            obtain ⟨g, _, _, _, _, _, z1, z2⟩ := own_one hoa ha0
            omega
          obtain ⟨A0, c0, rfl, q1, q2, _⟩ := own_row hown
          by_cases hlt : 0 < j
          · have j0 : (0 : Int) < (j : Int) := by omega
            have hgl := gap_lt hord.out (by omega)
            have hmem := ord_has hord.out (x := 0) (Int.le_refl _) (by omega)
            have HPl := hide (fun (w5 : World) (h5 : Below wo.heap.size wo w5) => placeOf_c A0 bb c0 a.length 0 w5 hbl ((own_reads hown).below h5) (by unfold maxLen; omega) hmem)
            rw [show placeP bb 0 = gapP bb from rfl] at HPl
            have HRg := hide (HRe.out (gapP bb) (by omega))
            have HIg := hide (HIN.out (gapP bb))
            have HLg := HLN.out (gapP bb)
            have HSw := hide (fun (z : Nat) (hz : z < a.length) (w5 : World) (r5 : Row w5 A0 (ints bb)) => swapped_c A0 bb c0 a.length (gapP bb) z w5 hbl r5 (by omega) (by omega) hz)
            have HOw := hide (fun (z : Nat) (hz : z < a.length) => show (swapP bb (gapP bb) z).length = a.length ∧ Ordr (swapP bb (gapP bb) z) from ⟨by rw [swapP_len, hbl], ord_swap hord.out hgl (by omega)⟩)
            clear hmem
            generalize reachP (x : Int) (y : Int) false [] (gapP bb : Int) straight = NL at *
            have HOWN := hide hown
            have HOA := hide hoa
            clear hown hoa
            go_wp2_with fail
            refine (HPl.out _ (Below.refl _ _)).mono ?_
            rintro e w' ⟨rfl, rfl⟩
            go_wp2_with fail
            refine (HRg.out _ _ _).mono ?_
            rintro e w8 ⟨v8, rfl, o8, d8⟩
            obtain ⟨A8, c8, rfl, _⟩ := own_row o8
            have d8 := below_then ((Below.refl _ _).alloc (Nat.le_refl _) _) (by simp) d8
            have ow8 := own_below HOWN.out d8
            have oa8 := own_below HOA.out d8
            have rd8 := rdo.then d8
            have hg8 := hg.trans (below_by d8 (some R))
            have o8 := own_mono o8 (base' := w2.heap.size) (by simp; omega)
            have z8 := d8.size
            by_cases hnl : 0 < NL.length
            · have n0 : (0 : Int) < (NL.length : Int) := by omega
              have OW8 := hide ow8
              have OA8 := hide oa8
              have O8 := hide o8
              clear ow8 oa8 o8
              go_wp2_with fail
              refine (HPl.out _ d8).mono ?_
              rintro e w' ⟨rfl, rfl⟩
              go_wp2_with fail
              refine (pick_c (NL.length : Int) R _ _ _ rd8 (by omega) (by omega) (by omega)).mono ?_
              rintro e w9 ⟨q, rfl, hq, _, rd9, hg9⟩
              have hqq := hq (by omega)
              obtain ⟨q, rfl⟩ := Int.eq_ofNat_of_zero_le hqq.1
              have hqn : q < NL.length := by omega
              have ow9 := own_aside OW8.out hR2 hg9
              have oa9 := own_aside OA8.out hR2 hg9
              have o9 := own_aside O8.out hR2 hg9
              have z9 := hg9.size
              have hg9 := hg8.trans hg9
              obtain ⟨ad, rfl, hca⟩ := (own_reads o9).int hqn
              have hzin := HIg.out (NL[q]?.getD 0) (by rw [List.getElem?_eq_getElem hqn]; exact List.getElem_mem _)
              have q0 : (0 : Int) ≤ (q : Int) := by omega
              have q1' : (q : Int) < (NL.length : Int) := by omega
              generalize NL[q]?.getD 0 = zz at *
              obtain ⟨zn, rfl⟩ := Int.eq_ofNat_of_zero_le hzin.1
              have hzn : zn < a.length := by omega
              have RB := hide (own_reads ow9)
              have OA9 := hide oa9
              clear ow9 oa9 o9 OW8 OA8 O8 hq hqq
              go_wp2_with fail
              refine (HSw.out zn hzn _ RB.out).mono ?_
              rintro e w10 ⟨v10, rfl, o10, d10⟩
              have oa10 := own_below OA9.out d10
              have rd10 := rd9.then d10
              have hg10 := hg9.trans (below_by d10 (some R))
              have o10 := hide (own_mono o10 (base' := w2.heap.size) (by omega))
              obtain ⟨l10, r10⟩ := HOw.out zn hzn
              clear hca RB OA9
              go_wp2_with fail
              exact ⟨⟨j - 1, swapP bb (gapP bb) zn, by omega, by go_num, l10, r10, o10.out, oa10, rd10.mono (by omega), hg10⟩, by simp [intOf]; omega⟩
            · have n0 : NL.length = 0 := by omega
              obtain rfl : NL = [] := List.eq_nil_of_length_eq_zero n0
              have O8 := hide (show w8.ownsRow w2.heap.size 3 1 (.slice A0 a.length c0) a.length (ints bb) ∧ w8.ownsRow w2.heap.size 3 1 (.slice Aa a.length ca) a.length (ints a) from ⟨ow8, oa8⟩)
              clear ow8 oa8 o8
              go_wp2_with fail
              exact ⟨⟨j - 1, bb, by omega, by go_num, hbl, hord, O8.out.1, O8.out.2, rd8.mono (by omega), hg8⟩, by simp [intOf]; omega⟩
          · obtain rfl : j = 0 := by omega
            have O8 := hide (show wo.ownsRow w2.heap.size 3 1 (.slice A0 a.length c0) a.length (ints bb) ∧ wo.ownsRow w2.heap.size 3 1 (.slice Aa a.length ca) a.length (ints a) from ⟨hown, hoa⟩)
            clear hown hoa
            go_wp2_with fail
            refine bodyPost_ret (results_tmp4 rfl _ _ _) rfl ?_
            have := FIN.out wo wo Aa A0 ca c0 a bb hg O8.out.2 hla8 (by rw [hbl]; exact O8.out.1) (by omega)
            rw [hbl] at this
            exact this
    · have HV := hide (validSlide_no rfl (own_reads oa) ha1 ha2 sl)
      have OA := hide oa
      have OB := hide ob
      clear oa ob HA HB sl
      go_wp2_with fail
      refine HV.out.mono ?_
      rintro e w5 ⟨rfl, d5⟩
      have oa5 := hide (own_below OA.out d5)
      have ob5 := hide (own_below OB.out d5)
      have hg5 := hg4.trans (below_by d5 (some R))
      clear OA OB
      go_wp2_with fail
      refine bodyPost_ret (results_tmp4 rfl _ _ _) rfl ?_
      exact FIN.out w5 w5 _ _ _ _ _ _ hg5 oa5.out hla8 ob5.out hlb8
end Go.Proofs.Ytnfcklclgcgloab

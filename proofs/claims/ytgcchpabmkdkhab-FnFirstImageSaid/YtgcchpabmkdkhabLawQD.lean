
/-
  The walk of the law FnFirstImage.
-/
import Derived.Test.YtgcchpabmkdkhabFirstG
import Derived.Test.YtgcchpabmkdkhabPFirstC
import Derived.Test.YtgcchpabmkdkhabDrawI
import Derived.Test.YtgcchpabmkdkhabCodeWords
import Derived.Test.YtgcchpabmkdkhabSeatB
import Derived.Test.YtgcchpabmkdkhabLawWQ
import Derived.Test.YtgcchpabmkdkhabLawQC
namespace Go.Proofs.Ytgcchpabmkdkhab
open Go.RowKit
set_option linter.unusedVariables false

theorem equalInts_t (A C : Option Addr) (n m ca cc : Nat) (xs ys : List Int) (w : World) (hx : xs.length = n) (hy : ys.length = m) (ha : Row w A (ints xs)) (hc : Row w C (ints ys)) (hn : xs.length ≤ maxLen) (he : xs = ys) :
    Calls Try.prog 8 #[.slice A n ca, .slice C m cc] w (Plain (.bool true) w) := by
  subst hx hy he
  have := equalInts_c A C xs xs ca cc w ha hc hn hn
  rwa [decide_eq_true rfl] at this
set_option maxHeartbeats 1000000 in
set_option maxRecDepth 100000 in
theorem firstImage_w (A : Option Addr) (n c : Nat) (w : World) (h : Code w A n c) : Calls Try.prog 3 #[.slice A n c] w (Plain (.bool true) w) := by
  by_cases hl : 1048576 < (n : Int)
  · go_enter Try.func3, Try.ntmps3
    go_wp2
    go_ret
    exact ⟨rfl, Below.refl _ _⟩
  · have HC := hide (drawFirstImage_c A n c w h)
    clear h
    go_enter Try.func3, Try.ntmps3
    go_wp2_with fail
    refine HC.out.mono ?_
    rintro e w1 ⟨v, l, rfl, o1, hl6, b1⟩
    obtain ⟨A1, c1, rfl, n1, m1, _⟩ := own_row o1
    have HS := hide (fun (w5 : World) (h5 : Row w5 A1 (ints l)) => specFirstImage_c A1 c1 l w5 h5 (by omega) n1 m1)
    have HI := hide (fun (w5 : World) (h5 : Row w5 A1 (ints l)) => implFirstImage_c A1 c1 l w5 h5 (by omega))
    have HR := hide (fun (w5 : World) (b5 : Below w1.heap.size w1 w5) => (own_reads o1).below b5)
    clear m1 o1
    by_cases hok : ImgOk l
    · obtain ⟨g1, g2, g3, g4⟩ := img_more hok
      have hfl := firstP_len hok
      have hl1 := hok.1.1
      have HIF := hide (fun (A' : Option Addr) (c' : Nat) (w5 : World) (h5 : Row w5 A' (ints (firstP l))) => implFirstImage_c A' c' (firstP l) w5 h5 (by omega))
      have HIB := hide (fun (A' : Option Addr) (c' : Nat) (w5 : World) (h5 : Row w5 A' (ints l.reverse)) => implFirstImage_c A' c' l.reverse w5 h5 (by rw [List.length_reverse]; omega))
      rw [g1] at HIF
      rw [g3, List.length_reverse] at HIB
      have HB := hide (fun (w5 : World) (h5 : Row w5 A1 (ints l)) => backwards_c A1 c1 l w5 h5 (by omega))
      have HLR := hide (fun (A' : Option Addr) (c' : Nat) (w5 : World) (h5 : Row w5 A1 (ints l)) (h6 : Row w5 A' (ints (firstP l))) => lessRow_c A1 A' l (firstP l) c1 c' w5 h5 h6 (by omega) hfl.symm)
      rw [g2] at HLR
      have HD := hide (fun (A' : Option Addr) (c' : Nat) (w5 : World) (h5 : Row w5 A' (ints (firstP l))) (h6 : (firstP l).length ≤ c') (h7 : c' ≤ maxLen) => different_c A' c' (firstP l) w5 h5 (by omega) h6 h7 (fun i hi => (g4.2 i hi).2))
      have HFL := hide hfl
      have HFM := hide (show (firstP l).length ≤ maxLen by rw [hfl]; simp [maxLen]; omega)
      rw [hfl] at HI HIF HIB HLR HD
      clear hok g1 g2 g3 g4 hfl
      generalize firstP l = F at *
      have hz0 : ((l.length : Int) == 0) = false := by rw [beq_eq_false_iff_ne]; omega
      have hzz : ((l.length : Int) == (l.length : Int)) = true := by simp
      go_wp2_with fail
      refine (HI.out _ (HR.out _ (Below.refl _ _))).mono ?_
      rintro e w2 ⟨v2, rfl, o2, b2⟩
      obtain ⟨A2, c2, rfl, n2, m2, _⟩ := own_row o2
      have R2 := hide (fun (w5 : World) (b5 : Below w2.heap.size w2 w5) => (own_reads o2).below b5)
      have HD2 := hide (fun (w5 : World) (b5 : Below w2.heap.size w2 w5) => HD.out A2 c2 w5 ((own_reads o2).below b5) n2 m2)
      have r2 := HR.out _ b2
      clear m2 n2 o2
      go_wp2_with fail
      refine (HS.out _ r2).mono ?_
      rintro e w3 ⟨A3, c3, rfl, r3, _, b3⟩
      rw [HFL.out]
      have B23 := hide b3
      have b13 := below_then b2 b2.size b3
      clear r2 b3
      go_wp2_with fail
      refine (equalInts_t A2 A3 l.length l.length c2 c3 F F w3 HFL.out HFL.out (R2.out _ B23.out) r3 HFM.out rfl).mono ?_
      rintro e w4 ⟨rfl, b4⟩
      have B24 := hide (below_then B23.out B23.out.size b4)
      have b14 := below_then b13 b13.size b4
      clear r3 b4 b13
      go_wp2_with fail
      refine (HIF.out A2 c2 w4 (R2.out _ B24.out)).mono ?_
      rintro e w5 ⟨v5, rfl, o5, b5⟩
      obtain ⟨A5, c5, rfl, _⟩ := own_row o5
      have B25 := hide (below_then B24.out B24.out.size b5)
      have b15 := below_then b14 b14.size b5
      have r5 := own_reads o5
      clear o5 b5 b14
      go_wp2_with fail
      refine (equalInts_t A5 A2 l.length l.length c5 c2 F F w5 HFL.out HFL.out r5 (R2.out _ B25.out) HFM.out rfl).mono ?_
      rintro e w6 ⟨rfl, b6⟩
      have B26 := hide (below_then B25.out B25.out.size b6)
      have b16 := below_then b15 b15.size b6
      have r6 := HR.out _ b16
      clear r5 b6 b15
      go_wp2_with fail
      refine (HLR.out A2 c2 w6 r6 (R2.out _ B26.out)).mono ?_
      rintro e w7 ⟨rfl, b7⟩
      have B27 := hide (below_then B26.out B26.out.size b7)
      have b17 := below_then b16 b16.size b7
      have r7 := HR.out _ b17
      clear r6 b7 b16
      go_wp2_with fail
      refine (HB.out w7 r7).mono ?_
      rintro e w8 ⟨v8, rfl, o8, b8⟩
      obtain ⟨A8, c8, rfl, _⟩ := own_row o8
      have B28 := hide (below_then B27.out B27.out.size b8)
      have b18 := below_then b17 b17.size b8
      have r8 := own_reads o8
      clear o8 b8 b17 r7
      go_wp2_with fail
      refine (HIB.out A8 c8 w8 r8).mono ?_
      rintro e w9 ⟨v9, rfl, o9, b9⟩
      obtain ⟨A9, c9, rfl, _⟩ := own_row o9
      have B29 := hide (below_then B28.out B28.out.size b9)
      have b19 := below_then b18 b18.size b9
      have r9 := own_reads o9
      clear o9 b9 b18 r8
      go_wp2_with fail
      refine (equalInts_t A9 A2 l.length l.length c9 c2 F F w9 HFL.out HFL.out r9 (R2.out _ B29.out) HFM.out rfl).mono ?_
      rintro e w10 ⟨rfl, b10⟩
      have B210 := hide (below_then B29.out B29.out.size b10)
      have b110 := below_then b19 b19.size b10
      clear r9 b10 b19
      go_wp2_with fail
      refine (HD2.out w10 B210.out).mono ?_
      rintro e w11 ⟨rfl, b11⟩
      have BW := hide (below_then b1 b1.size (below_then b110 b110.size b11))
      clear b11 b110
      go_wp2_with fail
      go_ret
      exact ⟨rfl, BW.out⟩
    · have hf0 : firstP l = [] := by unfold firstP; rw [if_neg hok]
      rw [hf0] at HS HI
      clear hok hf0
      go_wp2_with fail
      refine (HI.out _ (HR.out _ (Below.refl _ _))).mono ?_
      rintro e w2 ⟨v2, rfl, o2, b2⟩
      obtain ⟨A2, c2, rfl, _⟩ := own_row o2
      have r2 := HR.out _ b2
      clear o2
      go_wp2_with fail
      refine (HS.out _ r2).mono ?_
      rintro e w3 ⟨A3, c3, rfl, r3, _, b3⟩
      have b13 := below_then b2 b2.size b3
      clear r2 b3
      go_wp2_with fail
      refine (equalInts_t A2 A3 0 0 c2 c3 [] [] w3 rfl rfl (Row.empty _ _) (Row.empty _ _) (by simp) rfl).mono ?_
      rintro e w4 ⟨rfl, b4⟩
      have b14 := below_then b13 b13.size b4
      have r4 := HR.out _ b14
      clear r3 b4 b13
      go_wp2_with fail
      refine (HS.out _ r4).mono ?_
      rintro e w5 ⟨A5, c5, rfl, r5, _, b5⟩
      have b15 := below_then b14 b14.size b5
      clear r4 b5 b14 r5
      go_wp2_with fail
      refine (equalInts_t A2 A5 0 0 c2 c5 [] [] w5 rfl rfl (Row.empty _ _) (Row.empty _ _) (by simp) rfl).mono ?_
      rintro e w6 ⟨rfl, b6⟩
      have BW := hide (below_then b1 b1.size (below_then b15 b15.size b6))
      clear b6 b15
      go_wp2_with fail
      go_ret
      exact ⟨rfl, BW.out⟩
end Go.Proofs.Ytgcchpabmkdkhab

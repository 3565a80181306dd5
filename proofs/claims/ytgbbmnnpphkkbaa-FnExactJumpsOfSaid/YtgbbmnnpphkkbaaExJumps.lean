
/-
  The walk of the law FnExactJumpsOf.
-/
import Derived.Test.YtgbbmnnpphkkbaaPPegH
namespace Go.Proofs.Ytgbbmnnpphkkbaa
open Go.RowKit
set_option linter.unusedVariables false

set_option maxHeartbeats 2000000 in
set_option maxRecDepth 100000 in
theorem exactJumpsOf_w (a b c : Int) (w : World) : Calls Try.prog 3 #[.int .i64 a, .int .i64 b, .int .i64 c] w (Plain (.bool true) w) := by
  have HS := hide (specJumpsOf_c a b c w)
  have HI := hide (fun w5 => implJumpsOf_c a b c w5)
  obtain ⟨hL, hx0⟩ := jumpV_bd a b c
  have hx : ∀ x ∈ jumpV a b c, x.length ≤ 6 := fun x h => by rw [hx0 x h]; omega
  clear hx0
  generalize jumpV a b c = L at *
  have HX := hide hx
  have hsum : sumLen L ≤ L.length * 6 := sumLen_le hx
  have HEQ := hide (fun A C vs us B B' ca cc w5 h1 h2 h3 h4 => eqIntSS_q A C vs us L B B' ca cc w5 h1 h2 h3 h4 (by omega) (fun x hx' => by have := hx x hx'; omega))
  clear hx
  go_enter Try.func3, Try.ntmps3
  go_wp2_with fail
  refine HS.out.mono ?_
  rintro e w1 ⟨v0, vs0, rfl, own0, rd0, b1⟩
  have hl0 : vs0.length = L.length := rd0.1
  rw [hl0] at own0
  obtain ⟨A0, c0, rfl, _⟩ := own_row own0
  have OLD := hide (fun (w5 : World) (b5 : Below w1.heap.size w1 w5) => show Row w5 A0 vs0 ∧ Reads w5 w.heap.size vs0 L from ⟨own_reads (own_below own0 b5), rd0.below b5⟩)
  clear own0 rd0
  go_wp2_with fail
  refine (HI.out w1).mono ?_
  rintro e w2 ⟨v2, vs2, rfl, own2, rs2, ap2, b2⟩
  have hl2 : vs2.length = L.length := rs2.1
  rw [hl2] at own2
  obtain ⟨A2, c2, rfl, _⟩ := own_row own2
  have HE2 := hide (HEQ.out A2 A0 vs2 vs0 w1.heap.size w.heap.size c2 c0 w2 (own_reads own2) (OLD.out w2 b2).1 rs2.reads (OLD.out w2 b2).2)
  have HM := hide (fun m => markIntSS_c A2 c2 vs2 L w1.heap.size (w2.drewN m) (by rw [hl2]; exact own_mono (show (w2.drewN m).ownsRow w1.heap.size 27 1 (.slice A2 L.length c2) L.length vs2 from own2) (Nat.zero_le _)) (show Rows1 w1.heap.size (w2.drewN m) vs2 L from rs2) ap2 (by omega) HX.out)
  rw [hl2] at HM
  have HA := hide (fun m w4 (h : Aside vs2 (w2.drewN m) w4) => show Below w1.heap.size (w2.drewN m) w4 ∧ w4.ownsRow w1.heap.size 27 1 (.slice A2 L.length c2) L.length vs2 from
    ⟨h.below (L := L) (D := w1.heap.size) rs2 b2.size, own_same own2 fun g eg => by
      obtain ⟨cur, hc⟩ := own_type own2 eg
      exact h.2.2.2.2 g (own2.lt g eg).2 fun u hu e => by
        obtain ⟨x, A', c', _, ho⟩ := rs2.mem u hu
        obtain ⟨cur', hc'⟩ := own_type ho e
        rw [hc] at hc'
        simp at hc'⟩)
  have bw2 := below_then b1 b1.size b2
  have B2 := hide b2
  clear own2 rs2 ap2 b2
  go_wp2_with fail
  refine HE2.out.mono ?_
  rintro e w3 ⟨rfl, m3, rfl⟩
  go_wp2_with fail
  refine (HM.out m3).mono ?_
  rintro e w4 ⟨rfl, rs4, as4⟩
  obtain ⟨b34, own4⟩ := HA.out m3 w4 as4
  have b14 : Below w1.heap.size w1 w4 := (below_drewN B2.out m3).trans b34
  have bw4 := below_then b1 b1.size b14
  have HH := hide (fun w5 (b5 : Below w4.heap.size w4 w5) => heldIntSS_c A2 c2 vs2 L w1.heap.size w5 (own_reads (own_below own4 b5)) (rs4.below b5) (by omega) HX.out)
  have hs0 : ¬ ((1 : Int) + (sumLen L : Int) < 0) := by omega
  have hs1 : ((1 : Int) + (sumLen L : Int) != 1 + (sumLen L : Int)) = false := by simp
  have B14 := hide b14
  generalize (1 : Int) + (sumLen L : Int) = tot at *
  clear own4 rs4 as4 b34 b14
  go_wp2_with fail
  refine (HH.out w4 (Below.refl _ _)).mono ?_
  rintro e w5 ⟨rfl, b5⟩
  have bw5 := below_then bw4 bw4.size b5
  have B15 := hide (below_then B14.out B14.out.size b5)
  have B45 := hide b5
  clear b5
  go_wp2_with fail
  refine (HI.out w5).mono ?_
  rintro e w6 ⟨v6, vs6, rfl, own6, rs6, ap6, b6⟩
  have hl6 : vs6.length = L.length := rs6.1
  rw [hl6] at own6
  obtain ⟨A6, c6, rfl, _⟩ := own_row own6
  have O6 := OLD.out w6 (below_then B15.out B15.out.size b6)
  have HE6 := hide (HEQ.out A6 A0 vs6 vs0 w5.heap.size w.heap.size c6 c0 w6 (own_reads own6) O6.1 rs6.reads O6.2)
  have bw6 := below_then bw5 bw5.size b6
  have B46 := hide (below_then B45.out B45.out.size b6)
  clear own6 rs6 ap6 b6 O6
  go_wp2_with fail
  refine HE6.out.mono ?_
  rintro e w7 ⟨rfl, m7, rfl⟩
  have bw7 := below_drewN bw6 m7
  go_wp2_with fail
  refine (HH.out (w6.drewN m7) (below_drewN B46.out m7)).mono ?_
  rintro e w8 ⟨rfl, b8⟩
  have bw8 := below_then bw7 bw7.size b8
  go_wp2_with fail
  go_ret
  exact ⟨rfl, bw8⟩
end Go.Proofs.Ytgbbmnnpphkkbaa

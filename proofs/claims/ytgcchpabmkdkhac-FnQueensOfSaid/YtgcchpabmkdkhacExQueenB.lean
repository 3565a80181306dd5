
/-
  The walks of the laws FnExactQueensOf, FnExactEndsOf.
-/
import Derived.Test.YtgcchpabmkdkhacQueenM
import Derived.Test.YtgcchpabmkdkhacPEnds
namespace Go.Proofs.Ytgcchpabmkdkhac
open Go.RowKit
set_option linter.unusedVariables false

set_option maxHeartbeats 1000000 in
theorem exactEndsOf_w (n : Int) (A : Option Addr) (c : Nat) (l : List Int) (w : World) (hr : Row w A (ints l)) (hm : l.length ≤ maxLen) :
    Calls Try.prog 5 #[.int .i64 n, .slice A l.length c] w (Plain (.bool true) w) := by
  unfold maxLen at hm
  by_cases hl : 1048576 < (l.length : Int)
  · go_enter Try.func5, Try.ntmps5
    go_wp2
    go_ret
    exact ⟨rfl, Below.refl _ _⟩
  · have hl' : l.length ≤ 1048576 := by omega
    have HLM := hide (show l.length ≤ maxLen by unfold maxLen; omega)
    have HS := hide (fun (A : Option Addr) (c : Nat) (w5 : World) (h5 : Row w5 A (ints l)) (h6 : l.length ≤ c) (h7 : c ≤ maxLen) => specEndsOf_c n A c l w5 h5 hl' h6 h7)
    have HI := hide (fun (A : Option Addr) (c : Nat) (w5 : World) (h5 : Row w5 A (ints l)) => implEndsOf_c n A c l w5 h5 hl')
    generalize endsP n l = b at *
    go_enter Try.func5, Try.ntmps5
    go_wp2_with fail
    refine (toIntS_c _ l _ _ hr hl').mono ?_
    rintro e w1 ⟨v1, rfl, o1, b1⟩
    obtain ⟨A1, c1, rfl, k1, m1, _⟩ := own_row o1
    go_wp2_with fail
    refine (HS.out A1 c1 _ (own_reads o1) k1 m1).mono ?_
    rintro e w2 ⟨rfl, b2⟩
    have b2 := below_then b1 b1.size b2
    clear k1 m1
    go_wp2_with fail
    refine (toIntS_c _ l _ _ (hr.below b2) hl').mono ?_
    rintro e w3 ⟨v3, rfl, o3, b3⟩
    have b3 := below_then b2 b2.size b3
    obtain ⟨A3, c3, rfl, _⟩ := own_row o3
    go_wp2_with fail
    refine (HI.out A3 c3 _ (own_reads o3)).mono ?_
    rintro e w4 ⟨rfl, b4⟩
    have o3 := own_below o3 b4
    have b4 := below_then b3 b3.size b4
    have hbb : (b != b) = false := by simp
    go_wp2_with fail
    refine (toIntS_c _ l _ _ (hr.below b4) hl').mono ?_
    rintro e w6 ⟨v6, rfl, o6, b6⟩
    have o3 := own_below o3 b6
    have b6 := below_then b4 b4.size b6
    obtain ⟨A6, c6, rfl, _⟩ := own_row o6
    go_wp2_with fail
    refine (eqIntS_t _ _ _ _ _ _ l l _ rfl rfl (own_reads o3) (own_reads o6) HLM.out rfl).mono ?_
    rintro e w7 ⟨rfl, b7⟩
    have b7 := below_then b6 b6.size b7
    go_wp2_with fail
    go_ret
    exact ⟨rfl, b7⟩

theorem Rows1.reads {D : Nat} {W : World} {vs : List Value} {L : List (List Int)} (h : Rows1 D W vs L) : Reads W D vs L :=
  ⟨h.1, fun i hi => by
    obtain ⟨A, c, e, ho⟩ := h.2 i hi
    obtain ⟨A', c', he, n3, m3, r3, f3⟩ := own_row ho
    injection he with h1 h2 h3
    subst h1; subst h3
    exact ⟨A, c, e, r3, fun ad ea => by obtain ⟨g, rfl, hg, _⟩ := f3 ad ea; exact hg, n3, m3⟩⟩
theorem Rows1.below {D : Nat} {W W' : World} {vs : List Value} {L : List (List Int)} (h : Rows1 D W vs L) (hb : Below W.heap.size W W') : Rows1 D W' vs L :=
  h.same fun u hu g eg => by
    obtain ⟨x, A, c, _, ho⟩ := h.mem u hu
    exact hb.block g (ho.lt g eg).2
theorem Reads.lower {w w' : World} {B : Nat} {vs : List Value} {L : List (List Int)} (h : Reads w B vs L) (hb : Below w.heap.size w w') : Reads w' B vs L := h.below hb
/-- Rows from D on, and nothing else, have turned. -/
theorem Aside.below {vs : List Value} {w w' : World} {D : Nat} {L : List (List Int)} (h : Aside vs w w') (hrs : Rows1 D w vs L) (hD : D ≤ w.heap.size) : Below D w w' :=
  ⟨h.1, h.2.1, h.2.2.1, h.2.2.2.1, fun k hk => h.2.2.2.2 k (by omega) fun u hu e => by
    obtain ⟨x, A, c, _, ho⟩ := hrs.mem u hu
    have := (ho.lt k e).1
    omega⟩
theorem queensOfP_bd (n : Int) : (queensOfP n).length ≤ 46656 ∧ ∀ x ∈ queensOfP n, x.length ≤ 6 := by
  unfold queensOfP
  by_cases h : 1 ≤ n ∧ n ≤ 6
  · rw [if_pos h]
    have h6 : n.toNat ≤ 6 := by omega
    refine ⟨Nat.le_trans (queens_len _ _ _) (Nat.le_trans (Nat.pow_le_pow_left h6 _) (Nat.le_trans (Nat.pow_le_pow_right (n := 6) (by omega) h6) (by decide))), fun x hx => ?_⟩
    have := queens_rows _ _ _ x hx
    simp at this
    omega
  · rw [if_neg h]
    exact ⟨by simp, fun x hx => by cases hx⟩
set_option maxHeartbeats 4000000 in
theorem exactQueensOf_w (n : Int) (w : World) : Calls Try.prog 4 #[.int .i64 n] w (Plain (.bool true) w) := by
  have HS := hide (specQueensOf_c n w)
  have HI := hide (fun w5 => implQueensOf_c n w5)
  obtain ⟨hL, hx⟩ := queensOfP_bd n
  generalize queensOfP n = L at *
  have HX := hide hx
  have hsum : sumLen L ≤ L.length * 6 := sumLen_le hx
  have HEQ := hide (fun A C vs us B B' ca cc w5 h1 h2 h3 h4 => eqIntSS_q A C vs us L B B' ca cc w5 h1 h2 h3 h4 (by omega) (fun x hx' => by have := hx x hx'; omega))
  clear hx
  go_enter Try.func4, Try.ntmps4
  go_wp2_with fail
  refine HS.out.mono ?_
  rintro e w1 ⟨v0, vs0, rfl, own0, rd0, b1⟩
  have hl0 : vs0.length = L.length := rd0.1
  rw [hl0] at own0
  obtain ⟨A0, c0, rfl, _⟩ := own_row own0
  have OLD := hide (fun (w5 : World) (b5 : Below w1.heap.size w1 w5) => show Row w5 A0 vs0 ∧ Reads w5 w.heap.size vs0 L from ⟨own_reads (own_below own0 b5), rd0.below b5⟩)
  clear own0 rd0
  go_wp2_with fail
  refine (HI.out w1).mono ?_
  rintro e w2 ⟨v2, vs2, rfl, own2, rs2, ap2, b2⟩
  have hl2 : vs2.length = L.length := rs2.1
  rw [hl2] at own2
  obtain ⟨A2, c2, rfl, _⟩ := own_row own2
  have HE2 := hide (HEQ.out A2 A0 vs2 vs0 w1.heap.size w.heap.size c2 c0 w2 (own_reads own2) (OLD.out w2 b2).1 rs2.reads (OLD.out w2 b2).2)
  have HM := hide (fun m => markIntSS_c A2 c2 vs2 L w1.heap.size (w2.drewN m) (by rw [hl2]; exact own_mono (show (w2.drewN m).ownsRow w1.heap.size 27 1 (.slice A2 L.length c2) L.length vs2 from own2) (Nat.zero_le _)) (show Rows1 w1.heap.size (w2.drewN m) vs2 L from rs2) ap2 (by omega) HX.out)
  rw [hl2] at HM
  have HA := hide (fun m w4 (h : Aside vs2 (w2.drewN m) w4) => show Below w1.heap.size (w2.drewN m) w4 ∧ w4.ownsRow w1.heap.size 27 1 (.slice A2 L.length c2) L.length vs2 from
    ⟨h.below (L := L) (D := w1.heap.size) rs2 b2.size, own_same own2 fun g eg => by
      obtain ⟨cur, hc⟩ := own_type own2 eg
      exact h.2.2.2.2 g (own2.lt g eg).2 fun u hu e => by
        obtain ⟨x, A', c', _, ho⟩ := rs2.mem u hu
        obtain ⟨cur', hc'⟩ := own_type ho e
        rw [hc] at hc'
        simp at hc'⟩)
  have bw2 := below_then b1 b1.size b2
  have B2 := hide b2
  clear own2 rs2 ap2 b2
  go_wp2_with fail
  refine HE2.out.mono ?_
  rintro e w3 ⟨rfl, m3, rfl⟩
  go_wp2_with fail
  refine (HM.out m3).mono ?_
  rintro e w4 ⟨rfl, rs4, as4⟩
  obtain ⟨b34, own4⟩ := HA.out m3 w4 as4
  have b14 : Below w1.heap.size w1 w4 := (below_drewN B2.out m3).trans b34
  have bw4 := below_then b1 b1.size b14
  have HH := hide (fun w5 (b5 : Below w4.heap.size w4 w5) => heldIntSS_c A2 c2 vs2 L w1.heap.size w5 (own_reads (own_below own4 b5)) (rs4.below b5) (by omega) HX.out)
  have hs0 : ¬ ((1 : Int) + (sumLen L : Int) < 0) := by omega
  have hs1 : ((1 : Int) + (sumLen L : Int) != 1 + (sumLen L : Int)) = false := by simp
  have B14 := hide b14
  generalize (1 : Int) + (sumLen L : Int) = tot at *
  clear own4 rs4 as4 b34 b14
  go_wp2_with fail
  refine (HH.out w4 (Below.refl _ _)).mono ?_
  rintro e w5 ⟨rfl, b5⟩
  have bw5 := below_then bw4 bw4.size b5
  have B15 := hide (below_then B14.out B14.out.size b5)
  have B45 := hide b5
  clear b5
  go_wp2_with fail
  refine (HI.out w5).mono ?_
  rintro e w6 ⟨v6, vs6, rfl, own6, rs6, ap6, b6⟩
  have hl6 : vs6.length = L.length := rs6.1
  rw [hl6] at own6
  obtain ⟨A6, c6, rfl, _⟩ := own_row own6
  have O6 := OLD.out w6 (below_then B15.out B15.out.size b6)
  have HE6 := hide (HEQ.out A6 A0 vs6 vs0 w5.heap.size w.heap.size c6 c0 w6 (own_reads own6) O6.1 rs6.reads O6.2)
  have bw6 := below_then bw5 bw5.size b6
  have B46 := hide (below_then B45.out B45.out.size b6)
  clear own6 rs6 ap6 b6 O6
  go_wp2_with fail
  refine HE6.out.mono ?_
  rintro e w7 ⟨rfl, m7, rfl⟩
  have bw7 := below_drewN bw6 m7
  go_wp2_with fail
  refine (HH.out (w6.drewN m7) (below_drewN B46.out m7)).mono ?_
  rintro e w8 ⟨rfl, b8⟩
  have bw8 := below_then bw7 bw7.size b8
  go_wp2_with fail
  go_ret
  exact ⟨rfl, bw8⟩
end Go.Proofs.Ytgcchpabmkdkhac


/-
  The walk of the law FnEndsOf.
-/
import Derived.Test.YtgcchpabmkdkhadLawQA
namespace Go.Proofs.Ytgcchpabmkdkhad
open Go.RowKit
set_option linter.unusedVariables false

theorem Stand.snoc {n : Int} {l : List Int} (h : Stand n l) {c : Nat} (hc : (c : Int) < n) (hl : (l.length : Int) < n) : Stand n (l ++ [(c : Int)]) :=
  ⟨h.1, by simp; omega, fun i hi => by
    by_cases e : i < l.length
    · rw [List.getElem?_append_left e]; exact h.2.2 i e
    · have : i = l.length := by simp at hi; omega
      subst this
      simp; omega⟩
theorem aparts_snoc {l : List Int} {c : Int} (h : apartsTo l l.length) : apartsTo (l ++ [c]) (l ++ [c]).length ↔ apartP l c = true := by
  have h1 : (l ++ [c]).take l.length = l := by simp
  have h2 : (l ++ [c])[l.length]?.getD 0 = c := by simp
  constructor
  · intro ha
    have := ha l.length (by simp)
    rwa [h1, h2] at this
  · intro ha i hi
    by_cases e : i < l.length
    · rw [List.getElem?_append_left e, List.take_append_of_le_length (by omega)]; exact h i e
    · have : i = l.length := by simp at hi; omega
      subst this
      rwa [h1, h2]
theorem ends_snoc {n : Int} {l : List Int} (h : Can n l) {m : Nat} (hm : n.toNat - l.length = m + 1) {c : Nat} (hc : (c : Int) < n) : endsP n (l ++ [(c : Int)]) = if apartP l (c : Int) = true then ((queensP n.toNat m (l ++ [(c : Int)])).length : Int) else 0 := by
  have h1 := h.1.1
  unfold endsP
  rw [if_pos (h.1.snoc hc (by omega))]
  by_cases ha : apartP l (c : Int) = true
  · rw [if_pos ((aparts_snoc h.2).2 ha), if_pos ha]
    have : n.toNat - (l ++ [(c : Int)]).length = m := by simp; omega
    rw [this]
  · rw [if_neg (fun h' => ha ((aparts_snoc h.2).1 h')), if_neg ha]
theorem sum_ends {n : Int} {l : List Int} (h : Can n l) {m : Nat} (hm : n.toNat - l.length = m + 1) : ∀ c : Nat, (c : Int) ≤ n → sumE n l c = ((queensTo n.toNat m l c).length : Int)
  | 0, _ => by simp [sumE, queensTo]
  | c + 1, hc => by
    rw [sumE, sum_ends h hm c (by omega), ends_snoc h hm (by omega), queensTo_succ, List.length_append]
    by_cases ha : apartP l (c : Int) = true
    · rw [if_pos ha, if_pos ha]; push_cast; rfl
    · rw [if_neg ha, if_neg ha]; simp
theorem ends_can {n : Int} {l : List Int} (h : Can n l) : endsP n l = ((queensP n.toNat (n.toNat - l.length) l).length : Int) := by
  unfold endsP
  rw [if_pos h.1, if_pos h.2]
theorem ends_bd (n : Int) (l : List Int) : -1 ≤ endsP n l ∧ endsP n l ≤ 46656 := by
  unfold endsP
  by_cases hs : Stand n l
  · rw [if_pos hs]
    have h6 : n.toNat ≤ 6 := by have := hs.1; omega
    split
    · have := Nat.le_trans (queens_len n.toNat (n.toNat - l.length) l) (Nat.le_trans (Nat.pow_le_pow_left h6 _) (Nat.le_trans (Nat.pow_le_pow_right (n := 6) (by omega) (show n.toNat - l.length ≤ 6 by omega)) (show 6 ^ 6 ≤ 46656 by decide)))
      omega
    · omega
  · rw [if_neg hs]; omega

set_option maxHeartbeats 4000000 in
set_option maxRecDepth 100000 in
theorem endsOf_w (A : Option Addr) (n c : Nat) (w : World) (h : Code w A n c) : Calls Try.prog 3 #[.slice A n c] w (Plain (.bool true) w) := by
  by_cases hl : 1048576 < (n : Int)
  · go_enter Try.func3, Try.ntmps3
    go_wp2
    go_ret
    exact ⟨rfl, Below.refl _ _⟩
  · have HC := hide (drawEndsOf_c A n c w h)
    clear h
    go_enter Try.func3, Try.ntmps3
    go_wp2_with fail
    refine HC.out.mono ?_
    rintro e w1 ⟨k, v, l, rfl, ⟨k0, k7⟩, o1, hl7, b1⟩
    obtain ⟨A1, c1, rfl, n1, m1, _⟩ := own_row o1
    have HS := hide (fun (w5 : World) (h5 : Row w5 A1 (ints l)) => specEndsOf_c k A1 c1 l w5 h5 (by omega) n1 m1)
    have HI := hide (fun (w5 : World) (h5 : Row w5 A1 (ints l)) => implEndsOf_c k A1 c1 l w5 h5 (by omega))
    have HCS := hide (fun (w5 : World) (h5 : Row w5 A1 (ints l)) => implCanStand_c k A1 c1 l w5 h5 (by omega) n1 m1)
    have HR := hide (fun (w5 : World) (b5 : Below w1.heap.size w1 w5) => (own_reads o1).below b5)
    have hbd := ends_bd k l
    clear m1 o1
    by_cases hs : Stand k l
    · have hn0 : ¬ endsP k l < 0 := by
        unfold endsP
        rw [if_pos hs]
        split <;> omega
      by_cases ha : apartsTo l l.length
      · have hcan : Can k l := ⟨hs, ha⟩
        rw [decide_eq_true hcan] at HCS
        by_cases hlen : (l.length : Int) = k
        · have hv1 : endsP k l = 1 := by
            rw [ends_can hcan, show k.toNat - l.length = 0 by omega]; simp [queensP]
          rw [hv1] at HS HI
          clear hcan hs ha hbd hn0 hv1
          go_wp2_with fail
          refine (HI.out _ (HR.out _ (Below.refl _ _))).mono ?_
          rintro e w2 ⟨rfl, b2⟩
          have r2 := HR.out _ b2
          have bw2 := below_then b1 b1.size b2
          go_wp2_with fail
          refine (HS.out _ r2).mono ?_
          rintro e w3 ⟨rfl, b3⟩
          have b13 := below_then b2 b2.size b3
          have r3 := HR.out _ b13
          have bw3 := below_then b1 b1.size b13
          go_wp2_with fail
          refine (HCS.out _ r3).mono ?_
          rintro e w4 ⟨rfl, rfl⟩
          have hkl : ((l.length : Int) == k) = true := by rw [beq_iff_eq]; exact hlen
          clear r2 r3 b2 b3 b13
          go_wp2_with fail
          go_ret
          exact ⟨rfl, bw3⟩
        · obtain ⟨m, hm⟩ : ∃ m, k.toNat - l.length = m + 1 := ⟨k.toNat - l.length - 1, by have := hs.2.1; have := hs.1; omega⟩
          obtain ⟨kn, rfl⟩ := Int.eq_ofNat_of_zero_le k0
          have hk6 : kn ≤ 6 := by have := hs.1; omega
          have hl5 : l.length ≤ 5 := by have := hs.2.1; omega
          have HSUM := hide (show sumE (kn : Int) l kn = endsP (kn : Int) l by
            rw [sum_ends hcan hm kn (Int.le_refl _), ends_can hcan, hm]; rfl)
          have HSB := hide (fun (cc : Nat) (hc : cc ≤ kn) => show 0 ≤ sumE (kn : Int) l cc ∧ sumE (kn : Int) l cc ≤ 300000 by
            rw [sum_ends hcan hm cc (by omega)]
            have := flat_len (fun (c : Nat) => if apartP l (c : Int) then queensP kn m (l ++ [(c : Int)]) else []) (6 ^ 6) cc (fun c => by
              split
              · have h6 : m ≤ 6 := by have : (kn : Int).toNat = kn := rfl; omega
                exact Nat.le_trans (queens_len kn m _) (Nat.le_trans (Nat.pow_le_pow_left hk6 _) (Nat.pow_le_pow_right (n := 6) (by omega) h6))
              · simp)
            have h2 : cc * 6 ^ 6 ≤ 6 * 6 ^ 6 := Nat.mul_le_mul_right _ (by omega)
            have h3 : (queensTo (kn : Int).toNat m l cc).length ≤ cc * 6 ^ 6 := this
            omega)
          have HEB := hide (fun cc : Nat => ends_bd (kn : Int) (l ++ [(cc : Int)]))
          have HE := hide (fun (cc : Nat) (A' : Option Addr) (c' : Nat) (w5 : World) (h5 : Row w5 A' (ints (l ++ [(cc : Int)]))) => show Calls Try.prog 7 #[.int .i64 (kn : Int), .slice A' (l.length + 1) c'] w5 (Plain (.int .i64 (endsP (kn : Int) (l ++ [(cc : Int)]))) w5) by
            have := implEndsOf_c (kn : Int) A' c' (l ++ [(cc : Int)]) w5 h5 (by simp; omega)
            rwa [List.length_append] at this)
          have HS1 := hide (fun cc => show sumE (kn : Int) l (cc + 1) = sumE (kn : Int) l cc + endsP (kn : Int) (l ++ [(cc : Int)]) from rfl)
          have hkl : ((l.length : Int) == (kn : Int)) = false := by rw [beq_eq_false_iff_ne]; exact hlen
          clear hcan hs ha hm hlen
          generalize endsP (kn : Int) l = v at *
          have hvv : (v != v) = false := by simp
          go_wp2_with fail
          refine (HI.out _ (HR.out _ (Below.refl _ _))).mono ?_
          rintro e w2 ⟨rfl, b2⟩
          have r2 := HR.out _ b2
          go_wp2_with fail
          refine (HS.out _ r2).mono ?_
          rintro e w3 ⟨rfl, b3⟩
          have b13 := below_then b2 b2.size b3
          have r3 := HR.out _ b13
          go_wp2_with fail
          refine (HCS.out _ r3).mono ?_
          rintro e w4 ⟨rfl, rfl⟩
          clear r2 r3 b2 b3
          go_wp2_with fail
          go_loopw [6, 7] (fun s i wr => ∃ cc : Nat, cc ≤ kn ∧ i = .int .i64 (cc : Int) ∧ s = .int .i64 (sumE (kn : Int) l cc) ∧ Below w1.heap.size w1 wr) (fun _ i _ => kn - (intOf i).toNat)
          case atStart => exact ⟨0, Nat.zero_le _, rfl, rfl, b13⟩
          case round =>
            obtain ⟨cc, hcc, rfl, rfl, hb⟩ := hrel
            obtain ⟨wo, rfl⟩ : ∃ wo : World, wo = wr := ⟨_, rfl⟩
            by_cases hlt : cc < kn
            · obtain ⟨s0, s1⟩ := HSB.out cc hcc
              obtain ⟨e0, e1⟩ := HEB.out cc
              have HS2 := hide (HS1.out cc)
              have HEc := hide (fun A' c' w5 h5 => HE.out cc A' c' w5 h5)
              generalize sumE (kn : Int) l cc = s at *
              generalize endsP (kn : Int) (l ++ [(cc : Int)]) = en at *
              have rw_ := HR.out _ hb
              have oe := World.ownsRow_made (base := wo.heap.size) (e := 3) (size := 1) wo #[] 0 (Nat.le_refl _) (by simp [maxLen]) rfl
              have hbA := (Below.refl wo.heap.size wo).alloc (Nat.le_refl _) (.cells #[] 3)
              have hrA := rw_.below hbA
              go_wp2_with (first
                | (at_builtin; refine put_own rfl (.tmp 52) (.tmp 53) rfl Try.underlying23 elem_int' rfl oe rfl (m := l.length) (news := ints l) (by simp) hrA (one_ints _) (by omega) (by omega) hbA.size ?_
                   intro v2 w2' own2 hg2 ho2
                   have b2 := below_grown hbA hbA.size oe (Nat.le_refl _) hg2
                   have own2 : w2'.ownsRow wo.heap.size 3 1 v2 l.length (ints l) := by simpa using own2
                   have own2a := own2.alloc (.cells #[.int .i64 (cc : Int)] 3)
                   have b2a := b2.alloc b2.size (.cells #[.int .i64 (cc : Int)] 3))
                | (at_builtin; refine put_own rfl (.tmp 54) (.tmp 56) rfl Try.underlying23 elem_int' rfl own2a rfl (m := 1) (news := [.int .i64 (cc : Int)]) rfl (row_new _ _ _ rfl) (by simp [Value.oneCell']) (by omega) (by omega) b2a.size ?_
                   intro v3 w3' own3 hg3 ho3
                   have b3 := below_grown b2a b2a.size own2a (Nat.le_refl _) hg3
                   have own3 : w3'.ownsRow wo.heap.size 3 1 v3 (l.length + 1) (ints (l ++ [(cc : Int)])) := by simpa [ints] using own3
                   obtain ⟨A3, c3, rfl, n3, m3, r3, f3⟩ := own_row own3))
              refine (HEc.out A3 c3 w3' r3).mono ?_
              rintro e w5 ⟨rfl, b5⟩
              have B5 := hide (below_then hb hb.size (below_then b3 b3.size b5))
              clear own3 r3 oe hrA b5 own2 own2a
              go_wp2_with fail
              exact ⟨⟨cc + 1, hlt, rfl, by rw [HS2.out], B5.out⟩, by simp [intOf]; omega⟩
            · obtain rfl : cc = kn := by omega
              have hse : (sumE (cc : Int) l cc == v) = true := by rw [beq_iff_eq]; exact HSUM.out
              generalize sumE (cc : Int) l cc = s at *
              go_wp2_with fail
              go_ret
              exact ⟨rfl, below_then b1 b1.size hb⟩
      · have hv0 : endsP k l = 0 := by unfold endsP; rw [if_pos hs, if_neg ha]
        rw [hv0] at HS HI
        rw [decide_eq_false (fun h : Can k l => ha h.2)] at HCS
        clear hs ha hbd hn0 hv0
        go_wp2_with fail
        refine (HI.out _ (HR.out _ (Below.refl _ _))).mono ?_
        rintro e w2 ⟨rfl, b2⟩
        have r2 := HR.out _ b2
        go_wp2_with fail
        refine (HS.out _ r2).mono ?_
        rintro e w3 ⟨rfl, b3⟩
        have b13 := below_then b2 b2.size b3
        have r3 := HR.out _ b13
        have bw3 := below_then b1 b1.size b13
        go_wp2_with fail
        refine (HCS.out _ r3).mono ?_
        rintro e w4 ⟨rfl, rfl⟩
        clear r2 r3 b2 b3 b13
        go_wp2_with fail
        go_ret
        exact ⟨rfl, bw3⟩
    · have hv0 : endsP k l = -1 := by unfold endsP; rw [if_neg hs]
      rw [hv0] at HS HI
      clear hs hbd hv0
      go_wp2_with fail
      refine (HI.out _ (HR.out _ (Below.refl _ _))).mono ?_
      rintro e w2 ⟨rfl, b2⟩
      have r2 := HR.out _ b2
      go_wp2_with fail
      refine (HS.out _ r2).mono ?_
      rintro e w3 ⟨rfl, b3⟩
      have b13 := below_then b2 b2.size b3
      have r3 := HR.out _ b13
      go_wp2_with fail
      refine (HS.out _ r3).mono ?_
      rintro e w4 ⟨rfl, b4⟩
      have b14 := below_then b13 b13.size b4
      have bw4 := below_then b1 b1.size b14
      clear r2 r3 b2 b3 b13 b4 b14
      go_wp2_with fail
      go_ret
      exact ⟨rfl, bw4⟩
end Go.Proofs.Ytgcchpabmkdkhad

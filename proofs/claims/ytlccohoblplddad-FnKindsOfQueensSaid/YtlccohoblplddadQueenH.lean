
/-
  The model's queens: KindsOfQueens.
-/
import Derived.Test.YtlccohoblplddadQueenG
namespace Go.Proofs.Ytlccohoblplddad
open Go.RowKit
set_option linter.unusedVariables false

theorem bestTo_len {L : List (List Int)} {n : Nat} (h : ∀ x ∈ L, x.length = n) : ∀ k, k < L.length → (bestTo L k).length = n
  | 0, hk => by rw [bestTo, List.getElem?_eq_getElem hk]; exact h _ (List.getElem_mem hk)
  | k + 1, hk => by
    rw [bestTo]
    split
    · rw [List.getElem?_eq_getElem hk]; exact h _ (List.getElem_mem hk)
    · exact bestTo_len h k (by omega)
theorem firstP_len {l : List Int} (h : ImgOk l) : (firstP l).length = l.length := by
  unfold firstP
  rw [if_pos h]
  exact bestTo_len (imagesTo_all h.1.1 h.cols 4) 7 (by rw [imagesTo_len]; omega)
/-- How many of the first k come first of their images. -/
def kindsTo (L : List (List Int)) : Nat → Nat
  | 0 => 0
  | k + 1 => if lessP (firstP (L[k]?.getD [])) (L[k]?.getD []) then kindsTo L k else kindsTo L k + 1
def kindsP (n : Int) : Int := if 1 ≤ n ∧ n ≤ 6 then (kindsTo (queensP n.toNat n.toNat []) (queensP n.toNat n.toNat []).length : Int) else -1
theorem kindsTo_le (L : List (List Int)) : ∀ k, kindsTo L k ≤ k
  | 0 => Nat.le_refl _
  | k + 1 => by
    have := kindsTo_le L k
    rw [kindsTo]
    split <;> omega
theorem queens_ok : ∀ n : Fin 7, 1 ≤ n.val → (queensP n.val n.val []).all (fun x => decide (ImgOk x)) = true := by decide +kernel

set_option maxHeartbeats 2000000 in
set_option maxRecDepth 100000 in
theorem specKinds_c (n : Int) (w : World) : Calls Try.prog 21 #[.int .i64 n] w (Plain (.int .i64 (kindsP n)) w) := by
  by_cases h : 1 ≤ n ∧ n ≤ 6
  · have HR := hide (fun w5 => inRange_yes n 1 6 w5 h.1 h.2)
    obtain ⟨k, rfl⟩ := Int.eq_ofNat_of_zero_le (show 0 ≤ n by omega)
    have HL : Hid (kindsP (k : Int) = (kindsTo (queensP k k []) (queensP k k []).length : Int)) := by show _ = _; unfold kindsP; rw [if_pos h]; rfl
    have h1 : 1 ≤ k := by omega
    have h6 : k ≤ 6 := by omega
    have HQ := hide (fun (A : Option Addr) (c : Nat) (w5 : World) (f5 : From w.heap.size A) (b5 : w.heap.size ≤ w5.heap.size) (rm : Room 0 c) => specQueensFrom_c k h1 h6 k [] (by simp) (fun i hi => absurd hi (by simp)) w.heap.size A c w5 (Row.empty _ _) f5 b5 rm)
    have HOK := hide (fun (x : List Int) (hx : x ∈ queensP k k []) => show ImgOk x by
      have := queens_ok ⟨k, by omega⟩ h1
      rw [List.all_eq_true] at this
      exact of_decide_eq_true (this x hx))
    have HN : (queensP k k []).length ≤ 46656 := Nat.le_trans (queens_len k k []) (by
      have := Nat.le_trans (Nat.pow_le_pow_left h6 k) (Nat.pow_le_pow_right (n := 6) (by omega) h6)
      exact this)
    rw [HL.out]
    clear h
    obtain ⟨L, hL⟩ : ∃ L, queensP k k [] = L := ⟨_, rfl⟩
    rw [hL] at HQ HOK HN ⊢
    clear hL HL
    go_enter Try.func21, Try.ntmps21
    go_wp2_with fail
    refine (HR.out _).mono ?_
    rintro e w1 ⟨rfl, rfl⟩
    go_wp2_with fail
    refine (HQ.out (some ⟨w.heap.size, 0, none⟩) 0 _ (fun ad e => by injection e with e; subst e; exact Nat.le_refl _) (by simp) ⟨Nat.le_refl _, by simp⟩).mono ?_
    rintro e w2 ⟨v, vs, rfl, own, rd, b2⟩
    obtain ⟨Av, cv, rfl, _, _, rv, fv⟩ := own_row own
    have bw2 := below_then ((Below.refl w.heap.size w).alloc (Nat.le_refl _) (.cells #[] 3)) (by simp) b2
    have hvl : vs.length = L.length := rd.1
    have RDi := hide (fun (i : Nat) (hi : i < L.length) (wk : World) (bk : Below w2.heap.size w2 wk) => (rd.below bk).at_ (i := i) hi)
    have RVi := hide (fun (i : Nat) (hi : i < L.length) (wk : World) (bk : Below w2.heap.size w2 wk) => (rv.below bk).at_ (k := i) (by omega))
    rw [hvl]
    clear own rd rv fv b2 hvl
    go_wp2_with fail
    go_loopw [4, 5] (fun x i wr => ∃ q : Nat, q ≤ L.length ∧ x = .int .i64 (kindsTo L q : Int) ∧ i = .int .i64 (q : Int) ∧ Below w2.heap.size w2 wr) (fun _ i _ => L.length - (intOf i).toNat)
    case atStart => exact ⟨0, Nat.zero_le _, rfl, rfl, Below.refl _ _⟩
    case round =>
      obtain ⟨q, hq, rfl, rfl, bq⟩ := hrel
      obtain ⟨wq, rfl⟩ : ∃ wq : World, wq = wr := ⟨_, rfl⟩
      have hle := kindsTo_le L q
      by_cases hlt : q < L.length
      · obtain ⟨Aq, cq, eq, rq, _, rm⟩ := RDi.out q hlt wq bq
        obtain ⟨ad, rfl, hcq⟩ := RVi.out q hlt wq bq
        rw [eq] at hcq
        have HOKq := hide (HOK.out (L[q]?.getD []) (by rw [List.getElem?_eq_getElem hlt]; exact List.getElem_mem hlt))
        have HK := hide (show kindsTo L (q + 1) = if lessP (firstP (L[q]?.getD [])) (L[q]?.getD []) then kindsTo L q else kindsTo L q + 1 from rfl)
        have HQ2 := hide eq
        clear eq
        generalize L[q]?.getD [] = x at *
        obtain ⟨t, ht⟩ : ∃ t, kindsTo L q = t := ⟨_, rfl⟩
        rw [ht] at HK hle ⊢
        have hx6 : x.length ≤ 6 := HOKq.out.1.2
        have HF := hide (specFirstImage_c Aq cq x wq rq (by omega) rm.1 rm.2)
        have HFL := hide (firstP_len HOKq.out)
        have HLL := hide (fun (A' : Option Addr) (c' : Nat) (w5 : World) (h5 : Row w5 A' (ints (firstP x))) (h6 : Row w5 Aq (ints x)) => specLessList_c A' Aq (firstP x) x c' cq w5 h5 h6 (by rw [HFL.out]; omega) HFL.out)
        have q0 : (0 : Int) ≤ (q : Int) := by omega
        have q1 : (q : Int) < (L.length : Int) := by omega
        clear ht
        generalize firstP x = first at *
        cases hb : lessP first x with
        | true =>
          rw [hb] at HLL HK
          go_wp2_with fail
          refine HF.out.mono ?_
          rintro e w7 ⟨A7, c7, rfl, r7, _, b7⟩
          have b27 := below_then bq bq.size b7
          obtain ⟨ad', e', hcq7⟩ := RVi.out q hlt w7 b27
          injection e' with e'
          subst e'
          rw [HQ2.out] at hcq7
          have HL7 := hide (HLL.out A7 c7 w7 r7 (rq.below b7))
          clear hcq rq r7 hb
          go_wp2_with fail
          refine HL7.out.mono ?_
          rintro e w8 ⟨rfl, b8⟩
          have b28 := below_then b27 b27.size b8
          clear hcq7
          go_wp2_with fail
          go_round
          case rel => exact ⟨q + 1, hlt, by rw [HK.out]; rfl, rfl, b28⟩
          case measure => simp [intOf]; omega
        | false =>
          rw [hb] at HLL HK
          go_wp2_with fail
          refine HF.out.mono ?_
          rintro e w7 ⟨A7, c7, rfl, r7, _, b7⟩
          have b27 := below_then bq bq.size b7
          obtain ⟨ad', e', hcq7⟩ := RVi.out q hlt w7 b27
          injection e' with e'
          subst e'
          rw [HQ2.out] at hcq7
          have HL7 := hide (HLL.out A7 c7 w7 r7 (rq.below b7))
          clear hcq rq r7 hb
          go_wp2_with fail
          refine HL7.out.mono ?_
          rintro e w8 ⟨rfl, b8⟩
          have b28 := below_then b27 b27.size b8
          clear hcq7
          go_wp2_with fail
          go_round
          case rel => exact ⟨q + 1, hlt, by rw [HK.out]; rfl, rfl, b28⟩
          case measure => simp [intOf]; omega
      · have hqL : Hid (q = L.length) := hide (by omega)
        have B7 := below_then bw2 bw2.size bq
        go_wp2_with fail
        go_ret
        exact ⟨by rw [← hqL.out]; rfl, B7⟩
  · have HR := hide (fun w5 => inRange_no n 1 6 w5 h)
    have HL : Hid (kindsP n = -1) := by show _ = _; unfold kindsP; rw [if_neg h]
    rw [HL.out]
    clear h
    go_enter Try.func21, Try.ntmps21
    go_wp2_with fail
    refine (HR.out _).mono ?_
    rintro e w1 ⟨rfl, rfl⟩
    go_wp2_with fail
    go_ret
    exact ⟨rfl, Below.refl _ _⟩
end Go.Proofs.Ytlccohoblplddad


/-
  The walk of the law FnOtherSeats.
-/
import Derived.Test.YtlccohoblplddabFillA
import Derived.Test.YtlccohoblplddabSeatD
import Derived.Deep.RegionWith
namespace Go.Proofs.Ytlccohoblplddab
open Go.RowKit
set_option linter.unusedVariables false

theorem seats_others {l : List Int} (h : Seats l) : Seats (othersP l) := by
  refine ⟨by simpa [othersP] using h.1, fun i hi => ?_⟩
  have hi' : i < l.length := by simpa [othersP] using hi
  have := h.2 i hi'
  have hl : (othersP l).length = l.length := by simp [othersP]
  rw [hl, othersP, List.getElem?_map, List.getElem?_eq_getElem hi', Option.map_some, Option.getD_some]
  rw [List.getElem?_eq_getElem hi', Option.getD_some] at this
  omega
theorem others_twice (l : List Int) : othersP (othersP l) = l := by
  apply List.ext_getElem
  · simp [othersP]
  · intro i i1 i2
    simp only [othersP, List.getElem_map, List.length_map]
    omega
theorem pc_co : ∀ n : Fin 6, ∀ x : Fin 32, x.val < 2 ^ n.val → pc x.val + pc (2 ^ n.val - 1 - x.val) = n.val := by decide +kernel
theorem one_rook' (l : List Int) : rk (natsP l) 0 1 = ((natsP l).map pc).sum := rk_one (natsP l)
theorem sum_both (n : Nat) (h5 : n ≤ 5) : ∀ R : List Nat, (∀ x ∈ R, x < 2 ^ n) → (R.map pc).sum + (R.map (fun x => pc (2 ^ n - 1 - x))).sum = n * R.length
  | [], _ => by simp
  | x :: R, h => by
    have ih := sum_both n h5 R (fun y hy => h y (List.mem_cons_of_mem _ hy))
    have hx := h x List.mem_cons_self
    have := pc_co ⟨n, by omega⟩ ⟨x, Nat.lt_of_lt_of_le hx (pow32 h5)⟩ hx
    simp only at this
    simp only [List.map_cons, List.sum_cons, List.length_cons, Nat.mul_add, Nat.mul_one]
    omega
theorem ones_both {l : List Int} (h : Seats l) : rk (natsP l) 0 1 + rk (natsP (othersP l)) 0 1 = l.length * l.length := by
  have hsm : ∀ x ∈ natsP l, x < 2 ^ l.length := fun x hx => by
    obtain ⟨i, hi, rfl⟩ := List.getElem_of_mem hx
    have hl : i < l.length := by simpa [natsP] using hi
    have := (nats_at h hl).2
    rwa [List.getElem?_eq_getElem hi, Option.getD_some] at this
  have := sum_both l.length h.1.2 (natsP l) hsm
  rw [nats_len] at this
  rw [one_rook', one_rook', ← this]
  congr 2
  apply List.ext_getElem
  · simp [natsP, othersP]
  · intro i i1 i2
    have hi : i < l.length := by simpa [natsP, othersP] using i1
    have hx := h.2 i hi
    rw [List.getElem?_eq_getElem hi, Option.getD_some] at hx
    simp only [natsP, othersP, List.getElem_map]
    congr 1
    have hp := (pow_bd (n := l.length) (by have := h.1.2; omega)).1
    unfold fullP at hx ⊢
    omega

set_option maxHeartbeats 4000000 in
set_option maxRecDepth 100000 in
theorem otherSeats_w (A : Option Addr) (n c : Nat) (w : World) (h : Code w A n c) : Calls Try.prog 5 #[.slice A n c] w (Plain (.bool true) w) := by
  by_cases hl : 1048576 < (n : Int)
  · go_enter Try.func5, Try.ntmps5
    go_wp2
    go_ret
    exact ⟨rfl, Below.refl _ _⟩
  · have HC := hide (drawOtherSeats_c A n c w h)
    clear h
    go_enter Try.func5, Try.ntmps5
    go_wp2_with fail
    refine HC.out.mono ?_
    rintro e w1 ⟨v, l, rfl, o1, hl5, b1⟩
    obtain ⟨A1, c1, rfl, _⟩ := own_row o1
    have HLM := hide (show l.length ≤ maxLen by unfold maxLen; omega)
    have HS := hide (fun (A : Option Addr) (c : Nat) (w5 : World) (h5 : Row w5 A (ints l)) => specOtherSeats_c A c l w5 h5 HLM.out)
    have HI := hide (fun (A : Option Addr) (c : Nat) (w5 : World) (h5 : Row w5 A (ints l)) => implOtherSeats_c A c l w5 h5 HLM.out)
    clear HC
    by_cases hs : Seats l
    · have ho := seats_others hs
      have hol : (othersP l).length = l.length := by simp [othersP]
      have HI2 := hide (fun (A : Option Addr) (c : Nat) (w5 : World) (h5 : Row w5 A (ints (othersP l))) => implOtherSeats_c A c (othersP l) w5 h5 (by rw [hol]; exact HLM.out))
      rw [if_pos ho, others_twice, hol] at HI2
      rw [if_pos hs, hol] at HS HI
      have HR := hide (fun (A : Option Addr) (c : Nat) (w5 : World) (h5 : Row w5 A (ints l)) => implRookCounts_c A c l w5 h5 HLM.out)
      have HRo := hide (fun (A : Option Addr) (c : Nat) (w5 : World) (h5 : Row w5 A (ints (othersP l))) => implRookCounts_c A c (othersP l) w5 h5 (by rw [hol]; exact HLM.out))
      rw [if_pos hs, counts_len] at HR
      rw [if_pos ho, counts_len, hol] at HRo
      have hx1 := hide (counts_at l 1 hs.1.1)
      have hx2 := hide (counts_at (othersP l) 1 ho.1.1)
      have hcl := hide (counts_len l)
      have hcl2 := hide (show (countsP (othersP l)).length = l.length + 1 by rw [counts_len, hol])
      have hsum := ones_both hs
      have hpos := hs.1.1
      clear hs ho
      generalize countsP l = CT at *
      generalize countsP (othersP l) = CO at *
      generalize rk (natsP l) 0 1 = x at *
      generalize rk (natsP (othersP l)) 0 1 = y at *
      generalize othersP l = OL at *
      have hnn : l.length * l.length ≤ 25 := Nat.mul_le_mul hl5 hl5
      obtain ⟨q, hq⟩ : ∃ q, l.length * l.length = q := ⟨_, rfl⟩
      rw [hq] at hsum hnn
      have e1 : IntKind.i64.wrap ((l.length : Int) * (l.length : Int)) = (q : Int) := by
        have : (l.length : Int) * (l.length : Int) = (q : Int) := by rw [← hq, Int.natCast_mul]
        rw [this]; exact IntWalk.i64_in _ (by omega)
      have e2 : IntKind.i64.wrap ((x : Int) + (y : Int)) = (q : Int) := (IntWalk.i64_in _ (by omega)).trans (by omega)
      have hz2 : ((l.length : Int) == 0) = false := by rw [beq_eq_false_iff_ne]; omega
      have HQ := hide hq
      have HSM := hide hsum
      clear hq hsum
      go_wp2_with fail
      refine (HI.out A1 c1 _ (own_reads o1)).mono ?_
      rintro e w2 ⟨v2, rfl, o2, b2⟩
      obtain ⟨A2, c2, rfl, _⟩ := own_row o2
      have o1 := own_below o1 b2
      have b2 := below_then b1 b1.size b2
      go_wp2_with fail
      refine (HS.out A1 c1 _ (own_reads o1)).mono ?_
      rintro e w3 ⟨v3, rfl, o3, b3⟩
      obtain ⟨A3, c3, rfl, _⟩ := own_row o3
      have o1 := own_below o1 b3
      have o2 := own_below o2 b3
      have b3 := below_then b2 b2.size b3
      go_wp2_with fail
      refine (equalInts_u _ _ _ _ _ _ OL OL _ hol hol (own_reads o2) (own_reads o3) (by omega) rfl).mono ?_
      rintro e w4 ⟨rfl, b4⟩
      have o1 := own_below o1 b4
      have o2 := own_below o2 b4
      have b4 := below_then b3 b3.size b4
      have r1 := own_reads o1
      have r2 := own_reads o2
      clear o1 o2 o3
      have i1 : (1 : Int) < ((l.length + 1 : Nat) : Int) := by omega
      have i1' : (1 : Int) < (l.length : Int) + 1 := by omega
      go_wp2_with fail
      have r1 := r1.drew
      have r2 := r2.drew
      have b4 := b4.drew
      go_region_with
        (first
          | (go_at_call 15; refine (HI2.out _ _ _ r2).mono ?_
             rintro e w5 ⟨v5, rfl, o5, b5⟩
             obtain ⟨A5, c5, rfl, _⟩ := own_row o5
             have r1 := r1.below b5
             have r2 := r2.below b5
             have r5 := own_reads o5
             have b5 := below_then b4 b4.size b5)
          | (go_at_call 16; refine (equalInts_u _ _ _ _ _ _ l l _ rfl rfl r5 r1 (by omega) rfl).mono ?_
             rintro e w6 ⟨rfl, b6⟩
             have r1 := r1.below b6
             have r2 := r2.below b6
             have b6 := below_then b5 b5.size b6)
          | (go_at_call_of 12 (Value.slice A1 l.length c1); refine (HR.out _ _ _ r1).mono ?_
             rintro e w7 ⟨v7, rfl, o7, b7⟩
             obtain ⟨g7, c7, rfl, _⟩ := own_one o7 (by omega)
             have hc7 := o7.cellAt 1 (by omega)
             rw [at_ints (by rw [hcl.out]; omega), hx1.out] at hc7
             have r2 := r2.below b7
             have h7 := World.block_lt_of_cell? _ _ hc7
             have b7 := below_then b6 b6.size b7)
          | (go_at_call_of 12 (Value.slice A2 l.length c2); refine (HRo.out _ _ _ r2).mono ?_
             rintro e w8 ⟨v8, rfl, o8, b8⟩
             obtain ⟨g8, c8, rfl, _⟩ := own_one o8 (by omega)
             have hc8 := o8.cellAt 1 (by omega)
             rw [at_ints (by rw [hcl2.out]; omega), hx2.out] at hc8
             have hc7' := (b8.cell h7).trans hc7
             have b8 := below_then b7 b7.size b8))
      all_goals go_wp2_with fail
      all_goals
        go_ret
        exact ⟨rfl, b8⟩
    · rw [if_neg hs] at HS HI
      clear hs
      go_wp2_with fail
      refine (HI.out A1 c1 _ (own_reads o1)).mono ?_
      rintro e w2 ⟨v2, rfl, o2, b2⟩
      obtain ⟨A2, c2, rfl, _⟩ := own_row o2
      have o1 := own_below o1 b2
      have b2 := below_then b1 b1.size b2
      go_wp2_with fail
      refine (HS.out A1 c1 _ (own_reads o1)).mono ?_
      rintro e w3 ⟨v3, rfl, o3, b3⟩
      obtain ⟨A3, c3, rfl, _⟩ := own_row o3
      have o1 := own_below o1 b3
      have o2 := own_below o2 b3
      have b3 := below_then b2 b2.size b3
      go_wp2_with fail
      refine (equalInts_u _ _ _ _ _ _ [] [] _ rfl rfl (own_reads o2) (own_reads o3) (by simp) rfl).mono ?_
      rintro e w4 ⟨rfl, b4⟩
      have o1 := own_below o1 b4
      have o2 := own_below o2 b4
      have b4 := below_then b3 b3.size b4
      clear o3
      go_wp2_with fail
      refine (HS.out A1 c1 _ (own_reads o1)).mono ?_
      rintro e w5 ⟨v5, rfl, o5, b5⟩
      obtain ⟨A5, c5, rfl, _⟩ := own_row o5
      have o2 := own_below o2 b5
      have b5 := below_then b4 b4.size b5
      go_wp2_with fail
      refine (equalInts_u _ _ _ _ _ _ [] [] _ rfl rfl (own_reads o2) (own_reads o5) (by simp) rfl).mono ?_
      rintro e w6 ⟨rfl, b6⟩
      have b6 := below_then b5 b5.size b6
      go_wp2_with fail
      go_ret
      exact ⟨rfl, b6⟩
end Go.Proofs.Ytlccohoblplddab

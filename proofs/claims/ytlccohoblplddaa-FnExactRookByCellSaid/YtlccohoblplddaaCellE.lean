
/-
  The model's RookByCell; the walk of the law FnRookByCell.
-/
import Derived.Test.YtlccohoblplddaaCellC
import Derived.Test.YtlccohoblplddaaCellD
namespace Go.Proofs.Ytlccohoblplddaa
open Go.RowKit
set_option linter.unusedVariables false

theorem nats_small2 {l : List Int} (h : Seats l) : ∀ x ∈ natsP l, x < 2 ^ l.length := fun x hx => by
  obtain ⟨i, hi, rfl⟩ := List.getElem_of_mem hx
  have hl : i < l.length := by simpa [natsP] using hi
  have := (nats_at h hl).2
  rwa [List.getElem?_eq_getElem hi, Option.getD_some] at this
theorem specRookByCell_c (A : Option Addr) (c : Nat) (l : List Int) (w : World) (hr : Row w A (ints l)) (hm : l.length ≤ maxLen) :
    Calls Try.prog 13 #[.slice A l.length c] w (Owns 3 1 (if Seats l then countsP l else []).length (ints (if Seats l then countsP l else [])) w) := by
  have HV := hide (specValidSeats0_c A c l w hr hm)
  by_cases hs : Seats l
  · rw [decide_eq_true hs] at HV
    rw [if_pos hs]
    have hA : ∃ ad, A = some ad := by
      obtain ⟨ad, e, _⟩ := hr 0 (by simp; exact hs.1.1)
      exact ⟨ad, e⟩
    obtain ⟨ad, rfl⟩ := hA
    have HO := hide (fun (w5 : World) (h5 : Row w5 (some ad) (ints l)) => byCell_c l.length hs.1.1 hs.1.2 _ (natsP l) rfl (nats_len l) (nats_small2 hs) ad c w5 (by rw [nat_seats hs]; exact h5))
    rw [← counts_rkL] at HO
    have hl := hide (show (countsP l).length = l.length + 1 by simp [countsP])
    clear hs hm
    generalize countsP l = res at *
    go_enter Try.func13, Try.ntmps13
    go_wp2_with fail
    refine HV.out.mono ?_
    rintro e w1 ⟨rfl, b1⟩
    go_wp2_with fail
    refine (HO.out _ (hr.below b1)).mono ?_
    rintro e w2 ⟨v, rfl, own, b2⟩
    go_wp2_with fail
    go_ret
    exact ⟨v, rfl, by rw [hl.out]; exact own_mono own b1.size, below_then b1 b1.size b2⟩
  · rw [decide_eq_false hs] at HV
    rw [if_neg hs]
    clear hs hm hr
    go_enter Try.func13, Try.ntmps13
    go_wp2_with fail
    refine HV.out.mono ?_
    rintro e w1 ⟨rfl, b1⟩
    go_wp2_with fail
    go_ret
    exact ⟨_, rfl, ⟨rfl, .inl ⟨rfl, rfl⟩⟩, b1⟩

theorem counts_reverse {l : List Int} : countsP l.reverse = countsP l := by
  unfold countsP
  rw [List.length_reverse]
  refine List.map_congr_left fun k _ => ?_
  rw [natsP, List.map_reverse, rk_reverse]
  rfl
set_option maxHeartbeats 1000000 in
theorem rookByCell_w (A : Option Addr) (n c : Nat) (w : World) (h : Code w A n c) : Calls Try.prog 6 #[.slice A n c] w (Plain (.bool true) w) := by
  by_cases hl : 1048576 < (n : Int)
  · go_enter Try.func6, Try.ntmps6
    go_wp2
    go_ret
    exact ⟨rfl, Below.refl _ _⟩
  · have HC := hide (drawRookByCell_c A n c w h)
    clear h
    go_enter Try.func6, Try.ntmps6
    go_wp2_with fail
    refine HC.out.mono ?_
    rintro e w1 ⟨v, l, rfl, o1, hl5, b1⟩
    obtain ⟨A1, c1, rfl, _⟩ := own_row o1
    have HLM := hide (show l.length ≤ maxLen by unfold maxLen; omega)
    have HS := hide (fun (A : Option Addr) (c : Nat) (w5 : World) (h5 : Row w5 A (ints l)) => specRookByCell_c A c l w5 h5 HLM.out)
    have HI := hide (fun (A : Option Addr) (c : Nat) (w5 : World) (h5 : Row w5 A (ints l)) => implRookByCell_c A c l w5 h5 HLM.out)
    clear HC
    by_cases hs : Seats l
    · have HR := hide (fun (A : Option Addr) (c : Nat) (w5 : World) (h5 : Row w5 A (ints l.reverse)) => implRookByCell_c A c l.reverse w5 h5 (by simpa using HLM.out))
      rw [if_pos hs.reverse, List.length_reverse, counts_reverse] at HR
      rw [if_pos hs] at HS HI
      rw [counts_len] at HS HI HR
      have hcl := hide (counts_len l)
      have hpos := hs.1.1
      clear hs
      generalize countsP l = out at *
      have hz2 : ((l.length : Int) + 1 == 0) = false := by rw [beq_eq_false_iff_ne]; omega
      go_wp2_with fail
      refine (HI.out A1 c1 _ (own_reads o1)).mono ?_
      rintro e w2 ⟨v2, rfl, o2, b2⟩
      obtain ⟨A2, c2, rfl, _⟩ := own_row o2
      have o1 := own_below o1 b2
      have b2 := below_then b1 b1.size b2
      go_wp2_with fail
      refine (HS.out A1 c1 _ (own_reads o1)).mono ?_
      rintro e w3 ⟨v3, rfl, o3, b3⟩
      obtain ⟨A3, c3, rfl, _⟩ := own_row o3
      have o1 := own_below o1 b3
      have o2 := own_below o2 b3
      have b3 := below_then b2 b2.size b3
      go_wp2_with fail
      refine (equalInts_u _ _ _ _ _ _ out out _ hcl.out hcl.out (own_reads o2) (own_reads o3) (by rw [hcl.out]; omega) rfl).mono ?_
      rintro e w4 ⟨rfl, b4⟩
      have o1 := own_below o1 b4
      have o2 := own_below o2 b4
      have b4 := below_then b3 b3.size b4
      clear o3
      go_wp2_with fail
      refine (backwards_c A1 c1 l _ (own_reads o1) (by omega)).mono ?_
      rintro e w5 ⟨v5, rfl, o5, b5⟩
      obtain ⟨A5, c5, rfl, _⟩ := own_row o5
      have o2 := own_below o2 b5
      have b5 := below_then b4 b4.size b5
      go_wp2_with fail
      refine (HR.out A5 c5 _ (own_reads o5)).mono ?_
      rintro e w6 ⟨v6, rfl, o6, b6⟩
      obtain ⟨A6, c6, rfl, _⟩ := own_row o6
      have o2 := own_below o2 b6
      have b6 := below_then b5 b5.size b6
      go_wp2_with fail
      refine (equalInts_u _ _ _ _ _ _ out out _ hcl.out hcl.out (own_reads o6) (own_reads o2) (by rw [hcl.out]; omega) rfl).mono ?_
      rintro e w7 ⟨rfl, b7⟩
      have b7 := below_then b6 b6.size b7
      go_wp2_with fail
      go_ret
      exact ⟨rfl, b7⟩
    · rw [if_neg hs] at HS HI
      clear hs
      go_wp2_with fail
      refine (HI.out A1 c1 _ (own_reads o1)).mono ?_
      rintro e w2 ⟨v2, rfl, o2, b2⟩
      obtain ⟨A2, c2, rfl, _⟩ := own_row o2
      have o1 := own_below o1 b2
      have b2 := below_then b1 b1.size b2
      go_wp2_with fail
      refine (HS.out A1 c1 _ (own_reads o1)).mono ?_
      rintro e w3 ⟨v3, rfl, o3, b3⟩
      obtain ⟨A3, c3, rfl, _⟩ := own_row o3
      have o1 := own_below o1 b3
      have o2 := own_below o2 b3
      have b3 := below_then b2 b2.size b3
      go_wp2_with fail
      refine (equalInts_u _ _ _ _ _ _ [] [] _ rfl rfl (own_reads o2) (own_reads o3) (by simp) rfl).mono ?_
      rintro e w4 ⟨rfl, b4⟩
      have o1 := own_below o1 b4
      have o2 := own_below o2 b4
      have b4 := below_then b3 b3.size b4
      clear o3
      go_wp2_with fail
      refine (HS.out A1 c1 _ (own_reads o1)).mono ?_
      rintro e w5 ⟨v5, rfl, o5, b5⟩
      obtain ⟨A5, c5, rfl, _⟩ := own_row o5
      have o2 := own_below o2 b5
      have b5 := below_then b4 b4.size b5
      go_wp2_with fail
      refine (equalInts_u _ _ _ _ _ _ [] [] _ rfl rfl (own_reads o2) (own_reads o5) (by simp) rfl).mono ?_
      rintro e w6 ⟨rfl, b6⟩
      have b6 := below_then b5 b5.size b6
      go_wp2_with fail
      go_ret
      exact ⟨rfl, b6⟩
end Go.Proofs.Ytlccohoblplddaa

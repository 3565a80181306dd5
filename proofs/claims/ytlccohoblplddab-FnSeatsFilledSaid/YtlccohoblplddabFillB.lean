
/-
  The walk of the law FnSeatsFilled: the law itself.
-/
import Derived.Test.YtlccohoblplddabFillA
namespace Go.Proofs.Ytlccohoblplddab
open Go.RowKit
set_option linter.unusedVariables false

set_option maxHeartbeats 2000000 in
set_option maxRecDepth 100000 in
theorem seatsFilled_w (A : Option Addr) (n c : Nat) (w : World) (h : Code w A n c) : Calls Try.prog 6 #[.slice A n c] w (Plain (.bool true) w) := by
  by_cases hl : 1048576 < (n : Int)
  · go_enter Try.func6, Try.ntmps6
    go_wp2
    go_ret
    exact ⟨rfl, Below.refl _ _⟩
  · have HC := hide (drawRookCounts_c A n c w h)
    clear h
    go_enter Try.func6, Try.ntmps6
    go_wp2_with fail
    refine HC.out.mono ?_
    rintro e w1 ⟨v, l, rfl, o1, hl5, b1⟩
    obtain ⟨A1, c1, rfl, _⟩ := own_row o1
    have HLM := hide (show l.length ≤ maxLen by unfold maxLen; omega)
    have HS := hide (fun (A : Option Addr) (c : Nat) (w5 : World) (h5 : Row w5 A (ints l)) => specRookCounts_c A c l w5 h5 HLM.out)
    have HI := hide (fun (A : Option Addr) (c : Nat) (w5 : World) (h5 : Row w5 A (ints l)) => implRookCounts_c A c l w5 h5 HLM.out)
    have hfl : (fullL l.length).length = l.length := by simp [fullL]
    have HF := hide (fun (A : Option Addr) (c : Nat) (w5 : World) (h5 : Row w5 A (ints (fullL l.length))) => implRookCounts_c A c (fullL l.length) w5 h5 (by rw [hfl]; exact HLM.out))
    rw [hfl] at HF
    have hle : Hid (∀ k, k < (if Seats l then countsP l else []).length → k < (if Seats (fullL l.length) then countsP (fullL l.length) else []).length ∧ (if Seats l then countsP l else [])[k]?.getD 0 ≤ (if Seats (fullL l.length) then countsP (fullL l.length) else [])[k]?.getD 0) := fun k hk => by
      by_cases hs : Seats l
      · have hf := full_seats hs.1.1 hs.1.2
        rw [if_pos hs] at hk ⊢
        rw [if_pos hf]
        rw [counts_len] at hk
        exact ⟨by rw [counts_len, hfl]; exact hk, filled_le hs k (by omega)⟩
      · rw [if_neg hs] at hk
        exact absurd hk (by simp)
    have hLl : (if Seats l then countsP l else []).length ≤ 1000 := by
      split
      · rw [counts_len]; omega
      · simp
    have HP := hide (fun w5 => lawsPower_c l.length (by omega) w5)
    obtain ⟨p1, p2⟩ := pow_bd (n := l.length) (by omega)
    have hfF := hide (show ((2 ^ l.length : Nat) : Int) - 1 = fullP l.length from rfl)
    have hfull := hide (show fullL l.length = List.replicate l.length (fullP l.length) from rfl)
    generalize (if Seats (fullL l.length) then countsP (fullL l.length) else []) = M at *
    generalize (if Seats l then countsP l else []) = L at *
    generalize fullL l.length = FL at *
    generalize fullP l.length = F at *
    generalize 2 ^ l.length = P at *
    have e1 : IntKind.i64.wrap ((P : Int) - 1) = F := (IntWalk.i64_in _ (by omega)).trans hfF.out
    clear HC hfl
    go_wp2_with fail
    refine (HI.out A1 c1 _ (own_reads o1)).mono ?_
    rintro e w2 ⟨v2, rfl, o2, b2⟩
    obtain ⟨A2, c2, rfl, _⟩ := own_row o2
    have o1 := own_below o1 b2
    have b2 := below_then b1 b1.size b2
    go_wp2_with fail
    refine (HS.out A1 c1 _ (own_reads o1)).mono ?_
    rintro e w3 ⟨v3, rfl, o3, b3⟩
    obtain ⟨A3, c3, rfl, _⟩ := own_row o3
    have o1 := own_below o1 b3
    have o2 := own_below o2 b3
    have b3 := below_then b2 b2.size b3
    go_wp2_with fail
    refine (equalInts_u _ _ _ _ _ _ L L _ rfl rfl (own_reads o2) (own_reads o3) hLl rfl).mono ?_
    rintro e w4 ⟨rfl, b4⟩
    have o1 := own_below o1 b4
    have b4 := below_then b3 b3.size b4
    clear o2 o3
    go_wp2_with fail
    refine (HI.out A1 c1 _ (own_reads o1)).mono ?_
    rintro e w5 ⟨v5, rfl, o5, b5⟩
    obtain ⟨A5, c5, rfl, _⟩ := own_row o5
    have b5 := below_then b4 b4.size b5
    have r5 := own_reads o5
    clear o1 o5
    go_wp2_with fail
    go_loopw [5, 6] (fun v i wr => ∃ k : Nat, k ≤ l.length ∧ i = .int .i64 (k : Int) ∧ wr.ownsRow w5.heap.size 3 1 v k (ints (List.replicate k F)) ∧ Below w5.heap.size w5 wr) (fun _ i _ => l.length - (intOf i).toNat)
    case atStart => exact ⟨0, Nat.zero_le _, rfl, by simpa using World.ownsRow_made w5 #[] 0 (Nat.le_refl _) (by simp [maxLen]) rfl, (Below.refl _ _).alloc (Nat.le_refl _) _⟩
    case round =>
      obtain ⟨k, hk, rfl, hown, hb⟩ := hrel
      obtain ⟨wo, rfl⟩ : ∃ wo : World, wo = wr := ⟨_, rfl⟩
      have z := hb.size
      obtain ⟨A0, c0, rfl, _⟩ := own_row hown
      by_cases hlt : k < l.length
      · have hva := hide (hown.alloc (.cells #[.int .i64 F] 3))
        have hba := hb.alloc z (.cells #[.int .i64 F] 3)
        go_wp2_with fail
        refine (HP.out _).mono ?_
        rintro e w6 ⟨rfl, rfl⟩
        go_wp2_with ((at_builtin; refine put_own rfl (.tmp 29) (.tmp 34) rfl Try.underlying22 elem_int' rfl hva.out rfl (m := 1) (news := [.int .i64 F]) rfl (row_new _ _ _ rfl) (by simp [Value.oneCell']) (by omega) (by omega) hba.size ?_; intro v9 w9 own9 hg9 ho9))
        exact ⟨⟨k + 1, hlt, rfl, by rw [List.replicate_succ']; simpa [ints] using own9, below_grown hba hba.size hva.out (Nat.le_refl _) hg9⟩, by simp [intOf]; omega⟩
      · obtain rfl : k = l.length := by omega
        rw [← hfull.out] at hown
        have r5 := r5.below hb
        have b6 := below_then b5 b5.size hb
        go_wp2_with fail
        refine (HF.out A0 c0 _ (own_reads hown)).mono ?_
        rintro e w7 ⟨v7, rfl, o7, b7⟩
        obtain ⟨A7, c7, rfl, _⟩ := own_row o7
        have r5 := r5.below b7
        have r7 := own_reads o7
        have b7 := below_then b6 b6.size b7
        clear hown o7
        go_wp2_with fail
        go_loopw [8] (fun i wr => ∃ k : Nat, k ≤ L.length ∧ i = .int .i64 (k : Int) ∧ Below w7.heap.size w7 wr) (fun i _ => L.length - (intOf i).toNat)
        case atStart => exact ⟨0, Nat.zero_le _, rfl, Below.refl _ _⟩
        case round =>
          obtain ⟨k, hk, rfl, hb8⟩ := hrel
          obtain ⟨wo, rfl⟩ : ∃ wo : World, wo = wr := ⟨_, rfl⟩
          by_cases hlt : k < L.length
          · obtain ⟨q1, q2⟩ := hle.out k hlt
            obtain ⟨ad5, rfl, hc5⟩ := (r5.below hb8).int (k := k) hlt
            obtain ⟨ad7, rfl, hc7⟩ := (r7.below hb8).int (k := k) q1
            generalize L[k]?.getD 0 = y at *
            generalize M[k]?.getD 0 = z at *
            have k0 : (0 : Int) ≤ (k : Int) := by omega
            have k1 : (k : Int) < (L.length : Int) := by omega
            have k2 : (k : Int) < (M.length : Int) := by omega
            have hgt : ¬ z < y := by omega
            go_wp2_with fail
            go_quiet (fail)
            all_goals go_wp2_with fail
            exact ⟨⟨k + 1, hlt, rfl, below_drewN hb8 _⟩, by simp [intOf]; omega⟩
          · go_wp2_with fail
            go_ret
            exact ⟨rfl, below_then b7 b7.size hb8⟩
end Go.Proofs.Ytlccohoblplddab


/-
  The model's queens: EndsOf.
-/
import Derived.Test.YtgcchpabmkdkhadQueenB
namespace Go.Proofs.Ytgcchpabmkdkhad
open Go.RowKit
set_option linter.unusedVariables false

set_option maxHeartbeats 1000000 in
set_option maxRecDepth 100000 in
theorem specEndsOf_c (n : Int) (A : Option Addr) (c : Nat) (l : List Int) (w : World) (hr : Row w A (ints l)) (hm : l.length ≤ 1048576) (hcc : l.length ≤ c) (hcm : c ≤ maxLen) :
    Calls Try.prog 8 #[.int .i64 n, .slice A l.length c] w (Plain (.int .i64 (endsP n l)) w) := by
  have HV := hide (specStand_c n A c l w hr hm)
  unfold maxLen at hcm
  by_cases hs : Stand n l
  · rw [decide_eq_true hs] at HV
    have HC := hide (show endsP n l = if apartsTo l l.length then ((queensP n.toNat (n.toNat - l.length) l).length : Int) else 0 by
      unfold endsP; rw [if_pos hs])
    have HA := hide (fun (k : Nat) (hk : k < l.length) (A' : Option Addr) (cc : Nat) (w5 : World) (h5 : Row w5 A' (ints (l.take k))) => show Calls Try.prog 22 #[.slice A' k cc, .int .i64 (l[k]?.getD 0)] w5 fun e w' => e = .returned (.bool (apartP (l.take k) (l[k]?.getD 0))) ∧ w5 = w' by
      have := specApart_c A' cc (l.take k) (l[k]?.getD 0) w5 h5 (hs.take_small k (by omega)) (by have := hs.2.2 k hk; omega) (by have := hs.2.2 k hk; have := hs.1; omega)
      rwa [List.length_take, Nat.min_eq_left (by omega)] at this)
    have hl6 : l.length ≤ 6 := by have := hs.1; have := hs.2.1; omega
    have HQ := hide (fun (B' : Nat) (A' : Option Addr) (c' : Nat) (w5 : World) (h5 : Row w5 A' (ints l)) (f5 : From B' A') (b5 : B' ≤ w5.heap.size) (rm : Room l.length c') => show Calls Try.prog 23 #[.int .i64 n, .slice A' l.length c'] w5 (Queens B' (queensP n.toNat (n.toNat - l.length) l) w5) by
      have hh := hs.heads
      have h1 := hs.1
      have h2 := hs.2.1
      obtain ⟨k, rfl⟩ := Int.eq_ofNat_of_zero_le (show 0 ≤ n by omega)
      exact specQueensFrom_c k (by omega) (by omega) (k - l.length) l (by omega) hh B' A' c' w5 h5 f5 b5 rm)
    have HQL := hide (show (queensP n.toNat (n.toNat - l.length) l).length ≤ 6 ^ 6 from Nat.le_trans (queens_len _ _ _) (Nat.le_trans (Nat.pow_le_pow_left (show n.toNat ≤ 6 by have := hs.1; omega) _) (Nat.pow_le_pow_right (by omega) (by have := hs.1; omega))))
    clear hs
    go_enter Try.func8, Try.ntmps8
    go_wp2_with fail
    refine HV.out.mono ?_
    rintro e w1 ⟨rfl, rfl⟩
    go_wp2_with fail
    go_loopw [5] (fun i wr => ∃ k : Nat, k ≤ l.length ∧ i = .int .i64 (k : Int) ∧ Hid (apartsTo l k) ∧ Below w.heap.size w wr) (fun i _ => l.length - (intOf i).toNat)
    case atStart => exact ⟨0, Nat.zero_le _, rfl, fun i hi => absurd hi (by omega), Below.refl _ _⟩
    case round =>
      obtain ⟨k, hk, rfl, hap, hb⟩ := hrel
      obtain ⟨wo, rfl⟩ : ∃ wo : World, wo = wr := ⟨_, rfl⟩
      by_cases hlt : k < l.length
      · have hrk := (hr.below hb).upto k
        obtain ⟨ad, rfl, hc⟩ := (hr.below hb).int hlt
        have HAk := hide (fun (w5 : World) (h5 : Row w5 (some ad) (ints (l.take k))) => HA.out k hlt (some ad) c w5 h5)
        have hstep : Hid (∀ b, apartP (l.take k) (l[k]?.getD 0) = b → (b = true → apartsTo l (k + 1)) ∧ (b = false → ¬ apartsTo l l.length)) := fun b hb' => ⟨fun ht i hi => by
          by_cases e : i = k
          · subst e; rw [hb']; exact ht
          · exact hap.out i (by omega), fun hf h => by
          have := h k hlt
          rw [hb', hf] at this
          cases this⟩
        generalize hxx : l[k]?.getD 0 = x at *
        obtain ⟨b, hbv⟩ : ∃ b, apartP (l.take k) x = b := ⟨_, rfl⟩
        have hst := hstep.out b hbv
        rw [hbv] at HAk
        have HST := hide hst
        clear hxx hbv hst hstep
        have k0 : (0 : Int) ≤ (k : Int) := by omega
        have k1 : (k : Int) < (l.length : Int) := by omega
        have k2 : (k : Int) ≤ (c : Int) := by omega
        have k3 : (l.length : Int) ≤ (c : Int) := by omega
        have hrd := hrk.drew
        cases b with
        | true =>
          go_wp2_with fail
          go_region_held3 (fun w' => w'.cell? (ad.add k) = some (.int .i64 x)) (go_keep)
            (first
              | (go_at_call 22; refine (HAk.out _ hrd).mono ?_; rintro e w7 ⟨rfl, rfl⟩))
          go_wp2_with fail
          exact ⟨⟨k + 1, hlt, rfl, HST.out.1 trivial, hb.drew⟩, by simp [intOf]; omega⟩
        | false =>
          go_wp2_with fail
          go_region_held3 (fun w' => w'.cell? (ad.add k) = some (.int .i64 x)) (go_keep)
            (first
              | (go_at_call 22; refine (HAk.out _ hrd).mono ?_; rintro e w7 ⟨rfl, rfl⟩))
          go_wp2_with fail
          go_ret
          exact ⟨by rw [HC.out, if_neg (HST.out.2 trivial)]; rfl, hb.drew⟩
      · have hkl : Hid (k = l.length) := hide (by omega)
        have HC2 := hide (show endsP n l = ((queensP n.toNat (n.toNat - l.length) l).length : Int) by
          rw [HC.out, if_pos (by rw [← hkl.out]; exact hap.out)])
        have oe := World.ownsRow_made (base := wo.heap.size) (e := 3) (size := 1) wo #[] 0 (Nat.le_refl _) (by simp [maxLen]) rfl
        have hbA := (Below.refl wo.heap.size wo).alloc (Nat.le_refl _) (.cells #[] 3)
        have hrA := (hr.below hb).below hbA
        go_wp2_with (first
          | (at_builtin; refine put_own rfl (.tmp 26) (.tmp 27) rfl Try.underlying23 elem_int' rfl oe rfl (m := l.length) (news := ints l) (by simp) hrA (one_ints _) (by omega) (by omega) hbA.size ?_
             intro v2 w2 own2 hg2 ho2
             have b2 := below_grown hbA hbA.size oe (Nat.le_refl _) hg2
             have own2 : w2.ownsRow wo.heap.size 3 1 v2 l.length (ints l) := by simpa using own2
             obtain ⟨A3, c3, rfl, n3, m3, r3, f3⟩ := own_row own2
             have f3' : From wo.heap.size A3 := fun ad e => by obtain ⟨g, rfl, hg, _⟩ := f3 ad e; exact hg))
        refine (HQ.out wo.heap.size A3 c3 w2 r3 f3' b2.size ⟨n3, m3⟩).mono ?_
        rintro e w4 ⟨v4, vs4, rfl, own4, rd4, b4⟩
        obtain ⟨A4, c4, rfl, _⟩ := own_row own4
        have bw4 := below_then hb hb.size (below_then b2 b2.size b4)
        have hlen4 := rd4.1
        have HL4 := hide hlen4
        clear rd4 own2 r3 oe hrA b4 hlen4
        go_wp2_with fail
        go_ret
        exact ⟨by rw [HC2.out, ← HL4.out]; rfl, bw4⟩
  · rw [decide_eq_false hs] at HV
    have HC := hide (show endsP n l = -1 by unfold endsP; rw [if_neg hs])
    clear hs
    go_enter Try.func8, Try.ntmps8
    go_wp2_with fail
    refine HV.out.mono ?_
    rintro e w1 ⟨rfl, rfl⟩
    go_wp2_with fail
    go_ret
    exact ⟨by rw [HC.out]; rfl, Below.refl _ _⟩
end Go.Proofs.Ytgcchpabmkdkhad

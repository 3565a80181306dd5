
/-
  The model's FullByOthers; the walks of the laws FnExactFullByOthers and FnFullByOthers.
-/
import Derived.Test.YtlccohoblplddabFullB
namespace Go.Proofs.Ytlccohoblplddab
open Go.RowKit
set_option linter.unusedVariables false

theorem sumK_bd {T : Nat → Int} {B : Int} (h : ∀ k, -B ≤ T k ∧ T k ≤ B) : ∀ m : Nat, -(B * (m : Int)) ≤ sumK T m ∧ sumK T m ≤ B * (m : Int)
  | 0 => by simp [sumK]
  | m + 1 => by
    have := sumK_bd h m
    have := h m
    rw [sumK, Int.natCast_succ, Int.mul_add, Int.mul_one]
    omega
theorem term_bd {n : Nat} {CT : List Int} {V : Int} {C : Nat → Nat} {T : Nat → Int} (hn : n ≤ 5) (h : Terms n CT V C T) (k : Nat) : -6000000 ≤ T k ∧ T k ≤ 6000000 := by
  have hf := fact_bd ⟨n - k, by omega⟩
  have hb := prodF_bd (h.small k) hf.2
  simp only at hb
  rcases Nat.mod_two_eq_zero_or_one k with hp | hp
  · rw [h.even k hp]; omega
  · rw [h.odd k hp]; omega

set_option maxHeartbeats 1000000 in
set_option maxRecDepth 100000 in
theorem specFullByOthers_c (A : Option Addr) (c : Nat) (l : List Int) (w : World) (hr : Row w A (ints l)) (hm : l.length ≤ maxLen) :
    Calls Try.prog 7 #[.slice A l.length c] w (Plain (.int .i64 (fullR l)) w) := by
  have HV := hide (specValidSeats0_c A c l w hr hm)
  unfold fullR
  by_cases hs : Seats l
  · rw [decide_eq_true hs] at HV
    rw [if_pos hs]
    obtain ⟨h1, h5⟩ := hs.1
    obtain ⟨C, T, ht⟩ := terms_of hs
    have hol : (othersP l).length = l.length := by simp [othersP]
    have HO := hide (fun (w5 : World) (h5' : Row w5 A (ints l)) => specOtherSeats_c A c l w5 h5' hm)
    rw [if_pos hs, hol] at HO
    have HR := hide (fun (A' : Option Addr) (c' : Nat) (w5 : World) (h5' : Row w5 A' (ints (othersP l))) => rookCounts0_c A' c' (othersP l) w5 h5' hs.others)
    rw [hol] at HR
    have HT := hide ht
    have hbd := hide (fun k => term_bd h5 ht k)
    clear hs hm ht hol
    generalize countsP (othersP l) = CT at *
    generalize othersP l = OL at *
    generalize fullV l = V at *
    go_enter Try.func7, Try.ntmps7
    go_wp2_with fail
    refine HV.out.mono ?_
    rintro e w1 ⟨rfl, b1⟩
    go_wp2_with fail
    refine (HO.out _ (hr.below b1)).mono ?_
    rintro e w2 ⟨v2, rfl, o2, b2⟩
    obtain ⟨A2, c2, rfl, _⟩ := own_row o2
    have b2 := below_then b1 b1.size b2
    go_wp2_with fail
    refine (HR.out _ _ _ (own_reads o2)).mono ?_
    rintro e w3 ⟨v3, rfl, o3, b3⟩
    obtain ⟨g3, c3, rfl, _⟩ := own_one o3 (by omega)
    have b3 := below_then b2 b2.size b3
    have r3 := own_reads o3
    clear o2 o3
    go_wp2_with fail
    go_loopw [4, 5, 6] (fun a p i wr => ∃ k : Nat, k ≤ l.length + 1 ∧ i = .int .i64 (k : Int) ∧ a = .int .i64 (sumK T k) ∧ p = .int .i64 (sgn k) ∧ Below w3.heap.size w3 wr) (fun _ _ i _ => l.length + 1 - (intOf i).toNat)
    case atStart => exact ⟨0, Nat.zero_le _, rfl, rfl, rfl, Below.refl _ _⟩
    case round =>
      obtain ⟨k, hk, rfl, rfl, rfl, hb⟩ := hrel
      obtain ⟨wo, rfl⟩ : ∃ wo : World, wo = wr := ⟨_, rfl⟩
      by_cases hlt : k < l.length + 1
      · obtain ⟨_, e0, hck⟩ := (r3.below hb).int (k := k) (by rw [HT.out.len]; exact hlt)
        injection e0 with e0
        subst e0
        rw [HT.out.at_ k (by omega), show (⟨g3, 0, none⟩ : Addr).add k = ⟨g3, k, none⟩ from by unfold Addr.add; split <;> simp_all] at hck
        have hcb := HT.out.small k
        have hfb := fact_bd ⟨l.length - k, by omega⟩
        simp only at hfb
        have hsg := hide (HT.out.sign k)
        have hss := hide (sgn_succ k)
        have hsK : Hid (sumK T (k + 1) = sumK T k + T k) := rfl
        have hTb := hbd.out k
        have hSb := sumK_bd (B := 6000000) hbd.out k
        have HF := hide (fun w5 => specFact_c (l.length - k) (by omega) w5)
        have hg : sgn k = 1 ∨ sgn k = -1 := by unfold sgn; split <;> simp
        obtain ⟨d, hd⟩ : ∃ d, l.length - k = d := ⟨_, rfl⟩
        rw [hd] at hfb hsg HF
        generalize hF : fact d = F at *
        generalize hC : C k = cC at *
        generalize sumK T k = S at *
        generalize T k = tk at *
        generalize sgn k = sg at *
        have htb := prodF_bd hcb hfb.2
        obtain ⟨v1, hv1⟩ : ∃ v1, sg * (cC : Int) = v1 := ⟨_, rfl⟩
        have hv1b : -7776 ≤ v1 ∧ v1 ≤ 7776 := by
          rcases hg with h | h
          · rw [h, Int.one_mul] at hv1; omega
          · rw [h, Int.neg_mul, Int.one_mul] at hv1; omega
        have e1 : IntKind.i64.wrap (sg * (cC : Int)) = v1 := by rw [hv1]; exact IntWalk.i64_in _ (by omega)
        have e2 : IntKind.i64.wrap ((l.length : Int) - (k : Int)) = (d : Int) := (IntWalk.i64_in _ (by omega)).trans (by omega)
        have e3 : IntKind.i64.wrap (v1 * (F : Int)) = tk := by
          have : v1 * (F : Int) = tk := by rw [hsg.out, ← hv1, Int.mul_assoc, Int.natCast_mul]
          rw [this]; exact IntWalk.i64_in _ (by omega)
        have hk6 : (k : Int) ≤ 6 := by omega
        have e4 : IntKind.i64.wrap (S + tk) = S + tk := IntWalk.i64_in _ (by omega)
        have e5 : IntKind.i64.wrap (-sg) = -sg := IntWalk.i64_in _ (by omega)
        have k0 : (0 : Int) ≤ (k : Int) := by omega
        have k1 : (k : Int) < ((l.length + 1 : Nat) : Int) := by omega
        have k1' : (k : Int) < (l.length : Int) + 1 := by omega
        clear hd hF hC hv1
        go_wp2_with fail
        go_region_held3 (fun w' => w'.cell? ⟨g3, k, none⟩ = some (.int .i64 (cC : Int))) (go_keep)
          (first
            | (go_at_call 23; refine (HF.out _).mono ?_; rintro e w7 ⟨rfl, rfl⟩))
        go_wp2_with fail
        exact ⟨⟨k + 1, by omega, rfl, by rw [hsK.out], by rw [hss.out], hb.drew⟩, by simp [intOf]; omega⟩
      · obtain rfl : k = l.length + 1 := by omega
        have hV := hide HT.out.total
        go_wp2_with fail
        go_ret
        exact ⟨by rw [hV.out]; rfl, below_then b3 b3.size hb⟩
  · rw [decide_eq_false hs] at HV
    rw [if_neg hs]
    clear hs hm hr
    go_enter Try.func7, Try.ntmps7
    go_wp2_with fail
    refine HV.out.mono ?_
    rintro e w1 ⟨rfl, b1⟩
    go_wp2_with fail
    go_ret
    exact ⟨rfl, b1⟩

theorem exactFullByOthers_w (A : Option Addr) (c : Nat) (l : List Int) (w : World) (hr : Row w A (ints l)) (hm : l.length ≤ maxLen) :
    Calls Try.prog 3 #[.slice A l.length c] w (Plain (.bool true) w) := by
  unfold maxLen at hm
  by_cases hl : 1048576 < (l.length : Int)
  · go_enter Try.func3, Try.ntmps3
    go_wp2
    go_ret
    exact ⟨rfl, Below.refl _ _⟩
  · have hl' : l.length ≤ 1048576 := by omega
    have HLM := hide (show l.length ≤ maxLen by unfold maxLen; omega)
    have HS := hide (fun (A : Option Addr) (c : Nat) (w5 : World) (h5 : Row w5 A (ints l)) => specFullByOthers_c A c l w5 h5 HLM.out)
    have HI := hide (fun (A : Option Addr) (c : Nat) (w5 : World) (h5 : Row w5 A (ints l)) => implFullByOthers_c A c l w5 h5 HLM.out)
    generalize fullR l = b at *
    go_enter Try.func3, Try.ntmps3
    go_wp2_with fail
    refine (toIntS_c _ l _ _ hr hl').mono ?_
    rintro e w1 ⟨v1, rfl, o1, b1⟩
    obtain ⟨A1, c1, rfl, _⟩ := own_row o1
    go_wp2_with fail
    refine (HS.out A1 c1 _ (own_reads o1)).mono ?_
    rintro e w2 ⟨rfl, b2⟩
    have b2 := below_then b1 b1.size b2
    go_wp2_with fail
    refine (toIntS_c _ l _ _ (hr.below b2) hl').mono ?_
    rintro e w3 ⟨v3, rfl, o3, b3⟩
    have b3 := below_then b2 b2.size b3
    obtain ⟨A3, c3, rfl, _⟩ := own_row o3
    go_wp2_with fail
    refine (HI.out A3 c3 _ (own_reads o3)).mono ?_
    rintro e w4 ⟨rfl, b4⟩
    have o3 := own_below o3 b4
    have b4 := below_then b3 b3.size b4
    have hbb : (b != b) = false := by simp
    go_wp2_with fail
    refine (toIntS_c _ l _ _ (hr.below b4) hl').mono ?_
    rintro e w6 ⟨v6, rfl, o6, b6⟩
    have o3 := own_below o3 b6
    have b6 := below_then b4 b4.size b6
    obtain ⟨A6, c6, rfl, _⟩ := own_row o6
    go_wp2_with fail
    refine (eqIntS_t _ _ _ _ _ _ l l _ rfl rfl (own_reads o3) (own_reads o6) HLM.out rfl).mono ?_
    rintro e w7 ⟨rfl, b7⟩
    have b7 := below_then b6 b6.size b7
    go_wp2_with fail
    go_ret
    exact ⟨rfl, b7⟩

theorem rk_fact (n : Nat) : ∀ (rs : List Nat) (t : Nat), Within n rs → rk rs t rs.length ≤ fact (free n t) ∧ True
  | [], t, _ => ⟨by rw [rk]; simp; exact Nat.one_le_iff_ne_zero.2 (by
      intro h
      have : ∀ m, 1 ≤ fact m := fun m => by
        induction m with
        | zero => exact Nat.le_refl _
        | succ m ih => rw [fact]; exact Nat.le_trans ih (Nat.le_mul_of_pos_left _ (by omega))
      have := this (free n t)
      omega), trivial⟩
  | r :: rs, t, h => by
    have hrs : Within n rs := fun r' hr' => h r' (List.mem_cons_of_mem _ hr')
    refine ⟨?_, trivial⟩
    rw [List.length_cons, rk_row, rk_big rs t _ (by omega), Nat.zero_add]
    -- each free column of the row: as many sets as of the rest
    have hle : sum5 (fun c => if r.testBit c && !t.testBit c && decide (1 ≤ rs.length + 1) then rk rs (t ||| 2 ^ c) (rs.length + 1 - 1) else 0) ≤ sum5 (fun c => (fact (free n t - 1)) * (if decide (c < n) && !t.testBit c then 1 else 0)) := sum5_le fun c hc => by
      cases hr : r.testBit c with
      | false => simp
      | true =>
        cases ht : t.testBit c with
        | true => simp
        | false =>
          have hn := h r List.mem_cons_self c hr
          have hf := free_or hc hn ht
          have ih := (rk_fact n rs (t ||| 2 ^ c) hrs).1
          have e : free n (t ||| 2 ^ c) = free n t - 1 := by omega
          rw [e] at ih
          simpa [hn] using ih
    rw [sum5_mul] at hle
    refine Nat.le_trans hle ?_
    change fact (free n t - 1) * free n t ≤ _
    rcases Nat.eq_zero_or_pos (free n t) with h0 | h0
    · rw [h0]; simp
    · obtain ⟨m, hm⟩ : ∃ m, free n t = m + 1 := ⟨free n t - 1, by omega⟩
      rw [hm, Nat.add_sub_cancel, fact, Nat.mul_comm]
      exact Nat.le_refl _
theorem full_le {l : List Int} (h : Seats l) : rk (natsP l) 0 l.length ≤ fact l.length := by
  have hw : Within l.length (natsP l) := fun r hr c hc => by
    obtain ⟨i, hi, rfl⟩ := List.getElem_of_mem hr
    have hi2 : i < l.length := by rw [nats_len] at hi; exact hi
    exact nats_within h hi2 c (by rw [List.getElem?_eq_getElem hi]; exact hc)
  have := (rk_fact l.length (natsP l) 0 hw).1
  rw [nats_len, show free l.length 0 = l.length from free_all ⟨l.length, by have := h.1.2; omega⟩] at this
  exact this

set_option maxHeartbeats 1000000 in
theorem fullByOthers_w (A : Option Addr) (n c : Nat) (w : World) (h : Code w A n c) : Calls Try.prog 4 #[.slice A n c] w (Plain (.bool true) w) := by
  by_cases hl : 1048576 < (n : Int)
  · go_enter Try.func4, Try.ntmps4
    go_wp2
    go_ret
    exact ⟨rfl, Below.refl _ _⟩
  · have HC := hide (drawFullByOthers_c A n c w h)
    clear h
    go_enter Try.func4, Try.ntmps4
    go_wp2_with fail
    refine HC.out.mono ?_
    rintro e w1 ⟨v, l, rfl, o1, hl5, b1⟩
    obtain ⟨A1, c1, rfl, _⟩ := own_row o1
    have HLM := hide (show l.length ≤ maxLen by unfold maxLen; omega)
    have HS := hide (fun (A : Option Addr) (c : Nat) (w5 : World) (h5 : Row w5 A (ints l)) => specFullByOthers_c A c l w5 h5 HLM.out)
    have HI := hide (fun (A : Option Addr) (c : Nat) (w5 : World) (h5 : Row w5 A (ints l)) => implFullByOthers_c A c l w5 h5 HLM.out)
    have HR := hide (fun (A : Option Addr) (c : Nat) (w5 : World) (h5 : Row w5 A (ints l)) => implRookCounts_c A c l w5 h5 HLM.out)
    clear HC
    by_cases hs : Seats l
    · have hv : fullR l = ((rk (natsP l) 0 l.length : Nat) : Int) := by unfold fullR; rw [if_pos hs]; exact fullV_eq hs
      rw [hv] at HS HI
      rw [if_pos hs, counts_len] at HR
      have hle := full_le hs
      have hat := hide (counts_at l l.length (Nat.le_refl _))
      have hcl := hide (counts_len l)
      have HF := hide (fun w5 => lawsFact_c l.length (by omega) w5)
      have hfb := fact_bd ⟨l.length, by omega⟩
      simp only at hfb
      clear hs hv
      generalize countsP l = CT at *
      generalize rk (natsP l) 0 l.length = x at *
      generalize fact l.length = F at *
      have hxx : ((x : Int) != (x : Int)) = false := by simp
      have hxF : (x : Int) ≤ (F : Int) := by omega
      have hx0 : ¬ (x : Int) < 0 := by omega
      go_wp2_with fail
      refine (HI.out A1 c1 _ (own_reads o1)).mono ?_
      rintro e w2 ⟨rfl, b2⟩
      have o1 := own_below o1 b2
      have b2 := below_then b1 b1.size b2
      go_wp2_with fail
      refine (HS.out A1 c1 _ (own_reads o1)).mono ?_
      rintro e w3 ⟨rfl, b3⟩
      have o1 := own_below o1 b3
      have b3 := below_then b2 b2.size b3
      go_wp2_with fail
      refine (HR.out A1 c1 _ (own_reads o1)).mono ?_
      rintro e w4 ⟨v4, rfl, o4, b4⟩
      obtain ⟨g4, c4, rfl, _⟩ := own_one o4 (by omega)
      have b4 := below_then b3 b3.size b4
      have hc4 := o4.cellAt l.length (by omega)
      rw [at_ints (by rw [hcl.out]; omega), hat.out] at hc4
      have k0 : (0 : Int) ≤ (l.length : Int) := by omega
      have k1 : (l.length : Int) < ((l.length + 1 : Nat) : Int) := by omega
      have k1' : (l.length : Int) < (l.length : Int) + 1 := by omega
      go_wp2_with fail
      refine (HF.out _).mono ?_
      rintro e w5 ⟨rfl, rfl⟩
      go_wp2_with fail
      go_ret
      exact ⟨rfl, b4⟩
    · have hv : fullR l = -1 := by unfold fullR; rw [if_neg hs]
      rw [hv] at HS HI
      clear hs hv HR
      go_wp2_with fail
      refine (HI.out A1 c1 _ (own_reads o1)).mono ?_
      rintro e w2 ⟨rfl, b2⟩
      have o1 := own_below o1 b2
      have b2 := below_then b1 b1.size b2
      go_wp2_with fail
      refine (HS.out A1 c1 _ (own_reads o1)).mono ?_
      rintro e w3 ⟨rfl, b3⟩
      have o1 := own_below o1 b3
      have b3 := below_then b2 b2.size b3
      go_wp2_with fail
      refine (HS.out A1 c1 _ (own_reads o1)).mono ?_
      rintro e w4 ⟨rfl, b4⟩
      have b4 := below_then b3 b3.size b4
      go_wp2_with fail
      go_ret
      exact ⟨rfl, b4⟩
end Go.Proofs.Ytlccohoblplddab

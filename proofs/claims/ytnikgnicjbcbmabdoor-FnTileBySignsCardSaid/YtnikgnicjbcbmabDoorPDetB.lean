
/-
  The program's determinant of signs: the determinant.
-/
import Derived.Test.YtnikgnicjbcbmabDoorPDetA
import Derived.Test.YtnikgnicjbcbmabDoorBitN
namespace Go.Proofs.YtnikgnicjbcbmabDoor
open Go.RowKit
set_option linter.unusedVariables false

/-- The rows behind the first one. -/
theorem row_rest {w : World} {ao : Addr} {out : List Value} (h : Row w (some ao) out) {c : Nat} (hj : 1 ≤ out.length) (hc : out.length ≤ c) : Row w (if c = 1 then some ao else some (ao.add 1)) (out.drop 1) := fun i hi => by
  simp only [List.length_drop] at hi
  obtain ⟨_, ⟨rfl⟩, hc'⟩ := h (1 + i) (by omega)
  rw [if_neg (by omega)]
  refine ⟨_, rfl, ?_⟩
  rw [addr_far, hc', List.getElem_drop]
theorem inRows_rest {w : World} {vs : List Value} {n : Nat} {r : List Int} {M : Mat} (h : InRows w vs n (r :: M)) : InRows w (vs.drop 1) n M := ⟨by have := h.1; simp at this ⊢; omega, fun i hi => by
  obtain ⟨ad, c, e1, e2, e3⟩ := h.2 (i + 1) (by simp; omega)
  exact ⟨ad, c, by rw [List.getElem?_drop, Nat.add_comm]; exact e1, by simpa using e2, by simpa using e3⟩⟩
/-- A number's lowest member as the program takes it off. -/
theorem low_pow {x n : Nat} (h0 : x ≠ 0) (h : x < 2 ^ n) (hn : n ≤ 62) : lowS x = 2 ^ low x := by
  have h64 : x < 18446744073709551616 := Nat.lt_of_lt_of_le h (Nat.pow_le_pow_right (n := 2) (by omega) (show n ≤ 64 by omega))
  exact (Lib.lowest_bit 64 x h0 h64).1
def OneIn (r : List Int) : Prop := ∀ x ∈ r, -1 ≤ x ∧ x ≤ 1
theorem oneIn_at {r : List Int} (h : OneIn r) (k : Nat) : -1 ≤ r[k]?.getD 0 ∧ r[k]?.getD 0 ≤ 1 := by
  by_cases hk : k < r.length
  · rw [List.getElem?_eq_getElem hk]; exact h _ (List.getElem_mem hk)
  · rw [List.getElem?_eq_none (by omega)]; simp
theorem drewN_two (w : World) (a b : Nat) : (w.drewN a).drewN b = w.drewN (a + b) := by
  unfold World.drewN
  simp [Nat.add_assoc]
theorem pow_ten {n m : Nat} (hn : n ≤ 10) (hm : m ≤ 10) : n ^ m ≤ 10000000000 := Nat.le_trans (Nat.pow_le_pow_left hn m) (Nat.le_trans (Nat.pow_le_pow_right (by omega) hm) (by decide))

set_option maxHeartbeats 4000000 in
set_option maxRecDepth 100000 in
theorem determinant_c (n : Nat) (hn : n ≤ 10) : ∀ (M : Mat), M.length ≤ 10 → (∀ r ∈ M, OneIn r) → ∀ (A : Option Addr) (c : Nat) (vs : List Value) (s : Nat) (W : World), Tab W → Row W A vs → InRows W vs n M → vs.length ≤ c → c ≤ maxLen → s < 2 ^ n →
    Calls Tryd.prog 15 #[.slice A M.length c, .int .i64 (s : Int)] W fun e w' => e = .returned (.int .i64 (lapP n M s)) ∧ ∃ m, w' = W.drewN m := by
  intro M
  induction M with
  | nil =>
    intro _ _ A c vs s W hT hr hin hc hcm hs
    go_enter Tryd.func15, Tryd.ntmps15
    go_wp2_with fail
    go_ret
    exact ⟨rfl, 0, rfl⟩
  | cons r M ih =>
    intro hM h1 A c vs s W hT hr hin hc hcm hs
    have hM' : M.length + 1 ≤ 10 := hM
    have hvl : vs.length = M.length + 1 := hin.1
    obtain ⟨ad0, cr, e0, hr0, hl0⟩ := hin.2 0 (by simp)
    simp only [List.getElem?_cons_zero, Option.getD_some] at hr0 hl0
    obtain ⟨ao, rfl, hc0⟩ := hr.at_ (k := 0) (by omega)
    rw [e0, Option.getD_some, show ao.add 0 = ao by cases ao; unfold Addr.add; split <;> simp_all] at hc0
    have HREC := hide (fun (t : Nat) (ht : t < 2 ^ n) (m : Nat) => show Calls Tryd.prog 15 #[.slice (if c = 1 then some ao else some (ao.add 1)) M.length (c - 1), .int .i64 (t : Int)] (W.drewN m) fun e w' => e = .returned (.int .i64 (lapP n M t)) ∧ ∃ q, w' = W.drewN q from
      (ih (by omega) (fun q hq => h1 q (List.mem_cons_of_mem _ hq)) _ (c - 1) (vs.drop 1) t (W.drewN m) hT (row_rest hr (by omega) hc) (inRows_rest hin) (by simp; omega) (by omega) ht).mono fun e w' ⟨h, q, hq⟩ => ⟨h, m + q, by rw [hq, drewN_two]⟩)
    have hone := h1 r (List.mem_cons_self)
    have HOA := hide (fun k => oneIn_at hone k)
    have hp10 := pow_ten hn (show M.length ≤ 10 by omega)
    have HB := hide (fun t => show -10000000000 ≤ lapP n M t ∧ lapP n M t ≤ 10000000000 by
      have := lapP_bd n M (fun q hq => h1 q (List.mem_cons_of_mem _ hq)) t
      omega)
    have HF := hide (fun j k ng (hj : j ≤ n) => show -100000000000 ≤ lapF r (lapP n M) s j k ng ∧ lapF r (lapP n M) s j k ng ≤ 100000000000 by
      have := lapF_bd (F := 10000000000) hone (fun t => HB.out t) s j k ng
      have : j * 10000000000 ≤ 10 * 10000000000 := Nat.mul_le_mul_right _ (by omega)
      omega)
    have HST := hide (fun (k left : Nat) (ng : Bool) (hl : UpFrom s k left) (h0 : left ≠ 0) => lap_step (r := r) (f := lapP n M) (ng := ng) (show n ≤ 62 by omega) hs hl h0)
    have HEN := hide (fun (k j : Nat) (ng : Bool) (hl : UpFrom s k 0) => lap_end (r := r) (f := lapP n M) (ng := ng) hl j)
    have HLP := hide (fun (x : Nat) (h0 : x ≠ 0) (hx : x < 2 ^ n) => low_pow h0 hx (show n ≤ 62 by omega))
    have hTot : Hid (lapP n (r :: M) s = lapF r (lapP n M) s n 0 false) := rfl
    have hp1024 : 2 ^ n ≤ 1024 := Nat.pow_le_pow_right (n := 2) (by omega) (show n ≤ 10 from hn)
    have hs10 : s < 1024 := Nat.lt_of_lt_of_le hs hp1024
    have HDL := hide (fun t => dif_lt (x := s) t hs)
    have HTZ := hide (fun (x : Nat) (hx : x < 1024) (h0 : x ≠ 0) (m : Nat) => show Calls Tryd.prog 28 #[.int .u64 (x : Int)] (W.drewN m) fun e w' => e = .returned (.int .i64 ((low x : Nat) : Int)) ∧ w' = W.drewN m from (tz_c x (by omega) h0 (W.drewN m) hT).mono fun e w' ⟨h, h'⟩ => ⟨h, h'.symm⟩)
    have HC := hide (fun k (hk : k < n) => show W.cell? (ad0.add k) = some (.int .i64 (r[k]?.getD 0)) by
      obtain ⟨ad', e, hcc⟩ := hr0.int (k := k) (by rw [hl0]; exact hk)
      rw [Option.some.inj e]
      exact hcc)
    rw [hTot.out]
    generalize hTT : lapF r (lapP n M) s n 0 false = T at *
    have HTT := hide hTT
    have hMl : (M.length : Int) + 1 ≤ 10 := by omega
    have hcl : (M.length : Int) + 1 ≤ (c : Int) := by omega
    have hz0 : (((M.length : Int) + 1) == 0) = false := by simp; omega
    have hc1 : (1 : Int) ≤ (c : Int) := by omega
    have hcm' : c ≤ 9223372036854775807 := by unfold maxLen at hcm; omega
    have hlen : ((M.length + 1 : Nat) : Int) = (M.length : Int) + 1 := by omega
    clear hTT ih h1 hr hin hcm hT hr0 hl0 e0 hs hone hvl hp10 hM
    by_cases hc1e : c = 1
    · subst hc1e
      go_enter Tryd.func15, Tryd.ntmps15
      go_wp2_with fail
      go_loopw [5, 6, 7] (fun a b l wr => ∃ (k left : Nat) (ng : Bool) (S : Int) (m : Nat), l = .int .i64 (left : Int) ∧ b = .int .i64 (sgn ng) ∧ a = .int .i64 S ∧ Hid (UpFrom s k left) ∧ k ≤ n ∧ Hid (S + lapF r (lapP n M) s (n - k) k ng = T) ∧ wr = W.drewN m) (fun _ _ l _ => (intOf l).toNat)
      case atStart => exact ⟨0, s, false, 0, 0, rfl, rfl, rfl, from_zero s, Nat.zero_le _, by show _ = _; rw [Nat.sub_zero, HTT.out]; simp, rfl⟩
      case round =>
        obtain ⟨k, left, ng, S, m, rfl, rfl, rfl, hup, hk, hsum, hw⟩ := hrel
        obtain ⟨wo, rfl⟩ : ∃ wo : World, wo = wr := ⟨_, rfl⟩
        have HW := hide hw
        have hc0 : wo.cell? ao = some (.slice (some ad0) n cr) := by rw [hw]; exact hc0
        clear hw
        by_cases h0 : left = 0
        · subst h0
          have hS : Hid (S = T) := by
            have := hsum.out
            rw [HEN.out k (n - k) ng hup.out] at this
            show S = T
            omega
          go_wp2_with fail
          go_ret
          exact ⟨by rw [← hS.out]; rfl, m, HW.out⟩
        · obtain ⟨q1, q2, q3, q4, q5, q6⟩ := HST.out k left ng hup.out h0
          have hlp := HLP.out left h0 q1
          have hcell : wo.cell? (ad0.add (low left)) = some (.int .i64 (r[low left]?.getD 0)) := by rw [HW.out]; exact HC.out (low left) q2
          have hox := HOA.out (low left)
          have hvb := HB.out (dif s (2 ^ low left))
          have hfb1 := HF.out (n - k) k ng (by omega)
          have hfb2 := HF.out (n - (low left + 1)) (low left + 1) (!ng) (by omega)
          have hfb0 := HF.out n 0 false (Nat.le_refl _)
          rw [HTT.out] at hfb0
          have hdl := HDL.out (2 ^ low left)
          have HTZl := hide (fun m' => show Calls Tryd.prog 28 #[.int .u64 (left : Int)] (wo.drewN m') fun e w' => e = .returned (.int .i64 ((low left : Nat) : Int)) ∧ w' = wo.drewN m' by
            have := HTZ.out left (by omega) h0 (m + m')
            rwa [← drewN_two, ← HW.out] at this)
          have HRc := hide (fun m' => show Calls Tryd.prog 15 #[.slice (some ao) M.length 0, .int .i64 ((dif s (2 ^ low left) : Nat) : Int)] (wo.drewN m') fun e w' => e = .returned (.int .i64 (lapP n M (dif s (2 ^ low left)))) ∧ ∃ q, w' = W.drewN q by
            have := HREC.out (dif s (2 ^ low left)) hdl (m + m')
            simp only [if_true, Nat.sub_self] at this
            rwa [← drewN_two, ← HW.out] at this)
          have HSK := hide (fun (hx : r[low left]?.getD 0 = 0) => show S + lapF r (lapP n M) s (n - (low left + 1)) (low left + 1) (!ng) = T by
            have := hsum.out
            rw [q5, if_pos hx] at this
            omega)
          have HAD := hide (fun (hx : r[low left]?.getD 0 ≠ 0) => show (S + sgn ng * (r[low left]?.getD 0) * lapP n M (dif s (2 ^ low left))) + lapF r (lapP n M) s (n - (low left + 1)) (low left + 1) (!ng) = T by
            have := hsum.out
            rw [q5, if_neg hx] at this
            omega)
          have hS : -200000000000 ≤ S ∧ S ≤ 200000000000 := by have := hsum.out; omega
          have hV := mul_one_bd (F := 10000000000) hox (sgn_or ng) (v := lapP n M (dif s (2 ^ low left))) (by omega)
          have hsx : -1 ≤ sgn ng * (r[low left]?.getD 0) ∧ sgn ng * (r[low left]?.getD 0) ≤ 1 := by
            have := mul_one_bd (F := 1) hox (sgn_or ng) (v := 1) (by omega)
            omega
          have hpl : 2 ^ low left < 4611686018427387904 := (powN (k := low left) (by omega)).2
          have H4 := hide q4
          have el : IntKind.u64.wrap (left : Int) = (left : Int) := by rw [IntKind.wrap_u64]; omega
          have en : IntKind.i64.wrap (-(left : Int)) = -(left : Int) := IntWalk.i64_in _ (by omega)
          have eb := neg64 left (by omega)
          rw [hlp] at eb
          have ed := i64_difN s (2 ^ low left) (by omega) hpl
          have em : IntKind.i64.wrap ((left : Int) - 1) = ((left - 1 : Nat) : Int) := (IntWalk.i64_in _ (by omega)).trans (by omega)
          have ea := i64_andN left (left - 1) (by omega) (by omega)
          have HLT := hide q6
          have e1 : IntKind.i64.wrap (-(sgn ng)) = sgn (!ng) := by
            rw [sgn_not]
            have := sgn_or ng
            exact IntWalk.i64_in _ (by omega)
          have hln : ((left : Int) != 0) = true := by simp; omega
          have q20 : (0 : Int) ≤ ((low left : Nat) : Int) := by omega
          have q2n : ((low left : Nat) : Int) < (n : Int) := by omega
          have hq2 := hide q2
          clear q5 q4 q6 hlp hdl hox hvb hfb1 hfb2 hfb0 hsum hup
          generalize low left = c0 at *
          generalize hD : dif s (2 ^ c0) = D at *
          generalize hL2 : left &&& (left - 1) = left2 at *
          generalize 2 ^ c0 = P at *
          generalize r[c0]?.getD 0 = x at *
          generalize lapP n M D = dv at *
          generalize hsg : sgn ng = sg at *
          generalize hsg2 : sgn (!ng) = sg2 at *
          have HSG2 := hide hsg2
          clear hD hL2 hsg hsg2
          by_cases hx : x = 0
          · have hxb : (x != 0) = false := by simp [hx]
            have HE := hide (HSK.out hx)
            clear hx HSK HAD hV hsx
            go_wp2_with fail
            go_quiet ((go_at_call 28; exact Calls.quiet_of_same (HTZl.out _)))
            go_wp2_with fail
            exact ⟨⟨c0 + 1, left2, !ng, S, _, rfl, by rw [HSG2.out], rfl, H4.out, hq2.out, HE.out, by rw [HW.out, drewN_two]⟩, by simp [intOf]; have := HLT.out; omega⟩
          · have hxb : (x != 0) = true := by simpa using hx
            have HE := hide (HAD.out hx)
            have e2 : IntKind.i64.wrap (sg * x) = sg * x := IntWalk.i64_in _ (by omega)
            have e3 : IntKind.i64.wrap (sg * x * dv) = sg * x * dv := IntWalk.i64_in _ (by omega)
            have e4 : IntKind.i64.wrap (S + sg * x * dv) = S + sg * x * dv := IntWalk.i64_in _ (by omega)
            clear hx HSK HAD hV hsx
            go_wp2_with fail
            go_quiet ((go_at_call 28; exact Calls.quiet_of_same (HTZl.out _)))
            go_wp2_with fail
            refine (HRc.out _).mono ?_
            rintro e w3 ⟨rfl, q, hq⟩
            have HQ := hide hq
            clear hq
            go_wp2_with fail
            exact ⟨⟨c0 + 1, left2, !ng, _, q, rfl, by rw [HSG2.out], rfl, H4.out, hq2.out, HE.out, HQ.out⟩, by simp [intOf]; have := HLT.out; omega⟩
    · obtain ⟨ab, af, asp⟩ := ao
      have had : (⟨ab, af, asp⟩ : Addr).add 1 = ⟨ab, af + 1, none⟩ := by unfold Addr.add; simp
      have HAD1 := hide had
      clear had
      go_enter Tryd.func15, Tryd.ntmps15
      go_wp2_with fail
      go_loopw [5, 6, 7] (fun a b l wr => ∃ (k left : Nat) (ng : Bool) (S : Int) (m : Nat), l = .int .i64 (left : Int) ∧ b = .int .i64 (sgn ng) ∧ a = .int .i64 S ∧ Hid (UpFrom s k left) ∧ k ≤ n ∧ Hid (S + lapF r (lapP n M) s (n - k) k ng = T) ∧ wr = W.drewN m) (fun _ _ l _ => (intOf l).toNat)
      case atStart => exact ⟨0, s, false, 0, 0, rfl, rfl, rfl, from_zero s, Nat.zero_le _, by show _ = _; rw [Nat.sub_zero, HTT.out]; simp, rfl⟩
      case round =>
        obtain ⟨k, left, ng, S, m, rfl, rfl, rfl, hup, hk, hsum, hw⟩ := hrel
        obtain ⟨wo, rfl⟩ : ∃ wo : World, wo = wr := ⟨_, rfl⟩
        have HW := hide hw
        have hc0 : wo.cell? ⟨ab, af, asp⟩ = some (.slice (some ad0) n cr) := by rw [hw]; exact hc0
        clear hw
        by_cases h0 : left = 0
        · subst h0
          have hS : Hid (S = T) := by
            have := hsum.out
            rw [HEN.out k (n - k) ng hup.out] at this
            show S = T
            omega
          go_wp2_with fail
          go_ret
          exact ⟨by rw [← hS.out]; rfl, m, HW.out⟩
        · obtain ⟨q1, q2, q3, q4, q5, q6⟩ := HST.out k left ng hup.out h0
          have hlp := HLP.out left h0 q1
          have hcell : wo.cell? (ad0.add (low left)) = some (.int .i64 (r[low left]?.getD 0)) := by rw [HW.out]; exact HC.out (low left) q2
          have hox := HOA.out (low left)
          have hvb := HB.out (dif s (2 ^ low left))
          have hfb1 := HF.out (n - k) k ng (by omega)
          have hfb2 := HF.out (n - (low left + 1)) (low left + 1) (!ng) (by omega)
          have hfb0 := HF.out n 0 false (Nat.le_refl _)
          rw [HTT.out] at hfb0
          have hdl := HDL.out (2 ^ low left)
          have HTZl := hide (fun m' => show Calls Tryd.prog 28 #[.int .u64 (left : Int)] (wo.drewN m') fun e w' => e = .returned (.int .i64 ((low left : Nat) : Int)) ∧ w' = wo.drewN m' by
            have := HTZ.out left (by omega) h0 (m + m')
            rwa [← drewN_two, ← HW.out] at this)
          have HRc := hide (fun m' => show Calls Tryd.prog 15 #[.slice (some ⟨ab, af + 1, none⟩) M.length (c - 1), .int .i64 ((dif s (2 ^ low left) : Nat) : Int)] (wo.drewN m') fun e w' => e = .returned (.int .i64 (lapP n M (dif s (2 ^ low left)))) ∧ ∃ q, w' = W.drewN q by
            have := HREC.out (dif s (2 ^ low left)) hdl (m + m')
            rw [if_neg hc1e, HAD1.out] at this
            rwa [← drewN_two, ← HW.out] at this)
          have HSK := hide (fun (hx : r[low left]?.getD 0 = 0) => show S + lapF r (lapP n M) s (n - (low left + 1)) (low left + 1) (!ng) = T by
            have := hsum.out
            rw [q5, if_pos hx] at this
            omega)
          have HAD := hide (fun (hx : r[low left]?.getD 0 ≠ 0) => show (S + sgn ng * (r[low left]?.getD 0) * lapP n M (dif s (2 ^ low left))) + lapF r (lapP n M) s (n - (low left + 1)) (low left + 1) (!ng) = T by
            have := hsum.out
            rw [q5, if_neg hx] at this
            omega)
          have hS : -200000000000 ≤ S ∧ S ≤ 200000000000 := by have := hsum.out; omega
          have hV := mul_one_bd (F := 10000000000) hox (sgn_or ng) (v := lapP n M (dif s (2 ^ low left))) (by omega)
          have hsx : -1 ≤ sgn ng * (r[low left]?.getD 0) ∧ sgn ng * (r[low left]?.getD 0) ≤ 1 := by
            have := mul_one_bd (F := 1) hox (sgn_or ng) (v := 1) (by omega)
            omega
          have hpl : 2 ^ low left < 4611686018427387904 := (powN (k := low left) (by omega)).2
          have H4 := hide q4
          have el : IntKind.u64.wrap (left : Int) = (left : Int) := by rw [IntKind.wrap_u64]; omega
          have en : IntKind.i64.wrap (-(left : Int)) = -(left : Int) := IntWalk.i64_in _ (by omega)
          have eb := neg64 left (by omega)
          rw [hlp] at eb
          have ed := i64_difN s (2 ^ low left) (by omega) hpl
          have em : IntKind.i64.wrap ((left : Int) - 1) = ((left - 1 : Nat) : Int) := (IntWalk.i64_in _ (by omega)).trans (by omega)
          have ea := i64_andN left (left - 1) (by omega) (by omega)
          have HLT := hide q6
          have e1 : IntKind.i64.wrap (-(sgn ng)) = sgn (!ng) := by
            rw [sgn_not]
            have := sgn_or ng
            exact IntWalk.i64_in _ (by omega)
          have hln : ((left : Int) != 0) = true := by simp; omega
          have q20 : (0 : Int) ≤ ((low left : Nat) : Int) := by omega
          have q2n : ((low left : Nat) : Int) < (n : Int) := by omega
          have hq2 := hide q2
          clear q5 q4 q6 hlp hdl hox hvb hfb1 hfb2 hfb0 hsum hup
          generalize low left = c0 at *
          generalize hD : dif s (2 ^ c0) = D at *
          generalize hL2 : left &&& (left - 1) = left2 at *
          generalize 2 ^ c0 = P at *
          generalize r[c0]?.getD 0 = x at *
          generalize lapP n M D = dv at *
          generalize hsg : sgn ng = sg at *
          generalize hsg2 : sgn (!ng) = sg2 at *
          have HSG2 := hide hsg2
          clear hD hL2 hsg hsg2
          by_cases hx : x = 0
          · have hxb : (x != 0) = false := by simp [hx]
            have HE := hide (HSK.out hx)
            clear hx HSK HAD hV hsx
            go_wp2_with fail
            go_quiet ((go_at_call 28; exact Calls.quiet_of_same (HTZl.out _)))
            go_wp2_with fail
            exact ⟨⟨c0 + 1, left2, !ng, S, _, rfl, by rw [HSG2.out], rfl, H4.out, hq2.out, HE.out, by rw [HW.out, drewN_two]⟩, by simp [intOf]; have := HLT.out; omega⟩
          · have hxb : (x != 0) = true := by simpa using hx
            have HE := hide (HAD.out hx)
            have e2 : IntKind.i64.wrap (sg * x) = sg * x := IntWalk.i64_in _ (by omega)
            have e3 : IntKind.i64.wrap (sg * x * dv) = sg * x * dv := IntWalk.i64_in _ (by omega)
            have e4 : IntKind.i64.wrap (S + sg * x * dv) = S + sg * x * dv := IntWalk.i64_in _ (by omega)
            clear hx HSK HAD hV hsx
            go_wp2_with fail
            go_quiet ((go_at_call 28; exact Calls.quiet_of_same (HTZl.out _)))
            go_wp2_with fail
            refine (HRc.out _).mono ?_
            rintro e w3 ⟨rfl, q, hq⟩
            have HQ := hide hq
            clear hq
            go_wp2_with fail
            go_roundw
            case rel => exact ⟨c0 + 1, left2, !ng, _, q, rfl, by rw [HSG2.out], rfl, H4.out, hq2.out, HE.out, HQ.out⟩
            case measure => simp [intOf]; have := HLT.out; omega
end Go.Proofs.YtnikgnicjbcbmabDoor

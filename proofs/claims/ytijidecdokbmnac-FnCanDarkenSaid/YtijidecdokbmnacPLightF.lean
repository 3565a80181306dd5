
/-
  The program's lights: FewestPresses.
-/
import Derived.Test.YtijidecdokbmnacPLightG
namespace Go.Proofs.Ytijidecdokbmnac
open Go.RowKit
set_option linter.unusedVariables false

theorem Row.front {w : World} {A : Option Addr} {cs ds : List Value} (h : Row w A (cs ++ ds)) : Row w A cs := fun j hj => by
  obtain ⟨ad, e, hc⟩ := h j (by rw [List.length_append]; omega)
  exact ⟨ad, e, by rw [hc, List.getElem_append_left hj]⟩
theorem natI_front (L M : List Nat) : ints (natI (L ++ M)) = ints (natI L) ++ ints (natI M) := by simp [natI, ints]
theorem dbl_len (Q S : List Nat) : ∀ k, (dblTo Q S k).length = S.length * 2 ^ k
  | 0 => by simp [dblTo]
  | k + 1 => by
    simp only [dblTo, List.length_append, List.length_map]
    rw [dbl_len Q S k, Nat.pow_succ, ← Nat.mul_assoc]
    omega
theorem dbl_lt {Q S : List Nat} {m : Nat} (hQ : ∀ k : Nat, Q[k]?.getD 0 < 2 ^ m) (hS : ∀ k : Nat, S[k]?.getD 0 < 2 ^ m) : ∀ k j : Nat, (dblTo Q S k)[j]?.getD 0 < 2 ^ m
  | 0, j => hS j
  | k + 1, j => by
    have ih := dbl_lt hQ hS k
    simp only [dblTo]
    rcases Nat.lt_or_ge j (dblTo Q S k).length with hj | hj
    · rw [List.getElem?_append_left hj]; exact ih j
    · rw [List.getElem?_append_right hj, List.getElem?_map]
      generalize j - (dblTo Q S k).length = i
      have := ih i
      cases he : (dblTo Q S k)[i]? with
      | none => simp; exact Nat.two_pow_pos m
      | some x =>
        rw [he] at this
        exact Nat.xor_lt_two_pow this (hQ k)
theorem own_first {w : World} {B x : Nat} (h : B ≤ w.heap.size) {g : Nat} (hg : g = w.heap.size) : (w.alloc (.cells #[.int .i64 (x : Int)] 41)).ownsRow B 41 1 (.slice (some ⟨g, 0, none⟩) 1 1) 1 (ints (natI [x])) := hg ▸
  ⟨by simp [natI], .inr ⟨w.heap.size, 1, #[.int .i64 (x : Int)], rfl, h, heap_alloc_new w _, Nat.le_refl _, by simp [maxLen], rfl, by simp [natI]⟩⟩
theorem minTo_le (b : Nat) (S : List Nat) : ∀ k, minTo b S k ≤ b
  | 0 => Nat.le_refl _
  | k + 1 => Nat.le_trans (Nat.min_le_left _ _) (minTo_le b S k)

set_option maxHeartbeats 4000000 in
set_option maxRecDepth 100000 in
theorem implFewestPresses_c (bc br x : Int) (W : World) : Calls Try.prog 10 #[.int .i64 bc, .int .i64 br, .int .i64 x] W (Plain (.int .i64 (fewV bc br x)) W) := by
  have HLB := hide (litBoard_c bc br (some ⟨W.heap.size, 0, none⟩) 1 [x] (W.alloc (.cells #[.int .i64 x] 3)) (row_new W #[.int .i64 x] 3 rfl) (by simp))
  rcases HLB.out with ⟨w, h, rfl, rfl, hw, hh, h12, hS, hC⟩ | ⟨hN, hC⟩
  · obtain ⟨x', rfl⟩ := Int.eq_ofNat_of_zero_le (hS 0 (by simp)).1
    have hx : x' < 2 ^ (w * h) := by have h0 := (hS 0 (by simp)).2; have p := Nat.two_pow_pos (w * h); simp only [List.getElem?_cons_zero, Option.getD_some] at h0; omega
    rw [fewV_nat hw hh h12 hx]
    have HC := hide hC
    have hD := dat_is hw hh h12
    have HP := hide (fun w5 => dat_leads hw hh h12 w5)
    have hmb : ∀ k : Nat, ((datL w h).leads[k]?.getD (0, 0)).1 < 2 ^ 12 ∧ ((datL w h).leads[k]?.getD (0, 0)).2 < 2 ^ 12 := fun k => ⟨set12 h12 (hD.leadbd k).1, set12 h12 (hD.leadbd k).2⟩
    have hqb : ∀ k : Nat, (datL w h).quiet[k]?.getD 0 < 2 ^ 12 := fun k => set12 h12 (hD.quietbd k)
    have hq3 := hD.three
    have hml : (datL w h).leads.length ≤ 12 := by
      have := (lead_lt (R := rowsP (datL w h).lit) (m := 64) (fun k => by
        rcases Nat.lt_or_ge k (w * h) with hk | hk
        · have e : (rowsP (datL w h).lit)[k]?.getD (0, 0) = (2 ^ k, (datL w h).lit[k]?.getD 0) := rowsP_at _ (by rw [hD.len]; exact hk)
          rw [e]
          exact ⟨Nat.pow_lt_pow_right (by omega) (by omega), Nat.lt_trans (set12 h12 (hD.bd k)) (by decide)⟩
        · rw [List.getElem?_eq_none (by rw [rowsP_len, hD.len]; omega)]
          exact ⟨by decide, by decide⟩) (w * h)).2.1
      rw [hD.leads] at this
      simp only at this
      omega
    have hxb : ((0 : Nat), x').1 < 2 ^ 12 ∧ ((0 : Nat), x').2 < 2 ^ 12 := ⟨show (0 : Nat) < 2 ^ 12 by decide, set12 h12 hx⟩
    have hfb := less_lt hmb hxb (datL w h).leads.length
    have HLC := hide (fun (A : Option Addr) (c : Nat) (w5 : World) (hr : Row w5 A (cells2 (datL w h).leads)) (hA : (datL w h).leads.length ≠ 0 → ∃ g, A = some ⟨g, 0, none⟩) => less_c A c (datL w h).leads (0, x') w5 hr hA hmb (by omega) hxb)
    have HZ := hide (fun w6 => by
      have := size_c (w : Int) (h : Int) w6 (by omega) (by omega) (by omega) (by omega)
      rw [← Int.natCast_mul] at this
      exact this)
    have hfb : (lessP (datL w h).leads (0, x')).1 < 2 ^ 12 := hfb.1
    have HV : Hid (fewI (w * h) (datL w h).leads (datL w h).quiet x' = if (lessP (datL w h).leads (0, x')).2 = 0 then some (minTo (w * h) (dblTo (datL w h).quiet [(lessP (datL w h).leads (0, x')).1] (datL w h).quiet.length) (dblTo (datL w h).quiet [(lessP (datL w h).leads (0, x')).1] (datL w h).quiet.length).length) else none) := rfl
    clear HLB hS hC hx hh hw hD hmb hml hxb
    generalize fewI (w * h) (datL w h).leads (datL w h).quiet x' = V at *
    generalize (datL w h).leads = M at *
    generalize (datL w h).quiet = Q at *
    generalize lessP M (0, x') = f at *
    generalize w * h = n at *
    obtain ⟨f1, f2⟩ := f
    simp only at hfb HV
    have HLC := hide (fun (A : Option Addr) (c : Nat) (w5 : World) (hr : Row w5 A (cells2 M)) (hA : M.length ≠ 0 → ∃ g, A = some ⟨g, 0, none⟩) => show Calls Try.prog 19 #[.agg #[.int .i64 0, .int .i64 (x' : Int)], .slice A M.length c] w5 (Plain (.agg #[.int .i64 (f1 : Int), .int .i64 (f2 : Int)]) w5) from HLC.out A c w5 hr hA)
    obtain ⟨VV, hVV⟩ : ∃ VV : Int, optV V = VV := ⟨_, rfl⟩
    rw [hVV]
    have HVV := hide hVV
    clear hVV
    go_enter Try.func10, Try.ntmps10
    go_wp2_with fail
    refine HC.out.mono ?_
    rintro e w1 ⟨rfl, b1⟩
    have hb1 : Below W.heap.size W w1 := below_then ((Below.refl _ _).alloc (Nat.le_refl _) _) (by simp) b1
    have bxb := Box.new w1 34 #[.int .i64 (w : Int), .int .i64 (h : Int)]
    clear b1 HC
    go_wp2_with fail
    refine (HP.out _).mono ?_
    rintro e w2 ⟨v1, v2, rfl, o1, o2, b2⟩
    have bxb := bxb.then b2
    have hb2 := below_then (hb1.alloc hb1.size (.cells #[.int .i64 (w : Int), .int .i64 (h : Int)] 34)) (hb1.alloc hb1.size (.cells #[.int .i64 (w : Int), .int .i64 (h : Int)] 34)).size b2
    obtain ⟨A1, c1, rfl, _⟩ := own_row o1
    obtain ⟨A2, c2, rfl, _⟩ := own_row o2
    have HH := hide (own_head o1)
    have R1 := hide (own_reads o1)
    have R2 := own_reads o2
    obtain ⟨gb, hgb⟩ : ∃ gb, w1.heap.size = gb := ⟨_, rfl⟩
    rw [hgb] at bxb ⊢
    clear o1 o2 b2 hb1 hgb
    go_wp2_with fail
    refine (HLC.out _ _ _ R1.out HH.out).mono ?_
    rintro e w3 ⟨rfl, b3⟩
    have R2 := R2.below b3
    have bxb := bxb.then b3
    have hb3 := below_then hb2 hb2.size b3
    have bxd := Box.new w3 44 #[.int .i64 (f1 : Int), .int .i64 (f2 : Int)]
    have d0 := bxd.cell 0
    have d1 := bxd.cell 1
    clear hb2 b3 bxd HLC HP R1 HH
    by_cases h0 : f2 = 0
    · subst h0
      rw [if_pos rfl] at HV
      have d0 : (w3.alloc (.cells #[.int .i64 (f1 : Int), .int .i64 0] 44)).cell? ⟨w3.heap.size, 0, none⟩ = some (.int .i64 (f1 : Int)) := d0
      have d1 : (w3.alloc (.cells #[.int .i64 (f1 : Int), .int .i64 0] 44)).cell? ⟨w3.heap.size, 1, none⟩ = some (.int .i64 0) := d1
      have R2 := hide (R2.alloc (.cells #[.int .i64 (f1 : Int), .int .i64 0] 44))
      have bxb := bxb.alloc (.cells #[.int .i64 (f1 : Int), .int .i64 0] 44)
      have hb3 := hb3.alloc hb3.size (.cells #[.int .i64 (f1 : Int), .int .i64 0] 44)
      have HX : Hid (VV = ((minTo n (dblTo Q [f1] Q.length) (dblTo Q [f1] Q.length).length : Nat) : Int)) := by
        have := HVV.out
        rw [HV.out] at this
        exact this.symm
      clear HV HVV
      have HDL := hide (fun k => dbl_len Q [f1] k)
      have HDB := hide (fun k j => dbl_lt (S := [f1]) hqb (fun k => by
        rcases k with _ | k
        · exact hfb
        · simp) k j)
      have HD0 := hide (show dblTo Q [f1] 0 = [f1] from rfl)
      have HDS := hide (fun k => show dblTo Q [f1] (k + 1) = dblTo Q [f1] k ++ (dblTo Q [f1] k).map (fun s => s ^^^ (Q[k]?.getD 0)) from rfl)
      have HQB := hide hqb
      obtain ⟨w4, hw4⟩ : ∃ w4, w3.alloc (.cells #[.int .i64 (f1 : Int), .int .i64 0] 44) = w4 := ⟨_, rfl⟩
      have hz4 : w4.heap.size = w3.heap.size + 1 := by rw [← hw4]; simp
      have O4 := hide (own_first (w := w4) (B := w4.heap.size) (x := f1) (Nat.le_refl _) rfl)
      have HB4 := hide ((Below.refl w4.heap.size w4).alloc (Nat.le_refl _) (.cells #[.int .i64 (f1 : Int)] 41))
      rw [hz4] at O4
      rw [hw4] at R2 bxb hb3
      have HW4 := hide hw4
      clear hw4 hqb
      go_wp2_with fail
      rw [HW4.out]
      clear d0 d1 HW4
      have hgb4 := bxb.in_
      go_loopw [12, 47] (fun v i wr => ∃ q : Nat, q ≤ Q.length ∧ i = .int .i64 (q : Int) ∧ wr.ownsRow w4.heap.size 41 1 v (dblTo Q [f1] q).length (ints (natI (dblTo Q [f1] q))) ∧ Below w4.heap.size w4 wr) (fun _ i _ => Q.length - (intOf i).toNat)
      case atStart => exact ⟨0, Nat.zero_le _, rfl, by rw [HD0.out]; rw [hz4]; exact O4.out, HB4.out⟩
      case round =>
        clear O4 HB4
        obtain ⟨q, hq, rfl, own, hb⟩ := hrel
        obtain ⟨wo, rfl⟩ : ∃ wo : World, wo = wr := ⟨_, rfl⟩
        have hlen := HDL.out q
        have hpow : 2 ^ q ≤ 8 := Nat.pow_le_pow_right (n := 2) (by omega) (show q ≤ 3 by omega)
        have hpw1 : 1 ≤ 2 ^ q := Nat.one_le_two_pow
        simp only [List.length_cons, List.length_nil, Nat.zero_add, Nat.one_mul] at hlen
        obtain ⟨gs, cs, rfl, gs1, gs2⟩ := own_addr own (by omega)
        by_cases hlt : q < Q.length
        · obtain ⟨ad, rfl, hck⟩ := (R2.out.below hb).int (k := q) (by rw [natI_len]; exact hlt)
          rw [natI_at] at hck
          have hyb := HQB.out q
          have hSB := hide (HDB.out q)
          have hDS := HDS.out q
          have HR := hide (own_reads own)
          generalize Q[q]?.getD 0 = y at *
          generalize hS : dblTo Q [f1] q = S at *
          have HOW := hide own
          have HDS' := hide hDS
          have q0 : (0 : Int) ≤ (q : Int) := by omega
          have q1 : (q : Int) < (Q.length : Int) := by omega
          clear own hS hDS hpw1
          have hS8 : S.length ≤ 8 := by omega
          clear hlen hpow
          go_wp2_with fail
          go_loopw [12, 53] (fun v i wi => ∃ j : Nat, j ≤ S.length ∧ i = .int .i64 (j : Int) ∧ wi.ownsRow w4.heap.size 41 1 v (S.length + j) (ints (natI (S ++ (S.take j).map fun s => s ^^^ y))) ∧ Row wi (some ⟨gs, 0, none⟩) (ints (natI S)) ∧ Below w4.heap.size w4 wi) (fun _ i _ => S.length - (intOf i).toNat)
          case atStart => exact ⟨0, Nat.zero_le _, rfl, by simpa using HOW.out, HR.out, hb⟩
          case round =>
            clear HOW HR hb
            obtain ⟨j, hj, rfl, own, hr, hb⟩ := hrel
            obtain ⟨wi, rfl⟩ : ∃ wi : World, wi = wr := ⟨_, rfl⟩
            by_cases hjl : j < S.length
            · obtain ⟨gv, cv, rfl, gv1, gv2⟩ := own_addr own (by omega)
              obtain ⟨_, ⟨rfl⟩, hcj⟩ := hr.int (k := j) (by rw [natI_len]; exact hjl)
              rw [natI_at, add0] at hcj
              have hsb := hSB.out j
              have HX := hide (fun w5 => addedP_c (S[j]?.getD 0) y hsb hyb w5)
              have HSn := hide (show S ++ (S.take (j + 1)).map (fun s => s ^^^ y) = (S ++ (S.take j).map fun s => s ^^^ y) ++ [S[j]?.getD 0 ^^^ y] by
                rw [List.take_succ_eq_append_getElem hjl, List.map_append, List.append_assoc, List.getElem?_eq_getElem hjl]
                rfl)
              generalize S[j]?.getD 0 = s at *
              generalize s ^^^ y = u at *
              have HT := hide (natI_front S ((S.take j).map fun s => s ^^^ y))
              generalize hT : (S ++ (S.take j).map fun s => s ^^^ y) = T at *
              clear hT
              have OA := hide (own.alloc (.cells #[.int .i64 (u : Int)] 41))
              have BA := hide (hb.alloc hb.size (.cells #[.int .i64 (u : Int)] 41))
              have RA := hide (hr.alloc (.cells #[.int .i64 (u : Int)] 41))
              have j0 : (0 : Int) ≤ (j : Int) := by omega
              have j1 : (j : Int) < (S.length : Int) := by omega
              clear own hb hr hsb
              go_wp2_with fail
              refine (HX.out _).mono ?_
              rintro e w5 ⟨rfl, rfl⟩
              go_wp2_with ((at_builtin; refine put_keep rfl (.tmp 57) (.tmp 61) rfl Try.underlying38 elem_ps rfl OA.out rfl (m := 1) (news := [.int .i64 (u : Int)]) rfl (row_new _ _ _ rfl) (by simp [Value.oneCell']) (by omega) (by omega) BA.out.size ?_; intro v6 w6 own6 hg6 hk6))
              rw [natI_snoc, ← HSn.out] at own6
              have RK : Row w6 (some ⟨gs, 0, none⟩) (ints (natI S)) := by
                by_cases e : gs = gv
                · subst e
                  rw [HT.out] at hk6
                  exact hk6.front
                · exact RA.out.grown hg6 (fun ad h' => by injection h' with h'; subst h'; intro h'; injection h' with h'; exact e h'.symm)
              have BK := BA.out.grown hg6 BA.out.size (fun z h' => by injection h' with h'; omega)
              exact ⟨⟨j + 1, hjl, by go_num, by rw [← Nat.add_assoc]; exact own6, RK, BK⟩, by simp [intOf]; omega⟩
            · obtain rfl : j = S.length := by omega
              rw [List.take_length, ← HDS'.out] at own
              have hll : S.length + S.length = (dblTo Q [f1] (q + 1)).length := by rw [HDS'.out]; simp
              rw [hll] at own
              have Y1 := hide own
              have Y2 := hide hb
              clear own hb hr hll
              go_wp2_with fail
              go_round
              case rel => exact ⟨q + 1, hlt, by go_num, Y1.out, Y2.out⟩
              case measure => simp [intOf]; omega
        · obtain rfl : q = Q.length := by omega
          have hSB := hide (HDB.out Q.length)
          have HR := hide (own_reads own)
          generalize hS : dblTo Q [f1] Q.length = S at *
          have hS8 : S.length ≤ 8 := by omega
          have bx := bxb.below hb bxb.in_
          have b0 := bx.cell 0
          have b1 := bx.cell 1
          have HM0 := hide (show minTo n S 0 = n from rfl)
          have HMS := hide (fun k => show minTo n S (k + 1) = min (minTo n S k) (pcN 12 (S[k]?.getD 0)) from rfl)
          have HML := hide (fun k => minTo_le n S k)
          clear own hS hlen hpow hpw1 hq HDS HDB HDL HD0
          go_wp2_with fail
          refine (HZ.out _).mono ?_
          rintro e w6 ⟨rfl, b6⟩
          have HR := hide (HR.out.below b6)
          have hb6 := below_then hb hb.size b6
          clear b0 b1 bx hb b6
          go_wp2_with fail
          go_loopw [17, 69] (fun a i wi => ∃ k : Nat, k ≤ S.length ∧ i = .int .i64 (k : Int) ∧ a = .int .i64 ((minTo n S k : Nat) : Int) ∧ w6 = wi) (fun _ i _ => S.length - (intOf i).toNat)
          case atStart => exact ⟨0, Nat.zero_le _, rfl, by rw [HM0.out], rfl⟩
          case round =>
            obtain ⟨k, hk, rfl, rfl, rfl⟩ := hrel
            by_cases hkl : k < S.length
            · obtain ⟨_, ⟨rfl⟩, hck⟩ := HR.out.int (k := k) (by rw [natI_len]; exact hkl)
              rw [natI_at, add0] at hck
              have hsb := hSB.out k
              have hpm := pcN_most 12 (S[k]?.getD 0)
              have HSZ := hide (fun w5 => sizeOf_12 (S[k]?.getD 0) hsb w5)
              have HMk := hide (HMS.out k)
              have hml := HML.out k
              generalize S[k]?.getD 0 = s at *
              generalize pcN 12 s = pv at *
              generalize minTo n S k = a at *
              obtain ⟨mm, hmm⟩ : ∃ mm, min a pv = mm := ⟨_, rfl⟩
              rw [hmm] at HMk
              have hm1 : min (a : Int) (pv : Int) = (mm : Int) := by rw [← hmm]; omega
              have hm2 : (if (pv : Int) < (a : Int) then (pv : Int) else (a : Int)) = (mm : Int) := by rw [← hmm]; split <;> omega
              have k0 : (0 : Int) ≤ (k : Int) := by omega
              have k1 : (k : Int) < (S.length : Int) := by omega
              clear hmm hsb
              go_wp2_with fail
              refine (HSZ.out _).mono ?_
              rintro e w7 ⟨rfl, rfl⟩
              go_wp2_with fail
              exact ⟨⟨k + 1, hkl, by go_num, by rw [HMk.out], trivial⟩, by simp [intOf]; omega⟩
            · obtain rfl : k = S.length := by omega
              go_wp2_with fail
              go_ret
              exact ⟨by rw [HX.out]; rfl, below_then hb3 hb3.size hb6⟩
    · rw [if_neg h0] at HV
      have hnz : ((f2 : Int) != 0) = true := by rw [bne_iff_ne]; omega
      have HX : Hid (VV = -1) := by
        have := HVV.out
        rw [HV.out] at this
        exact this.symm
      clear h0 HV HVV
      go_wp2_with fail
      go_ret
      exact ⟨by rw [HX.out]; rfl, hb3.alloc hb3.size _⟩
  · have hv : fewV bc br x = -1 := by
      unfold fewV
      refine if_neg fun h' => ?_
      rcases hN with hN | hN
      · refine hN fun i hi => ?_
        simp at hi
        subst hi
        exact h'
      · exact hN h'.1
    rw [hv]
    have HC := hide hC
    clear HLB hN hC hv
    go_enter Try.func10, Try.ntmps10
    go_wp2_with fail
    refine HC.out.mono ?_
    rintro e w1 ⟨rfl, b1⟩
    have hb1 : Below W.heap.size W w1 := below_then ((Below.refl _ _).alloc (Nat.le_refl _) _) (by simp) b1
    go_wp2_with fail
    go_ret
    exact ⟨rfl, hb1.alloc hb1.size _⟩
end Go.Proofs.Ytijidecdokbmnac

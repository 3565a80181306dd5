
/-
  The walk of the law FnCatchMoves, off the contracts of the program's functions (given).
-/
import Derived.Test.YtakphmcelhbaiacLawKB
namespace Go.Proofs.Ytakphmcelhbaiac
open Go.RowKit
set_option linter.unusedVariables false

set_option maxHeartbeats 4000000 in
set_option maxRecDepth 100000 in
theorem catchMoves_w (HV : ∀ (bc br : Int) (s : ByteArray) (w5 : World), Calls Try.prog 8 #[.int .i64 bc, .int .i64 br, .string s] w5 (Plain (.bool (smallK bc br s.toList).isSome) w5))
    (HM : ∀ (bc br : Int) (s : ByteArray) (i k : Int) (w5 : World), Calls Try.prog 6 #[.int .i64 bc, .int .i64 br, .string s, .int .i64 i, .int .i64 k] w5 (Plain (.int .i64 (catchV bc br s.toList i k)) w5))
    (HR : ∀ (bc br : Int) (s : ByteArray) (ss : List (Int × Int)) (far : Bool) (i : Nat) (w5 : World), smallK bc br s.toList = some (ss, far) → i < (setsP bc br far ss).length → Calls Try.prog 10 #[.int .i64 bc, .int .i64 br, .string s, .int .i64 (i : Int), .slice none 0 0] w5 (Owns 3 1 (reachL (setsP bc br far ss) i).length (ints (natI (reachL (setsP bc br far ss) i))) w5))
    (A : Option Addr) (n c : Nat) (w : World) (h : Code w A n c) : Calls Try.prog 3 #[.slice A n c] w (Plain (.bool true) w) := by
  by_cases hl : 1048576 < (n : Int)
  · go_enter Try.func3, Try.ntmps3
    go_wp2
    go_ret
    exact ⟨rfl, Below.refl _ _⟩
  · have HC := hide (drawCatchMoves_c A n c w h)
    have HV := hide HV
    have HM := hide HM
    have HR := hide HR
    have HS := hide (fun bc br s i k w5 => specCatchMoves_c bc br s i k w5)
    clear h
    go_enter Try.func3, Try.ntmps3
    go_wp2_with fail
    refine HC.out.mono ?_
    rintro e w1 ⟨bc, br, i, k, s, rfl, -, -, hib, hkb, -, b1⟩
    have HM1 := hide (fun w5 => HM.out bc br s i k w5)
    have HS1 := hide (fun w5 => HS.out bc br s i k w5)
    have HV1 := hide (fun w5 => HV.out bc br s w5)
    clear HC HS HV
    cases hk : smallK bc br s.toList with
    | none =>
      rw [hk] at HV1
      clear HR HM hk
      generalize catchV bc br s.toList i k = r at *
      go_wp2_with fail
      refine (HM1.out _).mono ?_
      rintro e w2 ⟨rfl, b2⟩
      have b12 := below_then b1 b1.size b2
      go_wp2_with fail
      refine (HS1.out _).mono ?_
      rintro e w3 ⟨rfl, b3⟩
      have b13 := below_then b12 b12.size b3
      go_wp2_with fail
      refine (HV1.out _).mono ?_
      rintro e w4 ⟨rfl, b4⟩
      have b14 := below_then b13 b13.size b4
      go_wp2_with fail
      refine (HS1.out _).mono ?_
      rintro e w5 ⟨rfl, b5⟩
      have b15 := below_then b14 b14.size b5
      go_wp2_with fail
      go_ret
      exact ⟨by simp, b15⟩
    | some p =>
      obtain ⟨ss, far⟩ := p
      obtain ⟨a, b, rfl, rfl, ha, hb, hab, hok⟩ := chase_facts hk
      obtain ⟨hSm, hkk⟩ := smallK_some hk
      obtain ⟨n', hCO⟩ := chase_of hSm hkk
      have hsz : n' = a * b := by have := hCO.size; rw [← Int.natCast_mul] at this; omega
      subst hsz
      have hlen := hCO.len
      have hca := cat_ok hCO.tab
      have hsf := fun (i k : Nat) (hi : i < a * b) (hk : k < a * b) (hik : i ≠ k) => step_facts hok (i := i) (k := k) (by rw [hlen]; exact hi) (by rw [hlen]; exact hk) hik
      have HR1 := hide (fun (i : Nat) (hi : i < a * b) w5 => HR.out (a : Int) (b : Int) s ss far i w5 hk (by rw [hlen]; exact hi))
      have HMv := hide (fun (i k : Int) w5 => show Calls Try.prog 6 #[.int .i64 (a : Int), .int .i64 (b : Int), .string s, .int .i64 i, .int .i64 k] w5 (Plain (.int .i64 (if (0 ≤ i ∧ i < ((a * b : Nat) : Int)) ∧ (0 ≤ k ∧ k < ((a * b : Nat) : Int)) then (cAt (catN (setsP (a : Int) (b : Int) far ss)) i.toNat k.toNat : Int) - 1 else -1)) w5) by
        have := HM.out (a : Int) (b : Int) s i k w5
        unfold catchV at this
        rw [hk] at this
        rw [Int.natCast_mul]
        exact this)
      have hcv : catchV (a : Int) (b : Int) s.toList i k = if (0 ≤ i ∧ i < ((a * b : Nat) : Int)) ∧ (0 ≤ k ∧ k < ((a * b : Nat) : Int)) then (cAt (catN (setsP (a : Int) (b : Int) far ss)) i.toNat k.toNat : Int) - 1 else -1 := by
        unfold catchV
        rw [hk, Int.natCast_mul]
      rw [hk] at HV1
      rw [hcv] at HM1 HS1
      have e0 : IntKind.i64.wrap ((a : Int) * (b : Int)) = ((a * b : Nat) : Int) := (IntWalk.i64_in _ (by rw [← Int.natCast_mul]; omega)).trans (by rw [Int.natCast_mul])
      simp only at hsf hca hlen
      clear hk hok HR HM hcv hSm hkk hCO ha hb
      generalize setsP (a : Int) (b : Int) far ss = L at *
      generalize catN L = C at *
      obtain ⟨m, hm⟩ : ∃ m, a * b = m := ⟨_, rfl⟩
      rw [hm] at e0 hab hlen
      simp only [hm] at HM1 HS1 HMv HR1 hsf
      clear hm
      by_cases hin : (0 ≤ i ∧ i < (m : Int)) ∧ (0 ≤ k ∧ k < (m : Int))
      · rw [if_pos hin] at HM1 HS1
        obtain ⟨⟨i0, i1⟩, k0, k1⟩ := hin
        obtain ⟨i, rfl⟩ := Int.eq_ofNat_of_zero_le i0
        obtain ⟨k, rfl⟩ := Int.eq_ofNat_of_zero_le k0
        have him : i < m := by omega
        have hkm : k < m := by omega
        simp only [Int.toNat_natCast] at HM1 HS1
        have n1 : ¬ ((i : Int) < 0) := by omega
        have n2 : ¬ ((k : Int) < 0) := by omega
        have n3 : ¬ ((m : Int) ≤ (i : Int)) := by omega
        have n4 : ¬ ((m : Int) ≤ (k : Int)) := by omega
        have HRi := hide (fun w5 => HR1.out i him w5)
        have HRk := hide (fun w5 => HR1.out k hkm w5)
        have hri : (reachL L i).length ≤ 9 := by
          have := goL_len L i; unfold goL at this; rw [List.length_append] at this; unfold reachL; simp only [List.length_singleton] at this; omega
        have hrk : (reachL L k).length ≤ 9 := by
          have := goL_len L k; unfold goL at this; rw [List.length_append] at this; unfold reachL; simp only [List.length_singleton] at this; omega
        by_cases hik : i = k
        · subst hik
          have hd := hca.diag i (by omega)
          rw [hd] at HM1 HS1
          have hii : ((i : Int) == (i : Int)) = true := by simp
          clear hsf hca HRi HRk HR1 HMv
          go_wp2_with fail
          refine (HM1.out _).mono ?_
          rintro e w2 ⟨rfl, b2⟩
          have b12 := below_then b1 b1.size b2
          go_wp2_with fail
          refine (HS1.out _).mono ?_
          rintro e w3 ⟨rfl, b3⟩
          have b13 := below_then b12 b12.size b3
          go_wp2_with fail
          refine (HV1.out _).mono ?_
          rintro e w4 ⟨rfl, b4⟩
          have b14 := below_then b13 b13.size b4
          go_wp2_with fail
          go_ret
          exact ⟨rfl, b14⟩
        · have hie : ((i : Int) == (k : Int)) = false := by rw [beq_eq_false_iff_ne]; omega
          have hie2 : ((i : Int) != (k : Int)) = true := by simp only [bne_iff_ne]; omega
          have hst := hsf i k him hkm hik
          have HIN := hide (reach_in (L := L) (i := i) (k := k) (by omega))
          cases hbt : bitN (L[i]?.getD 0) k == 1 with
          | true =>
            rw [hbt] at HIN
            rw [hbt, if_pos rfl] at hst
            rw [hst] at HM1 HS1
            clear hbt hst hsf hca HRk HR1 HMv hik
            go_wp2_with fail
            refine (HM1.out _).mono ?_
            rintro e w2 ⟨rfl, b2⟩
            have b12 := below_then b1 b1.size b2
            go_wp2_with fail
            refine (HS1.out _).mono ?_
            rintro e w3 ⟨rfl, b3⟩
            have b13 := below_then b12 b12.size b3
            go_wp2_with fail
            refine (HV1.out _).mono ?_
            rintro e w4 ⟨rfl, b4⟩
            have b14 := below_then b13 b13.size b4
            go_wp2_with fail
            refine (HRi.out _).mono ?_
            rintro e w5 ⟨v5, rfl, o5, b5⟩
            obtain ⟨A5, c5, rfl, _⟩ := own_row o5
            have b15 := below_then b14 b14.size b5
            have R5 := own_reads o5
            clear o5
            have HI5 := hide (isIn_c A5 (natI (reachL L i)) c5 (k : Int) w5 R5 (by rw [natI_len]; simp [maxLen]; omega))
            rw [natI_len, HIN.out] at HI5
            go_wp2_with fail
            refine HI5.out.mono ?_
            rintro e w6 ⟨rfl, b6⟩
            have b16 := below_then b15 b15.size b6
            go_wp2_with fail
            go_ret
            exact ⟨rfl, b16⟩
          | false =>
            rw [hbt] at HIN
            rw [hbt, if_neg (by simp)] at hst
            have HST := hide hst
            clear hbt hst hsf hik
            go_wp2_with fail
            refine (HM1.out _).mono ?_
            rintro e w2 ⟨rfl, b2⟩
            have b12 := below_then b1 b1.size b2
            go_wp2_with fail
            refine (HS1.out _).mono ?_
            rintro e w3 ⟨rfl, b3⟩
            have b13 := below_then b12 b12.size b3
            go_wp2_with fail
            refine (HV1.out _).mono ?_
            rintro e w4 ⟨rfl, b4⟩
            have b14 := below_then b13 b13.size b4
            go_wp2_with fail
            refine (HRi.out _).mono ?_
            rintro e w5 ⟨v5, rfl, o5, b5⟩
            obtain ⟨A5, c5, rfl, _⟩ := own_row o5
            have b15 := below_then b14 b14.size b5
            have R5 := own_reads o5
            clear o5
            have HI5 := hide (isIn_c A5 (natI (reachL L i)) c5 (k : Int) w5 R5 (by rw [natI_len]; simp [maxLen]; omega))
            rw [natI_len, HIN.out] at HI5
            go_wp2_with fail
            refine HI5.out.mono ?_
            rintro e w6 ⟨rfl, b6⟩
            have b16 := below_then b15 b15.size b6
            clear HI5 R5 HIN
            have HMX := hide (fun (x y : Nat) (hx : x < m) (hy : y < m) w5 => show Calls Try.prog 6 #[.int .i64 (a : Int), .int .i64 (b : Int), .string s, .int .i64 (x : Int), .int .i64 (y : Int)] w5 (Plain (.int .i64 ((cAt C x y : Int) - 1)) w5) by
              have := HMv.out (x : Int) (y : Int) w5
              rw [if_pos (by omega)] at this
              exact this)
            have HTB := hide (fun x y (hx : x < m) (hy : y < m) => show cAt C x y ≤ 5 from Nat.le_trans (hca.top x y (by omega) (by omega)) hca.low.2)
            have HXM := hide (fun x (hx : x ∈ goL L i) => show x < m by have := goL_lt (by omega) hx; omega)
            have HYM := hide (fun x (hx : x ∈ goL L k) => show x < m by have := goL_lt (by omega) hx; omega)
            have hxl : (goL L i).length = (reachL L i).length + 1 := by unfold goL reachL; simp
            have hyl : (goL L k).length = (reachL L k).length + 1 := by unfold goL reachL; simp
            have HNX := hide (natI_goL L i)
            have HNY := hide (natI_goL L k)
            clear HMv hca HR1 HS1 HV1 HM1
            generalize (reachL L i) = XR at *
            generalize (reachL L k) = YR at *
            generalize goL L i = X at *
            generalize goL L k = Y at *
            go_wp2_with fail
            refine (HRi.out _).mono ?_
            rintro e w7 ⟨v7, rfl, o7, b7⟩
            obtain ⟨A7, c7, rfl, _⟩ := own_row o7
            have b17 := below_then b16 b16.size b7
            have hvc := hide (o7.alloc (.cells #[.int .i64 (i : Int)] 3))
            have hbc := b17.alloc b17.size (.cells #[.int .i64 (i : Int)] 3)
            have z7 := (b7.alloc b7.size (.cells #[.int .i64 (i : Int)] 3)).size
            have z16 := b16.size
            clear o7 b7
            go_wp2_with (at_builtin; refine put_own rfl (.tmp 110) (.tmp 112) rfl Try.underlying28 elem_int' rfl hvc.out rfl (m := 1) (news := [.int .i64 (i : Int)]) rfl (row_new _ _ _ rfl) (by simp [Value.oneCell']) (by omega) (by omega) z7 ?_; intro v9 w9 own9 hg9 ho9)
            have b19 := below_grown hbc hbc.size hvc.out z16 hg9
            obtain ⟨A9, c9, rfl, _⟩ := own_row own9
            have R9 := hide (own_reads own9)
            clear own9 hg9 ho9 hvc hbc z7 z16
            refine (HRk.out _).mono ?_
            rintro e w10 ⟨v10, rfl, o10, b10⟩
            obtain ⟨A10, c10, rfl, _⟩ := own_row o10
            have hvc := hide (o10.alloc (.cells #[.int .i64 (k : Int)] 3))
            have hbc := b10.alloc b10.size (.cells #[.int .i64 (k : Int)] 3)
            clear o10
            go_wp2_with (at_builtin; refine put_own rfl (.tmp 118) (.tmp 120) rfl Try.underlying28 elem_int' rfl hvc.out rfl (m := 1) (news := [.int .i64 (k : Int)]) rfl (row_new _ _ _ rfl) (by simp [Value.oneCell']) (by omega) (by omega) hbc.size ?_; intro v11 w11 own11 hg11 ho11)
            have b21 := below_grown hbc hbc.size hvc.out (Nat.le_refl _) hg11
            obtain ⟨A11, c11, rfl, _⟩ := own_row own11
            have R11 := hide (own_reads own11)
            have R9' := hide (R9.out.below b21)
            have b22 := below_then b19 b19.size b21
            clear own11 hg11 ho11 hvc hbc b21 R9 b19
            have RX := hide (show Row w11 A9 (ints (natI X)) by rw [HNX.out]; exact R9'.out)
            have RY := hide (show Row w11 A11 (ints (natI Y)) by rw [HNY.out]; exact R11.out)
            rw [← hxl, ← hyl]
            have hx10 : X.length ≤ 10 := by omega
            have hy10 : Y.length ≤ 10 := by omega
            clear R9' R11 HNX HNY hxl hyl hri hrk HRi HRk
            go_loopw [11, 12] (fun bv xv wr => ∃ (q : Nat) (e : Int) (j : Nat), j ≤ X.length ∧ xv = .int .i64 (j : Int) ∧ bv = .int .i64 e ∧ q ≤ 20 ∧ e = (q : Int) - 1 ∧ Hid (bestL C Y (X.drop j) q = cAt C i k) ∧ Below w11.heap.size w11 wr) (fun _ xv _ => X.length - (intOf xv).toNat)
            case atStart => exact ⟨0, -1, 0, Nat.zero_le _, rfl, rfl, by omega, rfl, HST.out, Below.refl _ _⟩
            case round =>
              obtain ⟨q, e, j, hj, rfl, rfl, hq20, heq, hbest, hbw⟩ := hrel
              obtain ⟨wo, rfl⟩ : ∃ wo : World, wo = wr := ⟨_, rfl⟩
              by_cases hlt : j < X.length
              · have HLT := hide hlt
                have HQ20 := hide hq20
                have HEQ := hide heq
                have hxm := HXM.out (X[j]?.getD 0) (by rw [List.getElem?_eq_getElem hlt]; exact List.getElem_mem _)
                have hdx : X.drop j = X[j]?.getD 0 :: X.drop (j + 1) := by rw [List.drop_eq_getElem_cons hlt, List.getElem?_eq_getElem hlt]; rfl
                rw [hdx] at hbest
                have RXj := hide (fun (wz : World) (bz : Below w11.heap.size w11 wz) => (RX.out.below bz).int (k := j) (by rw [natI_len]; exact hlt))
                rw [natI_at] at RXj
                generalize X[j]?.getD 0 = x at *
                have j0 : (0 : Int) ≤ (j : Int) := by omega
                have j1 : (j : Int) < (X.length : Int) := by omega
                have HBE := hide (show (match worstL C x Y 0 with | none => bestL C Y (X.drop (j + 1)) q | some v => bestL C Y (X.drop (j + 1)) (if q = 0 ∨ v + 2 < q then v + 2 else q)) = cAt C i k from hbest.out)
                have HXm := hide hxm
                clear hbest hdx hxm hq20 heq
                go_wp2_with fail
                go_loopw [13, 14] (fun wv yv wj => ∃ (z r : Nat), r ≤ Y.length ∧ yv = .int .i64 (r : Int) ∧ wv = .int .i64 (z : Int) ∧ z ≤ 9 ∧ Hid (worstL C x (Y.drop r) z = worstL C x Y 0) ∧ Below w11.heap.size w11 wj) (fun _ yv _ => Y.length - (intOf yv).toNat)
                case atStart => exact ⟨0, 0, Nat.zero_le _, rfl, rfl, by omega, rfl, hbw⟩
                case round =>
                  clear hbw
                  obtain ⟨z, r, hr, rfl, rfl, hz9, hwst, hbj⟩ := hrel
                  obtain ⟨wi, rfl⟩ : ∃ wi : World, wi = wr := ⟨_, rfl⟩
                  by_cases hrl : r < Y.length
                  · have HRL := hide hrl
                    have hym := HYM.out (Y[r]?.getD 0) (by rw [List.getElem?_eq_getElem hrl]; exact List.getElem_mem _)
                    have hdy : Y.drop r = Y[r]?.getD 0 :: Y.drop (r + 1) := by rw [List.drop_eq_getElem_cons hrl, List.getElem?_eq_getElem hrl]; rfl
                    rw [hdy] at hwst
                    obtain ⟨ady, rfl, hcy⟩ := (RY.out.below hbj).int (k := r) (by rw [natI_len]; exact hrl)
                    obtain ⟨adx, rfl, hcx⟩ := RXj.out wi hbj
                    rw [natI_at] at hcy
                    generalize Y[r]?.getD 0 = y at *
                    have HMxy := hide (fun w5 => HMX.out x y HXm.out hym w5)
                    have hcb := HTB.out x y HXm.out hym
                    have r0 : (0 : Int) ≤ (r : Int) := by omega
                    have r1 : (r : Int) < (Y.length : Int) := by omega
                    have HWS := hide (show (if cAt C x y = 0 then none else worstL C x (Y.drop (r + 1)) (max z (cAt C x y - 1))) = worstL C x Y 0 from hwst.out)
                    have hbd := hbj.drew
                    clear hwst hdy hym
                    generalize cAt C x y = cc at *
                    by_cases hc0 : cc = 0
                    · have hneg : ((cc : Int) - 1 < 0) := by omega
                      have HNXT : Hid (bestL C Y (X.drop (j + 1)) q = cAt C i k) := by
                        have h1 := HWS.out
                        rw [if_pos hc0] at h1
                        have h2 := HBE.out
                        rw [← h1] at h2
                        exact h2
                      clear HWS HBE hc0
                      generalize (cc : Int) - 1 = ci at *
                      go_wp2_with fail
                      refine wp_region_still_tail 11 (by kernel_rfl) (by kernel_rfl) ?_
                      simp only [List.take_succ_cons, List.take_zero, List.drop_succ_cons, List.drop_zero]
                      repeat still_step
                      try refine wpStill_nil ?_
                      change wpList _ _ _ _ _ wi.drew
                      generalize wi.drew = wd at *
                      go_wp2_with fail
                      refine (HMxy.out _).mono ?_
                      rintro e' w13 ⟨rfl, b13'⟩
                      have HB9 := below_then hbd hbd.size b13'
                      go_wp2_with fail
                      exact ⟨⟨q, e, j + 1, HLT.out, by go_num, rfl, HQ20.out, HEQ.out, HNXT, HB9⟩, by simp [intOf]; omega⟩
                    · have hnn : ¬ ((cc : Int) - 1 < 0) := by omega
                      obtain ⟨z', hz'⟩ : ∃ z', max z (cc - 1) = z' := ⟨_, rfl⟩
                      have hmx : max (z : Int) ((cc : Int) - 1) = (z' : Int) := by omega
                      have HZ9 := hide (show z' ≤ 9 by omega)
                      have HW2 : Hid (worstL C x (Y.drop (r + 1)) z' = worstL C x Y 0) := by
                        have h1 := HWS.out
                        rw [if_neg hc0, hz'] at h1
                        exact h1
                      clear HWS hc0 hz'
                      generalize (cc : Int) - 1 = ci at *
                      go_wp2_with fail
                      refine wp_region_still_tail 11 (by kernel_rfl) (by kernel_rfl) ?_
                      simp only [List.take_succ_cons, List.take_zero, List.drop_succ_cons, List.drop_zero]
                      repeat still_step
                      try refine wpStill_nil ?_
                      change wpList _ _ _ _ _ wi.drew
                      generalize wi.drew = wd at *
                      go_wp2_with fail
                      refine (HMxy.out _).mono ?_
                      rintro e' w13 ⟨rfl, b13'⟩
                      have HB9 := below_then hbd hbd.size b13'
                      go_wp2_with fail
                      exact ⟨⟨z', r + 1, HRL.out, by go_num, rfl, HZ9.out, HW2, HB9⟩, by simp [intOf]; omega⟩
                  · obtain rfl : r = Y.length := by omega
                    have hw : worstL C x Y 0 = some z := by
                      have := hwst.out
                      rw [List.drop_length] at this
                      exact this.symm
                    have hbe := HBE.out
                    rw [hw] at hbe
                    simp only at hbe
                    have HB9 := hide hbj
                    obtain ⟨z1, hz1⟩ : ∃ z1, z + 1 = z1 := ⟨_, rfl⟩
                    have fz : IntKind.i64.wrap ((z : Int) + 1) = (z1 : Int) := (IntWalk.i64_in _ (by omega)).trans (by omega)
                    have fz2 : (z : Int) + 1 = (z1 : Int) := by omega
                    have hz0 : (0 : Int) ≤ (z : Int) := by omega
                    have heq := HEQ.out
                    have hq20 := HQ20.out
                    by_cases hq0 : q = 0 ∨ z + 2 < q
                    · rw [if_pos hq0] at hbe
                      have HBN := hide hbe
                      have HQN := hide (show z + 2 ≤ 20 by omega)
                      have HEN := hide (show (z1 : Int) = ((z + 2 : Nat) : Int) - 1 by omega)
                      by_cases hq1 : q = 0
                      · have he0 : e < 0 := by omega
                        clear hw hbe hwst HBE hbj hz1 fz2 heq hq20 hq0 hq1
                        go_wp2_with fail
                        exact ⟨⟨z + 2, (z1 : Int), j + 1, HLT.out, by go_num, rfl, HQN.out, HEN.out, HBN.out, HB9.out⟩, by simp [intOf]; omega⟩
                      · have he0 : ¬ e < 0 := by omega
                        have he1 : (z1 : Int) < e := by omega
                        clear hw hbe hwst HBE hbj hz1 fz2 heq hq20 hq0 hq1
                        go_wp2_with fail
                        exact ⟨⟨z + 2, (z1 : Int), j + 1, HLT.out, by go_num, rfl, HQN.out, HEN.out, HBN.out, HB9.out⟩, by simp [intOf]; omega⟩
                    · rw [if_neg hq0] at hbe
                      have HBN := hide hbe
                      have he0 : ¬ e < 0 := by omega
                      have he1 : ¬ (z1 : Int) < e := by omega
                      clear hw hbe hwst HBE hbj hz1 fz2 heq hq20 hq0
                      go_wp2_with fail
                      exact ⟨⟨q, e, j + 1, HLT.out, by go_num, rfl, HQ20.out, HEQ.out, HBN.out, HB9.out⟩, by simp [intOf]; omega⟩
              · obtain rfl : j = X.length := by omega
                have hfin : q = cAt C i k := by
                  have := hbest.out
                  rw [List.drop_length] at this
                  exact this
                have hee : (e == (cAt C i k : Int) - 1) = true := by rw [beq_iff_eq]; omega
                clear hbest
                generalize (cAt C i k : Int) - 1 = ce at *
                clear hfin heq
                go_wp2_with fail
                go_ret
                exact ⟨rfl, below_then b22 b22.size hbw⟩
      · rw [if_neg hin] at HM1 HS1
        clear hsf hca HR1 HMv
        by_cases j1 : i < 0
        · clear hin
          go_wp2_with fail
          refine (HM1.out _).mono ?_
          rintro e w2 ⟨rfl, b2⟩
          have b12 := below_then b1 b1.size b2
          go_wp2_with fail
          refine (HS1.out _).mono ?_
          rintro e w3 ⟨rfl, b3⟩
          have b13 := below_then b12 b12.size b3
          go_wp2_with fail
          refine (HV1.out _).mono ?_
          rintro e w4 ⟨rfl, b4⟩
          have b14 := below_then b13 b13.size b4
          go_wp2_with fail
          refine (HS1.out _).mono ?_
          rintro e w5 ⟨rfl, b5⟩
          have b15 := below_then b14 b14.size b5
          go_wp2_with fail
          go_ret
          exact ⟨rfl, b15⟩
        · by_cases j2 : k < 0
          · clear hin
            go_wp2_with fail
            refine (HM1.out _).mono ?_
            rintro e w2 ⟨rfl, b2⟩
            have b12 := below_then b1 b1.size b2
            go_wp2_with fail
            refine (HS1.out _).mono ?_
            rintro e w3 ⟨rfl, b3⟩
            have b13 := below_then b12 b12.size b3
            go_wp2_with fail
            refine (HV1.out _).mono ?_
            rintro e w4 ⟨rfl, b4⟩
            have b14 := below_then b13 b13.size b4
            go_wp2_with fail
            refine (HS1.out _).mono ?_
            rintro e w5 ⟨rfl, b5⟩
            have b15 := below_then b14 b14.size b5
            go_wp2_with fail
            go_ret
            exact ⟨rfl, b15⟩
          · by_cases j3 : (m : Int) ≤ i
            · clear hin
              go_wp2_with fail
              refine (HM1.out _).mono ?_
              rintro e w2 ⟨rfl, b2⟩
              have b12 := below_then b1 b1.size b2
              go_wp2_with fail
              refine (HS1.out _).mono ?_
              rintro e w3 ⟨rfl, b3⟩
              have b13 := below_then b12 b12.size b3
              go_wp2_with fail
              refine (HV1.out _).mono ?_
              rintro e w4 ⟨rfl, b4⟩
              have b14 := below_then b13 b13.size b4
              go_wp2_with fail
              refine (HS1.out _).mono ?_
              rintro e w5 ⟨rfl, b5⟩
              have b15 := below_then b14 b14.size b5
              go_wp2_with fail
              go_ret
              exact ⟨rfl, b15⟩
            · have j4 : (m : Int) ≤ k := by omega
              clear hin
              go_wp2_with fail
              refine (HM1.out _).mono ?_
              rintro e w2 ⟨rfl, b2⟩
              have b12 := below_then b1 b1.size b2
              go_wp2_with fail
              refine (HS1.out _).mono ?_
              rintro e w3 ⟨rfl, b3⟩
              have b13 := below_then b12 b12.size b3
              go_wp2_with fail
              refine (HV1.out _).mono ?_
              rintro e w4 ⟨rfl, b4⟩
              have b14 := below_then b13 b13.size b4
              go_wp2_with fail
              refine (HS1.out _).mono ?_
              rintro e w5 ⟨rfl, b5⟩
              have b15 := below_then b14 b14.size b5
              go_wp2_with fail
              go_ret
              exact ⟨rfl, b15⟩
end Go.Proofs.Ytakphmcelhbaiac

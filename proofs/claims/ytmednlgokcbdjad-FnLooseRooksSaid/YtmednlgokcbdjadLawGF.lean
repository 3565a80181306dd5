
/-
  The walk of the law FnCountLoose.
-/
import Derived.Test.YtmednlgokcbdjadPGuardD
import Derived.Test.YtmednlgokcbdjadGuardH
import Derived.Test.YtmednlgokcbdjadGuardN
import Derived.Test.YtmednlgokcbdjadDrawG
import Derived.Test.YtmednlgokcbdjadMoveH
namespace Go.Proofs.Ytmednlgokcbdjad
open Go.RowKit
set_option linter.unusedVariables false

theorem lawPower9_c (n : Nat) (hn : n ≤ 9) (w : World) : Calls Try.prog 10 #[.int .i64 (n : Int)] w fun e w' => e = .returned (.int .i64 ((2 ^ n : Nat) : Int)) ∧ w = w' := by
  go_enter Try.func10, Try.ntmps10
  go_wp2_with fail
  go_loopw [0, 3] (fun a p wr => ∃ k : Nat, k ≤ n ∧ a = .int .i64 ((n - k : Nat) : Int) ∧ p = .int .i64 ((2 ^ k : Nat) : Int) ∧ w = wr) (fun a _ _ => (intOf a).toNat)
  case atStart => exact ⟨0, Nat.zero_le _, by simp, rfl, rfl⟩
  case round =>
    obtain ⟨k, hk, rfl, rfl, rfl⟩ := hrel
    by_cases hlt : k < n
    · have hb := pow9 (n := k) (by omega)
      have hpos : (0 : Int) < ((n - k : Nat) : Int) := by omega
      have hle : ((n - k : Nat) : Int) ≤ 9 := by omega
      have hp2 : Hid ((2 ^ (k + 1) : Nat) = 2 * 2 ^ k) := by show 2 ^ (k + 1) = 2 * 2 ^ k; rw [Nat.pow_succ, Nat.mul_comm]
      have hs := hide (show ((n - k : Nat) : Int) - 1 = ((n - (k + 1) : Nat) : Int) by omega)
      generalize hP : (2 ^ k : Nat) = P at *
      generalize hM : ((n - k : Nat) : Int) = M at *
      clear hP
      go_wp2_with fail
      exact ⟨⟨k + 1, hlt, by rw [hs.out], by rw [hp2.out]; push_cast; rfl, trivial⟩, by simp [intOf]; omega⟩
    · have hkk : Hid (k = n) := hide (by omega)
      have hz : ((n - k : Nat) : Int) = 0 := by omega
      rw [hz]
      go_wp2_with fail
      go_ret
      exact ⟨by rw [hkk.out]; rfl, rfl⟩

set_option maxHeartbeats 400000 in
theorem lawBit9_c (x j : Nat) (hx : x < 512) (hj : j ≤ 9) (w : World) : Calls Try.prog 11 #[.int .i64 (x : Int), .int .i64 (j : Int)] w fun e w' => e = .returned (.int .i64 ((bitN x j : Nat) : Int)) ∧ w = w' := by
  have HP := hide (fun w5 => lawPower9_c j hj w5)
  obtain ⟨p1, p2⟩ := pow9 (n := j) hj
  have hb : Hid (bitN x j = x / 2 ^ j % 2) := rfl
  have hb2 : bitN x j ≤ 1 := by unfold bitN; omega
  have hq : x / 2 ^ j ≤ x := Nat.div_le_self _ _
  have t1 : Int.tdiv (x : Int) ((2 ^ j : Nat) : Int) = ((x / 2 ^ j : Nat) : Int) := Int.tdiv_eq_ediv_of_nonneg (Int.natCast_nonneg _)
  have t2 : Int.tmod ((x / 2 ^ j : Nat) : Int) 2 = ((bitN x j : Nat) : Int) := Int.tmod_eq_emod_of_nonneg (Int.natCast_nonneg _)
  generalize bitN x j = bv at *
  generalize x / 2 ^ j = q at *
  generalize 2 ^ j = P at *
  have e0 : IntKind.i64.wrap (q : Int) = (q : Int) := IntWalk.i64_in _ (by omega)
  have e1 : IntKind.i64.wrap (bv : Int) = (bv : Int) := IntWalk.i64_in _ (by omega)
  have hP : (P : Int) ≠ 0 := by omega
  clear hb
  go_enter Try.func11, Try.ntmps11
  go_wp2_with fail
  refine (HP.out _).mono ?_
  rintro e w1 ⟨rfl, rfl⟩
  go_wp2_with fail
  go_ret
  exact ⟨rfl, rfl⟩

theorem loose_stay {L : List Nat} {s k : Nat} (h : looseTo L s k = false) : ∀ j, k ≤ j → looseTo L s j = false := fun j hj => by
  induction j with
  | zero => rwa [Nat.le_zero.1 hj] at h
  | succ j ih =>
    by_cases e : k = j + 1
    · rwa [e] at h
    · simp only [looseTo]; rw [ih (by omega)]; rfl
theorem one_le (L : List Nat) : ∀ k, oneByOne L k ≤ k
  | 0 => Nat.le_refl _
  | k + 1 => by
    have := one_le L k
    unfold oneByOne
    split <;> omega

set_option maxHeartbeats 4000000 in
set_option maxRecDepth 100000 in
theorem countLoose_w (A : Option Addr) (n c : Nat) (w : World) (h : Code w A n c) : Calls Try.prog 3 #[.slice A n c] w (Plain (.bool true) w) := by
  by_cases hl : 1048576 < (n : Int)
  · go_enter Try.func3, Try.ntmps3
    go_wp2
    go_ret
    exact ⟨rfl, Below.refl _ _⟩
  · have HC := hide (drawCountLoose_c A n c w h)
    clear h
    go_enter Try.func3, Try.ntmps3
    go_wp2_with fail
    refine HC.out.mono ?_
    rintro e w1 ⟨bc, br, s, rfl, hx, hy, hs, b1⟩
    cases hk : smallK bc br s.toList with
    | none =>
      have HI := hide (fun w5 => implCountLoose_c bc br s w5)
      have HS := hide (fun w5 => countLoose_c bc br s w5)
      rw [valueOf_none _ hk] at HI HS
      clear hk
      go_wp2_with fail
      refine (HI.out _).mono ?_
      rintro e w2 ⟨rfl, b2⟩
      have b2 := below_then b1 b1.size b2
      go_wp2_with fail
      refine (HS.out _).mono ?_
      rintro e w3 ⟨rfl, b3⟩
      have b3 := below_then b2 b2.size b3
      go_wp2_with fail
      refine (HS.out _).mono ?_
      rintro e w4 ⟨rfl, b4⟩
      have b4 := below_then b3 b3.size b4
      go_wp2_with fail
      go_ret
      exact ⟨rfl, b4⟩
    | some p =>
      obtain ⟨ss, far⟩ := p
      obtain ⟨hS, hkk⟩ := smallK_some hk
      clear hk
      have HI := hide (fun w5 => implCountLoose_c bc br s w5)
      have HS := hide (fun w5 => countLoose_c bc br s w5)
      rw [valueOf_some _ hS hkk] at HI HS
      obtain ⟨o1, o2, o3, o4, o5, o6, o7⟩ := ofKind hS hkk
      obtain ⟨h9s, hlen⟩ := sets9_of hS hkk
      have h9 := h9s.len
      rw [o6] at HI HS o7
      clear o1 o2 o3 o4 o5 o6
      have HX := hide (fun (k : Nat) (hkn : k < (setsP bc br far ss).length) => show ∃ R : List Int, R.length ≤ 1000 ∧ sumPow R R.length = (setsP bc br far ss)[k]?.getD 0 ∧ (∀ i, i < R.length → 0 ≤ R[i]?.getD 0 ∧ R[i]?.getD 0 < 9) ∧ ∀ (w5 : World), Calls Try.prog 9 #[.int .i64 bc, .int .i64 br, .string s, .int .i64 (k : Int), .slice none 0 0] w5 (Owns 3 1 R.length (ints R) w5) by
        obtain ⟨h1, h2, h3, h4, h9'⟩ := hS
        refine ⟨reachP bc br far [] (k : Int) ss, ?_, ?_, ?_, ?_⟩
        · have := reach_len bc br far [] (k : Int) ss
          have := (kind_ok hkk).2.1
          omega
        · rw [sumPow_reach, setsP, List.getElem?_map, List.getElem?_range (by omega)]
          rfl
        · intro i hi
          have := reach_cells h1 h2 h3 h4 i hi
          omega
        · intro w5
          exact reachOf_yes bc br (k : Int) s none 0 [] w5 hkk h1 h2 h3 h4 (by omega) (by omega) (Row.empty _ _) (fun ad e => by cases e) (by simp [maxLen]) (fun i hi => absurd hi (by simp)))
      have hmul : IntKind.i64.wrap (bc * br) = ((setsP bc br far ss).length : Int) := by rw [hlen]; exact IntWalk.i64_in _ (by omega)
      clear hlen hS hkk
      generalize setsP bc br far ss = L at *
      obtain ⟨nn, hnn⟩ : ∃ nn, L.length = nn := ⟨_, rfl⟩
      have HP := hide (fun (j : Nat) (hj : j ≤ 9) w5 => lawPower9_c j hj w5)
      have HPn := hide (fun w5 => lawPower9_c nn (by omega) w5)
      have HBt := hide (fun (x j : Nat) (hx : x < 512) (hj : j ≤ 9) w5 => lawBit9_c x j hx hj w5)
      have HT := hide (fun (k : Nat) (hkn : k < nn) => show natI (L.take (k + 1)) = natI (L.take k) ++ [((L[k]?.getD 0 : Nat) : Int)] by
        rw [List.take_succ_eq_append_getElem (by omega), List.getElem?_eq_getElem (by omega)]
        unfold natI
        rw [List.map_append]
        rfl)
      have HTn := hide (show L.take nn = L from List.take_of_length_le (by omega))
      rw [hnn] at hmul HI HS o7 HX
      have p9 := pow9 (n := nn) (by omega)
      have hno := one_le L (2 ^ nn)
      have HLO := hide (fun x => show looseP L x = looseTo L x nn by unfold looseP; rw [hnn])
      have HLS := hide (fun (x j : Nat) => show looseTo L x (j + 1) = (looseTo L x j && !(bitN x j == 1 && (L[j]?.getD 0) &&& x != 0)) from rfl)
      have HON := hide (fun k => show oneByOne L (k + 1) = if looseP L k then oneByOne L k + 1 else oneByOne L k from rfl)
      have HST := hide (fun (x k : Nat) (h : looseTo L x k = false) (j : Nat) => loose_stay h j)
      have H9s := hide h9s
      clear h9s
      generalize (2 ^ nn : Nat) = P at *
      obtain ⟨V, hV⟩ : ∃ V, oneByOne L P = V := ⟨_, rfl⟩
      rw [hV] at HI HS o7 hno
      have HV := hide hV
      clear hV
      have v1 : (nn : Int) + 1 ≤ (V : Int) := by omega
      have hVV : ((V : Int) != (V : Int)) = false := by simp
      go_wp2_with fail
      refine (HI.out _).mono ?_
      rintro e w2 ⟨rfl, b2⟩
      have b2 := below_then b1 b1.size b2
      go_wp2_with fail
      refine (HS.out _).mono ?_
      rintro e w3 ⟨rfl, b3⟩
      have b3 := below_then b2 b2.size b3
      go_wp2_with fail
      have hz3 : w.heap.size ≤ w3.heap.size := b3.size
      go_loopw [7, 8] (fun v i wr => ∃ k : Nat, k ≤ nn ∧ i = .int .i64 (k : Int) ∧ wr.ownsRow w3.heap.size 3 1 v k (ints (natI (L.take k))) ∧ Below w.heap.size w wr ∧ w3.heap.size ≤ wr.heap.size) (fun _ i _ => nn - (intOf i).toNat)
      case atStart => exact ⟨0, Nat.zero_le _, rfl, by simpa [natI, ints] using World.ownsRow_made w3 #[] 0 (Nat.le_refl _) (by simp [maxLen]) rfl, b3.alloc b3.size _, by simp⟩
      case round =>
        obtain ⟨k, hk, rfl, hown, hb, hz⟩ := hrel
        obtain ⟨wo, rfl⟩ : ∃ wo : World, wo = wr := ⟨_, rfl⟩
        obtain ⟨A0, c0, rfl, _⟩ := own_row hown
        by_cases hlt : k < nn
        · obtain ⟨R, hRl, hRs, hRb, hRc⟩ := HX.out k hlt
          have HRB := hide (sumPow_bd R hRb)
          have HRb := hide hRb
          have HRs := hide hRs
          have HRc := hide hRc
          have HTk := hide (HT.out k hlt)
          clear hRb hRs hRc
          generalize L[k]?.getD 0 = x at *
          go_wp2_with fail
          refine (HRc.out _).mono ?_
          rintro e w5 ⟨v5, rfl, o5, b5⟩
          have bx := below_then hb hb.size b5
          have hvb := hide (own_below hown b5)
          have hzb := Nat.le_trans hz b5.size
          obtain ⟨A5, c5, rfl, _⟩ := own_row o5
          have R5 := hide (own_reads o5)
          clear o5 b5
          go_wp2_with fail
          go_loopw [9, 11] (fun a i wi => ∃ j : Nat, j ≤ R.length ∧ i = .int .i64 (j : Int) ∧ a = .int .i64 ((sumPow R j : Nat) : Int) ∧ w5 = wi) (fun _ i _ => R.length - (intOf i).toNat)
          case atStart => exact ⟨0, Nat.zero_le _, rfl, rfl, rfl⟩
          case round =>
            obtain ⟨j, hj, rfl, rfl, rfl⟩ := hrel
            have hsb := HRB.out j hj
            by_cases hjl : j < R.length
            · obtain ⟨ad, rfl, hcj⟩ := R5.out.int (k := j) hjl
              obtain ⟨y0, y9⟩ := HRb.out j hjl
              obtain ⟨y, hy⟩ := Int.eq_ofNat_of_zero_le y0
              have HJ : Hid (sumPow R (j + 1) = sumPow R j + 2 ^ y) := by show sumPow R j + 2 ^ (R[j]?.getD 0).toNat = _; rw [hy]; rfl
              have hy9 : y ≤ 9 := by omega
              rw [hy] at hcj
              have HPy := hide (fun w5 => HP.out y hy9 w5)
              have hpb := pow9 hy9
              clear hy y0 y9
              generalize sumPow R j = a at *
              generalize 2 ^ y = p at *
              have e1 : IntKind.i64.wrap ((a : Int) + (p : Int)) = ((a + p : Nat) : Int) := (IntWalk.i64_in _ (by omega)).trans (by omega)
              have j0 : (0 : Int) ≤ (j : Int) := by omega
              have j1 : (j : Int) < (R.length : Int) := by omega
              go_wp2_with fail
              refine (HPy.out _).mono ?_
              rintro e w7 ⟨rfl, rfl⟩
              go_wp2_with fail
              exact ⟨⟨j + 1, hjl, by go_num, by rw [HJ.out]; push_cast; rfl, trivial⟩, by simp [intOf]; omega⟩
            · obtain rfl : j = R.length := by omega
              rw [HRs.out]
              have hvc := hide (hvb.out.alloc (.cells #[.int .i64 (x : Int)] 3))
              have hbc := bx.alloc bx.size (.cells #[.int .i64 (x : Int)] 3)
              have hzc : w3.heap.size ≤ (w5.alloc (.cells #[.int .i64 (x : Int)] 3)).heap.size := by simp; omega
              go_wp2_with ((at_builtin; refine put_own rfl (.tmp 71) (.tmp 73) rfl Try.underlying26 elem_int' rfl hvc.out rfl (m := 1) (news := [.int .i64 (x : Int)]) rfl (row_new _ _ _ rfl) (by simp [Value.oneCell']) (by omega) (by omega) hzc ?_; intro v9 w9 own9 hg9 ho9))
              exact ⟨⟨k + 1, hlt, by go_num, by rw [HTk.out]; simpa [ints] using own9, below_grown hbc hbc.size hvc.out hz3 hg9, Nat.le_trans hzc hg9.size⟩, by simp [intOf]; omega⟩
        · obtain rfl : nn = k := by omega
          rw [HTn.out] at hown
          have RL := hide (own_reads hown)
          have hb' := hide hb
          clear hown
          go_wp2_with fail
          go_loopw [12, 13] (fun a i wi => ∃ x : Nat, x ≤ P ∧ i = .int .i64 (x : Int) ∧ a = .int .i64 ((oneByOne L x : Nat) : Int) ∧ wo = wi) (fun _ i _ => P - (intOf i).toNat)
          case atStart => exact ⟨0, Nat.zero_le _, rfl, rfl, rfl⟩
          case round =>
            obtain ⟨x, hx', rfl, rfl, rfl⟩ := hrel
            have hob := one_le L x
            by_cases hxl : x < P
            · have HOx := hide (HON.out x)
              have HLx := hide (HLO.out x)
              go_wp2_with fail
              refine (HPn.out _).mono ?_
              rintro e w7 ⟨rfl, rfl⟩
              go_wp2_with fail
              go_loopw [14, 15] (fun f i wi => ∃ j : Nat, j ≤ nn ∧ i = .int .i64 (j : Int) ∧ f = .bool (looseTo L x j) ∧ wo = wi) (fun _ i _ => nn - (intOf i).toNat)
              case atStart => exact ⟨0, Nat.zero_le _, rfl, rfl, rfl⟩
              case round =>
                obtain ⟨j, hj, rfl, rfl, rfl⟩ := hrel
                cases hf : looseTo L x j with
                | false =>
                  have hlf := (HLx.out).trans (HST.out x j hf nn hj)
                  have hO := HOx.out
                  rw [hlf] at hO
                  have HO := hide hO
                  clear hO hlf hf HLx HOx
                  by_cases hjn : (j : Int) < (nn : Int)
                  · go_wp2_with fail
                    go_round
                    case rel => exact ⟨x + 1, hxl, rfl, by rw [HO.out]; rfl, trivial⟩
                    case measure => simp [intOf]; omega
                  · go_wp2_with fail
                    go_round
                    case rel => exact ⟨x + 1, hxl, rfl, by rw [HO.out]; rfl, trivial⟩
                    case measure => simp [intOf]; omega
                | true =>
                  by_cases hjn : j < nn
                  · have HB := hide (fun w5 => HBt.out x j (by omega) (by omega) w5)
                    have HJ := HLS.out x j
                    rw [hf, Bool.true_and] at HJ
                    obtain ⟨ad, rfl, hcj⟩ := RL.out.int (k := j) (by rw [natI_len]; omega)
                    rw [natI_at] at hcj
                    have hyb := H9s.out.bd j
                    have j0 : (0 : Int) ≤ (j : Int) := by omega
                    have j1 : (j : Int) < (nn : Int) := by omega
                    clear hf
                    rcases bitN_two x j with hb | hb
                    · rw [hb] at HB HJ
                      have HY : Hid (looseTo L x (j + 1) = true) := hide (HJ.trans rfl)
                      clear HJ
                      clear hb
                      generalize L[j]?.getD 0 = y at *
                      go_wp2_with fail
                      refine (HB.out _).mono ?_
                      rintro e w7 ⟨rfl, rfl⟩
                      go_wp2_with fail
                      exact ⟨⟨j + 1, hjn, rfl, by rw [HY.out], trivial⟩, by simp [intOf]; omega⟩
                    · rw [hb] at HB HJ
                      clear hb
                      obtain ⟨ea, ba⟩ := i64_and9 (L[j]?.getD 0) x hyb (by omega)
                      generalize (L[j]?.getD 0) &&& x = z at *
                      generalize L[j]?.getD 0 = y at *
                      by_cases hz0 : z = 0
                      · subst hz0
                        have HY : Hid (looseTo L x (j + 1) = true) := hide (HJ.trans rfl)
                        clear HJ
                        go_wp2_with fail
                        refine (HB.out _).mono ?_
                        rintro e w7 ⟨rfl, rfl⟩
                        go_wp2_with fail
                        exact ⟨⟨j + 1, hjn, rfl, by rw [HY.out], trivial⟩, by simp [intOf]; omega⟩
                      · have hzi : ((z : Int) == 0) = false := by rw [beq_eq_false_iff_ne]; omega
                        have hzn : (z != 0) = true := by rw [bne_iff_ne]; exact hz0
                        rw [hzn] at HJ
                        have HY : Hid (looseTo L x (j + 1) = false) := hide (HJ.trans rfl)
                        clear HJ
                        clear hzn hz0
                        go_wp2_with fail
                        refine (HB.out _).mono ?_
                        rintro e w7 ⟨rfl, rfl⟩
                        go_wp2_with fail
                        exact ⟨⟨j + 1, hjn, rfl, by rw [HY.out], trivial⟩, by simp [intOf]; omega⟩
                  · obtain rfl : nn = j := by omega
                    have hO := HOx.out
                    rw [HLx.out.trans hf] at hO
                    have HO := hide hO
                    clear hO hf HLx HOx
                    go_wp2_with fail
                    go_round
                    case rel => exact ⟨x + 1, hxl, rfl, by rw [HO.out]; rfl, trivial⟩
                    case measure => simp [intOf]; omega
            · obtain rfl : x = P := by omega
              rw [HV.out]
              go_wp2_with fail
              refine (HPn.out _).mono ?_
              rintro e w7 ⟨rfl, rfl⟩
              go_wp2_with fail
              go_ret
              exact ⟨rfl, hb'.out⟩
end Go.Proofs.Ytmednlgokcbdjad


/-
  The walk of the law FnPaintFirst, off the contracts of the program's functions (given).
-/
import Derived.Test.YtdjkdjnbmhpokacLawHC
import Derived.Test.YtdjkdjnbmhpokacPaintR
import Derived.BigQuiet
namespace Go.Proofs.Ytdjkdjnbmhpokac
open Go.RowKit
set_option linter.unusedVariables false

theorem row_natH {W : World} {A : Option Addr} {L : List Nat} (h : Row W A (ints (natI L))) {k : Nat} (hk : k < L.length) : ∃ ad, A = some ad ∧ W.cell? (ad.add k) = some (.int .i64 ((L[k]?.getD 0 : Nat) : Int)) := by
  obtain ⟨ad, e, hc⟩ := h.int (k := k) (by rw [natI_len]; exact hk)
  refine ⟨ad, e, ?_⟩
  rw [hc]
  simp [natI, List.getElem?_eq_getElem hk]
set_option maxHeartbeats 4000000 in
set_option maxRecDepth 100000 in
theorem paintFirst_w (HI : ∀ (bc br : Int) (s : ByteArray) (w5 : World), Calls Try.prog 12 #[.int .i64 bc, .int .i64 br, .string s] w5 (Owns 3 1 (hueL bc br s.toList).length (ints (natI (hueL bc br s.toList))) w5))
    (HF : ∀ (bc br : Int) (s : ByteArray) (w5 : World), Calls Try.prog 8 #[.int .i64 bc, .int .i64 br, .string s] w5 (Plain (.int .i64 (fewV bc br s.toList)) w5))
    (HR : ∀ (bc br : Int) (s : ByteArray) (ss : List (Int × Int)) (far : Bool) (i : Nat) (w5 : World), smallK bc br s.toList = some (ss, far) → i < (setsP bc br far ss).length → Calls Try.prog 18 #[.int .i64 bc, .int .i64 br, .string s, .int .i64 (i : Int), .slice none 0 0] w5 (Owns 3 1 (reachH (setsP bc br far ss) i).length (ints (natI (reachH (setsP bc br far ss) i))) w5))
    (A : Option Addr) (n c : Nat) (w : World) (h : Code w A n c) : Calls Try.prog 5 #[.slice A n c] w (Plain (.bool true) w) := by
  by_cases hl : 1048576 < (n : Int)
  · go_enter Try.func5, Try.ntmps5
    go_wp2
    go_ret
    exact ⟨rfl, Below.refl _ _⟩
  · have HC := hide (drawPaintFirst_c A n c w h)
    clear h
    go_enter Try.func5, Try.ntmps5
    go_wp2_with fail
    refine HC.out.mono ?_
    rintro e w1 ⟨bc, br, s, rfl, -, -, -, b1⟩
    have HI1 := hide (fun w5 => HI bc br s w5)
    have HS1 := hide (fun w5 => specPaintFirst_c bc br s w5)
    have HF1 := hide (fun w5 => HF bc br s w5)
    have HR := hide HR
    clear HC HI HF
    cases hk : smallK bc br s.toList with
    | none =>
      have hz : hueL bc br s.toList = [] := by unfold hueL; rw [hk]
      rw [hz] at HI1 HS1
      rw [show ([] : List Nat).length = 0 from rfl] at HI1 HS1
      clear hk hz HF1 HR
      go_wp2_with fail
      refine (HI1.out _).mono ?_
      rintro e w2 ⟨v2, rfl, o2, b2⟩
      obtain ⟨A2, c2, rfl, _⟩ := own_row o2
      have R2 := own_reads o2
      have b12 := below_then b1 b1.size b2
      clear o2 b1 b2
      go_wp2_with fail
      refine (HS1.out _).mono ?_
      rintro e w3 ⟨v3, rfl, o3, b3⟩
      obtain ⟨A3, c3, rfl, _⟩ := own_row o3
      have R2 := R2.below b3
      have R3 := own_reads o3
      have b13 := below_then b12 b12.size b3
      clear o3 b3
      go_wp2_with fail
      refine (equalInts_h _ _ _ _ _ _ _ _ _ rfl rfl R2 R3 (by simp [natI]) rfl).mono ?_
      rintro e w4 ⟨rfl, b4⟩
      have R2 := R2.below b4
      have b14 := below_then b13 b13.size b4
      clear R3 b4
      go_wp2_with fail
      refine (HS1.out _).mono ?_
      rintro e w5 ⟨v5, rfl, o5, b5⟩
      obtain ⟨A5, c5, rfl, _⟩ := own_row o5
      have R2 := R2.below b5
      have R5 := own_reads o5
      have b15 := below_then b14 b14.size b5
      clear o5 b5
      go_wp2_with fail
      refine (equalInts_h _ _ _ _ _ _ _ _ _ rfl rfl R2 R5 (by simp [natI]) rfl).mono ?_
      rintro e w6 ⟨rfl, b6⟩
      have b16 := below_then b15 b15.size b6
      go_wp2_with fail
      go_ret
      exact ⟨rfl, b16⟩
    | some p =>
      obtain ⟨ss, far⟩ := p
      obtain ⟨hS, hkk⟩ := smallK_some hk
      obtain ⟨m, hU⟩ := hue_of hS hkk
      obtain ⟨a, b, rfl, rfl, ha, hb, hab, -⟩ := boardC_of hS
      have hm : m = a * b := by have := hU.size; rw [← Int.natCast_mul] at this; omega
      have hone := hU.one
      have hnine := hU.nine
      have hlen := hU.len
      have hLW := hueLaw_of hU.len hU.nine hU.tab
      have hL : hueL (a : Int) (b : Int) s.toList = firstC (setsP (a : Int) (b : Int) far ss) m := by unfold hueL; rw [hk]; simp only [hlen]
      have hfe : fewV (a : Int) (b : Int) s.toList = (fewTo (setsP (a : Int) (b : Int) far ss) : Int) := by unfold fewV; rw [hk]
      have HRi := hide (fun (i : Nat) (hi : i < m) w5 => HR.out (a : Int) (b : Int) s ss far i w5 hk (by rw [hlen]; exact hi))
      rw [hL, hLW.len] at HI1 HS1
      rw [hfe] at HF1
      have e0 : IntKind.i64.wrap ((a : Int) * (b : Int)) = (m : Int) := (IntWalk.i64_in _ (by rw [← Int.natCast_mul]; omega)).trans (by rw [hm, Int.natCast_mul])
      clear hk hS hkk hU hL hfe HR hm hab hlen
      generalize setsP (a : Int) (b : Int) far ss = L at *
      generalize firstC L m = F at *
      obtain ⟨hFl, hrl, hnear, hgr, hdf, hfw⟩ := hLW
      have HRL := hide hrl
      have HNR := hide hnear
      have HFl := hide hFl
      have HDF := hide hdf
      clear hrl hnear hFl hdf
      generalize fewTo L = f at *
      go_wp2_with fail
      refine (HI1.out _).mono ?_
      rintro e w2 ⟨v2, rfl, o2, b2⟩
      obtain ⟨g2, c2, rfl, hd2, hcl2, _, hcm2, _⟩ := own_one o2 (by omega)
      have b12 := below_then b1 b1.size b2
      clear b1 b2
      go_wp2_with fail
      refine (HS1.out _).mono ?_
      rintro e w3 ⟨v3, rfl, o3, b3⟩
      obtain ⟨A3, c3, rfl, _⟩ := own_row o3
      have o2 := own_below o2 b3
      have R3 := own_reads o3
      have b13 := below_then b12 b12.size b3
      clear o3 b3
      go_wp2_with fail
      refine (equalInts_h _ _ _ _ _ _ _ _ _ (by rw [natI_len]; exact HFl.out) (by rw [natI_len]; exact HFl.out) (own_reads o2) R3 (by rw [natI_len, HFl.out]; omega) rfl).mono ?_
      rintro e w4 ⟨rfl, b4⟩
      have o2 := own_below o2 b4
      have b14 := below_then b13 b13.size b4
      clear R3 b4 HI1 HS1 b12 b13
      have m0 : ((m : Int) == 0) = false := by rw [beq_eq_false_iff_ne]; omega
      have O2 := hide o2
      have B14 := hide b14
      clear o2 b14
      go_wp2_with fail
      go_loopw [7] (fun iv wr => ∃ i : Nat, i ≤ m ∧ iv = .int .i64 (i : Int) ∧ Below w4.heap.size w4 wr) (fun iv _ => m - (intOf iv).toNat)
      case atStart => exact ⟨0, Nat.zero_le _, rfl, Below.refl _ _⟩
      case round =>
        obtain ⟨i, hi, rfl, hb⟩ := hrel
        obtain ⟨wo, rfl⟩ : ∃ wo : World, wo = wr := ⟨_, rfl⟩
        by_cases hlt : i < m
        · have HRk := hide (fun w5 => HRi.out i hlt w5)
          have hrl := HRL.out i hlt
          have HNi := hide (HNR.out i hlt)
          clear HRi HRL HNR HDF HFl HF1
          have k1 : (i : Int) < (m : Int) := by omega
          generalize reachH L i = M at *
          have HB := hide hb
          clear hb
          go_wp2_with fail
          refine (HRk.out _).mono ?_
          rintro e w8 ⟨v8, rfl, o8, b8⟩
          obtain ⟨A8, c8, rfl, _⟩ := own_row o8
          have O8 := hide (own_below O2.out (below_then HB.out HB.out.size b8))
          have R8 := hide (own_reads o8)
          have B8 := hide (below_then HB.out HB.out.size b8)
          clear o8 b8
          go_wp2_with fail
          go_loopw [9] (fun kv wr => ∃ k q : Nat, k ≤ M.length ∧ kv = .int .i64 (k : Int) ∧ wr = w8.drewN q) (fun kv _ => M.length - (intOf kv).toNat)
          case atStart => exact ⟨0, 0, Nat.zero_le _, rfl, rfl⟩
          case round =>
            obtain ⟨k, q, hk, rfl, rfl⟩ := hrel
            by_cases hkl : k < M.length
            · obtain ⟨ad, rfl, u8⟩ := row_natH R8.out hkl
              obtain ⟨hx, hne⟩ := HNi.out k hkl
              obtain ⟨x, hxe⟩ : ∃ x, M[k]?.getD 0 = x := ⟨_, rfl⟩
              rw [hxe] at u8 hx hne
              obtain ⟨ux, _, _, _⟩ := own_natQ O8.out hx 0
              obtain ⟨ui, _, _, _⟩ := own_natQ O8.out hlt 0
              clear hxe
              generalize F[x]?.getD 0 = fx at *
              generalize F[i]?.getD 0 = fi at *
              have hfx : ((fx : Int) == (fi : Int)) = false := by rw [beq_eq_false_iff_ne]; omega
              have i0 : (0 : Int) ≤ (i : Int) := by omega
              have k0 : (0 : Int) ≤ (k : Int) := by omega
              have k2 : (k : Int) < (M.length : Int) := by omega
              have x0 : (0 : Int) ≤ (x : Int) := by omega
              have x1 : (x : Int) < (m : Int) := by omega
              clear hne
              go_wp2_with fail
              go_quiet (fail)
              all_goals go_wp2_with fail
              exact ⟨⟨k + 1, q + nq, hkl, by go_num, rfl⟩, by simp [intOf]; omega⟩
            · obtain rfl : k = M.length := by omega
              go_wp2_with fail
              exact ⟨⟨i + 1, hlt, by go_num, below_drewN B8.out q⟩, by simp [intOf]; omega⟩
        · obtain rfl : i = m := by omega
          have o2 := own_below O2.out hb
          have b14 := below_then B14.out B14.out.size hb
          have HDFo := HDF.out
          have HGR := hide (fun (A' : Option Addr) (c' : Nat) (w5 : World) (h5 : Row w5 A' (ints (natI F))) => greatest_h A' (natI F) i c' w5 (by rw [natI_len]; exact HFl.out) h5 (by rw [natI_len, HFl.out]; omega))
          have HDI := hide (fun (A' : Option Addr) (c' : Nat) (w5 : World) (h5 : Row w5 A' (ints (natI F))) (h6 : i ≤ c') (h7 : c' ≤ maxLen) => different_h A' i c' (natI F) w5 (by rw [natI_len]; exact HFl.out) h5 (by rw [natI_len, HFl.out]; omega) (by rw [natI_len, HFl.out]; exact h6) h7)
          generalize maxH (natI F) i = G at *
          generalize diffH (natI F) i = D at *
          have eG : IntKind.i64.wrap (G + 1) = G + 1 := IntWalk.i64_in _ (by omega)
          have hDG : ((D : Int) == G + 1) = true := by rw [beq_iff_eq]; exact HDFo
          have hfG : (f : Int) ≤ G + 1 := hfw
          clear HRi HRL HNR HDFo HDF hgr hfw
          have R2 := hide (own_reads o2)
          clear o2
          have mm : ((i : Int) == (i : Int)) = true := by simp
          have HC2 : Hid (i ≤ c2 ∧ c2 ≤ maxLen) := hide ⟨by omega, by omega⟩
          go_wp2_with fail
          refine (HDI.out _ _ _ R2.out HC2.out.1 HC2.out.2).mono ?_
          rintro e w5 ⟨rfl, b5⟩
          have R2 := hide (R2.out.below b5)
          have b15 := below_then b14 b14.size b5
          clear b5
          go_wp2_with fail
          refine (HGR.out _ _ _ R2.out).mono ?_
          rintro e w6 ⟨rfl, b6⟩
          have R2 := hide (R2.out.below b6)
          have b16 := below_then b15 b15.size b6
          clear b6
          by_cases h8 : (8 : Int) < (i : Int)
          · go_wp2_with fail
            go_ret
            exact ⟨rfl, b16⟩
          · go_wp2_with fail
            refine (HGR.out _ _ _ R2.out).mono ?_
            rintro e w7 ⟨rfl, b7⟩
            have b17 := below_then b16 b16.size b7
            go_wp2_with fail
            refine (HF1.out _).mono ?_
            rintro e w8 ⟨rfl, b8⟩
            have b18 := below_then b17 b17.size b8
            go_wp2_with fail
            go_ret
            exact ⟨rfl, b18⟩
end Go.Proofs.Ytdjkdjnbmhpokac

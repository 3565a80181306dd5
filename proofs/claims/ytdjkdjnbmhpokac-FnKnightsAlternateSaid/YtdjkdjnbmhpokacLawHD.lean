
/-
  The walk of the law FnKnightsAlternate, off the contracts of the program's functions (given).
-/
import Derived.Test.YtdjkdjnbmhpokacLawHC
namespace Go.Proofs.Ytdjkdjnbmhpokac
open Go.RowKit
set_option linter.unusedVariables false

theorem kind_stepH : kindL (ByteArray.toList ⟨#[115, 116, 101, 112]⟩) = some (straight, false) := by decide +kernel
theorem kind_knightH : kindL (ByteArray.toList ⟨#[107, 110, 105, 103, 104, 116]⟩) = some (knights, false) := by decide +kernel
theorem alt_facts {bc br : Int} {s : List UInt8} (h : (smallK bc br s).isSome = true) :
    ∃ (a b : Nat) (F : List Nat) (x1 x2 : Nat), bc = (a : Int) ∧ br = (b : Int) ∧ (1 ≤ a ∧ a ≤ 5) ∧ (1 ≤ b ∧ b ≤ 5) ∧ a * b ≤ 9 ∧ hueL bc br (ByteArray.toList ⟨#[115, 116, 101, 112]⟩) = F ∧ F.length = a * b ∧ (∀ i, i < a * b → F[i]?.getD 0 = (i / a + i % a) % 2) ∧
      fewV bc br (ByteArray.toList ⟨#[107, 110, 105, 103, 104, 116]⟩) = (x1 : Int) ∧ x1 ≤ 2 ∧ fewV bc br (ByteArray.toList ⟨#[115, 116, 101, 112]⟩) = (x2 : Int) ∧ x2 ≤ 2 ∧ fewV bc br (ByteArray.toList ⟨#[114, 111, 111, 107]⟩) = max bc br := by
  obtain ⟨⟨ss, far⟩, hk⟩ := Option.isSome_iff_exists.1 h
  obtain ⟨hS, -⟩ := smallK_some hk
  have k1 : smallK bc br (ByteArray.toList ⟨#[115, 116, 101, 112]⟩) = some (straight, false) := by unfold smallK; rw [if_pos hS, kind_stepH]
  have k2 : smallK bc br (ByteArray.toList ⟨#[107, 110, 105, 103, 104, 116]⟩) = some (knights, false) := by unfold smallK; rw [if_pos hS, kind_knightH]
  have k3 : smallK bc br (ByteArray.toList ⟨#[114, 111, 111, 107]⟩) = some (straight, true) := by unfold smallK; rw [if_pos hS, kind_rookH]
  obtain ⟨n, hU⟩ := hue_of hS kind_stepH
  obtain ⟨a, b, rfl, rfl, ha, hb, hab, hC⟩ := boardC_of hS
  have hn : n = a * b := by have := hU.size; rw [← Int.natCast_mul] at this; omega
  subst hn
  have hlen := hU.len
  unfold boardC at hC
  simp only [Bool.and_eq_true, Nat.ble_eq, beq_iff_eq] at hC
  obtain ⟨⟨⟨⟨c1, c2⟩, c3⟩, c4⟩, c5⟩ := hC
  refine ⟨a, b, _, _, _, rfl, rfl, ha, hb, hab, rfl, ?_, ?_, by unfold fewV; rw [k2], c4, by unfold fewV; rw [k1], c3, ?_⟩
  · unfold hueL
    rw [k1]
    simp only [firstC_len, hlen]
  · intro i hi
    have := List.all_eq_true.1 c2 i (List.mem_range.2 hi)
    rw [beq_iff_eq] at this
    unfold hueL
    rw [k1]
    simp only [hlen]
    have hlt : i < (firstC (setsP (a : Int) (b : Int) false straight) (a * b)).length := by rw [firstC_len]; exact hi
    rw [List.getElem?_eq_getElem hlt] at this ⊢
    exact this
  · unfold fewV
    rw [k3]
    simp only [c5]
    omega
set_option maxHeartbeats 4000000 in
set_option maxRecDepth 100000 in
theorem knightsAlternate_w (HI : ∀ (bc br : Int) (s : ByteArray) (w5 : World), Calls Try.prog 12 #[.int .i64 bc, .int .i64 br, .string s] w5 (Owns 3 1 (hueL bc br s.toList).length (ints (natI (hueL bc br s.toList))) w5))
    (HF : ∀ (bc br : Int) (s : ByteArray) (w5 : World), Calls Try.prog 8 #[.int .i64 bc, .int .i64 br, .string s] w5 (Plain (.int .i64 (fewV bc br s.toList)) w5))
    (HV : ∀ (bc br : Int) (s : ByteArray) (w5 : World), Calls Try.prog 21 #[.int .i64 bc, .int .i64 br, .string s] w5 (Plain (.bool (smallK bc br s.toList).isSome) w5))
    (A : Option Addr) (n c : Nat) (w : World) (h : Code w A n c) : Calls Try.prog 6 #[.slice A n c] w (Plain (.bool true) w) := by
  by_cases hl : 1048576 < (n : Int)
  · go_enter Try.func6, Try.ntmps6
    go_wp2
    go_ret
    exact ⟨rfl, Below.refl _ _⟩
  · have HC := hide (drawPaintFirst_c A n c w h)
    clear h
    go_enter Try.func6, Try.ntmps6
    go_wp2_with fail
    refine HC.out.mono ?_
    rintro e w1 ⟨bc, br, s, rfl, -, -, -, b1⟩
    have HI1 := hide (fun w5 => HI bc br s w5)
    have HS1 := hide (fun w5 => specPaintFirst_c bc br s w5)
    have HG1 := hide (fun w5 => HI bc br ⟨#[115, 116, 101, 112]⟩ w5)
    have HK1 := hide (fun w5 => HF bc br ⟨#[107, 110, 105, 103, 104, 116]⟩ w5)
    have HP1 := hide (fun w5 => HF bc br ⟨#[115, 116, 101, 112]⟩ w5)
    have HR1 := hide (fun w5 => HF bc br ⟨#[114, 111, 111, 107]⟩ w5)
    have HV1 := hide (fun w5 => HV bc br s w5)
    have HAF := hide (fun h => alt_facts (bc := bc) (br := br) (s := s.toList) h)
    have hsh := hue_short bc br s.toList
    have hsg := hue_short bc br (ByteArray.toList ⟨#[115, 116, 101, 112]⟩)
    clear HC HI HF HV
    obtain ⟨v, hv⟩ : ∃ v, (smallK bc br s.toList).isSome = v := ⟨_, rfl⟩
    rw [hv] at HV1 HAF
    clear hv
    generalize hueL bc br s.toList = D at *
    obtain ⟨G, hG⟩ : ∃ G, hueL bc br (ByteArray.toList ⟨#[115, 116, 101, 112]⟩) = G := ⟨_, rfl⟩
    rw [hG] at HG1 hsg HAF
    go_wp2_with fail
    refine (HI1.out _).mono ?_
    rintro e w2 ⟨v2, rfl, o2, b2⟩
    obtain ⟨A2, c2, rfl, _⟩ := own_row o2
    have R2 := own_reads o2
    have b12 := below_then b1 b1.size b2
    clear o2 b1 b2
    go_wp2_with fail
    refine (HS1.out _).mono ?_
    rintro e w3 ⟨v3, rfl, o3, b3⟩
    obtain ⟨A3, c3, rfl, _⟩ := own_row o3
    have R2 := R2.below b3
    have R3 := own_reads o3
    have b13 := below_then b12 b12.size b3
    clear o3 b3 b12
    go_wp2_with fail
    refine (equalInts_h _ _ _ _ _ _ _ _ _ (by simp [natI]) (by simp [natI]) R2 R3 (by simp [natI]; omega) rfl).mono ?_
    rintro e w4 ⟨rfl, b4⟩
    have b14 := below_then b13 b13.size b4
    clear R2 R3 b4 b13 HI1 HS1 hsh
    go_wp2_with fail
    refine (HG1.out _).mono ?_
    rintro e w5 ⟨v5, rfl, o5, b5⟩
    obtain ⟨A5, c5, rfl, hcl5, hcm5, _⟩ := own_row o5
    have b15 := below_then b14 b14.size b5
    clear b14 b5
    go_wp2_with fail
    refine (HV1.out _).mono ?_
    rintro e w6 ⟨rfl, b6⟩
    have o5 := own_below o5 b6
    have b16 := below_then b15 b15.size b6
    clear b15 b6 HV1 HG1
    cases v with
    | false =>
      go_wp2_with fail
      go_ret
      exact ⟨rfl, b16⟩
    | true =>
      obtain ⟨a, b, F, x1, x2, rfl, rfl, ha, hb, hab, hGF, hFl, hFi, e1, g1, e2, g2, e3⟩ := HAF.out rfl
      subst hGF
      rw [e1] at HK1
      rw [e2] at HP1
      rw [e3] at HR1
      have e0 : IntKind.i64.wrap ((a : Int) * (b : Int)) = ((a * b : Nat) : Int) := (IntWalk.i64_in _ (by rw [← Int.natCast_mul]; omega)).trans (by rw [Int.natCast_mul])
      clear HAF e1 e2 e3 hG hsg
      obtain ⟨m, hm⟩ : ∃ m, a * b = m := ⟨_, rfl⟩
      rw [hm] at e0 hab hFl hFi
      obtain ⟨H5, c5', e5, hd5, _⟩ := own_one o5 (by rw [hFl, ← hm]; exact Nat.mul_pos (by omega) (by omega))
      clear hm
      rw [hFl] at o5
      injection e5 with i1 i2 i3
      subst i1 i3
      have O5 := hide o5
      have B16 := hide b16
      have hFl' := hide hFl
      have HFi := hide hFi
      clear o5 b16 hFi
      rw [hFl'.out]
      clear hFl
      go_wp2_with fail
      go_loopw [7] (fun iv wr => ∃ (i q : Nat), i ≤ m ∧ iv = .int .i64 (i : Int) ∧ wr = w6.drewN q) (fun iv _ => m - (intOf iv).toNat)
      case atStart => exact ⟨0, 0, Nat.zero_le _, rfl, rfl⟩
      case round =>
        obtain ⟨i, q, hi, rfl, rfl⟩ := hrel
        by_cases hlt : i < m
        · obtain ⟨u1, _, _, _⟩ := own_natQ O5.out hlt 0
          rw [HFi.out i hlt] at u1
          have k0 : (0 : Int) ≤ (i : Int) := by omega
          have k1 : (i : Int) < (m : Int) := by omega
          have ha0 : a ≠ 0 := by omega
          have t1 : Int.tdiv (i : Int) (a : Int) = ((i / a : Nat) : Int) := rfl
          have t3 : Int.tmod (i : Int) (a : Int) = ((i % a : Nat) : Int) := rfl
          have d1 := Nat.div_le_self i a
          have d2 := Nat.mod_lt i (show 0 < a by omega)
          generalize i / a = p1 at *
          generalize i % a = p2 at *
          have q1 : IntKind.i64.wrap (p1 : Int) = (p1 : Int) := IntWalk.i64_in _ (by omega)
          have q2 : IntKind.i64.wrap (p2 : Int) = (p2 : Int) := IntWalk.i64_in _ (by omega)
          obtain ⟨s1, hs1⟩ : ∃ s1, p1 + p2 = s1 := ⟨_, rfl⟩
          have g1' : IntKind.i64.wrap ((p1 : Int) + (p2 : Int)) = (s1 : Int) := (IntWalk.i64_in _ (by omega)).trans (by omega)
          rw [hs1] at u1
          have v1 : Int.tmod (s1 : Int) 2 = ((s1 % 2 : Nat) : Int) := rfl
          obtain ⟨t, ht⟩ : ∃ t, s1 % 2 = t := ⟨_, rfl⟩
          rw [ht] at u1 v1
          have ht2 : t < 2 := by omega
          have v2 : IntKind.i64.wrap (t : Int) = (t : Int) := IntWalk.i64_in _ (by omega)
          have v3 : ((t : Int) != (t : Int)) = false := by simp
          clear d1 d2 hs1 ht ht2
          go_wp2_with fail
          go_quiet (fail)
          all_goals go_wp2_with fail
          exact ⟨⟨i + 1, q + nq, hlt, by go_num, rfl⟩, by simp [intOf]; omega⟩
        · obtain rfl : i = m := by omega
          have B := below_drewN B16.out q
          have hmm : ¬ ((i : Int) < (i : Int)) := by omega
          by_cases h8 : (8 : Int) < (i : Int)
          · go_wp2_with fail
            go_ret
            exact ⟨rfl, B⟩
          · have z1 : (x1 : Int) ≤ 2 := by omega
            have z2 : (x2 : Int) ≤ 2 := by omega
            have hmx : (max (a : Int) (b : Int) == max (a : Int) (b : Int)) = true := by simp
            go_wp2_with fail
            refine (HK1.out _).mono ?_
            rintro e w7 ⟨rfl, b7⟩
            have B := below_then B B.size b7
            go_wp2_with fail
            refine (HP1.out _).mono ?_
            rintro e w8 ⟨rfl, b8⟩
            have B := below_then B B.size b8
            go_wp2_with fail
            refine (HR1.out _).mono ?_
            rintro e w9 ⟨rfl, b9⟩
            have B := below_then B B.size b9
            go_wp2_with fail
            go_ret
            exact ⟨rfl, B⟩
end Go.Proofs.Ytdjkdjnbmhpokac

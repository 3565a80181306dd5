
/-
  The walk of the law FnCatchMost, off the contracts of the program's functions (given).
-/
import Derived.Test.YtakphmcelhbaiaaChaseD
import Derived.Test.YtakphmcelhbaiaaChaseE
import Derived.Test.YtakphmcelhbaiaaDrawK
import Derived.Test.YtakphmcelhbaiaaLawWords
namespace Go.Proofs.Ytakphmcelhbaiaa
open Go.RowKit
set_option linter.unusedVariables false

theorem chase_facts {bc br : Int} {s : List UInt8} {ss : List (Int × Int)} {far : Bool} (h : smallK bc br s = some (ss, far)) :
    ∃ a b : Nat, bc = (a : Int) ∧ br = (b : Int) ∧ (1 ≤ a ∧ a ≤ 5) ∧ (1 ≤ b ∧ b ≤ 5) ∧ (1 ≤ a * b ∧ a * b ≤ 9) ∧ chaseOk a b (ss, far) = true := by
  obtain ⟨⟨h1, h2, h3, h4, h9⟩, hk⟩ := smallK_some h
  obtain ⟨a, rfl⟩ : ∃ a : Nat, bc = ((a + 1 : Nat) : Int) := ⟨(bc - 1).toNat, by omega⟩
  obtain ⟨b, rfl⟩ : ∃ b : Nat, br = ((b + 1 : Nat) : Int) := ⟨(br - 1).toNat, by omega⟩
  have h9' : (a + 1) * (b + 1) ≤ 9 := by
    have : (((a + 1) * (b + 1) : Nat) : Int) ≤ 9 := by rw [Int.natCast_mul]; exact h9
    omega
  exact ⟨a + 1, b + 1, rfl, rfl, by omega, by omega, ⟨Nat.mul_pos (by omega) (by omega), h9'⟩, List.all_eq_true.1 (chase_all ⟨a, by omega⟩ ⟨b, by omega⟩ h9') (ss, far) (kind_six6 hk)⟩
def fineTo (C : List (List Nat)) (b i : Nat) : Nat → Bool
  | 0 => true
  | k + 1 => fineTo C b i k && (decide (1 ≤ cAt C i k) && decide (cAt C i k ≤ b + 1))
theorem fine_all {C : List (List Nat)} {b i : Nat} : ∀ n, (∀ k, k < n → (decide (1 ≤ cAt C i k) && decide (cAt C i k ≤ b + 1)) = true) → fineTo C b i n = true
  | 0, _ => rfl
  | n + 1, h => by
    show (fineTo C b i n && _) = true
    rw [fine_all n (fun k hk => h k (by omega)), h n (by omega)]
    rfl
theorem most_facts {a b : Nat} {p : List (Int × Int) × Bool} (h : chaseOk a b p = true) :
    (bestTo (catN (setsP a b p.2 p.1)) (a * b) (a * b) = none → alwaysTo (catN (setsP a b p.2 p.1)) (a * b) (a * b) = false) ∧
    ∀ q, bestTo (catN (setsP a b p.2 p.1)) (a * b) (a * b) = some q → alwaysTo (catN (setsP a b p.2 p.1)) (a * b) (a * b) = true ∧ q ≤ 8 ∧ ∃ i, i < a * b ∧ fineTo (catN (setsP a b p.2 p.1)) q i (a * b) = true := by
  unfold chaseOk at h
  simp only [Bool.and_eq_true] at h
  have h := h.1.2
  constructor
  · intro e
    rw [e] at h
    simpa using h
  · intro q e
    rw [e] at h
    simp only [Bool.and_eq_true] at h
    obtain ⟨⟨h1, h2⟩, h3⟩ := h
    obtain ⟨i, hi, h3⟩ := List.any_eq_true.1 h3
    exact ⟨h1, of_decide_eq_true h2, i, List.mem_range.1 hi, fine_all _ fun k hk => List.all_eq_true.1 h3 k (List.mem_range.2 hk)⟩
set_option maxHeartbeats 4000000 in
set_option maxRecDepth 100000 in
theorem catchMost_w (HI : ∀ (bc br : Int) (s : ByteArray) (w5 : World), Calls Try.prog 12 #[.int .i64 bc, .int .i64 br, .string s] w5 (Plain (.int .i64 (mostV bc br s.toList)) w5))
    (HV : ∀ (bc br : Int) (s : ByteArray) (w5 : World), Calls Try.prog 14 #[.int .i64 bc, .int .i64 br, .string s] w5 (Plain (.bool (smallK bc br s.toList).isSome) w5))
    (HA : ∀ (bc br : Int) (s : ByteArray) (w5 : World), Calls Try.prog 10 #[.int .i64 bc, .int .i64 br, .string s] w5 (Plain (.bool (alwaysV bc br s.toList)) w5))
    (HM : ∀ (bc br : Int) (s : ByteArray) (i k : Int) (w5 : World), Calls Try.prog 8 #[.int .i64 bc, .int .i64 br, .string s, .int .i64 i, .int .i64 k] w5 (Plain (.int .i64 (catchV bc br s.toList i k)) w5))
    (A : Option Addr) (n c : Nat) (w : World) (h : Code w A n c) : Calls Try.prog 6 #[.slice A n c] w (Plain (.bool true) w) := by
  by_cases hl : 1048576 < (n : Int)
  · go_enter Try.func6, Try.ntmps6
    go_wp2
    go_ret
    exact ⟨rfl, Below.refl _ _⟩
  · have HC := hide (drawCatchMost_c A n c w h)
    have HI := hide HI
    have HV := hide HV
    have HA := hide HA
    have HM := hide HM
    have HS := hide (fun bc br s w5 => specCatchMost_c bc br s w5)
    clear h
    go_enter Try.func6, Try.ntmps6
    go_wp2_with fail
    refine HC.out.mono ?_
    rintro e w1 ⟨bc, br, s, rfl, -, -, -, b1⟩
    have HI1 := hide (fun w5 => HI.out bc br s w5)
    have HS1 := hide (fun w5 => HS.out bc br s w5)
    have HV1 := hide (fun w5 => HV.out bc br s w5)
    have HA1 := hide (fun w5 => HA.out bc br s w5)
    have HM1 := hide (fun i k w5 => HM.out bc br s i k w5)
    clear HC HI HS HV HA HM
    unfold mostV at HI1 HS1
    unfold alwaysV at HA1
    unfold catchV at HM1
    cases hk : smallK bc br s.toList with
    | none =>
      rw [hk] at HI1 HS1 HV1 HA1
      clear hk HM1
      go_wp2_with fail
      refine (HI1.out _).mono ?_
      rintro e w2 ⟨rfl, b2⟩
      have b12 := below_then b1 b1.size b2
      go_wp2_with fail
      refine (HS1.out _).mono ?_
      rintro e w3 ⟨rfl, b3⟩
      have b13 := below_then b12 b12.size b3
      go_wp2_with fail
      refine (HV1.out _).mono ?_
      rintro e w4 ⟨rfl, b4⟩
      have b14 := below_then b13 b13.size b4
      go_wp2_with fail
      refine (HS1.out _).mono ?_
      rintro e w5 ⟨rfl, b5⟩
      have b15 := below_then b14 b14.size b5
      go_wp2_with fail
      refine (HA1.out _).mono ?_
      rintro e w6 ⟨rfl, b6⟩
      have b16 := below_then b15 b15.size b6
      go_wp2_with fail
      go_ret
      exact ⟨rfl, b16⟩
    | some p =>
      obtain ⟨ss, far⟩ := p
      obtain ⟨a, b, rfl, rfl, ha, hb, hab, hok⟩ := chase_facts hk
      obtain ⟨f1, f2⟩ := most_facts hok
      rw [hk] at HI1 HS1 HV1 HA1 HM1
      simp only [← Int.natCast_mul, Int.toNat_natCast] at HI1 HS1 HA1 HM1 f1 f2
      clear hk hok
      generalize catN (setsP (a : Int) (b : Int) far ss) = C at *
      have e0 : IntKind.i64.wrap ((a : Int) * (b : Int)) = ((a * b : Nat) : Int) := (IntWalk.i64_in _ (by rw [← Int.natCast_mul]; omega)).trans (by rw [Int.natCast_mul])
      obtain ⟨n, hn⟩ : ∃ n, a * b = n := ⟨_, rfl⟩
      rw [hn] at HI1 HS1 HA1 f1 f2 e0 hab
      simp only [hn] at HM1
      clear hn
      cases hbt : bestTo C n n with
      | none =>
        rw [f1 hbt] at HA1
        rw [hbt] at HI1 HS1
        have ho : optI none = -1 := rfl
        rw [ho] at HI1 HS1
        clear f1 f2 hbt HM1
        go_wp2_with fail
        refine (HI1.out _).mono ?_
        rintro e w2 ⟨rfl, b2⟩
        have b12 := below_then b1 b1.size b2
        go_wp2_with fail
        refine (HS1.out _).mono ?_
        rintro e w3 ⟨rfl, b3⟩
        have b13 := below_then b12 b12.size b3
        go_wp2_with fail
        refine (HV1.out _).mono ?_
        rintro e w4 ⟨rfl, b4⟩
        have b14 := below_then b13 b13.size b4
        go_wp2_with fail
        refine (HS1.out _).mono ?_
        rintro e w5 ⟨rfl, b5⟩
        have b15 := below_then b14 b14.size b5
        go_wp2_with fail
        refine (HA1.out _).mono ?_
        rintro e w6 ⟨rfl, b6⟩
        have b16 := below_then b15 b15.size b6
        go_wp2_with fail
        go_ret
        exact ⟨rfl, b16⟩
      | some q =>
        obtain ⟨g1, g2, g3⟩ := f2 q hbt
        rw [g1] at HA1
        rw [hbt] at HI1 HS1
        have ho : optI (some q) = (q : Int) := rfl
        rw [ho] at HI1 HS1
        have HG := hide g3
        have hq0 : ¬ ((q : Int) < 0) := by omega
        have hqq : ((q : Int) != (q : Int)) = false := by simp
        have HM2 := hide (fun (i k : Nat) (hi : i < n) (hk : k < n) w5 => show Calls Try.prog _ #[.int .i64 (a : Int), .int .i64 (b : Int), .string s, .int .i64 (i : Int), .int .i64 (k : Int)] w5 (Plain (.int .i64 ((cAt C i k : Int) - 1)) w5) by
          have := HM1.out (i : Int) (k : Int) w5
          rw [if_pos (by omega)] at this
          exact this)
        have HFS : Hid (∀ i k, fineTo C q i (k + 1) = (fineTo C q i k && (decide (1 ≤ cAt C i k) && decide (cAt C i k ≤ q + 1)))) := fun i k => rfl
        clear f1 f2 hbt HM1 g3 g1 ho
        go_wp2_with fail
        refine (HI1.out _).mono ?_
        rintro e w2 ⟨rfl, b2⟩
        have b12 := below_then b1 b1.size b2
        go_wp2_with fail
        refine (HS1.out _).mono ?_
        rintro e w3 ⟨rfl, b3⟩
        have b13 := below_then b12 b12.size b3
        go_wp2_with fail
        refine (HV1.out _).mono ?_
        rintro e w4 ⟨rfl, b4⟩
        have b14 := below_then b13 b13.size b4
        go_wp2_with fail
        go_loopw [7] (fun v wr => ∃ i : Nat, i ≤ n ∧ v = .int .i64 (i : Int) ∧ Hid (∀ i', i' < i → fineTo C q i' n = false) ∧ Below w4.heap.size w4 wr) (fun v _ => n - (intOf v).toNat)
        case atStart => exact ⟨0, Nat.zero_le _, rfl, fun i' h => absurd h (by omega), Below.refl _ _⟩
        case round =>
          obtain ⟨i, hi, rfl, hnf, hbw⟩ := hrel
          obtain ⟨wo, rfl⟩ : ∃ wo : World, wo = wr := ⟨_, rfl⟩
          by_cases hlt : i < n
          · have HLT := hide hlt
            have hlt' : (i : Int) < (n : Int) := by omega
            go_wp2_with fail
            go_loopw [8, 9] (fun fv kv wj => ∃ k : Nat, k ≤ n ∧ kv = .int .i64 (k : Int) ∧ fv = .bool (fineTo C q i k) ∧ Below wo.heap.size wo wj) (fun _ kv _ => n - (intOf kv).toNat)
            case atStart => exact ⟨0, Nat.zero_le _, rfl, rfl, Below.refl _ _⟩
            case round =>
              obtain ⟨k, hk, rfl, rfl, hbj⟩ := hrel
              obtain ⟨wi, rfl⟩ : ∃ wi : World, wi = wr := ⟨_, rfl⟩
              by_cases hkn : k < n
              · have HKN := hide hkn
                have hkn' : (k : Int) < (n : Int) := by omega
                have HMk := hide (fun w5 => HM2.out i k HLT.out hkn w5)
                have hfs := hide (HFS.out i k)
                obtain ⟨x, hx⟩ : ∃ x, cAt C i k = x := ⟨_, rfl⟩
                rw [hx] at HMk hfs
                have d1 : decide ((0 : Int) ≤ (x : Int) - 1) = decide (1 ≤ x) := decide_eq_decide.2 (by omega)
                have d2 : decide ((x : Int) - 1 ≤ (q : Int)) = decide (x ≤ q + 1) := decide_eq_decide.2 (by omega)
                clear hx
                generalize (x : Int) - 1 = xi at *
                generalize decide (1 ≤ x) = c1 at *
                generalize decide (x ≤ q + 1) = c2 at *
                cases hf : fineTo C q i k with
                | false =>
                  rw [hf] at hfs
                  clear hf d1 d2
                  go_wp2_with fail
                  refine (HMk.out _).mono ?_
                  rintro e w8 ⟨rfl, b8⟩
                  have hb8 := below_then hbj hbj.size b8
                  go_wp2_with fail
                  exact ⟨⟨k + 1, HKN.out, by go_num, by rw [hfs.out]; rfl, hb8⟩, by simp [intOf]; omega⟩
                | true =>
                  rw [hf] at hfs
                  clear hf
                  have z1 : c1 = true ↔ 0 ≤ xi := by rw [← d1]; simp
                  have z2 : c2 = true ↔ xi ≤ (q : Int) := by rw [← d2]; simp
                  clear d1 d2
                  by_cases y1 : 0 ≤ xi
                  · obtain rfl := z1.2 y1
                    by_cases y2 : xi ≤ (q : Int)
                    · obtain rfl := z2.2 y2
                      clear z1 z2
                      go_wp2_with fail
                      refine (HMk.out _).mono ?_
                      rintro e w8 ⟨rfl, b8⟩
                      have hb8 := below_then hbj hbj.size b8
                      go_wp2_with fail
                      exact ⟨⟨k + 1, HKN.out, by go_num, by rw [hfs.out]; rfl, hb8⟩, by simp [intOf]; omega⟩
                    · have hc2 : c2 = false := by
                        cases c2 with
                        | true => exact absurd (z2.1 rfl) y2
                        | false => rfl
                      subst hc2
                      clear z1 z2
                      go_wp2_with fail
                      refine (HMk.out _).mono ?_
                      rintro e w8 ⟨rfl, b8⟩
                      have hb8 := below_then hbj hbj.size b8
                      go_wp2_with fail
                      exact ⟨⟨k + 1, HKN.out, by go_num, by rw [hfs.out, decide_eq_false (Int.not_le.2 y2)]; rfl, hb8⟩, by simp [intOf]; omega⟩
                  · have hc1 : c1 = false := by
                      cases c1 with
                      | true => exact absurd (z1.1 rfl) y1
                      | false => rfl
                    subst hc1
                    clear z1 z2
                    go_wp2_with fail
                    refine (HMk.out _).mono ?_
                    rintro e w8 ⟨rfl, b8⟩
                    have hb8 := below_then hbj hbj.size b8
                    go_wp2_with fail
                    exact ⟨⟨k + 1, HKN.out, by go_num, by rw [hfs.out]; rfl, hb8⟩, by simp [intOf]; omega⟩
              · obtain rfl : k = n := by omega
                have hb9 := below_then hbw hbw.size hbj
                cases hf : fineTo C q i k with
                | true =>
                  clear hf
                  go_wp2_with fail
                  refine (HA1.out _).mono ?_
                  rintro e w8 ⟨rfl, b8⟩
                  have hb8 := below_then hb9 hb9.size b8
                  go_wp2_with fail
                  go_ret
                  exact ⟨rfl, below_then b14 b14.size hb8⟩
                | false =>
                  have HNF := hide (fun i' (h : i' < i + 1) => show fineTo C q i' k = false by
                    by_cases e : i' = i
                    · rw [e]; exact hf
                    · exact hnf.out i' (by omega))
                  clear hf
                  go_wp2_with fail
                  exact ⟨⟨i + 1, HLT.out, by go_num, HNF.out, hb9⟩, by simp [intOf]; omega⟩
          · obtain ⟨j, hj, hfj⟩ := HG.out
            have := hnf.out j (by omega)
            rw [hfj] at this
            cases this
end Go.Proofs.Ytakphmcelhbaiaa

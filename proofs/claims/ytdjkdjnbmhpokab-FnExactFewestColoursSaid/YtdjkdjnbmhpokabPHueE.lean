
/-
  The program's FewestColours.
-/
import Derived.Test.YtdjkdjnbmhpokabPHueD
import Derived.Test.YtdjkdjnbmhpokabPaintQ
namespace Go.Proofs.Ytdjkdjnbmhpokab
open Go.RowKit
set_option linter.unusedVariables false

theorem pos_c (x : Nat) (b : Bool) (h : decide (0 < x) = b) (w : World) : Calls Try.prog 39 #[.int .i64 (x : Int)] w fun e w' => e = .returned (.bool b) ∧ w = w' := by
  have h2 : decide ((0 : Int) < (x : Int)) = b := by
    rw [← h]
    exact decide_eq_decide.2 (by omega)
  subst h2
  go_enter Try.func39, Try.ntmps39
  go_wp2
  go_ret
  exact ⟨rfl, rfl⟩
/-- The first number that is not 0. -/
def FirstPos (R : List Nat) (f : Int) : Prop := (R = [] ∧ f = -1) ∨ ∃ j : Nat, f = (j : Int) ∧ j < R.length ∧ 0 < R[j]?.getD 0 ∧ ∀ i : Nat, i < j → R[i]?.getD 0 = 0
set_option maxHeartbeats 400000 in
theorem indexPos_c (A : Option Addr) (c : Nat) (R : List Nat) (f : Int) (hf : FirstPos R f) (w : World) (hr : Row w A (ints (natI R))) (hm : R.length ≤ 10) :
    Calls Try.prog 38 #[.slice A R.length c, .func (.func 39) #[] #[]] w fun e w' => e = .returned (.int .i64 f) ∧ w = w' := by
  have HR := hide hr
  have HLN := hide (natI_len R)
  have HAT := hide (fun k => natI_at R k)
  have HF := hide hf
  clear hr hf
  go_enter Try.func38, Try.ntmps38
  go_wp2_with fail
  go_loopw [8] (fun i wr => ∃ k : Nat, k ≤ R.length ∧ i = .int .i64 (k : Int) ∧ Hid (∀ j : Nat, j < k → R[j]?.getD 0 = 0) ∧ w = wr) (fun i _ => R.length - (intOf i).toNat)
  case atStart => exact ⟨0, Nat.zero_le _, rfl, fun j hj => absurd hj (by omega), rfl⟩
  case round =>
    obtain ⟨k, hk, rfl, hz, rfl⟩ := hrel
    by_cases hlt : k < R.length
    · obtain ⟨ad, rfl, hca⟩ := HR.out.int (k := k) (by rw [HLN.out]; exact hlt)
      rw [HAT.out] at hca
      obtain ⟨x, hx⟩ : ∃ x, R[k]?.getD 0 = x := ⟨_, rfl⟩
      rw [hx] at hca
      have X := hide hx
      clear hx
      have k0 : (0 : Int) ≤ (k : Int) := by omega
      have k1 : (k : Int) < (R.length : Int) := by omega
      by_cases h0 : x = 0
      · have HN := hide (fun w5 => pos_c x false (by subst h0; rfl) w5)
        have H0 := hide h0
        clear h0
        go_wp2_with fail
        refine (HN.out _).mono ?_
        rintro e w1 ⟨rfl, rfl⟩
        go_wp2_with fail
        exact ⟨⟨k + 1, hlt, by go_num, fun j hj => by
          by_cases e : j = k
          · subst e; rw [X.out, H0.out]
          · exact hz.out j (by omega), trivial⟩, by simp [intOf]; omega⟩
      · have HN := hide (fun w5 => pos_c x true (decide_eq_true (by omega)) w5)
        have HK : Hid (f = (k : Int)) := by
          rcases HF.out with ⟨h1, _⟩ | ⟨j, h1, h2, h3, h4⟩
          · rw [h1] at hlt; exact absurd hlt (by simp)
          · have : j = k := by
              rcases Nat.lt_trichotomy j k with h | h | h
              · have := hz.out j h; omega
              · exact h
              · have h5 := h4 k h
                have h6 := X.out
                omega
            rw [h1, this]
            rfl
        clear h0
        go_wp2_with fail
        refine (HN.out _).mono ?_
        rintro e w1 ⟨rfl, rfl⟩
        go_wp2_with fail
        go_ret
        exact ⟨by rw [HK.out]; rfl, rfl⟩
    · have HK : Hid (f = -1) := by
        rcases HF.out with ⟨_, h1⟩ | ⟨j, h1, h2, h3, h4⟩
        · exact h1
        · have := hz.out j (by omega); omega
      go_wp2_with fail
      go_ret
      exact ⟨by rw [HK.out]; rfl, rfl⟩
set_option maxHeartbeats 1000000 in
theorem implFewestColours_c (bc br : Int) (s : ByteArray) (w : World) : Calls Try.prog 20 #[.int .i64 bc, .int .i64 br, .string s] w (Plain (.int .i64 (fewV bc br s.toList)) w) := by
  have HL := hide (fun w5 => implLooseParts_c bc br s w5)
  have hF : FirstPos (looseL bc br s.toList) (fewV bc br s.toList) ∧ (looseL bc br s.toList).length ≤ 10 := by
    unfold looseL fewV
    cases hsm : smallK bc br s.toList with
    | none => exact ⟨.inl ⟨rfl, rfl⟩, Nat.zero_le _⟩
    | some q =>
      obtain ⟨ss, far⟩ := q
      obtain ⟨hS, hkk⟩ := smallK_some hsm
      obtain ⟨n, hU⟩ := hue_of hS hkk
      have h1 := hU.one
      have h2 := hU.nine
      have h3 := hU.len
      obtain ⟨f1, f2, f3, f4⟩ := few_is (L := setsP bc br far ss) (by omega)
      refine ⟨.inr ⟨fewTo (setsP bc br far ss), rfl, by simp only [mapN_len]; omega, ?_, fun i hi => ?_⟩, by simp only [mapN_len]; omega⟩
      · rw [mapN_at _ (by omega)]; omega
      · rw [mapN_at _ (by omega)]; exact f4 i hi
  obtain ⟨hF, hl⟩ := hF
  have HI := hide (fun A c w5 h5 => indexPos_c A c (looseL bc br s.toList) (fewV bc br s.toList) hF w5 h5 hl)
  clear hF
  generalize fewV bc br s.toList = f at *
  generalize looseL bc br s.toList = R at *
  go_enter Try.func20, Try.ntmps20
  go_wp2_with fail
  refine (HL.out _).mono ?_
  rintro e w1 ⟨v1, rfl, o1, b1⟩
  obtain ⟨A1, c1, rfl, _, _, r1, _⟩ := own_row o1
  have R1 := hide r1
  have B1 := hide b1
  clear o1 b1 r1
  go_wp2_with fail
  refine (HI.out A1 c1 _ R1.out).mono ?_
  rintro e w2 ⟨rfl, rfl⟩
  go_wp2_with fail
  go_ret
  exact ⟨rfl, B1.out⟩
end Go.Proofs.Ytdjkdjnbmhpokab

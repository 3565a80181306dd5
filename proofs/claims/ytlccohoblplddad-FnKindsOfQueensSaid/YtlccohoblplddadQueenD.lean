
/-
  The model's queens: queenCount, CountQueens.
-/
import Derived.Test.YtlccohoblplddadSeatA
import Derived.Test.YtlccohoblplddadQueenB
namespace Go.Proofs.Ytlccohoblplddad
open Go.RowKit
set_option linter.unusedVariables false

/-! ### How many rows of queens there are, by sets, purely: none where it would not end or be too great -/
def freeAt (C D U c : Nat) : Bool := !(C.testBit c || D.testBit c || U.testBit c)
def qcTo (n : Nat) (f : Nat → Nat → Nat → Option Nat) (C D U : Nat) : Nat → Option Nat
  | 0 => some 0
  | c + 1 =>
    match qcTo n f C D U c with
    | none => none
    | some s => if freeAt C D U c then
        match f (C ||| 2 ^ c) (((D ||| 2 ^ c) * 2) &&& (2 ^ n - 1)) ((U ||| 2 ^ c) / 2) with
        | none => none
        | some v => if s + v ≤ 1000000 then some (s + v) else none
      else some s
def qcO (n : Nat) : Nat → Nat → Nat → Nat → Option Nat
  | 0, _, _, _ => none
  | k + 1, C, D, U => if C = 2 ^ n - 1 then some 1 else qcTo n (qcO n k) C D U n
theorem qcTo_down {n : Nat} {f : Nat → Nat → Nat → Option Nat} {C D U : Nat} : ∀ {m v : Nat}, qcTo n f C D U m = some v → ∀ c, c ≤ m → ∃ s, qcTo n f C D U c = some s
  | 0, v, h, c, hc => ⟨v, by obtain rfl : c = 0 := by omega
                             exact h⟩
  | m + 1, v, h, c, hc => by
    by_cases e : c = m + 1
    · subst e; exact ⟨v, h⟩
    · rw [qcTo] at h
      cases hm : qcTo n f C D U m with
      | none => rw [hm] at h; cases h
      | some s => exact qcTo_down hm c (by omega)
theorem qcTo_free {n : Nat} {f : Nat → Nat → Nat → Option Nat} {C D U c s s' : Nat} (h : qcTo n f C D U c = some s) (h' : qcTo n f C D U (c + 1) = some s') (hf : freeAt C D U c = true) :
    ∃ v, f (C ||| 2 ^ c) (((D ||| 2 ^ c) * 2) &&& (2 ^ n - 1)) ((U ||| 2 ^ c) / 2) = some v ∧ s' = s + v := by
  rw [qcTo, h] at h'
  simp only [hf, if_true] at h'
  cases hv : f (C ||| 2 ^ c) (((D ||| 2 ^ c) * 2) &&& (2 ^ n - 1)) ((U ||| 2 ^ c) / 2) with
  | none => rw [hv] at h'; cases h'
  | some v =>
    rw [hv] at h'
    simp only at h'
    split at h'
    · exact ⟨v, rfl, by injection h' with h'; exact h'.symm⟩
    · cases h'
theorem qcTo_taken {n : Nat} {f : Nat → Nat → Nat → Option Nat} {C D U c s s' : Nat} (h : qcTo n f C D U c = some s) (h' : qcTo n f C D U (c + 1) = some s') (hf : freeAt C D U c = false) : s' = s := by
  rw [qcTo, h] at h'
  simp only [hf] at h'
  injection h' with h'
  exact h'.symm
theorem qcTo_bd {n : Nat} {f : Nat → Nat → Nat → Option Nat} {C D U : Nat} : ∀ {m v : Nat}, qcTo n f C D U m = some v → v ≤ 1000000
  | 0, v, h => by injection h with h; omega
  | m + 1, v, h => by
    rw [qcTo] at h
    cases hm : qcTo n f C D U m with
    | none => rw [hm] at h; cases h
    | some s =>
      rw [hm] at h
      simp only at h
      split at h
      · split at h
        · cases h
        · split at h
          · injection h with h; omega
          · cases h
      · injection h with h; subst h; exact qcTo_bd hm
theorem qcO_bd {n : Nat} : ∀ {k C D U v : Nat}, qcO n k C D U = some v → v ≤ 1000000
  | 0, _, _, _, v, h => by cases h
  | k + 1, C, D, U, v, h => by
    rw [qcO] at h
    split at h
    · injection h with h; omega
    · exact qcTo_bd h

/-! ### The bits of small numbers -/
theorem and_at : ∀ x : Fin 64, ∀ c : Fin 6, bits .and .i64 (x.val : Int) ((2 ^ c.val : Nat) : Int) = (((if x.val.testBit c.val then 2 ^ c.val else 0 : Nat)) : Int) := by decide +kernel
theorem or_at : ∀ x : Fin 64, ∀ c : Fin 6, bits .or .i64 (x.val : Int) ((2 ^ c.val : Nat) : Int) = ((x.val ||| 2 ^ c.val : Nat) : Int) ∧ x.val ||| 2 ^ c.val < 64 := by decide +kernel
theorem mask_at : ∀ x : Fin 128, ∀ m : Fin 64, bits .and .i64 (x.val : Int) (m.val : Int) = ((x.val &&& m.val : Nat) : Int) ∧ x.val &&& m.val < 64 := by decide +kernel

set_option maxHeartbeats 2000000 in
set_option maxRecDepth 100000 in
theorem specQueenCount_c (n : Nat) (h1 : 1 ≤ n) (h6 : n ≤ 6) : ∀ (k C D U v : Nat), qcO n k C D U = some v → C < 64 → D < 64 → U < 64 → ∀ w : World,
    Calls Try.prog 36 #[.int .i64 (n : Int), .int .i64 (C : Int), .int .i64 (D : Int), .int .i64 (U : Int)] w fun e w' => e = .returned (.int .i64 (v : Int)) ∧ w = w' := by
  intro k
  induction k with
  | zero => intro C D U v h; cases h
  | succ k ih =>
    intro C D U v h hC hD hU w
    have HPn := hide (fun w5 => specPower_c n h6 w5)
    have hpn := pow_bd h6
    rw [qcO] at h
    by_cases hCF : C = 2 ^ n - 1
    · rw [if_pos hCF] at h
      injection h with h
      have hCI : (C : Int) = ((2 ^ n : Nat) : Int) - 1 := by omega
      clear ih hCF
      generalize (2 ^ n : Nat) = F at *
      go_enter Try.func36, Try.ntmps36
      go_wp2_with fail
      refine (HPn.out _).mono ?_
      rintro e w1 ⟨rfl, rfl⟩
      go_wp2_with fail
      go_ret
      exact ⟨by rw [← h]; rfl, rfl⟩
    · rw [if_neg hCF] at h
      have hCI : ((C : Int) == ((2 ^ n : Nat) : Int) - 1) = false := by rw [beq_eq_false_iff_ne]; omega
      have HT := hide (fun c (hc : c ≤ n) => qcTo_down h c hc)
      have HB := hide (fun c s (hs : qcTo n (qcO n k) C D U c = some s) => qcTo_bd hs)
      have HF := hide (fun c s s' => @qcTo_free n (qcO n k) C D U c s s')
      have HK := hide (fun c s s' => @qcTo_taken n (qcO n k) C D U c s s')
      have HE := hide h
      have HI := hide (fun C D U v h hC hD hU w => ih C D U v h hC hD hU w)
      have HPc := hide (fun c (hc : c < n) w5 => specPower_c c (by omega) w5)
      clear ih h hCF
      generalize hFF : (2 ^ n : Nat) = F at *
      have FF := hide hFF
      clear hFF
      go_enter Try.func36, Try.ntmps36
      go_wp2_with fail
      refine (HPn.out _).mono ?_
      rintro e w1 ⟨rfl, rfl⟩
      go_wp2_with fail
      go_loopw [9, 10] (fun s i wr => ∃ c t : Nat, c ≤ n ∧ s = .int .i64 (t : Int) ∧ i = .int .i64 (c : Int) ∧ Hid (qcTo n (qcO n k) C D U c = some t) ∧ w = wr) (fun _ i _ => n - (intOf i).toNat)
      case atStart => exact ⟨0, 0, Nat.zero_le _, rfl, rfl, rfl, rfl⟩
      case round =>
        obtain ⟨c, t, hc, rfl, rfl, ht, rfl⟩ := hrel
        by_cases hlt : c < n
        · obtain ⟨s', hs'⟩ := HT.out (c + 1) hlt
          have HS := hide hs'
          have HPq := hide (fun w5 => HPc.out c hlt w5)
          have tb := HB.out c t ht.out
          have sb := HB.out _ s' hs'
          have a1 := and_at ⟨C, hC⟩ ⟨c, by omega⟩
          have a2 := and_at ⟨D, hD⟩ ⟨c, by omega⟩
          have a3 := and_at ⟨U, hU⟩ ⟨c, by omega⟩
          obtain ⟨o1, p1⟩ := or_at ⟨C, hC⟩ ⟨c, by omega⟩
          obtain ⟨o2, p2⟩ := or_at ⟨D, hD⟩ ⟨c, by omega⟩
          obtain ⟨o3, p3⟩ := or_at ⟨U, hU⟩ ⟨c, by omega⟩
          have hP := pow_bd (n := c) (by omega)
          simp only at a1 a2 a3 o1 p1 o2 p2 o3 p3
          clear hs'
          by_cases hfree : freeAt C D U c = true
          · obtain ⟨b1, b2, b3⟩ : C.testBit c = false ∧ D.testBit c = false ∧ U.testBit c = false := by
              simp only [freeAt, Bool.not_eq_true', Bool.or_eq_false_iff] at hfree
              exact ⟨hfree.1.1, hfree.1.2, hfree.2⟩
            rw [b1] at a1
            rw [b2] at a2
            rw [b3] at a3
            simp only [Bool.false_eq_true, if_false] at a1 a2 a3
            obtain ⟨v', hv', hsv⟩ := HF.out c t s' ht.out HS.out hfree
            obtain ⟨m1, m2⟩ := mask_at ⟨(D ||| 2 ^ c) * 2, by omega⟩ ⟨F - 1, by omega⟩
            simp only at m1 m2
            have m1' : bits .and .i64 (((D ||| 2 ^ c : Nat) : Int) * 2) ((F : Int) - 1) = (((D ||| 2 ^ c) * 2 &&& (F - 1) : Nat) : Int) := by
              rw [← m1]; congr 1; omega
            have q1 : ((U ||| 2 ^ c : Nat) : Int).tdiv 2 = (((U ||| 2 ^ c) / 2 : Nat) : Int) := rfl
            have q2 : ((U ||| 2 ^ c) / 2) < 64 := by omega
            have HC := hide (HI.out _ _ _ _ hv' p1 m2 q2 w)
            clear m1 b1 b2 b3 hfree hv'
            generalize (2 ^ c : Nat) = P at *
            generalize ((D ||| P) * 2 &&& (F - 1)) = D' at *
            generalize ((U ||| P) / 2) = U' at *
            generalize (C ||| P) = C' at *
            generalize (D ||| P) = D1 at *
            generalize (U ||| P) = U1 at *
            go_wp2_with fail
            refine (HPq.out _).mono ?_
            rintro e w1 ⟨rfl, rfl⟩
            go_wp2_with fail
            refine (HPn.out _).mono ?_
            rintro e w1 ⟨rfl, rfl⟩
            go_wp2_with fail
            refine HC.out.mono ?_
            rintro e w1 ⟨rfl, rfl⟩
            go_wp2_with fail
            go_round
            case rel => exact ⟨c + 1, t + v', hlt, by push_cast; rfl, rfl, by rw [← hsv]; exact HS.out, trivial⟩
            case measure => simp [intOf]; omega
          · have hst := HK.out c t s' ht.out HS.out (by simpa using hfree)
            have hend : Hid (∃ c' t' : Nat, c' ≤ n ∧ Value.int .i64 (t : Int) = .int .i64 (t' : Int) ∧ Value.int .i64 ((c : Int) + 1) = .int .i64 (c' : Int) ∧ Hid (qcTo n (qcO n k) C D U c' = some t') ∧ w = w) :=
              ⟨c + 1, t, hlt, rfl, rfl, by rw [← hst]; exact HS.out, rfl⟩
            cases b1 : C.testBit c with
            | true =>
              rw [b1] at a1
              simp only [if_true] at a1
              clear a2 a3 o1 o2 o3 p1 p2 p3 hfree b1 hst
              generalize (2 ^ c : Nat) = P at *
              go_wp2_with fail
              refine (HPq.out _).mono ?_
              rintro e w1 ⟨rfl, rfl⟩
              go_wp2_with fail
              go_round
              case rel => exact hend.out
              case measure => simp [intOf]; omega
            | false =>
              rw [b1] at a1
              simp only [Bool.false_eq_true, if_false] at a1
              cases b2 : D.testBit c with
              | true =>
                rw [b2] at a2
                simp only [if_true] at a2
                clear a3 o1 o2 o3 p1 p2 p3 hfree b1 b2 hst
                generalize (2 ^ c : Nat) = P at *
                go_wp2_with fail
                refine (HPq.out _).mono ?_
                rintro e w1 ⟨rfl, rfl⟩
                go_wp2_with fail
                go_round
                case rel => exact hend.out
                case measure => simp [intOf]; omega
              | false =>
                rw [b2] at a2
                simp only [Bool.false_eq_true, if_false] at a2
                cases b3 : U.testBit c with
                | true =>
                  rw [b3] at a3
                  simp only [if_true] at a3
                  clear o1 o2 o3 p1 p2 p3 hfree b1 b2 b3 hst
                  generalize (2 ^ c : Nat) = P at *
                  go_wp2_with fail
                  refine (HPq.out _).mono ?_
                  rintro e w1 ⟨rfl, rfl⟩
                  go_wp2_with fail
                  go_round
                  case rel => exact hend.out
                  case measure => simp [intOf]; omega
                | false => exact absurd (show freeAt C D U c = true by simp [freeAt, b1, b2, b3]) hfree
        · have hcn : Hid (c = n) := hide (by omega)
          have hv : Hid (t = v) := by
            have h := HE.out
            have h2 := ht.out
            rw [hcn.out, h] at h2
            injection h2 with h2
            exact h2.symm
          go_wp2_with fail
          go_ret
          exact ⟨by rw [hv.out]; rfl, rfl⟩

/-- How many there are. -/
def countP (n : Int) : Int := if 1 ≤ n ∧ n ≤ 6 then ((queensP n.toNat n.toNat []).length : Int) else -1
theorem count_facts : ∀ n : Fin 7, 1 ≤ n.val → qcO n.val 7 0 0 0 = some (queensP n.val n.val []).length := by decide +kernel
theorem specCountQueens_c (n : Int) (w : World) : Calls Try.prog 17 #[.int .i64 n] w fun e w' => e = .returned (.int .i64 (countP n)) ∧ w = w' := by
  by_cases h : 1 ≤ n ∧ n ≤ 6
  · have HR := hide (fun w5 => inRange_yes n 1 6 w5 h.1 h.2)
    obtain ⟨k, rfl⟩ := Int.eq_ofNat_of_zero_le (show 0 ≤ n by omega)
    have HL : Hid (countP (k : Int) = ((queensP k k []).length : Int)) := by show _ = _; unfold countP; rw [if_pos h]; rfl
    have HQ := hide (fun w5 => specQueenCount_c k (by omega) (by omega) 7 0 0 0 (queensP k k []).length (count_facts ⟨k, by omega⟩ (by show 1 ≤ k; omega)) (by omega) (by omega) (by omega) w5)
    rw [HL.out]
    clear h
    go_enter Try.func17, Try.ntmps17
    go_wp2_with fail
    refine (HR.out _).mono ?_
    rintro e w1 ⟨rfl, rfl⟩
    go_wp2_with fail
    refine (HQ.out _).mono ?_
    rintro e w1 ⟨rfl, rfl⟩
    go_wp2_with fail
    go_ret
    exact ⟨rfl, rfl⟩
  · have HR := hide (fun w5 => inRange_no n 1 6 w5 h)
    have HL : Hid (countP n = -1) := by show _ = _; unfold countP; rw [if_neg h]
    rw [HL.out]
    clear h
    go_enter Try.func17, Try.ntmps17
    go_wp2_with fail
    refine (HR.out _).mono ?_
    rintro e w1 ⟨rfl, rfl⟩
    go_wp2_with fail
    go_ret
    exact ⟨rfl, rfl⟩
end Go.Proofs.Ytlccohoblplddad

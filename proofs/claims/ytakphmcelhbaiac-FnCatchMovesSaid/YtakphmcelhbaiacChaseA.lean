
/-
  Chases: the model's caughtBy.
-/
import Derived.Test.YtakphmcelhbaiacChaseM
import Derived.Test.YtakphmcelhbaiacGuardM
import Derived.Test.YtakphmcelhbaiacOwnWords
namespace Go.Proofs.Ytakphmcelhbaiac
open Go.RowKit
set_option linter.unusedVariables false

theorem canTo_more {L : List Nat} {C : List (List Nat)} {i k t x : Nat} (h : canTo L C i k t x = true) : ∀ m, canTo L C i k t (x + m) = true
  | 0 => h
  | m + 1 => by
    show (canTo L C i k t (x + m) || _) = true
    rw [canTo_more h m, Bool.true_or]
theorem canTo_all {L : List Nat} {C : List (List Nat)} {i k t x n : Nat} (h : canTo L C i k t x = true) (hx : x ≤ n) : canTo L C i k t n = true := by
  have := canTo_more h (n - x)
  rwa [show x + (n - x) = n by omega] at this
set_option maxHeartbeats 4000000 in
set_option maxRecDepth 100000 in
theorem caughtBy_c (A : Option Addr) (c gm cm : Nat) (L : List Nat) (C : List (List Nat)) (M : Nat → Nat → Int) (n i k t : Nat) (W : World) (hn : L.length = n) (hL : Sets9 L) (hr : Row W A (ints (natI L)))
    (hh : ∀ x, x < n → ∃ g d, W.cell? ⟨gm, x, none⟩ = some (.slice (some ⟨g, 0, none⟩) n d) ∧ ∀ y, y < n → W.cell? ⟨g, y, none⟩ = some (.int .i64 (M x y)))
    (hM : ∀ x y, x < n → y < n → (1 ≤ cAt C x y ∧ cAt C x y ≤ t ↔ 0 ≤ M x y ∧ M x y < (t : Int))) (hi : i < n) (hk : k < n) :
    Calls Try.prog 40 #[.slice A n c, .slice (some ⟨gm, 0, none⟩) n cm, .int .i64 (i : Int), .int .i64 (k : Int), .int .i64 (t : Int)] W fun e w' => e = .returned (.bool (canTo L C i k t n)) ∧ W = w' := by
  have h9 := hL.len
  obtain ⟨ad, rfl, hci⟩ := hr.int (k := i) (by rw [natI_len]; omega)
  obtain ⟨_, ⟨rfl⟩, hck⟩ := hr.int (k := k) (by rw [natI_len]; omega)
  rw [natI_at] at hci hck
  have hbi := hL.bd i
  have hbk := hL.bd k
  have HNI : Hid (∀ x, nearN L i x = (x == i || bitN (L[i]?.getD 0) x == 1)) := fun x => rfl
  have HNK : Hid (∀ x, nearN L k x = (x == k || bitN (L[k]?.getD 0) x == 1)) := fun x => rfl
  have HBI := hide (fun x (hx : x < n) w5 => specBit9_c (L[i]?.getD 0) x hbi (by omega) w5)
  have HBK := hide (fun x (hx : x < n) w5 => specBit9_c (L[k]?.getD 0) x hbk (by omega) w5)
  have HH := hide hh
  have HM := hide hM
  have HCS : Hid (∀ x, canTo L C i k t (x + 1) = (canTo L C i k t x || (nearN L i x && (x == k || allTo L C k x t n)))) := fun x => by rw [← hn]; rfl
  have HAS : Hid (∀ x y, allTo L C k x t (y + 1) = (allTo L C k x t y && !(nearN L k y && !(decide (1 ≤ cAt C x y) && decide (cAt C x y ≤ t))))) := fun x y => rfl
  have HA0 : Hid (∀ x, allTo L C k x t 0 = true) := fun x => rfl
  have HC0 : Hid (canTo L C i k t 0 = false) := rfl
  have hn9 : n ≤ 9 := by omega
  have i0 : (0 : Int) ≤ (i : Int) := by omega
  have i1 : (i : Int) < (n : Int) := by omega
  have k0 : (0 : Int) ≤ (k : Int) := by omega
  have k1 : (k : Int) < (n : Int) := by omega
  clear hr hh hM hL hn h9 hbi hbk
  generalize L[i]?.getD 0 = li at *
  generalize L[k]?.getD 0 = lk at *
  go_enter Try.func40, Try.ntmps40
  go_wp2_with fail
  go_loopw [11] (fun v wr => ∃ x : Nat, x ≤ n ∧ v = .int .i64 (x : Int) ∧ Hid (canTo L C i k t x = false) ∧ W = wr) (fun v _ => n - (intOf v).toNat)
  case atStart => exact ⟨0, Nat.zero_le _, rfl, HC0, rfl⟩
  case round =>
    obtain ⟨x, hx, rfl, hcx, rfl⟩ := hrel
    by_cases hlt : x < n
    · have HBx := hide (fun w5 => HBI.out x hlt w5)
      have HCx := hide (HCS.out x)
      have hnx := HNI.out x
      obtain ⟨g, d, hg, hgy⟩ := HH.out x hlt
      have HGY := hide hgy
      have x0 : (0 : Int) ≤ (x : Int) := by omega
      have x1 : (x : Int) < (n : Int) := by omega
      clear hgy
      by_cases hxi : x = i
      · have hne : ((x : Int) != (i : Int)) = false := by rw [hxi]; simp
        have HNR : Hid (nearN L i x = true) := by show _ = _; rw [hnx, hxi]; simp
        clear hnx hxi
        by_cases hxk : x = k
        · have hek : ((x : Int) == (k : Int)) = true := by rw [hxk]; simp
          have HT : Hid (canTo L C i k t n = true) := by
            refine canTo_all (x := x + 1) ?_ hlt
            rw [HCx.out, HNR.out, hxk]
            simp
          clear hxk
          go_wp2_with fail
          go_ret
          exact ⟨by rw [HT.out]; try rfl, rfl⟩
        · have hek : ((x : Int) == (k : Int)) = false := by rw [beq_eq_false_iff_ne]; omega
          have HXK : Hid ((x == k) = false) := by show _ = _; simpa using hxk
          clear hxk
          go_wp2_with fail
          go_loopw [12, 13] (fun a j wj => ∃ y : Nat, y ≤ n ∧ j = .int .i64 (y : Int) ∧ a = .bool (allTo L C k x t y) ∧ W = wj) (fun _ j _ => n - (intOf j).toNat)
          case atStart => exact ⟨0, Nat.zero_le _, rfl, by rw [HA0.out], rfl⟩
          case round =>
            obtain ⟨y, hy, rfl, rfl, rfl⟩ := hrel
            by_cases hly : y < n
            · have HBy := hide (fun w5 => HBK.out y hly w5)
              have hny := HNK.out y
              have hgy := HGY.out y hly
              have hmx := HM.out x y hlt hly
              have HAy := hide (HAS.out x y)
              have y0 : (0 : Int) ≤ (y : Int) := by omega
              have y1 : (y : Int) < (n : Int) := by omega
              have HLY := hide hly

              generalize allTo L C k x t y = al at *
              obtain ⟨m, hm⟩ : ∃ m, M x y = m := ⟨_, rfl⟩
              rw [hm] at hgy hmx
              clear hm
              obtain ⟨fine, hfine⟩ : ∃ b, (decide (1 ≤ cAt C x y) && decide (cAt C x y ≤ t)) = b := ⟨_, rfl⟩
              rw [hfine] at HAy
              have hfm : fine = true ↔ 0 ≤ m ∧ m < (t : Int) := by rw [← hfine, ← hmx]; simp
              clear hfine hmx
              by_cases hyk : y = k
              · have hyk' : ((y : Int) == (k : Int)) = true := by rw [hyk]; simp
                have HNY : Hid (nearN L k y = true) := by show _ = _; rw [hny, hyk]; simp
                clear hny hyk
                rcases Int.lt_or_le m 0 with hm0 | hm0
                · have hf : fine = false := by cases fine with
                    | true => exact absurd (hfm.1 rfl).1 (by omega)
                    | false => rfl
                  subst hf
                  clear hfm
                  go_wp2_with fail
                  exact ⟨⟨y + 1, HLY.out, by go_num, by rw [HAy.out, HNY.out]; simp, trivial⟩, by simp [intOf]; omega⟩
                · have hm0' : ¬ m < 0 := by omega
                  rcases Int.lt_or_le m t with hmt | hmt
                  · have hf : fine = true := hfm.2 ⟨hm0, hmt⟩
                    subst hf
                    have hmt' : ¬ (t : Int) ≤ m := by omega
                    clear hfm
                    go_wp2_with fail
                    exact ⟨⟨y + 1, HLY.out, by go_num, by rw [HAy.out, HNY.out]; simp, trivial⟩, by simp [intOf]; omega⟩
                  · have hf : fine = false := by cases fine with
                      | true => exact absurd (hfm.1 rfl).2 (by omega)
                      | false => rfl
                    subst hf
                    clear hfm
                    go_wp2_with fail
                    exact ⟨⟨y + 1, HLY.out, by go_num, by rw [HAy.out, HNY.out]; simp, trivial⟩, by simp [intOf]; omega⟩
              · have hyk' : ((y : Int) == (k : Int)) = false := by rw [beq_eq_false_iff_ne]; omega
                rcases bitN_two lk y with hb | hb
                · rw [hb] at HBy
                  have HNY : Hid (nearN L k y = false) := by show _ = _; rw [hny, hb]; simpa using hyk
                  clear hny hb hfm
                  go_wp2_with fail
                  refine (HBy.out _).mono ?_
                  rintro e w8 ⟨rfl, rfl⟩
                  go_wp2_with fail
                  exact ⟨⟨y + 1, HLY.out, by go_num, by rw [HAy.out, HNY.out]; simp, trivial⟩, by simp [intOf]; omega⟩
                · rw [hb] at HBy
                  have HNY : Hid (nearN L k y = true) := by show _ = _; rw [hny, hb]; simp
                  clear hny hb
                  rcases Int.lt_or_le m 0 with hm0 | hm0
                  · have hf : fine = false := by cases fine with
                      | true => exact absurd (hfm.1 rfl).1 (by omega)
                      | false => rfl
                    subst hf
                    clear hfm
                    go_wp2_with fail
                    refine (HBy.out _).mono ?_
                    rintro e w8 ⟨rfl, rfl⟩
                    go_wp2_with fail
                    exact ⟨⟨y + 1, HLY.out, by go_num, by rw [HAy.out, HNY.out]; simp, trivial⟩, by simp [intOf]; omega⟩
                  · have hm0' : ¬ m < 0 := by omega
                    rcases Int.lt_or_le m t with hmt | hmt
                    · have hf : fine = true := hfm.2 ⟨hm0, hmt⟩
                      subst hf
                      have hmt' : ¬ (t : Int) ≤ m := by omega
                      clear hfm
                      go_wp2_with fail
                      refine (HBy.out _).mono ?_
                      rintro e w8 ⟨rfl, rfl⟩
                      go_wp2_with fail
                      exact ⟨⟨y + 1, HLY.out, by go_num, by rw [HAy.out, HNY.out]; simp, trivial⟩, by simp [intOf]; omega⟩
                    · have hf : fine = false := by cases fine with
                        | true => exact absurd (hfm.1 rfl).2 (by omega)
                        | false => rfl
                      subst hf
                      clear hfm
                      go_wp2_with fail
                      refine (HBy.out _).mono ?_
                      rintro e w8 ⟨rfl, rfl⟩
                      go_wp2_with fail
                      exact ⟨⟨y + 1, HLY.out, by go_num, by rw [HAy.out, HNY.out]; simp, trivial⟩, by simp [intOf]; omega⟩
            · obtain rfl : y = n := by omega
              cases hal : allTo L C k x t y with
              | true =>
                have HT : Hid (canTo L C i k t y = true) := by
                  refine canTo_all (x := x + 1) ?_ hlt
                  rw [HCx.out, HNR.out, hal]
                  simp
                clear hal
                go_wp2_with fail
                go_ret
                exact ⟨by rw [HT.out]; try rfl, rfl⟩
              | false =>
                have HAL := hide hal
                clear hal
                go_wp2_with fail
                exact ⟨⟨x + 1, hlt, by go_num, by show _ = _; rw [HCx.out, hcx.out, HNR.out, HXK.out, HAL.out]; rfl, trivial⟩, by simp [intOf]; omega⟩
      · have hne : ((x : Int) != (i : Int)) = true := by simp only [bne_iff_ne]; omega
        rcases bitN_two li x with hb | hb
        · rw [hb] at HBx
          have HNR : Hid (nearN L i x = false) := by show _ = _; rw [hnx, hb]; simpa using hxi
          clear hnx hb
          go_wp2_with fail
          refine (HBx.out _).mono ?_
          rintro e w7 ⟨rfl, rfl⟩
          go_wp2_with fail
          exact ⟨⟨x + 1, hlt, by go_num, by show _ = _; rw [HCx.out, hcx.out, HNR.out]; rfl, trivial⟩, by simp [intOf]; omega⟩
        · rw [hb] at HBx
          have HNR : Hid (nearN L i x = true) := by show _ = _; rw [hnx, hb]; simp
          clear hnx hb
          by_cases hxk : x = k
          · have hek : ((x : Int) == (k : Int)) = true := by rw [hxk]; simp
            have HT : Hid (canTo L C i k t n = true) := by
              refine canTo_all (x := x + 1) ?_ hlt
              rw [HCx.out, HNR.out, hxk]
              simp
            clear hxk
            go_wp2_with fail
            refine (HBx.out _).mono ?_
            rintro e w7 ⟨rfl, rfl⟩
            go_wp2_with fail
            go_ret
            exact ⟨by rw [HT.out]; try rfl, rfl⟩
          · have hek : ((x : Int) == (k : Int)) = false := by rw [beq_eq_false_iff_ne]; omega
            have HXK : Hid ((x == k) = false) := by show _ = _; simpa using hxk
            clear hxk
            go_wp2_with fail
            refine (HBx.out _).mono ?_
            rintro e w7 ⟨rfl, rfl⟩
            go_wp2_with fail
            go_loopw [12, 13] (fun a j wj => ∃ y : Nat, y ≤ n ∧ j = .int .i64 (y : Int) ∧ a = .bool (allTo L C k x t y) ∧ W = wj) (fun _ j _ => n - (intOf j).toNat)
            case atStart => exact ⟨0, Nat.zero_le _, rfl, by rw [HA0.out], rfl⟩
            case round =>
              obtain ⟨y, hy, rfl, rfl, rfl⟩ := hrel
              by_cases hly : y < n
              · have HBy := hide (fun w5 => HBK.out y hly w5)
                have hny := HNK.out y
                have hgy := HGY.out y hly
                have hmx := HM.out x y hlt hly
                have HAy := hide (HAS.out x y)
                have y0 : (0 : Int) ≤ (y : Int) := by omega
                have y1 : (y : Int) < (n : Int) := by omega
                have HLY := hide hly

                generalize allTo L C k x t y = al at *
                obtain ⟨m, hm⟩ : ∃ m, M x y = m := ⟨_, rfl⟩
                rw [hm] at hgy hmx
                clear hm
                obtain ⟨fine, hfine⟩ : ∃ b, (decide (1 ≤ cAt C x y) && decide (cAt C x y ≤ t)) = b := ⟨_, rfl⟩
                rw [hfine] at HAy
                have hfm : fine = true ↔ 0 ≤ m ∧ m < (t : Int) := by rw [← hfine, ← hmx]; simp
                clear hfine hmx
                by_cases hyk : y = k
                · have hyk' : ((y : Int) == (k : Int)) = true := by rw [hyk]; simp
                  have HNY : Hid (nearN L k y = true) := by show _ = _; rw [hny, hyk]; simp
                  clear hny hyk
                  rcases Int.lt_or_le m 0 with hm0 | hm0
                  · have hf : fine = false := by cases fine with
                      | true => exact absurd (hfm.1 rfl).1 (by omega)
                      | false => rfl
                    subst hf
                    clear hfm
                    go_wp2_with fail
                    exact ⟨⟨y + 1, HLY.out, by go_num, by rw [HAy.out, HNY.out]; simp, trivial⟩, by simp [intOf]; omega⟩
                  · have hm0' : ¬ m < 0 := by omega
                    rcases Int.lt_or_le m t with hmt | hmt
                    · have hf : fine = true := hfm.2 ⟨hm0, hmt⟩
                      subst hf
                      have hmt' : ¬ (t : Int) ≤ m := by omega
                      clear hfm
                      go_wp2_with fail
                      exact ⟨⟨y + 1, HLY.out, by go_num, by rw [HAy.out, HNY.out]; simp, trivial⟩, by simp [intOf]; omega⟩
                    · have hf : fine = false := by cases fine with
                        | true => exact absurd (hfm.1 rfl).2 (by omega)
                        | false => rfl
                      subst hf
                      clear hfm
                      go_wp2_with fail
                      exact ⟨⟨y + 1, HLY.out, by go_num, by rw [HAy.out, HNY.out]; simp, trivial⟩, by simp [intOf]; omega⟩
                · have hyk' : ((y : Int) == (k : Int)) = false := by rw [beq_eq_false_iff_ne]; omega
                  rcases bitN_two lk y with hb | hb
                  · rw [hb] at HBy
                    have HNY : Hid (nearN L k y = false) := by show _ = _; rw [hny, hb]; simpa using hyk
                    clear hny hb hfm
                    go_wp2_with fail
                    refine (HBy.out _).mono ?_
                    rintro e w8 ⟨rfl, rfl⟩
                    go_wp2_with fail
                    exact ⟨⟨y + 1, HLY.out, by go_num, by rw [HAy.out, HNY.out]; simp, trivial⟩, by simp [intOf]; omega⟩
                  · rw [hb] at HBy
                    have HNY : Hid (nearN L k y = true) := by show _ = _; rw [hny, hb]; simp
                    clear hny hb
                    rcases Int.lt_or_le m 0 with hm0 | hm0
                    · have hf : fine = false := by cases fine with
                        | true => exact absurd (hfm.1 rfl).1 (by omega)
                        | false => rfl
                      subst hf
                      clear hfm
                      go_wp2_with fail
                      refine (HBy.out _).mono ?_
                      rintro e w8 ⟨rfl, rfl⟩
                      go_wp2_with fail
                      exact ⟨⟨y + 1, HLY.out, by go_num, by rw [HAy.out, HNY.out]; simp, trivial⟩, by simp [intOf]; omega⟩
                    · have hm0' : ¬ m < 0 := by omega
                      rcases Int.lt_or_le m t with hmt | hmt
                      · have hf : fine = true := hfm.2 ⟨hm0, hmt⟩
                        subst hf
                        have hmt' : ¬ (t : Int) ≤ m := by omega
                        clear hfm
                        go_wp2_with fail
                        refine (HBy.out _).mono ?_
                        rintro e w8 ⟨rfl, rfl⟩
                        go_wp2_with fail
                        exact ⟨⟨y + 1, HLY.out, by go_num, by rw [HAy.out, HNY.out]; simp, trivial⟩, by simp [intOf]; omega⟩
                      · have hf : fine = false := by cases fine with
                          | true => exact absurd (hfm.1 rfl).2 (by omega)
                          | false => rfl
                        subst hf
                        clear hfm
                        go_wp2_with fail
                        refine (HBy.out _).mono ?_
                        rintro e w8 ⟨rfl, rfl⟩
                        go_wp2_with fail
                        exact ⟨⟨y + 1, HLY.out, by go_num, by rw [HAy.out, HNY.out]; simp, trivial⟩, by simp [intOf]; omega⟩
              · obtain rfl : y = n := by omega
                cases hal : allTo L C k x t y with
                | true =>
                  have HT : Hid (canTo L C i k t y = true) := by
                    refine canTo_all (x := x + 1) ?_ hlt
                    rw [HCx.out, HNR.out, hal]
                    simp
                  clear hal
                  go_wp2_with fail
                  go_ret
                  exact ⟨by rw [HT.out]; try rfl, rfl⟩
                | false =>
                  have HAL := hide hal
                  clear hal
                  go_wp2_with fail
                  exact ⟨⟨x + 1, hlt, by go_num, by show _ = _; rw [HCx.out, hcx.out, HNR.out, HXK.out, HAL.out]; rfl, trivial⟩, by simp [intOf]; omega⟩
    · obtain rfl : x = n := by omega
      go_wp2_with fail
      go_ret
      exact ⟨by rw [hcx.out]; try rfl, rfl⟩
end Go.Proofs.Ytakphmcelhbaiac

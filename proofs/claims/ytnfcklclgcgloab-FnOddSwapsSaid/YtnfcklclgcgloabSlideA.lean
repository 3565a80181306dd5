
/-
  The model's slides: validSlide, ValidSlide, placeOf, swapped, SlideOn.
-/
import Derived.Test.YtnfcklclgcgloabSlideP
import Derived.Test.YtnfcklclgcgloabSpecD
import Derived.Test.YtnfcklclgcgloabLawWords
import Derived.Test.YtnfcklclgcgloabOwnWords
namespace Go.Proofs.Ytnfcklclgcgloab
open Go.RowKit
set_option linter.unusedVariables false

set_option maxHeartbeats 400000 in
theorem hasIntW (A : Option Addr) (l : List Int) (c : Nat) (x : Int) (w : World) (hr : Row w A (ints l)) (hm : l.length ≤ maxLen) :
    Calls Try.prog 37 #[.slice A l.length c, .int .i64 x] w fun e w' => e = .returned (.bool (decide (x ∈ l))) ∧ w = w' := by
  unfold maxLen at hm
  go_enter Try.func37, Try.ntmps37
  go_wp2
  go_loop [5] (fun i => ∃ k : Nat, k ≤ l.length ∧ i = .int .i64 k ∧ Hid ((l.take k).contains x = false)) (fun i => l.length - (intOf i).toNat)
  case atStart => exact ⟨0, Nat.zero_le _, rfl, rfl⟩
  case round =>
    obtain ⟨k, hk, rfl, he⟩ := hrel
    by_cases hlt : k < l.length
    · obtain ⟨ad, rfl, hca⟩ := hr.int hlt
      obtain ⟨y, hy⟩ : ∃ y, l[k]?.getD 0 = y := ⟨_, rfl⟩
      rw [hy] at hca
      have Y := hide hy
      clear hy
      cases hb : (y == x) with
      | true =>
        go_wp2
        go_ret
        exact ⟨ret_bool (by rw [← List.contains_eq_mem]; exact (mem_hit hlt (by rw [Y.out]; exact hb)).symm), rfl⟩
      | false =>
        go_wp2
        exact ⟨⟨k + 1, hlt, rfl, mem_step hlt he.out (by rw [Y.out]; exact hb)⟩, by simp [intOf]; omega⟩
    · have hk2 : Hid (k = l.length) := hide (by omega)
      go_wp2
      go_ret
      exact ⟨ret_bool (by have e := he.out; rw [hk2.out, List.take_of_length_le (Nat.le_refl _)] at e; rw [← List.contains_eq_mem]; exact e.symm), rfl⟩
theorem hasInt_is (A : Option Addr) (l : List Int) (c n : Nat) (x : Int) (b : Bool) (w : World) (hn : l.length = n) (hr : Row w A (ints l)) (hm : l.length ≤ maxLen) (hb : decide (x ∈ l) = b) :
    Calls Try.prog 37 #[.slice A n c, .int .i64 x] w fun e w' => e = .returned (.bool b) ∧ w = w' := by
  subst hn hb
  exact hasIntW A l c x w hr hm

theorem inRange_bb (n lo hi : Int) (b : Bool) (h : decide (lo ≤ n ∧ n ≤ hi) = b) (w : World) : Calls Try.prog 36 #[.int .i64 n, .int .i64 lo, .int .i64 hi] w fun e w' => e = .returned (.bool b) ∧ w' = w := by
  cases b with
  | true => exact (inRange_yes n lo hi w (of_decide_eq_true h).1 (of_decide_eq_true h).2).mono fun e w' ⟨h1, h2⟩ => ⟨h1, h2.symm⟩
  | false => exact (inRange_no n lo hi w (of_decide_eq_false h)).mono fun e w' ⟨h1, h2⟩ => ⟨h1, h2.symm⟩
set_option maxHeartbeats 1000000 in
theorem validSlide_c (bc br : Int) (A : Option Addr) (c : Nat) (l : List Int) (w : World) (hr : Row w A (ints l)) (hm : l.length ≤ c) (hcm : c ≤ maxLen) :
    Calls Try.prog 19 #[.int .i64 bc, .int .i64 br, .slice A l.length c] w (Plain (.bool (decide (SlideIs bc br l))) w) := by
  unfold maxLen at hcm
  by_cases hB : Brd bc br
  · have HB := hide hB
    obtain ⟨h1, h2, h3, h4⟩ := hB
    obtain ⟨m1, m2⟩ := mul_bd h1 h2 h3 h4
    have e0 : IntKind.i64.wrap (bc * br) = bc * br := IntWalk.i64_in _ (by omega)
    obtain ⟨p, hp⟩ : ∃ p, bc * br = p := ⟨_, rfl⟩
    replace e0 := e0.trans hp
    rw [hp] at m1 m2
    by_cases hp6 : p ≤ 6
    · by_cases hl : (l.length : Int) = p
      · have hne : ((l.length : Int) != p) = false := by simp [hl]
        have HF := hide (fun (h : ¬ OnceTo l l.length) => show decide (SlideIs bc br l) = false from decide_eq_false (fun hs => h hs.2.2.2))
        have HT := hide (fun (h : OnceTo l l.length) => show decide (SlideIs bc br l) = true from decide_eq_true ⟨HB.out, by rw [hp]; exact hp6, by rw [hp]; exact hl, h⟩)
        have HLP := hide hl
        clear hl
        generalize decide (SlideIs bc br l) = res at *
        rw [← HLP.out] at hp6 m1 m2 hne
        obtain rfl : p = (l.length : Int) := HLP.out.symm
        have HP := hide hp
        clear hp HLP
        have HI := hide (fun x b h w5 => inRange_bb x 0 ((l.length : Int) - 1) b h w5)
        have HH := hide (fun (k : Nat) (hk : k < l.length) (A' : Option Addr) (cc : Nat) (x : Int) (w5 : World) (h5 : Row w5 A' (ints (l.take k))) => show Calls Try.prog 37 #[.slice A' k cc, .int .i64 x] w5 fun e w' => e = .returned (.bool (decide (x ∈ l.take k))) ∧ w5 = w' by
          have := hasIntW A' (l.take k) cc x w5 h5 (by simp [maxLen]; omega)
          rwa [List.length_take, Nat.min_eq_left (by omega)] at this)
        go_enter Try.func19, Try.ntmps19
        go_wp2_with fail
        refine (validBoard_yes bc br _ HB.out).mono ?_
        rintro e w' ⟨rfl, rfl⟩
        go_wp2_with fail
        go_loopw [7] (fun i wr => ∃ k : Nat, k ≤ l.length ∧ i = .int .i64 (k : Int) ∧ Hid (OnceTo l k) ∧ Below w.heap.size w wr) (fun i _ => l.length - (intOf i).toNat)
        case atStart => exact ⟨0, Nat.zero_le _, rfl, OnceTo.zero l, Below.refl _ _⟩
        case round =>
          obtain ⟨k, hk, rfl, hon, hb⟩ := hrel
          obtain ⟨wo, rfl⟩ : ∃ wo : World, wo = wr := ⟨_, rfl⟩
          by_cases hlt : k < l.length
          · have hrk := (hr.below hb).upto k
            obtain ⟨ad, rfl, hc⟩ := (hr.below hb).int hlt
            have HHk := hide (fun (x : Int) (w5 : World) (h5 : Row w5 (some ad) (ints (l.take k))) => HH.out k hlt (some ad) c x w5 h5)
            have hstep : Hid (∀ b1 b2, decide (0 ≤ l[k]?.getD 0 ∧ l[k]?.getD 0 ≤ (l.length : Int) - 1) = b1 → decide (l[k]?.getD 0 ∈ l.take k) = b2 → (b1 = true ∧ b2 = false → OnceTo l (k + 1)) ∧ (b1 = false ∨ b2 = true → ¬ OnceTo l l.length)) := fun b1 b2 e1 e2 => ⟨fun hh i hi => by
              obtain ⟨rfl, rfl⟩ := hh
              by_cases e : i = k
              · subst e; exact ⟨by simpa using e1, by simpa using e2⟩
              · exact hon.out i (by omega), fun hh ho => by
              have := ho k hlt
              rcases hh with rfl | rfl
              · rw [decide_eq_false_iff_not] at e1; exact e1 this.1
              · rw [decide_eq_true_eq] at e2; exact this.2 e2⟩
            generalize hxx : l[k]?.getD 0 = x at *
            have HIx := hide (fun b h w5 => HI.out x b h w5)
            obtain ⟨b1, e1⟩ : ∃ b1, decide (0 ≤ x ∧ x ≤ (l.length : Int) - 1) = b1 := ⟨_, rfl⟩
            obtain ⟨b2, e2⟩ : ∃ b2, decide (x ∈ l.take k) = b2 := ⟨_, rfl⟩
            have HST := hide (hstep.out b1 b2 e1 e2)
            have HI1 := hide (fun w5 => HIx.out b1 e1 w5)
            have HH1 := hide (fun (w5 : World) (h5 : Row w5 (some ad) (ints (l.take k))) => show Calls Try.prog 37 #[.slice (some ad) k c, .int .i64 x] w5 fun e w' => e = .returned (.bool b2) ∧ w' = w5 by rw [← e2]; exact (HHk.out x w5 h5).mono fun e w' ⟨he, hw⟩ => ⟨he, hw.symm⟩)
            clear hxx hstep e1 e2 HHk HIx
            have k0 : (0 : Int) ≤ (k : Int) := by omega
            have k1 : (k : Int) < (l.length : Int) := by omega
            have k2 : (k : Int) ≤ (c : Int) := by omega
            have k3 : (l.length : Int) ≤ (c : Int) := by omega
            have hrd := hrk.drew
            have e1 : IntKind.i64.wrap ((l.length : Int) - 1) = (l.length : Int) - 1 := IntWalk.i64_in _ (by omega)
            cases b1 with
            | false =>
              have HN := hide (HF.out (HST.out.2 (.inl rfl)))
              go_wp2_with fail
              go_quiet (first | (go_at_call 36; exact Calls.quiet_of_same (HI1.out _)) | (go_at_call 37; exact Calls.quiet_of_same (HH1.out _ hrk)))
              all_goals clear e1
              all_goals go_wp2_with fail
              go_ret
              exact ⟨by rw [HN.out]; rfl, below_drewN hb _⟩
            | true =>
              cases b2 with
              | true =>
                have HN := hide (HF.out (HST.out.2 (.inr rfl)))
                go_wp2_with fail
                go_quiet (first | (go_at_call 36; exact Calls.quiet_of_same (HI1.out _)) | (go_at_call 37; exact Calls.quiet_of_same (HH1.out _ hrk)))
                all_goals clear e1
                all_goals go_wp2_with fail
                go_ret
                exact ⟨by rw [HN.out]; rfl, below_drewN hb _⟩
              | false =>
                go_wp2_with fail
                go_quiet (first | (go_at_call 36; exact Calls.quiet_of_same (HI1.out _)) | (go_at_call 37; exact Calls.quiet_of_same (HH1.out _ hrk)))
                all_goals clear e1
                all_goals go_wp2_with fail
                exact ⟨⟨k + 1, hlt, rfl, HST.out.1 (by simp), below_drewN hb _⟩, by simp [intOf]; omega⟩
          · have ho : OnceTo l l.length := by
              have := hon.out
              rwa [show k = l.length by omega] at this
            have HT' := hide (HT.out ho)
            clear ho hon
            go_wp2_with fail
            go_ret
            exact ⟨by rw [HT'.out]; rfl, hb⟩
      · have hne : ((l.length : Int) != p) = true := by simp [hl]
        have HF := hide (show decide (SlideIs bc br l) = false from decide_eq_false (fun hs => hl (by have := hs.2.2.1; rw [hp] at this; exact this)))
        rw [HF.out]
        clear hl HF hp hr
        go_enter Try.func19, Try.ntmps19
        go_wp2_with fail
        refine (validBoard_yes bc br _ HB.out).mono ?_
        rintro e w' ⟨rfl, rfl⟩
        go_wp2_with fail
        go_ret
        exact ⟨rfl, Below.refl _ _⟩
    · have HF := hide (show decide (SlideIs bc br l) = false from decide_eq_false (fun hs => hp6 (by have := hs.2.1; rw [hp] at this; exact this)))
      rw [HF.out]
      clear HF hp hr
      go_enter Try.func19, Try.ntmps19
      go_wp2_with fail
      refine (validBoard_yes bc br _ HB.out).mono ?_
      rintro e w' ⟨rfl, rfl⟩
      go_wp2_with fail
      go_ret
      exact ⟨rfl, Below.refl _ _⟩
  · have HF := hide (show decide (SlideIs bc br l) = false from decide_eq_false (fun hs => hB hs.1))
    have HB := hide hB
    rw [HF.out]
    clear HF hB hr
    go_enter Try.func19, Try.ntmps19
    go_wp2_with fail
    refine (validBoard_no bc br _ HB.out).mono ?_
    rintro e w' ⟨rfl, rfl⟩
    go_wp2_with fail
    go_ret
    exact ⟨rfl, Below.refl _ _⟩
theorem validSlide_yes {bc br : Int} {A : Option Addr} {c n : Nat} {l : List Int} {w : World} (hn : l.length = n) (hr : Row w A (ints l)) (hm : n ≤ c) (hcm : c ≤ maxLen) (h : SlideIs bc br l) :
    Calls Try.prog 19 #[.int .i64 bc, .int .i64 br, .slice A n c] w (Plain (.bool true) w) := by
  subst hn
  have := validSlide_c bc br A c l w hr hm hcm
  rwa [decide_eq_true h] at this
theorem validSlide_no {bc br : Int} {A : Option Addr} {c n : Nat} {l : List Int} {w : World} (hn : l.length = n) (hr : Row w A (ints l)) (hm : n ≤ c) (hcm : c ≤ maxLen) (h : ¬ SlideIs bc br l) :
    Calls Try.prog 19 #[.int .i64 bc, .int .i64 br, .slice A n c] w (Plain (.bool false) w) := by
  subst hn
  have := validSlide_c bc br A c l w hr hm hcm
  rwa [decide_eq_false h] at this
theorem specValidSlide_c (bc br : Int) (A : Option Addr) (c : Nat) (l : List Int) (w : World) (hr : Row w A (ints l)) (hm : l.length ≤ c) (hcm : c ≤ maxLen) :
    Calls Try.prog 8 #[.int .i64 bc, .int .i64 br, .slice A l.length c] w (Plain (.bool (decide (SlideIs bc br l))) w) := by
  have HV := hide (validSlide_c bc br A c l w hr hm hcm)
  clear hr hm
  generalize decide (SlideIs bc br l) = res at *
  go_enter Try.func8, Try.ntmps8
  go_wp2_with fail
  refine HV.out.mono ?_
  rintro e w' ⟨rfl, b1⟩
  go_wp2_with fail
  go_ret
  exact ⟨rfl, b1⟩

set_option maxHeartbeats 400000 in
theorem placeOf_c (A : Option Addr) (l : List Int) (c n : Nat) (x : Int) (w : World) (hn : l.length = n) (hr : Row w A (ints l)) (hm : l.length ≤ maxLen) (hx : x ∈ l) :
    Calls Try.prog 22 #[.slice A n c, .int .i64 x] w fun e w' => e = .returned (.int .i64 ((placeP l x : Nat) : Int)) ∧ w = w' := by
  subst hn
  unfold maxLen at hm
  have hpl := place_lt hx
  have HPA := hide (place_at hx)
  have HPI := hide (fun k (hk : k < l.length) h1 h2 => place_is (l := l) (x := x) (k := k) hk h1 h2)
  clear hx
  generalize placeP l x = P at *
  go_enter Try.func22, Try.ntmps22
  go_wp2_with fail
  go_loopw [5] (fun i wr => ∃ k : Nat, k ≤ P ∧ i = .int .i64 (k : Int) ∧ Hid (∀ j, j < k → l[j]?.getD 0 ≠ x) ∧ w = wr) (fun i _ => l.length - (intOf i).toNat)
  case atStart => exact ⟨0, Nat.zero_le _, rfl, fun j hj => absurd hj (by omega), rfl⟩
  case round =>
    obtain ⟨k, hk, rfl, he, rfl⟩ := hrel
    have hlt : k < l.length := by omega
    obtain ⟨ad, rfl, hca⟩ := hr.int hlt
    have HA := hide (fun (h : k = P) => show l[k]?.getD 0 = x by rw [h]; exact HPA.out)
    have HE := hide (fun (h : l[k]?.getD 0 = x) => HPI.out k hlt h he.out)
    have HS := hide (fun (h : l[k]?.getD 0 ≠ x) => show ∀ j, j < k + 1 → l[j]?.getD 0 ≠ x from fun j hj => by
      by_cases e : j = k
      · subst e; exact h
      · exact he.out j (by omega))
    generalize l[k]?.getD 0 = y at *
    have k0 : (0 : Int) ≤ (k : Int) := by omega
    have k1 : (k : Int) < (l.length : Int) := by omega
    cases hb : (y == x) with
    | true =>
      have HK := hide (HE.out (beq_iff_eq.1 hb))
      go_wp2_with fail
      go_ret
      exact ⟨by rw [HK.out]; rfl, rfl⟩
    | false =>
      have hne : y ≠ x := beq_eq_false_iff_ne.1 hb
      have HS' := hide (HS.out hne)
      have hkP : Hid (k < P) := hide (by
        have : k ≠ P := fun e => hne (HA.out e)
        omega)
      clear hne
      go_wp2_with fail
      exact ⟨⟨k + 1, hkP.out, rfl, HS'.out, trivial⟩, by simp [intOf]; omega⟩
end Go.Proofs.Ytnfcklclgcgloab

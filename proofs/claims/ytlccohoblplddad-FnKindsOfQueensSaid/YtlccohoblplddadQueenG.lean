
/-
  The model's queens: FirstImage.
-/
import Derived.Test.YtlccohoblplddadQueenF
namespace Go.Proofs.Ytlccohoblplddad
open Go.RowKit
set_option linter.unusedVariables false

set_option maxHeartbeats 400000 in
theorem hasInt_same (A : Option Addr) (l : List Int) (c : Nat) (x : Int) (w : World) (hr : Row w A (ints l)) (hm : l.length ≤ maxLen) :
    Calls Try.prog 54 #[.slice A l.length c, .int .i64 x] w fun e w' => e = .returned (.bool (decide (x ∈ l))) ∧ w = w' := by
  unfold maxLen at hm
  go_enter Try.func54, Try.ntmps54
  go_wp2
  go_loop [5] (fun i => ∃ k : Nat, k ≤ l.length ∧ i = .int .i64 k ∧ Hid ((l.take k).contains x = false)) (fun i => l.length - (intOf i).toNat)
  case atStart => exact ⟨0, Nat.zero_le _, rfl, rfl⟩
  case round =>
    obtain ⟨k, hk, rfl, he⟩ := hrel
    by_cases hlt : k < l.length
    · obtain ⟨ad, rfl, hca⟩ := hr.int hlt
      obtain ⟨y, hy⟩ : ∃ y, l[k]?.getD 0 = y := ⟨_, rfl⟩
      rw [hy] at hca
      have Y := hide hy
      clear hy
      cases hb : (y == x) with
      | true =>
        go_wp2
        go_ret
        exact ⟨ret_bool (by rw [← List.contains_eq_mem]; exact (mem_hit hlt (by rw [Y.out]; exact hb)).symm), rfl⟩
      | false =>
        go_wp2
        exact ⟨⟨k + 1, hlt, rfl, mem_step hlt he.out (by rw [Y.out]; exact hb)⟩, by simp [intOf]; omega⟩
    · have hk2 : Hid (k = l.length) := hide (by omega)
      go_wp2
      go_ret
      exact ⟨ret_bool (by have e := he.out; rw [hk2.out, List.take_of_length_le (Nat.le_refl _)] at e; rw [← List.contains_eq_mem]; exact e.symm), rfl⟩

/-- The first k are columns, each one once. -/
def OnceTo (l : List Int) (k : Nat) : Prop := ∀ i, i < k → (0 ≤ l[i]?.getD 0 ∧ l[i]?.getD 0 ≤ (l.length : Int) - 1) ∧ ¬ l[i]?.getD 0 ∈ l.take i
instance (l : List Int) (k : Nat) : Decidable (OnceTo l k) := by unfold OnceTo; infer_instance
def ImgOk (l : List Int) : Prop := (1 ≤ l.length ∧ l.length ≤ 6) ∧ OnceTo l l.length
instance (l : List Int) : Decidable (ImgOk l) := by unfold ImgOk; infer_instance
/-- The first one of k + 1 rows. -/
def bestTo (L : List (List Int)) : Nat → List Int
  | 0 => L[0]?.getD []
  | k + 1 => if lessP (L[k + 1]?.getD []) (bestTo L k) then L[k + 1]?.getD [] else bestTo L k
def firstP (l : List Int) : List Int := if ImgOk l then bestTo (imagesTo l 4) 7 else []
theorem ImgOk.cols {l : List Int} (h : ImgOk l) : Cols l.length l := ⟨rfl, fun i hi => by have := (h.2 i hi).1; omega⟩
theorem imagesTo_all {l : List Int} (h1 : 1 ≤ l.length) (h : Cols l.length l) : ∀ t, ∀ x ∈ imagesTo l t, x.length = l.length
  | 0, x, hx => by cases hx
  | t + 1, x, hx => by
    simp only [imagesTo, List.mem_append, List.mem_cons, List.not_mem_nil, or_false] at hx
    have := (nowAt_cols h1 h t).1
    rcases hx with hx | rfl | rfl
    · exact imagesTo_all h1 h t x hx
    · exact this
    · rw [List.length_reverse]; exact this
theorem Reads.at_ {w : World} {B : Nat} {vs : List Value} {L : List (List Int)} (h : Reads w B vs L) {i : Nat} (hi : i < L.length) : ∃ A c, vs[i]?.getD undef = .slice A (L[i]?.getD []).length c ∧ Row w A (ints (L[i]?.getD [])) ∧ From B A ∧ Room (L[i]?.getD []).length c := by
  obtain ⟨A, c, e, r, f, m⟩ := h.2 i hi
  exact ⟨A, c, by rw [e, List.getElem?_eq_getElem hi]; rfl, by rw [List.getElem?_eq_getElem hi]; exact r, f, by rw [List.getElem?_eq_getElem hi]; exact m⟩
/-- A row that is read, of the call's own. -/
def Image (l : List Int) (w : World) (e : Ending) (w' : World) : Prop := ∃ A c, e = .returned (.slice A l.length c) ∧ Row w' A (ints l) ∧ From w.heap.size A ∧ Below w.heap.size w w'

set_option maxHeartbeats 2000000 in
set_option maxRecDepth 100000 in
theorem specFirstImage_c (A : Option Addr) (c : Nat) (l : List Int) (w : World) (hr : Row w A (ints l)) (hm : l.length ≤ 1048576) (hcc : l.length ≤ c) (hcm : c ≤ maxLen) :
    Calls Try.prog 39 #[.slice A l.length c] w (Image (firstP l) w) := by
  unfold maxLen at hcm
  by_cases h : 1 ≤ l.length ∧ l.length ≤ 6
  · have HR := hide (fun w5 => inRange_yes (l.length : Int) 1 6 w5 (by omega) (by omega))
    have HI := hide (fun x b h w5 => inRange_b x 0 ((l.length : Int) - 1) b h w5)
    have HH := hide (fun (k : Nat) (hk : k < l.length) (A' : Option Addr) (cc : Nat) (x : Int) (w5 : World) (h5 : Row w5 A' (ints (l.take k))) => show Calls Try.prog 54 #[.slice A' k cc, .int .i64 x] w5 fun e w' => e = .returned (.bool (decide (x ∈ l.take k))) ∧ w5 = w' by
      have := hasInt_same A' (l.take k) cc x w5 h5 (by simp [maxLen]; omega)
      rwa [List.length_take, Nat.min_eq_left (by omega)] at this)
    have HM := hide (fun (ho : OnceTo l l.length) (A' : Option Addr) (cc : Nat) (w5 : World) (h5 : Row w5 A' (ints l)) => specImages_c A' cc l w5 h5 h.1 h.2 (ImgOk.cols ⟨h, ho⟩))
    have HIL := hide (fun (ho : OnceTo l l.length) (x : List Int) (hx : x ∈ imagesTo l 4) => imagesTo_all h.1 (ImgOk.cols ⟨h, ho⟩) 4 x hx)
    have HLN := hide (imagesTo_len l 4)
    have HY := hide (fun (ho : OnceTo l l.length) => show firstP l = bestTo (imagesTo l 4) 7 by unfold firstP; rw [if_pos ⟨h, ho⟩])
    have HZ := hide (fun (ho : ¬ OnceTo l l.length) => show firstP l = [] by unfold firstP; rw [if_neg (fun hh => ho hh.2)])
    obtain ⟨h1, h6⟩ := h
    generalize firstP l = res at *
    generalize imagesTo l 4 = L at *
    go_enter Try.func39, Try.ntmps39
    go_wp2_with fail
    refine (HR.out _).mono ?_
    rintro e w1 ⟨rfl, rfl⟩
    go_wp2_with fail
    go_loopw [3] (fun i wr => ∃ k : Nat, k ≤ l.length ∧ i = .int .i64 (k : Int) ∧ Hid (OnceTo l k) ∧ Below w.heap.size w wr) (fun i _ => l.length - (intOf i).toNat)
    case atStart => exact ⟨0, Nat.zero_le _, rfl, fun i hi => absurd hi (by omega), Below.refl _ _⟩
    case round =>
      obtain ⟨k, hk, rfl, hon, hb⟩ := hrel
      obtain ⟨wo, rfl⟩ : ∃ wo : World, wo = wr := ⟨_, rfl⟩
      by_cases hlt : k < l.length
      · have hrk := (hr.below hb).upto k
        obtain ⟨ad, rfl, hc⟩ := (hr.below hb).int hlt
        have HHk := hide (fun (x : Int) (w5 : World) (h5 : Row w5 (some ad) (ints (l.take k))) => HH.out k hlt (some ad) c x w5 h5)
        have hstep : Hid (∀ b1 b2, decide (0 ≤ l[k]?.getD 0 ∧ l[k]?.getD 0 ≤ (l.length : Int) - 1) = b1 → decide (l[k]?.getD 0 ∈ l.take k) = b2 → (b1 = true ∧ b2 = false → OnceTo l (k + 1)) ∧ (b1 = false ∨ b2 = true → ¬ OnceTo l l.length)) := fun b1 b2 e1 e2 => ⟨fun hh i hi => by
          obtain ⟨rfl, rfl⟩ := hh
          by_cases e : i = k
          · subst e; exact ⟨by simpa using e1, by simpa using e2⟩
          · exact hon.out i (by omega), fun hh ho => by
          have := ho k hlt
          rcases hh with rfl | rfl
          · rw [decide_eq_false_iff_not] at e1; exact e1 this.1
          · rw [decide_eq_true_eq] at e2; exact this.2 e2⟩
        generalize hxx : l[k]?.getD 0 = x at *
        have HIx := hide (fun b h w5 => HI.out x b h w5)
        obtain ⟨b1, e1⟩ : ∃ b1, decide (0 ≤ x ∧ x ≤ (l.length : Int) - 1) = b1 := ⟨_, rfl⟩
        obtain ⟨b2, e2⟩ : ∃ b2, decide (x ∈ l.take k) = b2 := ⟨_, rfl⟩
        have HST := hide (hstep.out b1 b2 e1 e2)
        have HI1 := hide (fun w5 => show Calls Try.prog 31 #[.int .i64 x, .int .i64 0, .int .i64 ((l.length : Int) - 1)] w5 fun e w' => e = .returned (.bool b1) ∧ w' = w5 from (HIx.out b1 e1 w5).mono fun e w' ⟨he, hw⟩ => ⟨he, hw.symm⟩)
        have HH1 := hide (fun (w5 : World) (h5 : Row w5 (some ad) (ints (l.take k))) => show Calls Try.prog 54 #[.slice (some ad) k c, .int .i64 x] w5 fun e w' => e = .returned (.bool b2) ∧ w' = w5 by rw [← e2]; exact (HHk.out x w5 h5).mono fun e w' ⟨he, hw⟩ => ⟨he, hw.symm⟩)
        clear hxx hstep e1 e2 HHk HIx
        have k0 : (0 : Int) ≤ (k : Int) := by omega
        have k1 : (k : Int) < (l.length : Int) := by omega
        have k2 : (k : Int) ≤ (c : Int) := by omega
        have k3 : (l.length : Int) ≤ (c : Int) := by omega
        have hrd := hrk.drew
        cases b1 with
        | false =>
          have HN := hide (HZ.out (HST.out.2 (.inl rfl)))
          go_wp2_with fail
          have e1 : IntKind.i64.wrap ((l.length : Int) - 1) = (l.length : Int) - 1 := IntWalk.i64_in _ (by omega)
          go_quiet (first | (go_at_call 31; exact Calls.quiet_of_same (HI1.out _)) | (go_at_call 54; exact Calls.quiet_of_same (HH1.out _ hrk)))
          all_goals clear e1
          all_goals go_wp2_with fail
          go_ret
          exact ⟨none, 0, by rw [HN.out]; rfl, by rw [HN.out]; exact Row.empty _ _, (fun ad e => by cases e), below_drewN hb _⟩
        | true =>
          cases b2 with
          | true =>
            have HN := hide (HZ.out (HST.out.2 (.inr rfl)))
            go_wp2_with fail
            have e1 : IntKind.i64.wrap ((l.length : Int) - 1) = (l.length : Int) - 1 := IntWalk.i64_in _ (by omega)
            go_quiet (first | (go_at_call 31; exact Calls.quiet_of_same (HI1.out _)) | (go_at_call 54; exact Calls.quiet_of_same (HH1.out _ hrk)))
            all_goals clear e1
            all_goals go_wp2_with fail
            go_ret
            exact ⟨none, 0, by rw [HN.out]; rfl, by rw [HN.out]; exact Row.empty _ _, (fun ad e => by cases e), below_drewN hb _⟩
          | false =>
            go_wp2_with fail
            have e1 : IntKind.i64.wrap ((l.length : Int) - 1) = (l.length : Int) - 1 := IntWalk.i64_in _ (by omega)
            go_quiet (first | (go_at_call 31; exact Calls.quiet_of_same (HI1.out _)) | (go_at_call 54; exact Calls.quiet_of_same (HH1.out _ hrk)))
            all_goals clear e1
            all_goals go_wp2_with fail
            exact ⟨⟨k + 1, hlt, rfl, HST.out.1 (by simp), below_drewN hb _⟩, by simp [intOf]; omega⟩
      · have ho : OnceTo l l.length := by
          have := hon.out
          rwa [show k = l.length by omega] at this
        have HMo := hide (fun A' cc w5 h5 => HM.out ho A' cc w5 h5)
        have HLo := hide (fun (i : Nat) (hi : i < 8) => show (L[i]?.getD []).length = l.length by
          have hl8 : i < L.length := by rw [HLN.out]; omega
          rw [List.getElem?_eq_getElem hl8]
          exact HIL.out ho _ (List.getElem_mem hl8))
        have HYo := hide (HY.out ho)
        clear ho HM HIL HY HZ HH HI
        have hrb := hr.below hb
        go_wp2_with fail
        refine (HMo.out A c _ hrb).mono ?_
        rintro e w2 ⟨v, vs, rfl, own, rd, b2⟩
        obtain ⟨Av, cv, rfl, _, _, rv, fv⟩ := own_row own
        have hvl : vs.length = 8 := by rw [rd.1, HLN.out]
        obtain ⟨ad, rfl, hc0⟩ := rv.at_ (k := 0) (by omega)
        have RDi := hide (fun (i : Nat) (hi : i < 8) (wk : World) (bk : Below w2.heap.size w2 wk) => (rd.below bk).at_ (i := i) (by rw [HLN.out]; omega))
        have RVi := hide (fun (i : Nat) (hi : i < 8) (wk : World) (bk : Below w2.heap.size w2 wk) => show wk.cell? (ad.add i) = some (vs[i]?.getD undef) by
          obtain ⟨ad', e, h⟩ := (rv.below bk).at_ (k := i) (by omega)
          injection e with e
          subst e
          exact h)
        obtain ⟨A0, c0, e0, r0, f0, _⟩ := RDi.out 0 (by omega) w2 (Below.refl _ _)
        rw [HLo.out 0 (by omega)] at e0
        rw [e0, show ad.add 0 = ad by cases ad; unfold Addr.add; split <;> simp_all] at hc0
        have bw2 := below_then hb hb.size b2
        have F0 : From w.heap.size A0 := f0.mono hb.size
        have R0 := hide r0
        rw [hvl]
        clear own rd rv fv e0 f0 r0 hvl
        go_wp2_with fail
        go_loopw [5, 6] (fun x i wr => ∃ (q : Nat) (Ab : Option Addr) (cb : Nat), 1 ≤ q ∧ q ≤ 8 ∧ x = .slice Ab l.length cb ∧ i = .int .i64 (q : Int) ∧ Row wr Ab (ints (bestTo L (q - 1))) ∧ Hid ((bestTo L (q - 1)).length = l.length) ∧ From w.heap.size Ab ∧ Below w2.heap.size w2 wr) (fun _ i _ => 8 - (intOf i).toNat)
        case atStart => exact ⟨1, A0, c0, by omega, by omega, rfl, rfl, R0.out, HLo.out 0 (by omega), F0, Below.refl _ _⟩
        case round =>
          obtain ⟨q, Ab, cb, q1, q8, rfl, rfl, rb, lb, fb, bq⟩ := hrel
          obtain ⟨wq, rfl⟩ : ∃ wq : World, wq = wr := ⟨_, rfl⟩
          by_cases hq : q < 8
          · obtain ⟨Aq, cq, eq, rq, fq, _⟩ := RDi.out q hq wq bq
            have hcq := RVi.out q hq wq bq
            have hlq := HLo.out q hq
            rw [hlq] at eq
            rw [eq] at hcq
            have HB := hide (show bestTo L q = if lessP (L[q]?.getD []) (bestTo L (q - 1)) then L[q]?.getD [] else bestTo L (q - 1) by
              obtain ⟨p, rfl⟩ : ∃ p, q = p + 1 := ⟨q - 1, by omega⟩
              rfl)
            have HQ := hide (eq)
            obtain ⟨best, hbest⟩ : ∃ best, bestTo L (q - 1) = best := ⟨_, rfl⟩
            obtain ⟨xq, hxq⟩ : ∃ xq, L[q]?.getD [] = xq := ⟨_, rfl⟩
            rw [hbest, hxq] at HB
            rw [hbest] at rb lb
            rw [hxq] at rq hlq
            have HLL := hide (show Calls Try.prog 40 #[.slice Aq l.length cq, .slice Ab l.length cb] wq (Plain (.bool (lessP xq best)) wq) by
              have := specLessList_c Aq Ab xq best cq cb wq rq rb (by omega) (by rw [lb.out, hlq])
              rwa [lb.out, hlq] at this)
            have Fq : From w.heap.size Aq := fq.mono hb.size
            have HXL := hide hlq
            have q0 : (0 : Int) ≤ (q : Int) := by omega
            have q2 : (q : Int) < 8 := by omega
            have hqd : Hid (q + 1 - 1 = q) := hide (by omega)
            clear eq hlq hbest hxq fq
            cases hlp : lessP xq best with
            | true =>
              rw [hlp] at HLL HB
              go_wp2_with fail
              refine HLL.out.mono ?_
              rintro e w7 ⟨rfl, b7⟩
              have b27 := below_then bq bq.size b7
              have hcq7 := RVi.out q hq w7 b27
              rw [HQ.out] at hcq7
              have r7 := hide (rq.below b7)
              clear hlp hcq rq rb
              go_wp2_with fail
              go_round
              case rel => exact ⟨q + 1, Aq, cq, by omega, by omega, rfl, rfl, by rw [hqd.out, HB.out]; exact r7.out, by rw [hqd.out, HB.out]; exact HXL.out, Fq, b27⟩
              case measure => simp [intOf]; omega
            | false =>
              rw [hlp] at HLL HB
              go_wp2_with fail
              refine HLL.out.mono ?_
              rintro e w7 ⟨rfl, b7⟩
              have b27 := below_then bq bq.size b7
              have r7 := hide (rb.below b7)
              clear hlp hcq rq rb
              go_wp2_with fail
              go_round
              case rel => exact ⟨q + 1, Ab, cb, by omega, by omega, rfl, rfl, by rw [hqd.out, HB.out]; exact r7.out, by rw [hqd.out, HB.out]; exact lb.out, fb, b27⟩
              case measure => simp [intOf]; omega
          · have h8 : q - 1 = 7 := by omega
            rw [h8] at rb lb
            have q8' : (q : Int) = 8 := by omega
            have RB := hide rb
            have B7 := below_then bw2 bw2.size bq
            clear h8 rb
            rw [q8']
            clear q8'
            go_wp2_with fail
            go_ret
            exact ⟨Ab, cb, by rw [HYo.out, lb.out]; rfl, by rw [HYo.out]; exact RB.out, fb, B7⟩
  · have HR := hide (fun w5 => inRange_no (l.length : Int) 1 6 w5 (by omega))
    have HN : Hid (firstP l = []) := by show _ = _; unfold firstP; rw [if_neg (fun hh => h hh.1)]
    clear h
    go_enter Try.func39, Try.ntmps39
    go_wp2_with fail
    refine (HR.out _).mono ?_
    rintro e w1 ⟨rfl, rfl⟩
    go_wp2_with fail
    go_ret
    exact ⟨none, 0, by rw [HN.out]; rfl, by rw [HN.out]; exact Row.empty _ _, (fun ad e => by cases e), Below.refl _ _⟩
end Go.Proofs.Ytlccohoblplddad

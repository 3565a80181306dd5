
/-
  The program's FirstImage: imagesOf, Compare, MinFunc.
-/
import Derived.Test.YtlccohoblplddadPFirst
import Derived.Test.YtlccohoblplddadQueenH
namespace Go.Proofs.Ytlccohoblplddad
open Go.RowKit
set_option linter.unusedVariables false

/-! ### Compare -/
def cmpI (x y : Int) : Int := if x < y then -1 else if x > y then 1 else 0
theorem isNaN_c (x : Int) (w : World) : Calls Try.prog 65 #[.int .i64 x] w fun e w' => e = .returned (.bool false) ∧ w = w' := by
  have h : (x != x) = false := by simp
  go_enter Try.func65, Try.ntmps65
  go_wp2
  go_ret
  exact ⟨rfl, rfl⟩
theorem cmpInt_c (x y : Int) (w : World) : Calls Try.prog 62 #[.int .i64 x, .int .i64 y] w fun e w' => e = .returned (.int .i64 (cmpI x y)) ∧ w = w' := by
  have HX := hide (fun w5 => isNaN_c x w5)
  have HY := hide (fun w5 => isNaN_c y w5)
  by_cases h1 : x < y
  · have HC : Hid (cmpI x y = -1) := by show _ = _; unfold cmpI; rw [if_pos h1]
    rw [HC.out]
    go_enter Try.func62, Try.ntmps62
    go_wp2_with fail
    refine (HX.out _).mono ?_
    rintro e w1 ⟨rfl, rfl⟩
    go_wp2_with fail
    refine (HY.out _).mono ?_
    rintro e w1 ⟨rfl, rfl⟩
    go_wp2_with fail
    go_ret
    exact ⟨rfl, rfl⟩
  · by_cases h2 : x > y
    · have HC : Hid (cmpI x y = 1) := by show _ = _; unfold cmpI; rw [if_neg h1, if_pos h2]
      rw [HC.out]
      go_enter Try.func62, Try.ntmps62
      go_wp2_with fail
      refine (HX.out _).mono ?_
      rintro e w1 ⟨rfl, rfl⟩
      go_wp2_with fail
      refine (HY.out _).mono ?_
      rintro e w1 ⟨rfl, rfl⟩
      go_wp2_with fail
      go_ret
      exact ⟨rfl, rfl⟩
    · have HC : Hid (cmpI x y = 0) := by show _ = _; unfold cmpI; rw [if_neg h1, if_neg h2]
      rw [HC.out]
      go_enter Try.func62, Try.ntmps62
      go_wp2_with fail
      refine (HX.out _).mono ?_
      rintro e w1 ⟨rfl, rfl⟩
      go_wp2_with fail
      refine (HY.out _).mono ?_
      rintro e w1 ⟨rfl, rfl⟩
      go_wp2_with fail
      go_ret
      exact ⟨rfl, rfl⟩
/-- What Compare tells of two lists of one length. -/
def Compared (xs ys : List Int) (w : World) (e : Ending) (w' : World) : Prop := ∃ x : Int, e = .returned (.int .i64 x) ∧ (-1 ≤ x ∧ x ≤ 1) ∧ decide (x < 0) = lessP xs ys ∧ w = w'
set_option maxHeartbeats 400000 in
theorem compare_c (A C : Option Addr) (xs ys : List Int) (ca cc : Nat) (w : World) (ha : Row w A (ints xs)) (hc : Row w C (ints ys)) (hn : xs.length ≤ 1048576) (hl : xs.length = ys.length) :
    Calls Try.prog 53 #[.slice A xs.length ca, .slice C ys.length cc] w (Compared xs ys w) := by
  have HC := hide (fun x y w5 => cmpInt_c x y w5)
  have HL := hide hl
  have hll : (xs.length : Int) = (ys.length : Int) := by omega
  rw [← hl]
  clear hl hll
  go_enter Try.func53, Try.ntmps53
  go_wp2_with fail
  go_loopw [11] (fun i wr => ∃ k : Nat, k ≤ xs.length ∧ i = .int .i64 k ∧ Hid (xs.take k = ys.take k) ∧ w = wr) (fun i _ => xs.length - (intOf i).toNat)
  case atStart => exact ⟨0, Nat.zero_le _, rfl, rfl, rfl⟩
  case round =>
    obtain ⟨k, hk, rfl, he, rfl⟩ := hrel
    by_cases hlt : k < xs.length
    · have hlt2 : k < ys.length := HL.out ▸ hlt
      obtain ⟨ad, rfl, hca⟩ := ha.int hlt
      obtain ⟨ad', rfl, hcc⟩ := hc.int hlt2
      have HLT := hide (fun (h : xs[k]?.getD 0 ≠ ys[k]?.getD 0) => lessP_at xs ys k hlt hlt2 he.out h)
      have HEQ := hide (fun (h : xs[k]?.getD 0 = ys[k]?.getD 0) => eqlist_step hlt HL.out he.out h)
      obtain ⟨x, hx⟩ : ∃ x, xs[k]?.getD 0 = x := ⟨_, rfl⟩
      obtain ⟨y, hy⟩ : ∃ y, ys[k]?.getD 0 = y := ⟨_, rfl⟩
      rw [hx] at hca HLT HEQ
      rw [hy] at hcc HLT HEQ
      have HXY := hide (HC.out x y w)
      have k0 : (0 : Int) ≤ (k : Int) := by omega
      have k1 : (k : Int) < (xs.length : Int) := by omega
      clear hx hy
      by_cases hne : x = y
      · have HS := hide (HEQ.out hne)
        have h0 : cmpI x y = 0 := by unfold cmpI; rw [if_neg (by omega), if_neg (by omega)]
        rw [h0] at HXY
        clear hne h0
        go_wp2_with fail
        refine HXY.out.mono ?_
        rintro e w1 ⟨rfl, rfl⟩
        go_wp2_with fail
        exact ⟨⟨k + 1, hlt, rfl, HS.out, trivial⟩, by simp [intOf]; omega⟩
      · have HS := hide (HLT.out hne)
        obtain ⟨z, hz⟩ : ∃ z, cmpI x y = z := ⟨_, rfl⟩
        have hzz : (z = -1 ∧ x < y) ∨ (z = 1 ∧ ¬ x < y) := by
          rw [← hz]
          unfold cmpI
          by_cases h1 : x < y
          · rw [if_pos h1]; exact .inl ⟨rfl, h1⟩
          · rw [if_neg h1, if_pos (by omega)]; exact .inr ⟨rfl, h1⟩
        have HZ := hide hzz
        have hz0 : (z != 0) = true := by rw [bne_iff_ne]; omega
        rw [hz] at HXY
        clear hz hzz hne
        go_wp2_with fail
        refine HXY.out.mono ?_
        rintro e w1 ⟨rfl, rfl⟩
        go_wp2_with fail
        go_ret
        refine ⟨z, rfl, ?_, ?_, rfl⟩
        · rcases HZ.out with ⟨h, _⟩ | ⟨h, _⟩ <;> omega
        · rw [HS.out]
          rcases HZ.out with ⟨h, h'⟩ | ⟨h, h'⟩
          · rw [decide_eq_true (show x < y by omega), decide_eq_true (by omega)]
          · rw [decide_eq_false (show ¬ x < y by omega), decide_eq_false (by omega)]
    · have hk2 : Hid (k = xs.length) := hide (by omega)
      have HP : Hid (lessP xs ys = false) := by
        show _ = _
        have e := he.out
        rw [hk2.out, List.take_of_length_le (Nat.le_refl _), List.take_of_length_le (by rw [HL.out]; exact Nat.le_refl _)] at e
        rw [e]
        exact lessP_same _
      go_wp2_with fail
      go_ret
      exact ⟨0, rfl, by omega, by rw [HP.out]; rfl, rfl⟩

/-! ### MinFunc: the first one of some rows -/
set_option maxHeartbeats 2000000 in
theorem minFunc_c (A : Option Addr) (c : Nat) (vs : List Value) (L : List (List Int)) (n D : Nat) (w : World) (hr : Row w A vs) (hrs : Rows1 D w vs L) (hL : 1 ≤ L.length) (hL2 : L.length ≤ 100) (hn : ∀ x ∈ L, x.length = n) (hn6 : n ≤ 6) :
    Calls Try.prog 51 #[.slice A L.length c, .func (.func 53) #[] #[]] w fun e w' => (∃ A' c', e = .returned (.slice A' n c') ∧ w.ownsRow D 3 1 (.slice A' n c') n (ints (bestTo L (L.length - 1)))) ∧ w = w' := by
  have hvl := hrs.1
  have HLn := hide (fun (i : Nat) (hi : i < L.length) => show (L[i]?.getD []).length = n by rw [List.getElem?_eq_getElem hi]; exact hn _ (List.getElem_mem hi))
  have HR := hide (fun (i : Nat) (hi : i < L.length) => show ∃ A' c', vs[i]?.getD undef = .slice A' n c' ∧ w.ownsRow D 3 1 (.slice A' n c') n (ints (L[i]?.getD [])) by
    obtain ⟨A', c', e, ho⟩ := hrs.2 i hi
    have hi2 := hn _ (List.getElem_mem hi)
    rw [hi2] at e ho
    refine ⟨A', c', by rw [e]; rfl, ?_⟩
    rw [List.getElem?_eq_getElem hi]
    exact ho)
  have HB := hide (fun k (hk : k < L.length) => bestTo_len hn k hk)
  have HV := hide hvl
  obtain ⟨ad, rfl, hc0⟩ := hr.at_ (k := 0) (by rw [hvl]; exact hL)
  obtain ⟨A0, c0, e0, own0⟩ := HR.out 0 hL
  rw [e0] at hc0
  have hb0 : L[0]?.getD [] = bestTo L 0 := rfl
  rw [hb0] at own0
  have l1 : ¬ ((L.length : Int) < 1) := by omega
  have l2 : (1 : Int) ≤ (L.length : Int) := by omega
  clear hrs e0 hb0 hn hvl
  have hc00 : w.cell? ad = some (.slice A0 n c0) := hc0
  go_enter Try.func51, Try.ntmps51
  go_wp2_with fail
  go_loopw [5, 6] (fun m i wr => ∃ (q : Nat) (Ab : Option Addr) (cb : Nat), 1 ≤ q ∧ q ≤ L.length ∧ i = .int .i64 (q : Int) ∧ m = .slice Ab n cb ∧ w.ownsRow D 3 1 (.slice Ab n cb) n (ints (bestTo L (q - 1))) ∧ w = wr) (fun _ i _ => L.length - (intOf i).toNat)
  case atStart => exact ⟨1, A0, c0, Nat.le_refl _, hL, rfl, rfl, own0, rfl⟩
  case round =>
    obtain ⟨q, Ab, cb, hq1, hq, rfl, rfl, ownb, rfl⟩ := hrel
    by_cases hlt : q < L.length
    · obtain ⟨Aq, cq, eq, ownq⟩ := HR.out q hlt
      obtain ⟨ad', e', hcq⟩ := hr.at_ (k := q) (by rw [HV.out]; exact hlt)
      injection e' with e'
      subst e'
      rw [eq] at hcq
      have hqb : bestTo L q = if lessP (L[q]?.getD []) (bestTo L (q - 1)) then L[q]?.getD [] else bestTo L (q - 1) := by
        obtain ⟨p, rfl⟩ : ∃ p, q = p + 1 := ⟨q - 1, by omega⟩
        rfl
      have HQB := hide hqb
      have lb := HB.out (q - 1) (by omega)
      have lq := HLn.out q hlt
      have HCC := hide (show Calls Try.prog 53 #[.slice Aq n cq, .slice Ab n cb] w (Compared (L[q]?.getD []) (bestTo L (q - 1)) w) by
        have := compare_c Aq Ab (L[q]?.getD []) (bestTo L (q - 1)) cq cb w (own_reads ownq) (own_reads ownb) (by omega) (by omega)
        rwa [lb, lq] at this)
      have Oq := hide ownq
      have Ob := hide ownb
      have q0 : (0 : Int) ≤ (q : Int) := by omega
      have q1 : (q : Int) < (L.length : Int) := by omega
      have hqd : Hid (q + 1 - 1 = q) := hide (by omega)
      clear hqb ownq ownb eq lb lq
      generalize L[q]?.getD [] = xq at *
      generalize bestTo L (q - 1) = best at *
      go_wp2_with fail
      refine HCC.out.mono ?_
      rintro e w1 ⟨x, rfl, hx, hxl, rfl⟩
      cases hlp : lessP xq best with
      | true =>
        have hx0 : x < 0 := of_decide_eq_true (hxl.trans hlp)
        have HQ2 : Hid (bestTo L q = xq) := by show _ = _; rw [HQB.out, if_pos hlp]
        clear hxl hlp
        go_wp2_with fail
        go_round
        case rel => exact ⟨q + 1, Aq, cq, by omega, hlt, rfl, rfl, by rw [hqd.out, HQ2.out]; exact Oq.out, trivial⟩
        case measure => simp [intOf]; omega
      | false =>
        have hx0 : ¬ x < 0 := of_decide_eq_false (hxl.trans hlp)
        have HQ2 : Hid (bestTo L q = best) := by show _ = _; rw [HQB.out, if_neg (by rw [hlp]; simp)]
        clear hxl hlp
        go_wp2_with fail
        go_round
        case rel => exact ⟨q + 1, Ab, cb, by omega, hlt, rfl, rfl, by rw [hqd.out, HQ2.out]; exact Ob.out, trivial⟩
        case measure => simp [intOf]; omega
    · have hql : Hid (q = L.length) := hide (by omega)
      have Ob := hide ownb
      clear ownb
      go_wp2_with fail
      go_ret
      exact ⟨⟨_, _, rfl, by rw [← hql.out]; exact Ob.out⟩, rfl⟩
end Go.Proofs.Ytlccohoblplddad

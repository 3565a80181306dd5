
/-
  The model's rookFrom.
-/
import Derived.Test.YtlccohoblplddabSpRookA
namespace Go.Proofs.Ytlccohoblplddab
open Go.RowKit
set_option linter.unusedVariables false

def lenW : Value → Nat
  | .slice _ n _ => n
  | _ => 0
theorem own_free2 {w w' : World} {base e size n : Nat} {v : Value} {xs : List Value} (h : w.ownsRow base e size v n xs) {r : Option Nat} (hg : w.grownBy w' r) (hne : v.ownBlock ≠ r) : w'.ownsRow base e size v n xs := h.kept hg (.inr hne)
theorem own_lenW {w : World} {base e size n : Nat} {v : Value} {xs : List Value} (h : w.ownsRow base e size v n xs) : lenW v = n := by
  obtain ⟨A, c, rfl, _⟩ := own_row h
  rfl
theorem at_ints {L : List Int} {k : Nat} (h : k < L.length) : (ints L)[k]? = some (.int .i64 (L[k]?.getD 0)) := by
  rw [ints, List.getElem?_map, List.getElem?_eq_getElem h]; rfl
theorem ints_set3 (l : List Int) (i : Nat) (u : Int) : (ints l).set i (.int .i64 u) = ints (l.set i u) := by simp [ints, List.map_set]

set_option maxHeartbeats 4000000 in
set_option maxRecDepth 100000 in
theorem rookFrom_c (A : Option Addr) (c : Nat) (l : List Int) (R : List Nat) (h5 : l.length ≤ 5) (hRl : R.length = l.length) (hR : Hid (∀ i : Nat, i < l.length → l[i]?.getD 0 = ((R[i]?.getD 0 : Nat) : Int)))
    (hRw : Hid (∀ i : Nat, i < l.length → R[i]?.getD 0 < 32)) (hRb : Hid (∀ i : Nat, i < l.length → ∀ d, (R[i]?.getD 0).testBit d = true → d < l.length)) :
    ∀ (m at_ : Nat), at_ + m = l.length → ∀ (t : Nat), t < 32 → ∀ (w : World), Row w A (ints l) →
      Calls Try.prog 31 #[.slice A l.length c, .int .i64 (at_ : Int), .int .i64 (t : Int)] w (RookL (R.drop at_) t w) := by
  intro m
  induction m with
  | zero =>
    intro at_ hat t ht w hr
    have hd : Hid (R.drop at_ = []) := List.drop_eq_nil_of_le (by omega)
    have heq : ((at_ : Int) == (l.length : Int)) = true := by simp; omega
    clear hat hRl
    go_enter Try.func31, Try.ntmps31
    go_wp2_with fail
    go_ret
    refine ⟨_, [1], rfl, World.ownsRow_lit w #[.int .i64 1] 1 (Nat.le_refl _) (by simp [maxLen]) rfl, by simp, fun k => ?_, (Below.refl _ _).alloc (Nat.le_refl _) _⟩
    rw [hd.out, rk]
    cases k <;> simp
  | succ m ih =>
    intro at_ hat t ht w hr
    have hlt : at_ < l.length := by omega
    obtain ⟨rs, hrs⟩ : ∃ rs, R.drop (at_ + 1) = rs := ⟨_, rfl⟩
    have hd : Hid (R.drop at_ = R[at_]?.getD 0 :: rs) := by
      show R.drop at_ = _
      rw [List.drop_eq_getElem_cons (by omega), hrs, List.getElem?_eq_getElem (by omega)]
      rfl
    have hrl : rs.length = m := by rw [← hrs, List.length_drop]; omega
    have HI := hide (fun (t' : Nat) (ht' : t' < 32) (w5 : World) (h5 : Row w5 A (ints l)) => show Calls Try.prog 31 #[.slice A l.length c, .int .i64 ((at_ : Int) + 1), .int .i64 (t' : Int)] w5 (RookL rs t' w5) by
      have := ih (at_ + 1) (by omega) t' ht' w5 h5
      rw [hrs] at this
      exact this)
    have hx := hide (hR.out at_ hlt)
    have hxw := hRw.out at_ hlt
    have hxb := hide (hRb.out at_ hlt)
    have hend := hide (fun (t' k : Nat) => partR_all l.length (R[at_]?.getD 0) rs t' k hxb.out)
    generalize R[at_]?.getD 0 = r at *
    have hbd := hide (fun (cn k : Nat) => partR_bd r rs t cn k (by omega))
    have hbk := hide (fun (t' k : Nat) => show rk rs t' k ≤ 1296 from Nat.le_trans (rk_bd rs t' k) (Nat.le_trans (Nat.pow_le_pow_right (by omega) (show rs.length ≤ 4 by omega)) (by decide)))
    have heq : ((at_ : Int) == (l.length : Int)) = false := by rw [beq_eq_false_iff_ne]; omega
    have hm4 : m ≤ 4 := by omega
    clear ih hrs hxb hR hRw hRb hRl
    go_enter Try.func31, Try.ntmps31
    go_wp2_with fail
    refine (HI.out t ht _ (hr.alloc _)).mono ?_
    rintro e w1 ⟨v1, L1, rfl, o1, ⟨l1, l2⟩, hv1, b1⟩
    obtain ⟨A1, c1, rfl, _⟩ := own_row o1
    have oe := own_below (World.ownsRow_made (base := w.heap.size) (e := 3) (size := 1) w #[] 0 (Nat.le_refl _) (by simp [maxLen]) rfl) b1
    have bb := below_then ((Below.refl w.heap.size w).alloc (Nat.le_refl _) (.cells #[] 3)) (by simp) b1
    rw [hrl] at l2
    go_wp2_with ((at_builtin; refine put_own rfl (.tmp 16) (.tmp 21) rfl Try.underlying22 elem_int' rfl oe rfl (m := L1.length) (news := ints L1) (by simp) (own_reads o1) (one_ints _) (by omega) (by omega) bb.size ?_; intro v2 w2 own2 hg2 ho2))
    have own2 : w2.ownsRow w.heap.size 3 1 v2 L1.length (ints L1) := by simpa using own2
    have b2 := below_grown bb bb.size oe (Nat.le_refl _) hg2
    clear oe o1 bb b1 hg2 ho2
    go_loopw [7, 8] (fun v i wr => ∃ (cn : Nat) (L : List Int), cn ≤ l.length ∧ i = .int .i64 (cn : Int) ∧ wr.ownsRow w.heap.size 3 1 v L.length (ints L) ∧ 1 ≤ L.length ∧ L.length ≤ m + 2 ∧ Hid (∀ k : Nat, L[k]?.getD 0 = ((partR r rs t cn k : Nat) : Int)) ∧ Below w.heap.size w wr) (fun _ i _ => l.length - (intOf i).toNat)
    case atStart => exact ⟨0, L1, Nat.zero_le _, rfl, own2, l1, by omega, fun k => by rw [partR_zero]; exact hv1.out k, b2⟩
    case round =>
      clear own2 b2 hv1 l1 l2
      obtain ⟨cn, L, hcn, rfl, hown, l1, l2, hvL, hb⟩ := hrel
      obtain ⟨wo, rfl⟩ : ∃ wo : World, wo = wr := ⟨_, rfl⟩
      have z := hb.size
      obtain ⟨A0, c0, rfl, _⟩ := own_row hown
      by_cases hcl : cn < l.length
      · obtain ⟨ad, rfl, hca⟩ := (hr.below hb).int hlt
        rw [hx.out] at hca
        have a0 : (0 : Int) ≤ (at_ : Int) := by omega
        have a1 : (at_ : Int) < (l.length : Int) := by omega
        have hc5 : cn < 5 := by omega
        have hsuc := hide (fun k => partR_succ r rs t cn k hc5)
        have HBr := hide (fun w5 => bit_c r cn (by omega) (by omega) w5)
        have HBt := hide (fun w5 => bit_c t cn (by omega) (by omega) w5)
        unfold bitV at HBr HBt
        cases hrb : r.testBit cn with
        | false =>
          rw [hrb] at HBr hsuc
          have hvL2 : Hid (∀ k : Nat, L[k]?.getD 0 = ((partR r rs t (cn + 1) k : Nat) : Int)) := fun k => by rw [hvL.out k, hsuc.out k]; simp
          clear hrb
          go_wp2_with fail
          refine (HBr.out _).mono ?_
          rintro e w3 ⟨rfl, rfl⟩
          go_wp2_with fail
          exact ⟨⟨cn + 1, L, hcl, rfl, hown, l1, l2, hvL2, hb⟩, by simp [intOf]; omega⟩
        | true =>
          cases htb : t.testBit cn with
          | true =>
            rw [hrb] at HBr hsuc
            rw [htb] at HBt hsuc
            have hvL2 : Hid (∀ k : Nat, L[k]?.getD 0 = ((partR r rs t (cn + 1) k : Nat) : Int)) := fun k => by rw [hvL.out k, hsuc.out k]; simp
            clear hrb htb
            go_wp2_with fail
            refine (HBr.out _).mono ?_
            rintro e w3 ⟨rfl, rfl⟩
            go_wp2_with fail
            refine (HBt.out _).mono ?_
            rintro e w4 ⟨rfl, rfl⟩
            go_wp2_with fail
            exact ⟨⟨cn + 1, L, hcl, rfl, hown, l1, l2, hvL2, hb⟩, by simp [intOf]; omega⟩
          | false =>
            have hpo := plus_or ⟨t, ht⟩ ⟨cn, hc5⟩ htb
            simp only at hpo
            have hq := or_lt t cn ht hc5
            have HP := hide (fun w5 => specPower_c cn (by omega) w5)
            obtain ⟨p1, p2⟩ := pow_bd (n := cn) (by omega)
            rw [hrb] at HBr hsuc
            rw [htb] at HBt hsuc
            have hsum : Hid ((t : Int) + ((2 ^ cn : Nat) : Int) = ((t ||| 2 ^ cn : Nat) : Int)) := by show (t : Int) + ((2 ^ cn : Nat) : Int) = _; rw [← hpo]; push_cast; rfl
            clear hrb htb hpo
            generalize 2 ^ cn = P at *
            generalize t ||| P = q at *
            have hw1 : IntKind.i64.wrap ((t : Int) + (P : Int)) = (q : Int) := (IntWalk.i64_in _ (by omega)).trans hsum.out
            go_wp2_with fail
            refine (HBr.out _).mono ?_
            rintro e w3 ⟨rfl, rfl⟩
            go_wp2_with fail
            refine (HBt.out _).mono ?_
            rintro e w4 ⟨rfl, rfl⟩
            go_wp2_with fail
            refine (HP.out _).mono ?_
            rintro e w5 ⟨rfl, rfl⟩
            go_wp2_with fail
            refine (HI.out q hq _ (hr.below hb)).mono ?_
            rintro e w6 ⟨v6, L2, rfl, o6, ⟨k1, k2⟩, hv6, b6⟩
            obtain ⟨g6, c6, rfl, _, _, _, g61, g62⟩ := own_one o6 (by omega)
            rw [hrl] at k2
            have hlo := own_lt hown
            have hown6 := own_below hown b6
            have hb6 := below_then hb z b6
            have z6 := b6.size
            have hne0 : Hid (∀ g, (Value.slice A0 L.length c0).ownBlock = some g → g ≠ g6) := fun g e => by have := hlo g e; omega
            clear hlo hown b6
            go_wp2_with fail
            go_loopw [7, 10] (fun v i wi => ∃ (j : Nat) (L' : List Int), j ≤ L2.length ∧ i = .int .i64 (j : Int) ∧ wi.ownsRow w.heap.size 3 1 v L'.length (ints L') ∧ 1 ≤ L'.length ∧ L'.length ≤ m + 2 ∧ wi.ownsRow wo.heap.size 3 1 (.slice (some ⟨g6, 0, none⟩) L2.length c6) L2.length (ints L2) ∧
                Hid (∀ g, v.ownBlock = some g → g ≠ g6) ∧ Hid (∀ k : Nat, L'[k]?.getD 0 = ((partR r rs t cn k + (if 1 ≤ k ∧ k ≤ j then rk rs q (k - 1) else 0) : Nat) : Int)) ∧ Below w.heap.size w wi) (fun _ i _ => L2.length - (intOf i).toNat)
            case atStart => exact ⟨0, L, Nat.zero_le _, rfl, hown6, l1, l2, o6, hne0, fun k => by rw [hvL.out k, if_neg (by omega)]; rfl, hb6⟩
            case round =>
              clear hown6 l1 l2 o6 hne0 hvL hb6
              obtain ⟨j, L', hj, rfl, hv, l1, l2, o6, hne, hvals, hbi⟩ := hrel
              obtain ⟨A', c', rfl, _⟩ := own_row hv
              by_cases hjl : j < L2.length
              · go_wp2_with fail
                go_loopw [7] (fun v wi => ∃ L' : List Int, wi.ownsRow w.heap.size 3 1 v L'.length (ints L') ∧ 1 ≤ L'.length ∧ L'.length ≤ m + 2 ∧ wi.ownsRow wo.heap.size 3 1 (.slice (some ⟨g6, 0, none⟩) L2.length c6) L2.length (ints L2) ∧
                    Hid (∀ g, v.ownBlock = some g → g ≠ g6) ∧ Hid (∀ k : Nat, L'[k]?.getD 0 = ((partR r rs t cn k + (if 1 ≤ k ∧ k ≤ j then rk rs q (k - 1) else 0) : Nat) : Int)) ∧ Below w.heap.size w wi) (fun v _ => m + 3 - lenW v)
                case atStart => exact ⟨L', hv, l1, l2, o6, hne, hvals, hbi⟩
                case round =>
                  clear hv l1 l2 o6 hne hvals hbi
                  obtain ⟨L', hv, l1, l2, o6, hne, hvals, hbi⟩ := hrel
                  obtain ⟨wi, rfl⟩ : ∃ wi : World, wi = wr := ⟨_, rfl⟩
                  have zi := hbi.size
                  obtain ⟨g', c', rfl, _, _, _, g1, g2⟩ := own_one hv (by omega)
                  have hgg := hne.out g' rfl
                  have g63 := (o6.lt g6 rfl).2
                  by_cases hsh : L'.length ≤ j + 1
                  · have hva := hide (hv.alloc (.cells #[.int .i64 0] 3))
                    have hba := hbi.alloc zi (.cells #[.int .i64 0] 3)
                    have o6a := o6.alloc (.cells #[.int .i64 0] 3)
                    have hwa : (wi.alloc (.cells #[.int .i64 0] 3)).heap.size = wi.heap.size + 1 := by simp
                    go_wp2_with ((at_builtin; refine put_own rfl (.tmp 61) (.tmp 62) rfl Try.underlying22 elem_int' rfl hva.out rfl (m := 1) (news := [.int .i64 0]) rfl (row_new _ _ _ rfl) (by simp [Value.oneCell']) (by omega) (by omega) hba.size ?_; intro v9 w9 own9 hg9 ho9))
                    have own9' : w9.ownsRow w.heap.size 3 1 v9 (L' ++ [0]).length (ints (L' ++ [0])) := by simpa [ints] using own9
                    refine ⟨⟨L' ++ [0], own9', by simp, by simp; omega, own_free2 o6a hg9 (fun e => hgg (by injection (show some g6 = some g' from e) with e; exact e.symm)), fun g e => ?_, fun k => by rw [pad_at]; exact hvals.out k, below_grown hba hba.size hva.out (Nat.le_refl _) hg9⟩, ?_⟩
                    · rcases ho9 with h | h
                      · rw [h] at e; exact hne.out g e
                      · rw [h, hwa] at e; injection e with e; omega
                    · rw [own_lenW own9']; simp [lenW]; omega
                  · have hcy := hv.cellAt (j + 1) (by omega)
                    rw [at_ints (by omega), hvals.out (j + 1), if_neg (by omega), Nat.add_zero] at hcy
                    have hfy := hv.frozenAt (j + 1)
                    have hcz := o6.cellAt j (by omega)
                    rw [at_ints hjl, hv6.out j] at hcz
                    have by1 := hbd.out cn (j + 1)
                    have bz1 := hbk.out q j
                    generalize hY : partR r rs t cn (j + 1) = Y at *
                    generalize hZ : rk rs q j = Z at *
                    have HY := hide hY
                    have HZ := hide hZ
                    clear hY hZ
                    obtain ⟨J, hJ⟩ : ∃ J : Nat, j + 1 = J := ⟨_, rfl⟩
                    have e1 : IntKind.i64.wrap ((j : Int) + 1) = (J : Int) := (IntWalk.i64_in _ (by omega)).trans (by omega)
                    rw [hJ] at hcy hfy hsh
                    have HJ := hide hJ
                    have j0 : (0 : Int) ≤ (j : Int) := by omega
                    have j1 : (j : Int) < (L2.length : Int) := by omega
                    have j3 : (0 : Int) ≤ (J : Int) := by omega
                    have j2 : (J : Int) < (L'.length : Int) := by omega
                    have e2 : IntKind.i64.wrap ((Y : Int) + (Z : Int)) = (Y : Int) + (Z : Int) := IntWalk.i64_in _ (by omega)
                    clear hJ
                    go_wp2_with fail
                    go_still_tail 14, (by kernel_rfl)
                    have hvd := hv.drew
                    have o6d := o6.drew
                    have hbd' := hbi.drew
                    have hfyd : wi.drew.frozen? ⟨g', J, none⟩ = false := hfy
                    have hcyd : wi.drew.cell? ⟨g', J, none⟩ = some (.int .i64 (Y : Int)) := hcy
                    change wpList _ _ _ _ _ wi.drew
                    clear hv o6 hbi hfy hcy hcz zi g2 g63
                    generalize wi.drew = wd at *
                    obtain ⟨ost, gst⟩ := hvd.stored J (.int .i64 ((Y : Int) + (Z : Int)))
                    rw [ints_set3] at ost
                    have o6x := own_free2 o6d gst (fun e => hgg (by injection (show some g6 = some g' from e) with e; exact e.symm))
                    have hbx := hbd'.grown gst hbd'.size (fun j e => by injection e with e; omega)
                    have Ost := hide ost
                    have O6 := hide o6x
                    have Hb := hide hbx
                    have hvals' : Hid (∀ k : Nat, (L'.set J ((Y : Int) + (Z : Int)))[k]?.getD 0 = ((partR r rs t cn k + (if 1 ≤ k ∧ k ≤ j + 1 then rk rs q (k - 1) else 0) : Nat) : Int)) := fun k => by
                      rw [set_at _ _ _ _ (by omega)]
                      by_cases e : k = J
                      · subst e
                        have hj' := HJ.out
                        have q1 : partR r rs t cn k = Y := by rw [← hj']; exact HY.out
                        have q2 : rk rs q (k - 1) = Z := by rw [← hj', Nat.add_sub_cancel]; exact HZ.out
                        rw [if_pos rfl, if_pos ⟨by omega, by omega⟩, q1, q2]
                        push_cast
                        rfl
                      · rw [if_neg e, hvals.out k]
                        have : (1 ≤ k ∧ k ≤ j) ↔ (1 ≤ k ∧ k ≤ j + 1) := by have := HJ.out; omega
                        simp only [this]
                    clear ost gst o6x hbx
                    go_wp2_with fail
                    go_round
                    case rel => exact ⟨j + 1, L'.set J ((Y : Int) + (Z : Int)), hjl, by rw [HJ.out], by rw [List.length_set]; exact Ost.out, by rw [List.length_set]; exact l1, by rw [List.length_set]; exact l2, O6.out, hne, hvals', Hb.out⟩
                    case measure =>
                      have := HJ.out
                      simp [intOf]
                      omega
              · have hjL : Hid (j = L2.length) := hide (by omega)
                go_wp2_with fail
                go_round
                case rel =>
                  refine ⟨cn + 1, L', hcl, rfl, hv, l1, l2, fun k => ?_, hbi⟩
                  rw [hvals.out k, hsuc.out k]
                  congr 1
                  simp only [Bool.not_false, Bool.and_true, Bool.true_and, decide_eq_true_eq]
                  by_cases h1 : 1 ≤ k
                  · by_cases h2 : k ≤ j
                    · simp [h1, h2]
                    · have h3 := hv6.out (k - 1)
                      rw [List.getElem?_eq_none (by have := hjL.out; omega)] at h3
                      have h4 : rk rs q (k - 1) = 0 := by simp at h3; omega
                      simp [h1, h4]
                  · simp [h1]
                case measure => simp [intOf]; omega
      · have hcL : Hid (cn = l.length) := hide (by omega)
        go_wp2_with fail
        go_ret
        refine ⟨_, L, rfl, hown, ⟨l1, by rw [hd.out, List.length_cons]; omega⟩, fun k => ?_, hb⟩
        rw [hvL.out k, hd.out, hcL.out, hend.out]
end Go.Proofs.Ytlccohoblplddab


/-
  Walks by chance: the model's hitTime.
-/
import Derived.Test.YtoapmmmmdfmaeabWalkE
import Derived.Test.YtoapmmmmdfmaeabWalkC
import Derived.Test.YtoapmmmmdfmaeabDetY
namespace Go.Proofs.Ytoapmmmmdfmaeab
open Go.RowKit
set_option linter.unusedVariables false

theorem own_ty {w : World} {base base' e e' s s' n n' : Nat} {v u : Value} {xs ys : List Value} (h : w.ownsRow base e s v n xs) (h' : w.ownsRow base' e' s' u n' ys) (hne : e ≠ e') {g : Nat} (hu : u.ownBlock = some g) : v.ownBlock ≠ some g := by
  rcases h'.2 with ⟨rfl, _⟩ | ⟨g', cap, cur, rfl, hb, hg, _⟩
  · cases hu
  · injection hu with hu
    subst hu
    exact own_ne h (show Box w g' e' cur from hg) hne
theorem own_tyk {w w' : World} {base base' e e' s s' n n' : Nat} {v u : Value} {xs ys : List Value} (h : w.ownsRow base e s v n xs) (h' : w.ownsRow base' e' s' u n' ys) (hne : e ≠ e') (hg : w.grownBy w' u.ownBlock) : w'.ownsRow base e s v n xs := by
  cases hu : u.ownBlock with
  | none =>
    rw [hu] at hg
    exact h.kept hg (Classical.em _)
  | some g =>
    rw [hu] at hg
    exact h.kept hg (.inr (own_ty h h' hne hu))
theorem rows_tyk {w w' : World} {base base' e s n m : Nat} {ps : List (Nat × Nat)} {M : Mat} {u : Value} {ys : List Value} (h : RowsAt w base n ps M) (h' : w.ownsRow base' e s u m ys) (hne : 3 ≠ e) (hg : w.grownBy w' u.ownBlock) : RowsAt w' base n ps M :=
  ⟨h.len, fun i hi => own_tyk (h.own i hi) h' hne hg, h.apart⟩
theorem in_rows {w : World} {base n : Nat} {ps : List (Nat × Nat)} {M : Mat} (h : RowsAt w base n ps M) : InRows w (vsOf n ps) n M := by
  refine ⟨(vsOf_len n ps).trans h.len, fun i hi => ?_⟩
  have hi' : i < ps.length := by rw [h.len]; exact hi
  exact ⟨⟨ps[i].1, 0, none⟩, ps[i].2, vsOf_at hi', own_reads (h.own i hi'), h.rowlen i hi'⟩
def atI (i k a : Nat) : Int := if i < a then ((restL i k).length : Int) else -1
set_option maxHeartbeats 4000000 in
set_option maxRecDepth 100000 in
theorem hitTime_c (A : Option Addr) (c : Nat) (L : List Nat) (M : List (List (Nat × Nat))) (i k n : Nat) (W : World) (hn : L.length = n) (hL : Sets9 L) (hH : HitIs L M) (hi : i < n) (hk : k < n) (hr : Row W A (ints (natI L))) :
    Calls Try.prog 35 #[.slice A n c, .int .i64 (i : Int), .int .i64 (k : Int)] W (Plain (fracV (hAt M i k)) W) := by
  have bx0 := Box.new W 26 #[.int .i64 0, .int .i64 0]
  have hb0 := (Below.refl W.heap.size W).alloc (Nat.le_refl _) (.cells #[.int .i64 0, .int .i64 0] 26)
  by_cases hik : i = k
  · subst hik
    have hd := hH.diag i (by omega)
    have HF := hide (fun w5 => show Calls Try.prog _ #[.int .i64 0, .int .i64 1] w5 (Plain (fracV (0, 1)) w5) from frac_c 0 1 w5 (by omega) (by omega))
    rw [hd]
    clear hH hr hL hd
    go_enter Try.func35, Try.ntmps35
    go_wp2_with fail
    refine (HF.out _).mono ?_
    rintro e w1 ⟨rfl, b1⟩
    obtain ⟨c0, f0, c1, f1, c2, f2, bx, hb⟩ := frac_put (bx0.then b1) (below_then hb0 hb0.size b1) (Nat.le_refl _) (.int .i64 0) (.int .i64 1)
    clear bx0 b1
    go_wp2_with fail
    refine bodyPost_ret (res_frac rfl _ _ W.heap.size (.int .i64 0) (.int .i64 1) rfl bx) rfl ?_
    exact ⟨rfl, hb⟩
  · obtain ⟨d, hd, hcol⟩ := hH.col k (by omega)
    obtain ⟨u, hu, hnum⟩ := hcol i (by omega) hik
    obtain ⟨⟨u0, u1⟩, ⟨d0, d1⟩, hfr, hokf⟩ := num_is hnum
    have hn9 : n ≤ 9 := by have := hL.len; omega
    have hpc : ∀ j : Nat, pcN 9 (L[j]?.getD 0) ≤ 9 := fun j => bits9_le (hL.bd j)
    have hml : (restL n k).length = n - 1 := by rw [rest_len, if_pos hk]
    have hat := rest_at hik hi
    have hn2 := hH.two
    obtain ⟨mm, hmm⟩ : ∃ mm, n - 1 = mm := ⟨_, rfl⟩
    rw [hmm] at hml
    have hm1 : 1 ≤ mm := by omega
    have hm9 : mm ≤ 8 := by omega
    rw [hn, hmm] at hd hu
    have HD := hide (fun (A : Option Addr) (c : Nat) (vs : List Value) (w5 : World) (h1 : Row w5 A vs) (h2 : InRows w5 vs mm (hitM L k)) => det_c A c vs mm (hitM L k) d w5 (by rw [hitM_len, hn, hml]) hm1 (by omega) h1 h2 (hitM_in hpc k) hd)
    have HO := hide (fun (A : Option Addr) (c : Nat) (vs : List Value) (w5 : World) (h1 : Row w5 A vs) (h2 : InRows w5 vs mm (hitO L i k)) => det_c A c vs mm (hitO L i k) u w5 (by rw [hitO_len, hn, hml]) hm1 (by omega) h1 h2 (hitO_in hpc i k) hu)
    have HFR := hide (fun w5 => show Calls Try.prog _ #[.int .i64 u, .int .i64 d] w5 (Plain (fracV (hAt M i k)) w5) by
      have := frac_c u.toNat d.toNat w5 (by omega) (by omega)
      rw [hfr] at this
      rwa [show ((u.toNat : Nat) : Int) = u by omega, show ((d.toNat : Nat) : Int) = d by omega] at this)
    have HB := hide (fun a b (hb : b < n) w5 => specBit9_c (L[a]?.getD 0) b (hL.bd a) (by omega) w5)
    have HP := hide (fun a w5 => bits9_c (L[a]?.getD 0) (hL.bd a) w5)
    have HPC := hide hpc
    have HR := hide hr
    have HOA := hide (fun a (ha : a < mm) => hitO_at (L := L) hik (by omega) (a := a) (by rw [hn, hml]; exact ha))
    have HHM := hide (rows_all L k)
    have HML := hide hml
    have HN := hide hn
    have HAT := hide hat
    have HIK := hide hik
    generalize hAt M i k = f at *
    clear hL hH hr hcol hnum hfr hokf hpc hd hu u0 u1 d0 d1 hat hml
    have hz0 : (W.alloc (.cells #[.int .i64 0, .int .i64 0] 26)).heap.size = W.heap.size + 1 := by simp
    have hoh := (World.ownsRow_made (W.alloc (.cells #[.int .i64 0, .int .i64 0] 26)) (base := W.heap.size) (e := 42) (size := 1) #[] 0 (by omega) (by simp [maxLen]) rfl).alloc (.cells #[] 3)
    have hor := World.ownsRow_made ((W.alloc (.cells #[.int .i64 0, .int .i64 0] 26)).alloc (.cells #[] 42)) (base := W.heap.size) (e := 3) (size := 1) #[] 0 (by simp; omega) (by simp [maxLen]) rfl
    have hbx := (bx0.alloc (.cells #[] 42)).alloc (.cells #[] 3)
    have hbb := (hb0.alloc (by omega) (.cells #[] 42)).alloc (by simp; omega) (.cells #[] 3)
    have hti : ((i : Int) == (k : Int)) = false := by rw [beq_eq_false_iff_ne]; omega
    go_enter Try.func35, Try.ntmps35
    go_wp2_with fail
    go_loopw [7, 8, 9, 10] (fun hv rv tv av wr => ∃ (a q : Nat) (ps : List (Nat × Nat)), a ≤ n ∧ av = .int .i64 (a : Int) ∧ tv = .int .i64 (atI i k a) ∧ Hid ((restL a k).length = q) ∧ ps.length = q ∧ wr.ownsRow W.heap.size 42 1 hv q (vsOf mm ps) ∧ RowsAt wr W.heap.size mm ps (rowsTo L k a) ∧
      wr.ownsRow W.heap.size 3 1 rv q (ints (natI (rightTo L k a))) ∧ Hid (∀ j (hj : j < ps.length), rv.ownBlock ≠ some ps[j].1) ∧ Box wr W.heap.size 26 #[.int .i64 0, .int .i64 0] ∧ Below W.heap.size W wr) (fun _ _ _ av _ => n - (intOf av).toNat)
    case atStart => exact ⟨0, 0, [], Nat.zero_le _, rfl, rfl, rfl, rfl, by simpa [vsOf] using hoh, ⟨by simp [rowsTo, restL], fun j hj => absurd hj (by simp), fun j j' hj => absurd hj (by simp)⟩, by simpa [rightTo, restL, natI, ints] using hor, fun j hj => absurd hj (by simp), hbx, hbb⟩
    case round =>
      clear hoh hor hbx hbb bx0 hb0 hz0
      obtain ⟨a, q, ps, ha, rfl, rfl, hql, hpl, hoh, hrows, hor, hoff, bx, hb⟩ := hrel
      obtain ⟨wo, rfl⟩ : ∃ wo : World, wo = wr := ⟨_, rfl⟩
      obtain ⟨Ah, ch, rfl, _⟩ := own_row hoh
      obtain ⟨Ar, cr, rfl, _⟩ := own_row hor
      have hq9 : q ≤ 9 := by rw [← hql.out, rest_len]; split <;> omega
      by_cases hlt : a < n
      · have a1 : (a : Int) < (n : Int) := by omega
        have HLT := hide hlt
        by_cases hak : a = k
        · subst hak
          have hrs := rest_same (a := a) (k := a) rfl
          have hai : atI i a (a + 1) = atI i a a := by
            unfold atI
            by_cases h : i < a
            · rw [if_pos h, if_pos (by omega)]
            · rw [if_neg h, if_neg (by omega)]
          have HAI := hide hai.symm
          have HRS := hide hrs
          clear hai hrs
          go_wp2_with fail
          exact ⟨⟨a + 1, q, ps, HLT.out, by go_num, by rw [HAI.out], by rw [HRS.out]; exact hql, hpl, hoh, by unfold rowsTo at hrows ⊢; rw [HRS.out]; exact hrows, by unfold rightTo at hor ⊢; rw [HRS.out]; exact hor, hoff, bx, hb⟩, by simp [intOf]; omega⟩
        · have tak : ((a : Int) == (k : Int)) = false := by rw [beq_eq_false_iff_ne]; omega
          have hrm := rest_more (a := a) (k := k) hak
          have HRS := hide (show (restL (a + 1) k).length = q + 1 by rw [hrm, List.length_append, hql.out]; rfl)
          have HRW := hide (show rowsTo L k (a + 1) = rowsTo L k a ++ [hitR L k a n] by unfold rowsTo; rw [hrm, List.map_append, hn]; rfl)
          have HRT := hide (show rightTo L k (a + 1) = rightTo L k a ++ [pcN 9 (L[a]?.getD 0)] by unfold rightTo; rw [hrm, List.map_append]; rfl)
          have HRO := hide (fun b (h : b = k) => show hitR L k a (b + 1) = hitR L k a b by unfold hitR; rw [rest_same h])
          have HRB := hide (fun b (h : b ≠ k) => show hitR L k a (b + 1) = hitR L k a b ++ [hitE L a b] by unfold hitR; rw [rest_more h, List.map_append]; rfl)
          have HLO := hide (fun b r (h : b = k) (h2 : (restL b k).length = r) => show (restL (b + 1) k).length = r by rw [rest_same h, h2])
          have HLB := hide (fun b r (h : b ≠ k) (h2 : (restL b k).length = r) => show (restL (b + 1) k).length = r + 1 by rw [rest_more h, List.length_append, h2]; rfl)
          have HL9 := hide (fun b r (hb : b ≤ n) (h2 : (restL b k).length = r) => show r ≤ 9 by rw [← h2, rest_len]; split <;> omega)
          have HEQ := hide (show hitE L a a = ((pcN 9 (L[a]?.getD 0) : Nat) : Int) from if_pos rfl)
          have HEN := hide (fun b (h : a ≠ b) => show hitE L a b = -((bitN (L[a]?.getD 0) b : Nat) : Int) from if_neg h)
          have HBa := hide (fun b (hb : b < n) w5 => HB.out a b hb w5)
          have HPa := hide (fun w5 => HP.out a w5)
          have hpca := HPC.out a
          have hbit := hide (fun b => bitN_two (L[a]?.getD 0) b)
          obtain ⟨tv, htv, HAT2⟩ : ∃ tv : Int, (if a = i then ((q : Nat) : Int) else atI i k a) = tv ∧ Hid (tv = atI i k (a + 1)) := ⟨_, rfl, by
            show _ = _
            unfold atI
            by_cases e : a = i
            · subst e; rw [if_pos rfl, if_pos (by omega), hql.out]
            · rw [if_neg e]
              by_cases h : i < a
              · rw [if_pos h, if_pos (by omega)]
              · rw [if_neg h, if_neg (by omega)]⟩
          generalize pcN 9 (L[a]?.getD 0) = pc at *
          have hrw := HR.out.below hb
          obtain ⟨ad, rfl, hcl⟩ := hrw.int (k := a) (by rw [natI_len]; omega)
          rw [natI_at] at hcl
          have HCW := hide (fun w5 (h5 : Below W.heap.size W w5) => show w5.cell? (ad.add a) = some (.int .i64 ((L[a]?.getD 0 : Nat) : Int)) by
            obtain ⟨_, ⟨rfl⟩, hc⟩ := (HR.out.below h5).int (k := a) (by rw [natI_len]; omega)
            rwa [natI_at] at hc)
          generalize L[a]?.getD 0 = la at *
          have a0 : (0 : Int) ≤ (a : Int) := by omega
          have HOH := hide hoh
          have HRWS := hide hrows
          have HOR := hide hor
          have HBX := hide bx
          have HBW := hide hb
          have zo := hb.size
          have zr := hide (own_lt hor)
          have zl := hide (fun j hj => (hrows.lt j hj).2)
          have zh := hide (own_lt hoh)
          have hcla := World.block_lt_of_cell? wo _ hcl
          have HCL := hide hcl
          clear hrm hak hoh hrows hor bx hb hrw hcl
          obtain ⟨tb, tai, htv⟩ : ∃ tb : Bool, ((a : Int) == (i : Int)) = tb ∧ (if tb = true then ((q : Nat) : Int) else atI i k a) = tv := by
            by_cases e : a = i
            · exact ⟨true, by rw [beq_iff_eq]; omega, by rw [if_pos rfl, ← htv, if_pos e]⟩
            · exact ⟨false, by rw [beq_eq_false_iff_ne]; omega, by rw [if_neg (by simp), ← htv, if_neg e]⟩
          clear HIK
          cases tb
          all_goals
            simp only [if_true, Bool.false_eq_true, if_false] at htv
            have HTV := hide htv
            clear htv
            go_wp2_with fail
            rw [HTV.out]
            go_loopw [11, 12] (fun v bv wj => ∃ b r : Nat, b ≤ n ∧ bv = .int .i64 (b : Int) ∧ Hid ((restL b k).length = r) ∧ wj.ownsRow wo.heap.size 3 1 v r (ints (hitR L k a b)) ∧ Below wo.heap.size wo wj) (fun _ bv _ => n - (intOf bv).toNat)
            case atStart => exact ⟨0, 0, Nat.zero_le _, rfl, rfl, by simpa [hitR, restL, ints] using World.ownsRow_made wo (e := 3) (size := 1) #[] 0 (Nat.le_refl _) (by simp [maxLen]) rfl, (Below.refl _ _).alloc (Nat.le_refl _) _⟩
            case round =>
              obtain ⟨b, r, hbn, rfl, hrl, hov, hbv⟩ := hrel
              obtain ⟨wi, rfl⟩ : ∃ wi : World, wi = wr := ⟨_, rfl⟩
              obtain ⟨Av, cv, rfl, _⟩ := own_row hov
              by_cases hbl : b < n
              · have b1 : (b : Int) < (n : Int) := by omega
                have HBL := hide hbl
                by_cases hbk : b = k
                · have tbk : ((b : Int) == (k : Int)) = true := by rw [beq_iff_eq]; omega
                  have e1 := HRO.out b hbk
                  have E2 := hide (HLO.out b r hbk hrl.out)
                  rw [← e1] at hov
                  have HOV := hide hov
                  clear e1 hov hbk
                  go_wp2_with fail
                  exact ⟨⟨b + 1, r, HBL.out, by go_num, E2.out, HOV.out, hbv⟩, by simp [intOf]; omega⟩
                · have tbk : ((b : Int) == (k : Int)) = false := by rw [beq_eq_false_iff_ne]; omega
                  have e1 := hide (HRB.out b hbk)
                  have e2 := hide (HLB.out b r hbk hrl.out)
                  have hl9 := HL9.out b r hbn hrl.out
                  have hcw := (hbv.cell hcla).trans HCL.out
                  have HBb := hide (HBa.out b HBL.out)
                  by_cases hab : a = b
                  · have tab : ((a : Int) == (b : Int)) = true := by rw [beq_iff_eq]; omega
                    have e3 := hide (show hitR L k a (b + 1) = hitR L k a b ++ [(pc : Int)] by rw [e1.out, ← hab, HEQ.out])
                    have hvc := hide (hov.alloc (.cells #[.int .i64 (pc : Int)] 3))
                    have hbc := hbv.alloc hbv.size (.cells #[.int .i64 (pc : Int)] 3)
                    rcases hbit.out b with hbt | hbt
                    all_goals
                      rw [hbt] at HBb
                      clear hbt hab hbk
                      go_wp2_with fail
                      refine (HBb.out _).mono ?_
                      rintro e w5 ⟨rfl, rfl⟩
                      go_wp2_with fail
                      refine (HPa.out _).mono ?_
                      rintro e w6 ⟨rfl, rfl⟩
                      go_wp2_with ((at_builtin; go_loud (refine put_own rfl (.tmp 62) (.tmp 64) rfl Try.underlying42 elem_int' rfl hvc.out rfl (m := 1) (news := [.int .i64 (pc : Int)]) rfl (row_new _ _ _ rfl) (by simp [Value.oneCell']) (by omega) (by omega) hbc.size ?_; intro v9 w9 own9 hg9 ho9)))
                      exact ⟨⟨b + 1, r + 1, HBL.out, by go_num, e2.out, by rw [e3.out]; simpa [ints] using own9, below_grown hbc hbc.size hvc.out (Nat.le_refl _) hg9⟩, by simp [intOf]; omega⟩
                  · have tab : ((a : Int) == (b : Int)) = false := by rw [beq_eq_false_iff_ne]; omega
                    rcases hbit.out b with hbt | hbt
                    · have e3 := hide (show hitR L k a (b + 1) = hitR L k a b ++ [0] by rw [e1.out, HEN.out b hab, hbt]; rfl)
                      have hvc := hide (hov.alloc (.cells #[.int .i64 0] 3))
                      have hbc := hbv.alloc hbv.size (.cells #[.int .i64 0] 3)
                      rw [hbt] at HBb
                      clear hbt hab hbk
                      go_wp2_with fail
                      refine (HBb.out _).mono ?_
                      rintro e w5 ⟨rfl, rfl⟩
                      go_wp2_with ((at_builtin; go_loud (refine put_own rfl (.tmp 62) (.tmp 64) rfl Try.underlying42 elem_int' rfl hvc.out rfl (m := 1) (news := [.int .i64 0]) rfl (row_new _ _ _ rfl) (by simp [Value.oneCell']) (by omega) (by omega) hbc.size ?_; intro v9 w9 own9 hg9 ho9)))
                      exact ⟨⟨b + 1, r + 1, HBL.out, by go_num, e2.out, by rw [e3.out]; simpa [ints] using own9, below_grown hbc hbc.size hvc.out (Nat.le_refl _) hg9⟩, by simp [intOf]; omega⟩
                    · have e3 := hide (show hitR L k a (b + 1) = hitR L k a b ++ [-1] by rw [e1.out, HEN.out b hab, hbt]; rfl)
                      have hvc := hide (hov.alloc (.cells #[.int .i64 (-1)] 3))
                      have hbc := hbv.alloc hbv.size (.cells #[.int .i64 (-1)] 3)
                      rw [hbt] at HBb
                      clear hbt hab hbk
                      go_wp2_with fail
                      refine (HBb.out _).mono ?_
                      rintro e w5 ⟨rfl, rfl⟩
                      go_wp2_with ((at_builtin; go_loud (refine put_own rfl (.tmp 62) (.tmp 64) rfl Try.underlying42 elem_int' rfl hvc.out rfl (m := 1) (news := [.int .i64 (-1)]) rfl (row_new _ _ _ rfl) (by simp [Value.oneCell']) (by omega) (by omega) hbc.size ?_; intro v9 w9 own9 hg9 ho9)))
                      exact ⟨⟨b + 1, r + 1, HBL.out, by go_num, e2.out, by rw [e3.out]; simpa [ints] using own9, below_grown hbc hbc.size hvc.out (Nat.le_refl _) hg9⟩, by simp [intOf]; omega⟩
              · obtain rfl : b = n := by omega
                obtain rfl : mm = r := HML.out.symm.trans hrl.out
                obtain ⟨b2, c2, e2, hb2⟩ := own_intv hov (by omega)
                injection e2 with e2 _ e3
                subst e2
                subst e3
                have hh2 := own_below HOH.out hbv
                have hr2 := HRWS.out.below hbv
                have ho2 := own_below HOR.out hbv
                have hx2 := HBX.out.then hbv
                have hbb2 := below_then HBW.out HBW.out.size hbv
                have zb2 := (hov.lt b2 rfl).2
                have X1 := hide (hov.alloc (.cells #[.slice (some ⟨b2, 0, none⟩) mm cv] 42))
                have X2 := hide (hh2.alloc (.cells #[.slice (some ⟨b2, 0, none⟩) mm cv] 42))
                have X3 := hide (hr2.kept (World.grownBy_alloc wi (.cells #[.slice (some ⟨b2, 0, none⟩) mm cv] 42) none) (fun i hi => by simp))
                have X4 := hide (hbb2.alloc hbb2.size (.cells #[.slice (some ⟨b2, 0, none⟩) mm cv] 42))
                have X5 := hide (ho2.alloc (.cells #[.slice (some ⟨b2, 0, none⟩) mm cv] 42))
                have X6 := hide (hx2.alloc (.cells #[.slice (some ⟨b2, 0, none⟩) mm cv] 42))
                have zx : wi.heap.size < (wi.alloc (.cells #[.slice (some ⟨b2, 0, none⟩) mm cv] 42)).heap.size := by simp
                have hb0 := hbv.size
                have hcw := (hbv.cell hcla).trans HCL.out
                have hcx : (wi.alloc (.cells #[.slice (some ⟨b2, 0, none⟩) mm cv] 42)).cell? (ad.add a) = some (.int .i64 (la : Int)) := (World.cell?_alloc_lt wi _ _ (Nat.lt_of_lt_of_le hcla hb0)).trans hcw
                clear hov hbv hh2 hr2 ho2 hx2 hbb2 hcw
                go_wp2_with ((at_builtin; go_loud (refine put_own rfl (.tmp 66) (.tmp 68) rfl Try.underlying75 elem_rowv rfl X2.out rfl (m := 1) (news := [.slice (some ⟨b2, 0, none⟩) mm cv]) rfl (row_new _ _ _ rfl) (one_row _ rfl) (by omega) (by omega) X4.out.size ?_; intro v4 w4 own4 hg4 ho4; have hb4 := below_grown X4.out X4.out.size X2.out (Nat.le_refl _) hg4; have hc4 := HCW.out _ hb4)))
                refine (HPa.out _).mono ?_
                rintro e w5 ⟨rfl, rfl⟩
                replace hg4 : (wi.alloc (.cells #[.slice (some ⟨b2, 0, none⟩) mm cv] 42)).grownBy w4 (Value.slice Ah q ch).ownBlock := hg4
                obtain ⟨A4, c4, rfl, _⟩ := own_row own4
                have r4 := rows_tyk X3.out X2.out (by decide) hg4
                have o4 := own_tyk X1.out X2.out (by decide) hg4
                have g4 := own_tyk X5.out X2.out (by decide) hg4
                have x4 := X6.out.grown hg4 (own_ne X2.out X6.out (by decide))
                have zs := hg4.size
                have Y2 := hide (own4.alloc (.cells #[.int .i64 (pc : Int)] 3))
                have Y3 := hide (r4.kept (World.grownBy_alloc w4 (.cells #[.int .i64 (pc : Int)] 3) none) (fun j hj => by simp))
                have Y4 := hide (hb4.alloc hb4.size (.cells #[.int .i64 (pc : Int)] 3))
                have Y5 := hide (g4.alloc (.cells #[.int .i64 (pc : Int)] 3))
                have Y6 := hide (x4.alloc (.cells #[.int .i64 (pc : Int)] 3))
                have Y1 := hide (o4.alloc (.cells #[.int .i64 (pc : Int)] 3))
                have zy : w4.heap.size < (w4.alloc (.cells #[.int .i64 (pc : Int)] 3)).heap.size := by simp
                clear own4 hg4 r4 o4 g4 x4 hb4 X1 X2 X3 X4 X5 X6 ho4
                go_wp2_with ((at_builtin; go_loud (refine put_own rfl (.tmp 70) (.tmp 76) rfl Try.underlying42 elem_int' rfl Y5.out rfl (m := 1) (news := [.int .i64 (pc : Int)]) rfl (row_new _ _ _ rfl) (by simp [Value.oneCell']) (by omega) (by omega) Y4.out.size ?_; intro v7 w7 own7 hg7 ho7)))
                replace hg7 : (w4.alloc (.cells #[.int .i64 (pc : Int)] 3)).grownBy w7 (Value.slice Ar q cr).ownBlock := hg7
                replace ho7 : v7.ownBlock = (Value.slice Ar q cr).ownBlock ∨ v7.ownBlock = some (w4.alloc (.cells #[.int .i64 (pc : Int)] 3)).heap.size := ho7
                have hzr : ∀ j, (Value.slice Ar q cr).ownBlock = some j → j < wo.heap.size := zr.out
                have r7 := Y3.out.kept hg7 (fun j hj e => hoff.out j hj e)
                have o7 := own_free1 Y1.out hg7 (fun e => by have := hzr b2 e.symm; omega)
                have h7 := own_tyk Y2.out Y5.out (by decide) hg7
                have x7 := Y6.out.grown hg7 (own_ne Y5.out Y6.out (by decide))
                refine ⟨⟨a + 1, q + 1, ps ++ [(b2, cv)], HLT.out, by go_num, by rw [HAT2.out], HRS.out, by simp [hpl], by simpa [vsOf] using h7, by rw [HRW.out]; exact r7.snoc (own_mono o7 zo) (fun j hj => by have := zl.out j hj; omega), by rw [HRT.out]; simpa [natI, ints] using own7, fun j hj => ?_, x7, below_grown Y4.out Y4.out.size Y5.out (Nat.le_refl _) hg7⟩, by simp [intOf]; omega⟩
                by_cases e : j < ps.length
                · rw [List.getElem_append_left e]
                  rcases ho7 with h | h
                  · rw [h]; exact hoff.out j e
                  · rw [h]
                    intro e'
                    have := zl.out j e
                    injection e' with e'
                    omega
                · have e' : j = ps.length := by simp at hj; omega
                  subst e'
                  rw [List.getElem_append_right (Nat.le_refl _)]
                  simp only [Nat.sub_self, List.getElem_cons_zero]
                  rcases ho7 with h | h
                  · rw [h]
                    intro e'
                    have := hzr b2 e'
                    omega
                  · rw [h]
                    intro e'
                    injection e' with e'
                    omega
      · obtain rfl : n = a := by omega
        obtain rfl : mm = q := HML.out.symm.trans hql.out
        have hai : atI i k n = ((restL i k).length : Int) := if_pos hi
        rw [hai]
        rw [← hn, HHM.out] at hrows
        obtain ⟨gm, cm, eh, hgm⟩ := own_rowv hoh (by omega)
        injection eh with eh _ ec
        subst eh
        subst ec
        obtain ⟨gr, cr2, er, hgr⟩ := own_intv hor (by omega)
        injection er with er _ ec
        subst er
        subst ec
        have hat : (restL i k).length < mm := by rw [← HML.out]; exact HAT.out
        obtain ⟨t, ht⟩ : ∃ t, (restL i k).length = t := ⟨_, rfl⟩
        rw [ht] at hat HOA
        rw [ht]
        have hmlen : (hitO L i k).length = mm := by rw [hitO_len, hn]; exact HML.out
        have hmrow := hide (fun j (hj : j < mm) => hitM_row (L := L) (k := k) (a := j) (by rw [hn, HML.out]; exact hj))
        have HOH := hide hoh
        have HRWS := hide hrows
        have HOR := hide hor
        have HBX := hide bx
        have HBW := hide hb
        have zo := hb.size
        have hor0 := World.ownsRow_made wo (base := wo.heap.size) (e := 42) (size := 1) #[] 0 (Nat.le_refl _) (by simp [maxLen]) rfl
        have hbo := (Below.refl wo.heap.size wo).alloc (Nat.le_refl _) (.cells #[] 42)
        clear hoh hrows hor bx hb hoff hai ht
        go_wp2_with fail
        go_loopw [14, 15] (fun ov av wr => ∃ (a : Nat) (qs : List (Nat × Nat)), a ≤ mm ∧ av = .int .i64 (a : Int) ∧ qs.length = a ∧ wr.ownsRow wo.heap.size 42 1 ov a (vsOf mm qs) ∧ RowsAt wr wo.heap.size mm qs ((hitO L i k).take a) ∧ Below wo.heap.size wo wr) (fun _ av _ => mm - (intOf av).toNat)
        case atStart => exact ⟨0, [], Nat.zero_le _, rfl, rfl, hor0, ⟨by simp, fun j hj => absurd hj (by simp), fun j j' hj => absurd hj (by simp)⟩, hbo⟩
        case round =>
          clear hor0 hbo
          obtain ⟨a, qs, ha, rfl, hql2, hov, hqs, hb⟩ := hrel
          obtain ⟨wi, rfl⟩ : ∃ wi : World, wi = wr := ⟨_, rfl⟩
          obtain ⟨Ao, co, rfl, _⟩ := own_row hov
          by_cases hlt2 : a < mm
          · have a1 : (a : Int) < (mm : Int) := by omega
            have a0 : (0 : Int) ≤ (a : Int) := by omega
            have HLT2 := hide hlt2
            have hpa : a < ps.length := by omega
            have hoh2 := (own_below HOH.out hb).alloc (.cells #[] 3)
            obtain ⟨hc1, _⟩ := hdr_cell hoh2 hpa
            have hrw2 := ((HRWS.out.below hb).own a hpa).alloc (.cells #[] 3)
            have R2 := hide (own_reads hrw2)
            have hor2 := own_below HOR.out hb
            have hta := show (hitO L i k).take (a + 1) = (hitO L i k).take a ++ [(hitO L i k)[a]?.getD []] by
              rw [List.take_succ_eq_append_getElem (by omega), List.getElem?_eq_getElem (by omega)]; rfl
            rw [HOA.out a hlt2] at hta
            have hrl := hmrow.out a hlt2
            rw [hn, HML.out] at hrl
            have hgrt : ∀ w5, Below wi.heap.size wi w5 → w5.cell? ⟨gr, a, none⟩ = some (.int .i64 (((rightTo L k L.length)[a]?.getD 0 : Nat) : Int)) := fun w5 h5 => by
              have := (own_nat (own_below hor2 h5) (k := a) hlt2 0).1
              rw [hn]; exact this
            obtain ⟨row, hrow⟩ : ∃ row, (hitM L k)[a]?.getD [] = row := ⟨_, rfl⟩
            rw [hrow] at R2 hta hrl
            have HGR := hide hgrt
            generalize (rightTo L k L.length)[a]?.getD 0 = rv at *
            have hv1 := hide (World.ownsRow_made wi (e := 3) (size := 1) #[] 0 (Nat.le_refl _) (by simp [maxLen]) rfl)
            have zi := hb.size
            have hb1 := hide (hb.alloc hb.size (.cells #[] 3))
            have hbi := hide ((Below.refl wi.heap.size wi).alloc (Nat.le_refl _) (.cells #[] 3))
            have ho1 := hide (hov.alloc (.cells #[] 3))
            have hq1 := hide (hqs.kept (World.grownBy_alloc wi (.cells #[] 3) none) (fun j hj => by simp))
            have zl := hide (fun j hj => (hqs.lt j hj).2)
            have zh := hide (own_lt hov)
            have hz1 : wi.heap.size < (wi.alloc (.cells #[] 3)).heap.size := by simp
            have HTA := hide hta
            clear hoh2 hrw2 hor2 hov hqs hb hrow hgrt hta
            go_wp2_with (first
              | (at_builtin; refine put_own rfl (.tmp 85) (.tmp 89) rfl Try.underlying42 elem_int' rfl hv1.out rfl (m := mm) (news := ints row) (by simp [hrl]) R2.out (by intro u hu; obtain ⟨b, _, rfl⟩ := List.mem_map.1 hu; rfl) (by omega) (by omega) (by omega) ?_; intro v2 w2 own2 hg2 ho2; have own2 : w2.ownsRow wi.heap.size 3 1 v2 mm (ints row) := (by simpa using own2); obtain ⟨b2, c2, rfl, hb2⟩ := own_intv own2 (by omega); replace hg2 : (wi.alloc (.cells #[] 3)).grownBy w2 (some wi.heap.size) := hg2; have h2 := own_tyk (u := .slice (some ⟨wi.heap.size, 0, none⟩) 0 0) ho1.out hv1.out (by decide) hg2; have r2 := hq1.out.kept hg2 (fun j hj e => by have := zl.out j hj; injection e with e; omega); have hbb2 := below_grown hb1.out hb1.out.size hv1.out zi hg2; have hbi2 := below_grown hbi.out hbi.out.size hv1.out (Nat.le_refl _) hg2; have hcr := HGR.out w2 hbi2; obtain ⟨q1, q2, q3, q4⟩ := own_int own2 hat ((rv : Nat) : Int); have h3 := own_tyk (u := .slice (some ⟨b2, 0, none⟩) mm c2) h2 own2 (by decide) q4; have r3 := r2.kept q4 (fun j hj e => by have := zl.out j hj; injection e with e; omega); have hbb3 := hbb2.grown q4 hbb2.size (fun z e => by injection e with e; omega); have zw := hg2.size; have zb2 := (q3.lt b2 rfl).2; have X1 := hide (q3.alloc (.cells #[.slice (some ⟨b2, 0, none⟩) mm c2] 42)); have X2 := hide (h3.alloc (.cells #[.slice (some ⟨b2, 0, none⟩) mm c2] 42)); have X3 := hide (r3.kept (World.grownBy_alloc _ (.cells #[.slice (some ⟨b2, 0, none⟩) mm c2] 42) none) (fun j hj => by simp)); have X4 := hide (hbb3.alloc hbb3.size (.cells #[.slice (some ⟨b2, 0, none⟩) mm c2] 42)); clear own2 hg2 ho2 h2 r2 hbb2 hbi2 q3 q4 h3 r3 hbb3)
              | (at_builtin; refine put_own rfl (.tmp 98) (.tmp 100) rfl Try.underlying75 elem_rowv rfl X2.out rfl (m := 1) (news := [.slice (some ⟨b2, 0, none⟩) mm c2]) rfl (row_new _ _ _ (by first | rfl | simp)) (one_row _ rfl) (by omega) (by omega) X4.out.size ?_; intro v4 w4 own4 hg4 ho4))
            replace hg4 : ((w2.setCell ⟨b2, t, none⟩ (.int .i64 ((rv : Nat) : Int))).alloc (.cells #[.slice (some ⟨b2, 0, none⟩) mm c2] 42)).grownBy w4 (Value.slice Ao a co).ownBlock := hg4
            have r4 := rows_tyk X3.out X2.out (by decide) hg4
            have o4 := own_tyk X1.out X2.out (by decide) hg4
            exact ⟨⟨a + 1, qs ++ [(b2, c2)], HLT2.out, by go_num, by simp [hql2], by simpa [vsOf] using own4, by rw [HTA.out]; exact r4.snoc (own_mono o4 zi) (fun j hj => by have := zl.out j hj; omega), below_grown X4.out X4.out.size X2.out (Nat.le_refl _) hg4⟩, by simp [intOf]; omega⟩
          · obtain rfl : a = mm := by omega
            rw [List.take_of_length_le (by omega)] at hqs
            have hb4 := below_then HBW.out zo hb
            have RO := hide (own_reads hov)
            have RM := hide (fun w5 (h5 : Below wi.heap.size wi w5) => own_reads (own_below (own_below HOH.out hb) h5))
            have INR := hide (in_rows hqs)
            have IM := hide (fun w5 (h5 : Below wi.heap.size wi w5) => in_rows ((HRWS.out.below hb).below h5))
            have bx4 := HBX.out.then hb
            clear hov hqs hb
            go_wp2_with fail
            refine (HO.out _ _ _ _ RO.out INR.out).mono ?_
            rintro e w5 ⟨rfl, b5⟩
            have hb5 := below_then hb4 hb4.size b5
            have bx5 := bx4.then b5
            go_wp2_with fail
            refine (HD.out _ _ _ _ (RM.out _ b5) (IM.out _ b5)).mono ?_
            rintro e w6 ⟨rfl, b6⟩
            have hb6 := below_then hb5 hb5.size b6
            have bx6 := bx5.then b6
            go_wp2_with fail
            refine (HFR.out _).mono ?_
            rintro e w7 ⟨rfl, b7⟩
            obtain ⟨c0, f0, c1, f1, c2, f2, bx, hb⟩ := frac_put (bx6.then b7) (below_then hb6 hb6.size b7) (Nat.le_refl _) (.int .i64 (f.1 : Int)) (.int .i64 (f.2 : Int))
            clear bx4 bx5 bx6 b5 b6 b7
            go_wp2_with fail
            refine bodyPost_ret (res_frac rfl _ _ W.heap.size (.int .i64 (f.1 : Int)) (.int .i64 (f.2 : Int)) rfl bx) rfl ?_
            exact ⟨rfl, hb⟩
end Go.Proofs.Ytoapmmmmdfmaeab

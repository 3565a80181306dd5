
/-
  The model's rooks cell by cell.
-/
import Derived.Test.YtlccohoblplddaaCellB
namespace Go.Proofs.Ytlccohoblplddaa
open Go.RowKit
set_option linter.unusedVariables false

theorem clr_sub : ∀ x : Fin 32, ∀ e : Fin 5, (x.val : Int) - bitV x.val e.val * ((2 ^ e.val : Nat) : Int) = ((clr e.val x.val : Nat) : Int) := by decide +kernel
theorem bitV_bd (x e : Nat) : 0 ≤ bitV x e ∧ bitV x e ≤ 1 := by unfold bitV; split <;> omega
theorem bitV_zero {x e : Nat} (h : x.testBit e = false) : bitV x e = 0 := by simp [bitV, h]
theorem bitV_one {x e : Nat} (h : x.testBit e = true) : bitV x e = 1 := by simp [bitV, h]
theorem bits_none {x n : Nat} (h32 : x < 2 ^ n) (h : ∀ d, d < n → x.testBit d = false) : x = 0 := by
  apply Nat.eq_of_testBit_eq
  intro d
  rw [Nat.zero_testBit]
  by_cases hd : d < n
  · exact h d hd
  · exact Nat.testBit_lt_two_pow (Nat.lt_of_lt_of_le h32 (Nat.pow_le_pow_right (by omega) (by omega)))

set_option maxHeartbeats 8000000 in
set_option maxRecDepth 100000 in
theorem byCell_c (n : Nat) (h1 : 1 ≤ n) (h5 : n ≤ 5) : ∀ (m : Nat) (R : List Nat), R.sum = m → R.length = n → (∀ x ∈ R, x < 2 ^ n) → ∀ (ad : Addr) (c : Nat) (w : World), Row w (some ad) (ints (natI R)) →
    Calls Try.prog 24 #[.slice (some ad) n c] w (Owns 3 1 (n + 1) (ints (rkL R)) w) := by
  have h32 : 2 ^ n ≤ 32 := Nat.le_trans (Nat.pow_le_pow_right (by omega) h5) (by decide)
  have hpos2 : 0 < 2 ^ n := Nat.two_pow_pos n
  intro m
  induction m using Nat.strongRecOn with
  | ind m ih =>
    intro R hsum hRl hRn ad c w hr
    have hRs : ∀ x ∈ R, x < 32 := fun x hx => Nat.lt_of_lt_of_le (hRn x hx) h32
    obtain ⟨i0, hi0, hz0, hz1, hz2⟩ := made_of (P := Try.prog) (e := 3) (z := .int .i64 0) (size := 1) (bytes := 8) (by kernel_rfl)
    have IH := hide ih
    have HS := hide hRs
    have HN := hide hRn
    have HM := hide hsum
    have H32 := hide h32
    have HP2 := hide hpos2
    clear ih hRs hsum hRn h32 hpos2
    go_enter Try.func24, Try.ntmps24
    go_wp2_with fail
    go_loopw [4] (fun i wr => ∃ r : Nat, r ≤ n ∧ i = .int .i64 (r : Int) ∧ Hid (∀ j, j < r → R[j]?.getD 0 = 0) ∧ w = wr) (fun i _ => n - (intOf i).toNat)
    case atStart => exact ⟨0, Nat.zero_le _, rfl, fun j hj => absurd hj (by omega), rfl⟩
    case round =>
      obtain ⟨r, hrn, rfl, hz, rfl⟩ := hrel
      by_cases hrl : r < n
      · have hxn := small_at HP2.out HN.out r
        have hx := Nat.lt_of_lt_of_le hxn H32.out
        have hXN := hide hxn
        clear hxn
        go_wp2_with fail
        go_loopw [5] (fun i wr => ∃ cn : Nat, cn ≤ n ∧ i = .int .i64 (cn : Int) ∧ Hid (∀ d, d < cn → (R[r]?.getD 0).testBit d = false) ∧ w = wr) (fun i _ => n - (intOf i).toNat)
        case atStart => exact ⟨0, Nat.zero_le _, rfl, fun j hj => absurd hj (by omega), rfl⟩
        case round =>
          obtain ⟨e, hen, rfl, hzc, rfl⟩ := hrel
          by_cases hel : e < n
          · obtain ⟨_, e0, hca⟩ := hr.int (k := r) (by simp [hRl]; exact hrl)
            injection e0 with e0
            subst e0
            rw [natI_at] at hca
            have HB := hide (fun w5 => bit_c (R[r]?.getD 0) e (by omega) (by omega) w5)
            have r0 : (0 : Int) ≤ (r : Int) := by omega
            have r1 : (r : Int) < (n : Int) := by omega
            have he5 : e < 5 := by omega
            cases hbit : (R[r]?.getD 0).testBit e with
            | false =>
              rw [bitV_zero hbit] at HB
              have hzc2 : Hid (∀ d, d < e + 1 → (R[r]?.getD 0).testBit d = false) := fun d hd => by
                by_cases h : d = e
                · subst h; exact hbit
                · exact hzc.out d (by omega)
              clear hzc hbit
              obtain ⟨x, hxe⟩ : ∃ x, R[r]?.getD 0 = x := ⟨_, rfl⟩
              rw [hxe] at hca HB
              clear hxe
              go_wp2_with fail
              refine (HB.out _).mono ?_
              rintro e1 w3 ⟨rfl, rfl⟩
              go_wp2_with fail
              exact ⟨⟨e + 1, hel, rfl, hzc2.out, trivial⟩, by simp [intOf]; omega⟩
            | true =>
              have hpos : 0 < R[r]?.getD 0 := by
                rcases Nat.eq_zero_or_pos (R[r]?.getD 0) with h | h
                · rw [h, Nat.zero_testBit] at hbit; cases hbit
                · exact h
              rw [bitV_one hbit] at HB
              obtain ⟨q1, q2, q3⟩ := clr_lt ⟨R[r]?.getD 0, hx⟩ ⟨e, he5⟩ hbit
              simp only at q1 q2 q3
              have hrR : r < R.length := by omega
              have hcs := hide (cell_sum (R := R) (i := r) (e := e) hrR q1)
              have hls := hide (lines_sum (R := R) (i := r) (e := e) hrR hpos)
              have hat := hide (fun k => rk_at HS.out hrR he5 hbit k)
              have HIC := hide (fun ad' c' w5 h5' => IH.out _ (by rw [← HM.out]; exact hcs.out) (cellP R r e) rfl (by simp [cellP, hRl]) (cell_small HN.out r e) ad' c' w5 h5')
              have HIL := hide (fun ad' c' w5 h5' => IH.out _ (by rw [← HM.out]; exact hls.out) (linesP R r e) rfl (by simp [linesP, hRl]) (lines_small HP2.out HN.out r e) ad' c' w5 h5')
              have lenS : (cellP R r e).length = n := by simp [cellP, hRl]
              have lenT : (linesP R r e).length = n := by simp [linesP, hRl]
              have hbS := hide (fun k => show rk (cellP R r e) 0 k ≤ 7776 from Nat.le_trans (rk_bd _ _ _) (by rw [lenS]; exact Nat.le_trans (Nat.pow_le_pow_right (by omega) h5) (by decide)))
              have hbT := hide (fun k => show rk (linesP R r e) 0 k ≤ 7776 from Nat.le_trans (rk_bd _ _ _) (by rw [lenT]; exact Nat.le_trans (Nat.pow_le_pow_right (by omega) h5) (by decide)))
              have hcell := hide (cell_ints R r e)
              have hval := hide (natI_at R r)
              have hlen := hide (show (natI R).length = n by simp [hRl])
              have hz0' := hide (show (natI R).set r 0 = natI (linesTo R r e 0) by rw [linesTo_zero]; exact natI_set R r 0)
              have hall := hide (show linesTo R r e n = linesP R r e by rw [← hRl]; exact linesTo_all R r e)
              have hsm := hide (fun k => small_at (by omega) (fun x hx => by
                rcases List.mem_or_eq_of_mem_set hx with h | h
                · exact HS.out x h
                · omega : ∀ x ∈ R.set r 0, x < 32) k)
              have HP := hide (fun w5 => specPower_c e (by omega) w5)
              have hpe := (pow_bd (n := e) (by omega)).2
              have hsub : Hid (((R[r]?.getD 0 : Nat) : Int) - ((2 ^ e : Nat) : Int) = ((clr e (R[r]?.getD 0) : Nat) : Int)) := by
                show _ = _
                have := q2
                have := q3
                generalize 2 ^ e = P at *
                omega
              have hclr := hide (fun (x : Nat) (hx : x < 32) => clr_sub ⟨x, hx⟩ ⟨e, he5⟩)
              have HBB := hide (fun (x : Nat) (hx : x < 32) (w5 : World) => bit_c x e (by omega) (by omega) w5)
              have hclt := hide (fun x => clr_le e x)
              clear q1 q2 q3 hbit hzc
              generalize hxx : R[r]?.getD 0 = x at *
              generalize hyy : clr e x = y at *
              have hyx : y ≤ x := by rw [← hyy]; exact hclt.out x
              generalize hP : 2 ^ e = P at *
              clear hxx hyy hP
              have ew : IntKind.i64.wrap ((x : Int) - (P : Int)) = (y : Int) := (IntWalk.i64_in _ (by omega)).trans hsub.out
              have oe := World.ownsRow_made (base := w.heap.size) (e := 3) (size := 1) w #[] 0 (Nat.le_refl _) (by simp [maxLen]) rfl
              have hbA := (Below.refl w.heap.size w).alloc (Nat.le_refl _) (.cells #[] 3)
              have hrA := hr.below hbA
              go_wp2_with fail
              refine (HB.out _).mono ?_
              rintro e1 w3 ⟨rfl, rfl⟩
              go_wp2_with ((at_builtin; refine put_own rfl (.tmp 33) (.tmp 34) rfl Try.underlying22 elem_int' rfl oe rfl (m := n) (news := ints (natI R)) (by simp [hRl]) hrA (one_ints _) (by omega) (by omega) hbA.size ?_; intro v2 w2 own2 hg2 ho2))
              have own2 : w2.ownsRow w.heap.size 3 1 v2 n (ints (natI R)) := by simpa using own2
              have b2 := below_grown hbA hbA.size oe (Nat.le_refl _) hg2
              obtain ⟨g1, c1, rfl, _, _, _, g11, g12⟩ := own_one own2 (by omega)
              have hc2 := own2.cellAt r (by omega)
              rw [at_ints (by rw [hlen.out]; exact hrl), hval.out] at hc2
              have hf2 := own2.frozenAt r
              clear oe hbA hrA hg2 ho2
              go_wp2_with fail
              refine wp_region_still_tail 10 (by kernel_rfl) (by kernel_rfl) ?_
              simp only [List.take_succ_cons, List.take_zero, List.drop_succ_cons, List.drop_zero]
              repeat still_step
              still_call ((HP.out _).mono (fun _ _ h => ⟨h.1, h.2.symm⟩))
              repeat still_step
              try refine wpStill_nil ?_
              have o2d := own2.drew
              have b2d := b2.drew
              have hc2d : w2.drew.cell? ⟨g1, r, none⟩ = some (.int .i64 (x : Int)) := hc2
              have hf2d : w2.drew.frozen? ⟨g1, r, none⟩ = false := hf2
              have g12d : g1 < w2.drew.heap.size := g12
              change wpList _ _ _ _ _ w2.drew
              clear own2 b2 hc2 hf2 g12
              generalize w2.drew = w3 at *
              obtain ⟨ost, gst⟩ := o2d.stored r (.int .i64 (y : Int))
              rw [ints_set3, hcell.out] at ost
              have bst := b2d.grown gst b2d.size (fun n e => by injection e with e; omega)
              have hz3 : (w3.setCell ⟨g1, r, none⟩ (.int .i64 (y : Int))).heap.size = w3.heap.size := by simp [World.setCell]
              have oe := World.ownsRow_made (base := w.heap.size) (e := 3) (size := 1) (w3.setCell ⟨g1, r, none⟩ (.int .i64 (y : Int))) #[] 0 bst.size (by simp [maxLen]) rfl
              have hbA := bst.alloc bst.size (.cells #[] 3)
              have hrA := hr.below hbA
              have ola := ost.alloc (.cells #[] 3)
              have hzA : ((w3.setCell ⟨g1, r, none⟩ (.int .i64 (y : Int))).alloc (.cells #[] 3)).heap.size = w3.heap.size + 1 := by rw [World.size_alloc, hz3]
              rw [hz3] at oe
              have HZA := hide hzA
              have OE := hide oe
              have HBA := hide hbA
              have OLA := hide ola
              clear ost gst bst hz3 oe hbA ola o2d b2d hzA
              go_wp2_with ((at_builtin; refine put_own rfl (.tmp 46) (.tmp 47) rfl Try.underlying22 elem_int' rfl OE.out rfl (m := n) (news := ints (natI R)) (by simp [hRl]) hrA (one_ints _) (by omega) (by omega) HBA.out.size ?_; intro v5 w5 own5 hg5 ho5))
              have own5 : w5.ownsRow w.heap.size 3 1 v5 n (ints (natI R)) := by simpa using own5
              have b5 := below_grown HBA.out HBA.out.size OE.out (Nat.le_refl _) hg5
              have less5 := own_free2 OLA.out hg5 (fun e => by
                have e' : some g1 = some w3.heap.size := e
                injection e' with e'; omega)
              obtain ⟨g2, c2, rfl, _, _, _, g21, g22⟩ := own_one own5 (by omega)
              have hg12 : g1 ≠ g2 := by
                rcases ho5 with h | h
                · have h' : some g2 = some w3.heap.size := h
                  injection h' with h'; omega
                · have h' : some g2 = some ((w3.setCell ⟨g1, r, none⟩ (.int .i64 (y : Int))).alloc (.cells #[] 3)).heap.size := h
                  rw [HZA.out] at h'
                  injection h' with h'; omega
              have hc5 := own5.cellAt r (by omega)
              rw [at_ints (by rw [hlen.out]; exact hrl), hval.out] at hc5
              have hf5 := own5.frozenAt r
              obtain ⟨ost, gst⟩ := own5.stored r (.int .i64 0)
              rw [ints_set3, hz0'.out] at ost
              have bst := b5.grown gst b5.size (fun n e => by injection e with e; omega)
              have lst := own_free2 less5 gst (fun e => hg12 (by injection (show some g1 = some g2 from e)))
              have Ost := hide ost
              have Bst := hide bst
              have Lst := hide lst
              clear ost gst bst lst hg5 ho5 less5 OE HBA OLA HZA hrA
              go_wp2_with fail
              go_simp
              go_wp2_with fail
              generalize w5.setCell ⟨g2, r, none⟩ (.int .i64 0) = w6 at *
              go_loopw [8] (fun i wr => ∃ k : Nat, k ≤ n ∧ i = .int .i64 (k : Int) ∧ wr.ownsRow w.heap.size 3 1 (.slice (some ⟨g2, 0, none⟩) n c2) n (ints (natI (linesTo R r e k))) ∧ wr.ownsRow w.heap.size 3 1 (.slice (some ⟨g1, 0, none⟩) n c1) n (ints (natI (cellP R r e))) ∧ Below w.heap.size w wr) (fun i _ => n - (intOf i).toNat)
              case atStart => exact ⟨0, Nat.zero_le _, rfl, Ost.out, Lst.out, Bst.out⟩
              case round =>
                clear Ost Lst Bst
                obtain ⟨k, hkn, rfl, ocut, oless, hb⟩ := hrel
                obtain ⟨wo, rfl⟩ : ∃ wo : World, wo = wr := ⟨_, rfl⟩
                by_cases hkl : k < n
                · have hck := ocut.cellAt k (by omega)
                  rw [at_ints (by simp [linesTo, hRl]; omega), natI_at, linesTo_at _ _ _ _ (by omega)] at hck
                  have hfk := ocut.frozenAt k
                  have hx2 := hsm.out k
                  have hsuc := hide (show (natI (linesTo R r e k)).set k ((clr e ((R.set r 0)[k]?.getD 0) : Nat) : Int) = natI (linesTo R r e (k + 1)) by rw [natI_set, linesTo_succ _ _ _ _ (by omega)])
                  generalize (R.set r 0)[k]?.getD 0 = x2 at *
                  have HB2 := hide (HBB.out x2 hx2)
                  have hcl2 := hclr.out x2 hx2
                  have hb2 := bitV_bd x2 e
                  have hle2 := hclt.out x2
                  generalize bitV x2 e = bv at *
                  generalize hy2 : clr e x2 = y2 at *
                  clear hy2
                  obtain ⟨mp, hmp⟩ : ∃ mp, bv * (P : Int) = mp := ⟨_, rfl⟩
                  have hmb : 0 ≤ mp ∧ mp ≤ 64 := by
                    have : bv = 0 ∨ bv = 1 := by omega
                    rcases this with h | h
                    · rw [h, Int.zero_mul] at hmp; omega
                    · rw [h, Int.one_mul] at hmp; omega
                  have e3 : IntKind.i64.wrap (bv * (P : Int)) = mp := by rw [hmp]; exact IntWalk.i64_in _ (by omega)
                  rw [hmp] at hcl2
                  have e4 : IntKind.i64.wrap ((x2 : Int) - mp) = (y2 : Int) := (IntWalk.i64_in _ (by omega)).trans hcl2
                  clear hmp hcl2
                  have k0 : (0 : Int) ≤ (k : Int) := by omega
                  have k1 : (k : Int) < (n : Int) := by omega
                  go_wp2_with fail
                  refine wp_region_still_tail 17 (by kernel_rfl) (by kernel_rfl) ?_
                  simp only [List.take_succ_cons, List.take_zero, List.drop_succ_cons, List.drop_zero]
                  repeat still_step
                  still_call ((HB2.out _).mono (fun _ _ h => ⟨h.1, h.2.symm⟩))
                  repeat still_step
                  still_call ((HP.out _).mono (fun _ _ h => ⟨h.1, h.2.symm⟩))
                  repeat still_step
                  try refine wpStill_nil ?_
                  have ocd := ocut.drew
                  have old := oless.drew
                  have hbd := hb.drew
                  have hckd : wo.drew.cell? ⟨g2, k, none⟩ = some (.int .i64 (x2 : Int)) := hck
                  have hfkd : wo.drew.frozen? ⟨g2, k, none⟩ = false := hfk
                  change wpList _ _ _ _ _ wo.drew
                  clear ocut oless hb hck hfk
                  generalize wo.drew = wd at *
                  obtain ⟨ost, gst⟩ := ocd.stored k (.int .i64 (y2 : Int))
                  rw [ints_set3, hsuc.out] at ost
                  have bst := hbd.grown gst hbd.size (fun n e => by injection e with e; omega)
                  have lst := own_free2 old gst (fun e => hg12 (by injection (show some g1 = some g2 from e)))
                  have Ost := hide ost
                  have Bst := hide bst
                  have Lst := hide lst
                  clear ost gst bst lst
                  go_wp2_with fail
                  exact ⟨⟨k + 1, hkl, rfl, Ost.out, Lst.out, Bst.out⟩, by simp [intOf]; omega⟩
                · obtain rfl : k = n := by omega
                  rw [hall.out] at ocut
                  go_wp2_with fail
                  refine (HIC.out _ _ _ (own_reads oless)).mono ?_
                  rintro e1 w7 ⟨v7, rfl, o7, b7⟩
                  obtain ⟨g7, c7, rfl, _, _, _, g71, g72⟩ := own_one o7 (by omega)
                  have ocut := own_below ocut b7
                  have b7' := below_then hb hb.size b7
                  go_wp2_with fail
                  refine (HIL.out _ _ _ (own_reads ocut)).mono ?_
                  rintro e1 w8 ⟨v8, rfl, o8, b8⟩
                  obtain ⟨g8, c8, rfl, _, _, _, g81, g82⟩ := own_one o8 (by omega)
                  have o7 := own_below o7 b8
                  have b8' := below_then b7' b7'.size b8
                  have g72' := (o7.lt g7 rfl).2
                  have zS : (rkL (cellP R r e)).length = k + 1 := by rw [rkL_len, lenS]
                  have zT : (rkL (linesP R r e)).length = k + 1 := by rw [rkL_len, lenT]
                  have hZ0 : Hid (Mixed R (cellP R r e) k 1 (rkL (cellP R r e))) := ⟨zS, fun j hj => by
                    rw [rkL_at (by omega)]
                    by_cases e : j < 1
                    · have : j = 0 := by omega
                      subst this
                      simp [rk_zero]
                    · rw [if_neg e]⟩
                  have hSv := hide (fun j (hj : j ≤ k) => show (rkL (cellP R r e))[j]?.getD 0 = ((rk (cellP R r e) 0 j : Nat) : Int) from rkL_at (by omega))
                  have hTv := hide (fun j (hj : j ≤ k) => show (rkL (linesP R r e))[j]?.getD 0 = ((rk (linesP R r e) 0 j : Nat) : Int) from rkL_at (by omega))
                  have hres := hide (fun (Z : List Int) (h : Mixed R (cellP R r e) k (k + 1) Z) => show Z = rkL R from rkL_of (by rw [h.1, hRl]) (fun j hj => by rw [h.2 j (by omega), if_pos (by omega)]))
                  generalize rkL (cellP R r e) = Z0 at *
                  generalize rkL (linesP R r e) = ZT at *
                  generalize cellP R r e = S at *
                  generalize linesP R r e = T at *
                  have oe := World.ownsRow_made (base := w.heap.size) (e := 3) (size := 1) w8 #[] 0 b8'.size (by simp [maxLen]) rfl
                  have hbA := b8'.alloc b8'.size (.cells #[] 3)
                  have o7a := o7.alloc (.cells #[] 3)
                  have o8a := o8.alloc (.cells #[] 3)
                  clear oless ocut o7 o8 b7 b8 b7' hb HIC HIL IH
                  go_wp2_with ((at_builtin; refine put_own rfl (.tmp 78) (.tmp 79) rfl Try.underlying22 elem_int' rfl oe rfl (m := k + 1) (news := ints Z0) (by simp [zS]) (own_reads o7a) (one_ints _) (by omega) (by omega) hbA.size ?_; intro v9 w9 own9 hg9 ho9))
                  have own9 : w9.ownsRow w.heap.size 3 1 v9 (k + 1) (ints Z0) := by simpa using own9
                  have b9 := below_grown hbA hbA.size oe (Nat.le_refl _) hg9
                  have o7b := own_free2 o7a hg9 (fun e => by
                    have e' : some g7 = some w8.heap.size := e
                    injection e' with e'; omega)
                  have o8b := own_free2 o8a hg9 (fun e => by
                    have e' : some g8 = some w8.heap.size := e
                    injection e' with e'; omega)
                  obtain ⟨g9, c9, rfl, _, _, _, g91, g92⟩ := own_one own9 (by omega)
                  have hg9n : w8.heap.size ≤ g9 := by
                    rcases ho9 with h | h
                    · have h' : some g9 = some w8.heap.size := h
                      injection h' with h'; omega
                    · have h' : some g9 = some (w8.alloc (.cells #[] 3)).heap.size := h
                      rw [World.size_alloc] at h'
                      injection h' with h'; omega
                  have n79 : g7 ≠ g9 := by omega
                  have n89 : g8 ≠ g9 := by omega
                  clear oe hbA o7a o8a hg9 ho9
                  go_loopw [12] (fun i wr => ∃ (j : Nat) (Z : List Int), j ≤ k ∧ i = .int .i64 (j : Int) ∧ Hid (Mixed R S k (j + 1) Z) ∧ wr.ownsRow w.heap.size 3 1 (.slice (some ⟨g9, 0, none⟩) (k + 1) c9) (k + 1) (ints Z) ∧
                      wr.ownsRow wo.heap.size 3 1 (.slice (some ⟨g7, 0, none⟩) (k + 1) c7) (k + 1) (ints Z0) ∧ wr.ownsRow w7.heap.size 3 1 (.slice (some ⟨g8, 0, none⟩) (k + 1) c8) (k + 1) (ints ZT) ∧ Below w.heap.size w wr) (fun i _ => k - (intOf i).toNat)
                  case atStart => exact ⟨0, Z0, Nat.zero_le _, rfl, hZ0, own9, o7b, o8b, b9⟩
                  case round =>
                    clear own9 o7b o8b b9
                    obtain ⟨j, Z, hjk, rfl, hZ, oz, oa, ot, hb⟩ := hrel
                    obtain ⟨wi, rfl⟩ : ∃ wi : World, wi = wr := ⟨_, rfl⟩
                    by_cases hjl : j < k
                    · have hsum := hide (hat.out j)
                      have hca := oa.cellAt (j + 1) (by omega)
                      rw [at_ints (by rw [zS]; omega), hSv.out (j + 1) (by omega)] at hca
                      have hco := oz.cellAt (j + 1) (by omega)
                      rw [at_ints (by rw [hZ.out.1]; omega)] at hco
                      have hfo := oz.frozenAt (j + 1)
                      have hct := ot.cellAt j (by omega)
                      rw [at_ints (by rw [zT]; omega), hTv.out j (by omega)] at hct
                      have by1 := hbS.out (j + 1)
                      have bz1 := hbT.out j
                      obtain ⟨Y, hY⟩ : ∃ Y, rk S 0 (j + 1) = Y := ⟨_, rfl⟩
                      obtain ⟨V, hV⟩ : ∃ V, rk T 0 j = V := ⟨_, rfl⟩
                      obtain ⟨U, hU⟩ : ∃ U, Z[j + 1]?.getD 0 = U := ⟨_, rfl⟩
                      rw [hY] at hca by1 hsum
                      rw [hV] at hct bz1 hsum
                      rw [hU] at hco
                      clear hY hV hU
                      obtain ⟨J, hJ⟩ : ∃ J : Nat, j + 1 = J := ⟨_, rfl⟩
                      have e1 : IntKind.i64.wrap ((j : Int) + 1) = (J : Int) := (IntWalk.i64_in _ (by omega)).trans (by omega)
                      rw [hJ] at hca hco hfo hsum
                      have HJ := hide hJ
                      have j0 : (0 : Int) ≤ (j : Int) := by omega
                      have j1 : (j : Int) < ((k + 1 : Nat) : Int) := by omega
                      have j1' : (j : Int) < (k : Int) + 1 := by omega
                      have j3 : (0 : Int) ≤ (J : Int) := by omega
                      have j2 : (J : Int) < ((k + 1 : Nat) : Int) := by omega
                      have j2' : (J : Int) < (k : Int) + 1 := by omega
                      have e2 : IntKind.i64.wrap ((Y : Int) + (V : Int)) = (Y : Int) + (V : Int) := IntWalk.i64_in _ (by omega)
                      clear hJ
                      go_wp2_with fail
                      go_still_tail 14, (by kernel_rfl)
                      have ozd := oz.drew
                      have oad := oa.drew
                      have otd := ot.drew
                      have hbd' := hb.drew
                      have hfyd : wi.drew.frozen? ⟨g9, J, none⟩ = false := hfo
                      have hcyd : wi.drew.cell? ⟨g9, J, none⟩ = some (.int .i64 U) := hco
                      change wpList _ _ _ _ _ wi.drew
                      clear oz oa ot hb hfo hco hct hca
                      generalize wi.drew = wd at *
                      obtain ⟨ost, gst⟩ := ozd.stored J (.int .i64 ((Y : Int) + (V : Int)))
                      rw [ints_set3] at ost
                      have oax := own_free2 oad gst (fun e => n79 (by injection (show some g7 = some g9 from e)))
                      have otx := own_free2 otd gst (fun e => n89 (by injection (show some g8 = some g9 from e)))
                      have hbx := hbd'.grown gst hbd'.size (fun j e => by injection e with e; omega)
                      have Ost := hide ost
                      have Oax := hide oax
                      have Otx := hide otx
                      have Hbx := hide hbx
                      have hZ' : Hid (Mixed R S k (j + 1 + 1) (Z.set J ((Y : Int) + (V : Int)))) := ⟨by rw [List.length_set]; exact hZ.out.1, fun i hi => by
                        have hJ' := HJ.out
                        rw [set_at _ _ _ _ (by rw [hZ.out.1]; omega)]
                        by_cases e : i = J
                        · rw [if_pos e, if_pos (by omega), e, hsum.out]
                          push_cast
                          rfl
                        · rw [if_neg e, hZ.out.2 i hi]
                          have : (i < j + 1) = (i < j + 1 + 1) := by apply propext; omega
                          simp only [this]⟩
                      clear ost gst oax otx hbx
                      go_wp2_with fail
                      exact ⟨⟨j + 1, Z.set J ((Y : Int) + (V : Int)), hjl, by rw [HJ.out], hZ'.out, Ost.out, Oax.out, Otx.out, Hbx.out⟩, by have := HJ.out; simp [intOf]; omega⟩
                    · obtain rfl : j = k := by omega
                      have hZR := hres.out Z hZ.out
                      rw [hZR] at oz
                      go_wp2_with fail
                      go_ret
                      refine ⟨.slice (some ⟨g9, 0, none⟩) (j + 1) c9, rfl, ?_, hb⟩
                      exact oz
          · obtain rfl : e = n := by omega
            have hx0 : Hid (R[r]?.getD 0 = 0) := bits_none hXN.out hzc.out
            go_wp2_with fail
            go_round
            case rel =>
              exact ⟨r + 1, hrl, rfl, fun j hj => by
                by_cases h : j = r
                · subst h; exact hx0.out
                · exact hz.out j (by omega), trivial⟩
            case measure => simp [intOf]; omega
      · obtain rfl : r = n := by omega
        have hl1 : Hid ((r : Int) + 1 = ((r + 1 : Nat) : Int)) := by show (r : Int) + 1 = ((r + 1 : Nat) : Int); omega
        have hres : Hid ((List.replicate (r + 1) (0 : Int)).set 0 1 = rkL R) := rkL_of (by rw [List.length_set, List.length_replicate, hRl]) fun j hj => by
          rw [rk_none R 0 j (by rw [hRl]; exact hz.out), set_at _ _ _ _ (by simp)]
          by_cases e : j = 0
          · simp [e]
          · rw [if_neg e, if_neg e, List.getElem?_replicate, if_pos (by omega)]
            rfl
        clear hz
        go_wp2_with ((at_make; refine wpList_make_full _ rfl (.tmp 102) (.tmp 102) 22 rfl w.heap.size 3 i0 (.int .i64 0) 1 Try.underlying22 hi0 hz0 hz1 .i64 .i64 _ _ (r + 1) rfl rfl hl1.out hl1.out (by rw [hz2]; omega) (by simp [maxLen]; omega) (Nat.le_refl _) ?_
                      intro w3 own3 hg3
                      have own3 := made_own rfl own3
                      have b3 := (Below.refl w.heap.size w).grown hg3 (Nat.le_refl _) (fun k h => by cases h)
                      have hc3 := own3.cellAt 0 (by omega)
                      rw [List.getElem?_replicate, if_pos (by omega)] at hc3
                      have hf3 := own3.frozenAt 0
                      obtain ⟨ost, gst⟩ := own3.stored 0 (.int .i64 1)
                      have bst := b3.grown gst b3.size (fun n e => by injection e with e; omega)
                      have Ost := hide ost
                      have Bst := hide bst
                      clear ost gst bst own3 hg3))
        go_ret
        refine ⟨_, rfl, ?_, Bst.out⟩
        rw [← hres.out]
        have := Ost.out
        rwa [show List.replicate (r + 1) (Value.int .i64 0) = ints (List.replicate (r + 1) 0) by simp [ints], ints_set3] at this
end Go.Proofs.Ytlccohoblplddaa

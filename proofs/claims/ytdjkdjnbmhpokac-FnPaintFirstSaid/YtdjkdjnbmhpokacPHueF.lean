
/-
  The program's PaintFirst.
-/
import Derived.Test.YtdjkdjnbmhpokacPHueC
import Derived.Test.YtdjkdjnbmhpokacPaintE
namespace Go.Proofs.Ytdjkdjnbmhpokac
open Go.RowKit
set_option linter.unusedVariables false

theorem firstS_is {L : List Nat} {n : Nat} (hlen : L.length = n) (h : (chTab.any fun e => e.1 == L) = true) : ∀ m, m < n → firstF (firstS L m) (L[m]?.getD 0) = hueC L m ∧ hueC L m ≤ (firstS L m).length ∧ (∀ j : Nat, (firstS L m)[j]?.getD 0 < 512) ∧ (firstS L m).length ≤ m := by
  obtain ⟨e, he, rfl, _⟩ := chOf_mem h
  have h := List.all_eq_true.1 firstS_all e he
  unfold firstSOk at h
  subst hlen
  intro m hm
  have := List.all_eq_true.1 h m (List.mem_range.2 hm)
  simp only [Bool.and_eq_true, Nat.ble_eq, beq_iff_eq] at this
  obtain ⟨⟨⟨h1, h2⟩, h3⟩, h4⟩ := this
  refine ⟨h1, h2, fun j => ?_, h4⟩
  by_cases hj : j < (firstS e.1 m).length
  · rw [List.getElem?_eq_getElem hj, Option.getD_some]
    have := List.all_eq_true.1 h3 _ (List.getElem_mem hj)
    rw [Nat.ble_eq] at this
    omega
  · rw [List.getElem?_eq_none (by omega)]
    simp
theorem row_low {w : World} {base e size n c : Nat} {A : Option Addr} {xs : List Value} (h : w.ownsRow base e size (.slice A n c) n xs) {g : Nat} (hg : w.heap.size ≤ g) : ∀ ad, A = some ad → some g ≠ some ad.block := by
  intro ad ea
  obtain ⟨A', c', e', _, _, _, f⟩ := own_row h
  injection e' with e1 _ _
  subst e1
  obtain ⟨g3, rfl, _, q1, _⟩ := f ad ea
  intro h'
  injection h' with h'
  simp only at h'
  omega
theorem own_kept {w w' : World} {base e size n c g : Nat} {A : Option Addr} {xs : List Value} (h : w.ownsRow base e size (.slice A n c) n xs) (hg : w.grownBy w' (some g)) (hlt : g < base) : w'.ownsRow base e size (.slice A n c) n xs := by
  refine own_apart h hg ?_
  intro e'
  have := (h.lt g e').1
  omega
set_option maxHeartbeats 2000000 in
set_option maxRecDepth 100000 in
theorem implPaintFirst_c (bc br : Int) (s : ByteArray) (w : World) : Calls Try.prog 12 #[.int .i64 bc, .int .i64 br, .string s] w (Owns 3 1 (hueL bc br s.toList).length (ints (natI (hueL bc br s.toList))) w) := by
  cases hsm : smallK bc br s.toList with
  | none =>
    have H := hide (fun w5 => smallOf_no bc br s w5 hsm)
    rw [show hueL bc br s.toList = [] by unfold hueL; rw [hsm]]
    clear hsm
    go_enter Try.func12, Try.ntmps12
    go_wp2_with fail
    refine (H.out _).mono ?_
    rintro e w1 ⟨rfl, b1⟩
    go_wp2_with fail
    go_ret
    exact ⟨_, rfl, World.ownsRow_nil _ _ _ _, b1⟩
  | some q =>
    obtain ⟨ss, far⟩ := q
    obtain ⟨hS, hkk⟩ := smallK_some hsm
    have H := hide (fun w5 => smallOf_yes bc br s w5 hkk hS)
    obtain ⟨n, hU⟩ := hue_of hS hkk
    have hlen := hU.len
    have hn9 := hU.nine
    have hn1 := hU.one
    have hFS := firstS_is hlen hU.tab
    have HBD := hide hU.sets.bd
    rw [show hueL bc br s.toList = firstC (setsP bc br far ss) n by unfold hueL; rw [hsm]; simp only; rw [hlen], firstC_len]
    clear hsm hS hkk hU
    generalize setsP bc br far ss = L at *
    obtain ⟨i0, hi0, hz0, hz1, hz2⟩ := made_info (P := Try.prog) (e := 3) (z := .int .i64 0) (size := 1) (bytes := 8) (by kernel_rfl)
    have hll : (natI (firstC L n)).length = n := by rw [natI_len, firstC_len]
    have HSET := hide (fun m (hm : m < n) => show (fillTo (natI (firstC L n)) m).set m ((hueC L m : Nat) : Int) = fillTo (natI (firstC L n)) (m + 1) by
      have := fill_set (natI (firstC L n)) m (by omega)
      rwa [natI_at, first_at _ hm] at this)
    have HLEN := hide (fun m (hm : m ≤ n) => show (fillTo (natI (firstC L n)) m).length = n by rw [fill_len _ _ (by omega), hll])
    have H0 := hide (show fillTo (natI (firstC L n)) 0 = List.replicate n 0 by rw [fill_zero, hll])
    have HALL := hide (show fillTo (natI (firstC L n)) n = natI (firstC L n) by
      have := fill_full (natI (firstC L n))
      rwa [hll] at this)
    have HNX := hide (fun m => show putS (firstS L m) (hueC L m) (2 ^ m) = firstS L (m + 1) from rfl)
    have HN0 : Hid (firstS L 0 = []) := rfl
    have HX := hide hFS
    have HAT := hide (fun k => natI_at L k)
    have HLL := hide (natI_len L)
    generalize fillTo (natI (firstC L n)) = Fi at *
    generalize natI (firstC L n) = out at *
    generalize firstS L = FS at *
    generalize hueC L = C at *
    subst hlen
    clear hFS hll
    go_enter Try.func12, Try.ntmps12
    go_wp2_with fail
    refine (H.out _).mono ?_
    rintro e w1 ⟨A1, c1, rfl, o1, b1⟩
    have HOFF := hide (row_low o1 (Nat.le_refl w1.heap.size))
    have R1 := hide (own_reads o1)
    have B1 := hide b1
    clear o1 b1
    go_wp2_with ((at_make; refine wpList_make_full _ rfl (.tmp 23) (.tmp 23) 28 rfl w1.heap.size 3 i0 (.int .i64 0) 1 Try.underlying28 hi0 hz0 hz1 .i64 .i64 L.length L.length L.length rfl rfl rfl rfl (by rw [hz2]; omega) (by simp [maxLen]; omega) (Nat.le_refl _) ?_
                  intro w4 own4 hg4
                  have own4 : w4.ownsRow w1.heap.size 3 1 (.slice (some ⟨w1.heap.size, 0, none⟩) L.length L.length) L.length (ints (Fi 0)) := by
                    have := made_ints rfl own4
                    rw [H0.out]
                    simpa [ints] using this
                  have b4 := (Below.refl w1.heap.size w1).grown hg4 (Nat.le_refl _) (fun k h => by cases h)
                  have B4 := hide (below_then B1.out B1.out.size b4)
                  have R4 := hide (R1.out.below b4)
                  have O4 := hide own4
                  have hgs := (own4.lt w1.heap.size rfl).2
                  clear own4 hg4 b4))
    have HZ1 := hide B1.out.size
    clear B1 R1
    generalize w1.heap.size = g at *
    go_loopw [9, 27] (fun v i wr => ∃ m : Nat, m ≤ L.length ∧ i = .int .i64 (m : Int) ∧ wr.ownsRow w4.heap.size 47 1 v (FS m).length (ints (natI (FS m))) ∧ wr.ownsRow g 3 1 (.slice (some ⟨g, 0, none⟩) L.length L.length) L.length (ints (Fi m)) ∧ Row wr A1 (ints (natI L)) ∧ Below w.heap.size w wr ∧ w4.heap.size ≤ wr.heap.size) (fun _ i _ => L.length - (intOf i).toNat)
    case atStart => exact ⟨0, Nat.zero_le _, rfl, by rw [HN0.out]; exact World.ownsRow_nil _ _ _ _, O4.out, R4.out, B4.out, Nat.le_refl _⟩
    case round =>
      clear O4 R4 B4
      obtain ⟨m, hm, rfl, hcol, hnum, hnear, hb, hz4⟩ := hrel
      obtain ⟨wo, rfl⟩ : ∃ wo : World, wo = wr := ⟨_, rfl⟩
      obtain ⟨S, cs, rfl, _, _, rS, _⟩ := own_row hcol
      have hS0 : S = none → FS m = [] := fun e => by
        subst e
        exact List.eq_nil_of_length_eq_zero (own_none hcol)
      by_cases hlt : m < L.length
      · obtain ⟨ad1, rfl, hcN⟩ := hnear.int (k := m) (by rw [HLL.out]; exact hlt)
        rw [HAT.out] at hcN
        have hy := HBD.out m
        obtain ⟨x1, x2, x3, x4⟩ := HX.out m hlt
        have HSm := hide (HSET.out m hlt)
        have HLm := hide (HLEN.out m (Nat.le_of_lt hlt))
        have HNm := hide (HNX.out m)
        have hm9 : m ≤ 8 := by omega
        have hf1 : firstF (FS m) (L[m]?.getD 0) = (freeL (FS m) (L[m]?.getD 0) ++ [(FS m).length])[0]?.getD 0 := rfl
        generalize L[m]?.getD 0 = y at *
        generalize C m = x at *
        have HFR := hide (freePaint_c S cs (FS m) y wo rS x3 hy (by omega))
        have HPU := hide (fun (C : Option Addr) (cc : Nat) (w5 : World) (h1 : Row w5 S (ints (natI (FS m)))) (h3 : Row w5 C (ints [(m : Int)])) => show Calls Try.prog _ #[.slice S (FS m).length cs, .int .i64 (x : Int), .slice C 1 cc] w5 (Owns 47 1 (FS (m + 1)).length (ints (natI (FS (m + 1)))) w5) by
          have := putPaint_c S cs x (FS m) C cc [(m : Int)] w5 h1 hS0 x2 (by omega) x3 h3 (fun i hi => by
            have : i = 0 := by simpa using hi
            subst this
            simp
            omega) (by simp)
          rw [orL_one, HNm.out] at this
          exact this)
        rw [hf1] at x1
        have HFN := hide (natI_snocP (freeL (FS m) y) (FS m).length)
        have hF8 : (freeL (FS m) y).length ≤ (FS m).length := free_len _ _ _
        have HC0 : Hid ((ints (natI (freeL (FS m) y ++ [(FS m).length])))[0]? = some (.int .i64 (x : Int))) := by
          have h1 : 0 < (natI (freeL (FS m) y ++ [(FS m).length])).length := by rw [natI_len]; simp
          have h2 := natI_at (freeL (FS m) y ++ [(FS m).length]) 0
          rw [x1, List.getElem?_eq_getElem h1, Option.getD_some] at h2
          show _ = _
          rw [ints, List.getElem?_map, List.getElem?_eq_getElem h1, Option.map_some, h2]
        generalize freeL (FS m) y = F0 at *
        obtain ⟨pn, hpn⟩ : ∃ pn, FS (m + 1) = pn := ⟨_, rfl⟩
        rw [hpn] at HPU
        have HPN := hide hpn
        clear hpn HNm
        generalize FS m = p at *
        have k0 : (0 : Int) ≤ (m : Int) := by omega
        have k1 : (m : Int) < (L.length : Int) := by omega
        have hp8 : p.length ≤ 8 := by omega
        have hCol := hide hcol
        have hNum := hide hnum
        have hNear := hide hnear
        have hB := hide hb
        clear x1 x2 x3 x4 hf1 hS0 hcol hnum hnear hb rS hy
        go_wp2_with fail
        refine HFR.out.mono ?_
        rintro e w5 ⟨v5, rfl, o5, b5⟩
        have o5a := o5.alloc (.cells #[.int .i64 (p.length : Int)] 3)
        have b5a := b5.alloc b5.size (.cells #[.int .i64 (p.length : Int)] 3)
        clear hcN HFR
        go_wp2_with ((at_builtin; refine put_own rfl (.tmp 36) (.tmp 39) rfl Try.underlying28 elem_int' rfl o5a rfl (m := 1) (news := [.int .i64 (p.length : Int)]) rfl (row_new _ _ _ rfl) (by simp [Value.oneCell']) (by omega) (by omega) b5a.size ?_
                      intro v6 w6 own6 hg6 ho6
                      have b6 := below_grown b5a b5a.size o5a (Nat.le_refl _) hg6
                      have own6 : w6.ownsRow wo.heap.size 3 1 v6 (F0.length + 1) (ints (natI (F0 ++ [p.length]))) := by rw [HFN.out]; simpa [ints] using own6
                      obtain ⟨g6, c6, rfl, _, _, _, hg61, _⟩ := own_one own6 (by omega)
                      have hc6 := own6.cellAt 0 (by omega)
                      rw [HC0.out] at hc6
                      have num6 := own_below hNum.out b6
                      have hcm := num6.cellAt m (by omega)
                      obtain ⟨z, hz⟩ : ∃ z, (ints (Fi m))[m]? = some (.int .i64 z) := ⟨_, by rw [ints, List.getElem?_map, List.getElem?_eq_getElem (by rw [HLm.out]; exact hlt)]; rfl⟩
                      rw [hz] at hcm
                      clear hz
                      have hfm := num6.frozenAt m
                      obtain ⟨ost, gst⟩ := num6.stored m (.int .i64 (x : Int))
                      rw [ints_setg, HSm.out] at ost
                      have N6 := hide ost
                      have hcs : (w6.setCell ⟨g, m, none⟩ (.int .i64 (x : Int))).cell? ⟨g, m, none⟩ = some (.int .i64 (x : Int)) := by
                        have h1 := ost.cellAt m (by omega)
                        rw [h1]
                        rw [← HSm.out, ← ints_setg, List.getElem?_set_self (by rw [ints, List.length_map, HLm.out]; exact hlt)]
                      have C6 := hide (own_kept (own_below hCol.out b6) gst (by omega))
                      have A6 := hide ((hNear.out.below b6).grown gst HOFF.out)
                      have B6 := hide ((below_then hB.out hB.out.size b6).grown gst (Nat.le_trans hB.out.size b6.size) (fun k h => by injection h with h; have := HZ1.out; omega))
                      have Z6 := hide (show w4.heap.size ≤ (w6.setCell ⟨g, m, none⟩ (.int .i64 (x : Int))).heap.size from Nat.le_trans hz4 (Nat.le_trans b6.size gst.size))
                      clear ost gst num6 own6 b6 o5 b5 o5a b5a hg6 ho6))
        have hzz := hide (show w6.heap.size = (w6.setCell ⟨g, m, none⟩ (.int .i64 (x : Int))).heap.size by simp [World.setCell])
        generalize w6.setCell ⟨g, m, none⟩ (.int .i64 (x : Int)) = w7 at *
        have hal := (Below.refl w7.heap.size w7).alloc (Nat.le_refl _) (.cells #[.int .i64 (m : Int)] 3)
        refine (HPU.out (some ⟨w6.heap.size, 0, none⟩) 1 _ ((own_reads C6.out).below hal) (row_new _ _ _ hzz.out)).mono ?_
        rintro e w8 ⟨v8, rfl, o8, b8⟩
        have b8' := hal.trans (b8.mono hal.size)
        have C8 := hide (own_mono o8 (Nat.le_trans Z6.out hal.size))
        have N8 := hide (own_below N6.out b8')
        have A8 := hide (A6.out.below b8')
        have B8 := hide (below_then B6.out B6.out.size b8')
        have Z8 := hide (Nat.le_trans Z6.out b8'.size)
        clear o8 b8 b8' hal hcs
        go_wp2_with fail
        exact ⟨⟨m + 1, hlt, by go_num, by rw [HPN.out]; exact C8.out, N8.out, A8.out, B8.out, Z8.out⟩, by simp [intOf]; omega⟩
      · obtain rfl : m = L.length := by omega
        rw [HALL.out] at hnum
        have N8 := hide (own_mono hnum HZ1.out)
        have B8 := hide hb
        clear hnum hb hcol hnear hS0 rS
        go_wp2_with fail
        go_ret
        exact ⟨_, rfl, N8.out, B8.out⟩
end Go.Proofs.Ytdjkdjnbmhpokac

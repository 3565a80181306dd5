
/-
  The reference model's away and MovesFrom.
-/
import Derived.Test.YtljojjkaeclcfaaMovesA
import Derived.Test.YtljojjkaeclcfaaSpecE
import Derived.StillTailTactics
namespace Go.Proofs.Ytljojjkaeclcfaa
open Go.RowKit
set_option linter.unusedVariables false

set_option maxHeartbeats 2000000 in
set_option maxRecDepth 100000 in
theorem away_c (bc br cell : Int) (s : ByteArray) (far : Bool) (ss : List (Int × Int)) (w : World) (hk : kindL s.toList = some (ss, far)) (h1 : 1 ≤ bc) (h2 : bc ≤ 5) (h3 : 1 ≤ br) (h4 : br ≤ 5)
    (g1 : 0 ≤ cell) (g2 : cell < bc * br) :
    Calls Try.prog 26 #[.int .i64 bc, .int .i64 br, .string s, .int .i64 cell] w (Owns 3 1 (movesP bc br far ss cell).length (ints (movesP bc br far ss cell)) w) := by
  obtain ⟨m1, m2⟩ := mul_bd h1 h2 h3 h4
  obtain ⟨hs, hn, _⟩ := kind_ok hk
  obtain ⟨N, hN⟩ : ∃ N : Nat, bc * br = (N : Int) := ⟨(bc * br).toNat, by omega⟩
  obtain ⟨cn, rfl⟩ := Int.eq_ofNat_of_zero_le g1
  have HP := hide (show movesP bc br far ss cn = bfsP bc br far ss 26 ((List.replicate N (-1)).set cn 0, [(cn : Int)]) 0 by
    rw [movesP, hN]; rfl)
  have HM := hide (Met.start (N := N) (cell := (cn : Int)) (by omega) (by omega))
  have hcn : cn < N := by omega
  have hN1 : 1 ≤ N := by omega
  have hN2 : N ≤ 25 := by omega
  have hin := hide (fun (x : Int) => cells_in (bc := bc) (br := br) (far := far) (others := []) (cell := x) (ss := ss) h1 h2 h3 h4)
  have hreach := hide (fun (x : Int) (A : Option Addr) (w5 : World) (x0 : 0 ≤ x) (x1 : x < (N : Int)) => specReach_c bc br x s A 0 ss far [] w5 hk h1 h2 h3 h4 x0 (by omega) (Row.empty _ _) (by simp [maxLen]))
  have hNN := hide hN
  generalize hRes : movesP bc br far ss cn = res at *
  clear hRes hk g2
  have hNi : ∀ i : Nat, i < N → (i : Int) < bc * br := fun i hi => by omega
  have hNj : ∀ i : Nat, ¬ i < N → ¬ (i : Int) < bc * br := fun i hi => by omega
  have HNi := hide hNi
  have HNj := hide hNj
  clear hN hNi hNj
  go_enter Try.func26, Try.ntmps26
  go_wp2_with fail
  go_loopw [9, 10] (fun v i wr => ∃ k : Nat, k ≤ N ∧ i = .int .i64 k ∧ wr.ownsRow w.heap.size 3 1 v k (ints (List.replicate k (-1))) ∧ Below w.heap.size w wr) (fun _ i _ => N - (intOf i).toNat)
  case atStart => exact ⟨0, Nat.zero_le _, rfl, World.ownsRow_made w #[] 0 (Nat.le_refl _) (by simp [maxLen]) rfl, (Below.refl _ _).alloc (Nat.le_refl _) _⟩
  case round =>
    obtain ⟨k, hk, rfl, hown, hb⟩ := hrel
    obtain ⟨wo, rfl⟩ : ∃ wo : World, wo = wr := ⟨_, rfl⟩
    have z := hb.size
    by_cases hlt : k < N
    · have hlt2 := HNi.out k hlt
      go_wp2_with ((at_builtin; refine put_own rfl (.tmp 23) (.tmp 24) rfl Try.underlying25 elem_int' rfl (hown.alloc _) rfl (m := 1) (news := [.int .i64 (-1)]) rfl (row_new _ _ _ rfl) (by simp [Value.oneCell']) (by omega) (by omega) (by simp; omega) ?_; intro v3 w3 hown3 hg3 ho3))
      exact ⟨⟨k + 1, hlt, rfl, by rw [List.replicate_succ']; simpa [ints] using hown3, below_grown (hb.alloc z _) (by simp; omega) (hown.alloc _) (Nat.le_refl _) hg3⟩, by simp [intOf]; omega⟩
    · have hlt2 := HNj.out k hlt
      obtain rfl : k = N := by omega
      obtain ⟨g7, c7, rfl, hc71, hc72, _, hg7, _⟩ := own_one hown hN1
      have hl7 : (List.replicate k (-1 : Int)).length = k := by simp
      obtain ⟨st0, hst0⟩ : ∃ st, List.replicate k (-1 : Int) = st := ⟨_, rfl⟩
      rw [hst0] at hown hl7 HM HP
      clear hst0
      have hcell := hown.cellAt cn (by omega)
      rw [List.getElem?_eq_getElem (by simp; omega)] at hcell
      have hfree := hown.frozenAt cn
      obtain ⟨ost, gst⟩ := hown.stored cn (.int .i64 0)
      rw [ints_set] at ost
      have bst := hb.grown gst z (fun j e => by injection e with e; omega)
      have Ost := hide ost
      have zst := gst.size
      clear ost hown gst
      unfold maxLen at hc72
      have Hzs := hide (show (wo.setCell ⟨g7, cn, none⟩ (Value.int .i64 0)).heap.size = wo.heap.size by simp [World.setCell])
      go_wp2_with fail
      generalize wo.setCell ⟨g7, cn, none⟩ (Value.int .i64 0) = w3 at *
      have hz3 := bst.size
      go_loopg [11, 12] 26 (fun f v a wr => ∃ (st1 lst : List Int) (i g11 c11 : Nat), v = .slice (some ⟨g11, 0, none⟩) lst.length c11 ∧ a = .int .i64 i ∧ i ≤ lst.length ∧ wr.ownsRow w.heap.size 3 1 (.slice (some ⟨g11, 0, none⟩) lst.length c11) lst.length (ints lst) ∧ wr.ownsRow w.heap.size 3 1 (.slice (some ⟨g7, 0, none⟩) k c7) k (ints st1) ∧
          Hid (Met k (st1, lst)) ∧ Hid (bfsP bc br far ss f (st1, lst) i = res) ∧ k + 1 ≤ i + f ∧ g11 ≠ g7 ∧ c11 ≤ 9223372036854775807 ∧ Below w.heap.size w wr)
      case atStart =>
        have on := own_lt' Ost.out g7 rfl
        refine ⟨st0.set cn 0, [(cn : Int)], 0, wo.heap.size, 1, rfl, rfl, by simp, ?_, Ost.out.alloc _, HM.out, HP.out.symm, by omega, by have := Hzs.out; omega, by omega, bst.alloc hz3 _⟩
        exact ⟨by simp, .inr ⟨wo.heap.size, 1, #[.int .i64 cn], rfl, z, by rw [← Hzs.out]; exact Box.new _ _ _, Nat.le_refl _, by simp [maxLen], by simp, by simp⟩⟩
      case round =>
        clear Ost HM HP bst hz3 hb
        obtain ⟨st1, lst, i, g11, c11, rfl, rfl, hil, o11, o7, HMet, hbfs, hf, hgg, hc11, hb⟩ := hrel
        obtain ⟨wp, rfl⟩ : ∃ wp : World, wp = wr := ⟨_, rfl⟩
        have zz := hb.size
        have hll := HMet.out.le
        simp only at hll
        by_cases hi : i < lst.length
        · obtain ⟨⟨x0, x1⟩, _⟩ := HMet.out.mem lst[i] (List.getElem_mem hi)
          obtain ⟨xn, hxn⟩ := Int.eq_ofNat_of_zero_le x0
          have hlx := o11.cellAt i (by omega)
          rw [show (ints lst)[i]? = some (.int .i64 (xn : Int)) from by rw [ints, List.getElem?_map, List.getElem?_eq_getElem hi, hxn]; rfl] at hlx
          rw [hxn] at x1
          have HX := hide (show lst[i]?.getD 0 = (xn : Int) by rw [List.getElem?_eq_getElem hi, hxn]; rfl)
          have HXm := hide (show (xn : Int) ∈ lst by rw [← hxn]; exact List.getElem_mem hi)
          clear x0 hxn
          have hi25 : i ≤ 25 := by omega
          obtain ⟨f, rfl⟩ : ∃ f, gk = f + 1 := ⟨gk - 1, by omega⟩
          go_wp2_with fail
          refine (hreach.out (xn : Int) _ _ (by omega) x1).mono ?_
          rintro e w5 ⟨v5, rfl, o5, b5⟩
          obtain ⟨A5, c5, rfl, _⟩ := own_row o5
          have i7 := own_lt' o7 g7 rfl
          have i11 := own_lt' o11 g11 rfl
          have i5 := own_lt' o5
          have o7 := own_below (o7.alloc (.cells #[] 3)) b5
          have o11 := own_below (o11.alloc (.cells #[] 3)) b5
          have z5 := b5.size
          rw [World.size_alloc] at z5
          have hb := below_then (hb.alloc zz (.cells #[] 3)) (by simp; omega) b5
          have o5 := own_mono o5 (base' := wp.heap.size + 1) (by simp)
          have hmem : Hid (∀ y ∈ reachP bc br far [] (xn : Int) ss, 0 ≤ y ∧ y < (k : Int)) := fun y hy => by
            unfold reachP at hy
            rw [List.mem_mergeSort] at hy
            have := hin.out _ y hy
            rwa [hNN.out] at this
          have hexp : Hid (∀ st, expandP bc br far ss (xn : Int) st = (reachP bc br far [] (xn : Int) ss).foldl (visitP (xn : Int)) st) := fun st => rfl
          have hLl := reach_len bc br far [] (xn : Int) ss
          generalize reachP bc br far [] (xn : Int) ss = L at *
          have hmore := hide ((bfs_more bc br far ss f (st1, lst) i hi).symm.trans hbfs.out)
          clear hbfs hlx
          go_wp2_with fail
          go_loopw [11, 14] (fun v a wr => ∃ (m : Nat) (st2 lst2 : List Int) (gl cl : Nat), m ≤ L.length ∧ a = .int .i64 m ∧ v = .slice (some ⟨gl, 0, none⟩) lst2.length cl ∧ wr.ownsRow w.heap.size 3 1 (.slice (some ⟨gl, 0, none⟩) lst2.length cl) lst2.length (ints lst2) ∧
              wr.ownsRow w.heap.size 3 1 (.slice (some ⟨g7, 0, none⟩) k c7) k (ints st2) ∧ wr.ownsRow (wp.heap.size + 1) 3 1 (.slice A5 L.length c5) L.length (ints L) ∧
              Hid (Met k (st2, lst2) ∧ (L.take m).foldl (visitP (xn : Int)) (st1, lst) = (st2, lst2) ∧ (∃ t, lst2 = lst ++ t)) ∧ gl ≠ g7 ∧ cl ≤ 9223372036854775807 ∧ (gl < wp.heap.size ∨ w5.heap.size ≤ gl) ∧ w5.heap.size ≤ wr.heap.size ∧ Below w.heap.size w wr) (fun _ a _ => L.length - (intOf a).toNat)
          case atStart => exact ⟨0, st1, lst, g11, c11, Nat.zero_le _, rfl, rfl, o11, o7, o5, ⟨HMet.out, by simp, [], by simp⟩, hgg, hc11, .inl i11, Nat.le_refl _, hb⟩
          case round =>
            clear o7 o11 o5 hb HMet hgg hc11 i11 hll
            obtain ⟨m, st2, lst2, gl, cl, hm, rfl, rfl, o11, o7, o5, hmf, hgr, hcl, hgr2, hz, hb⟩ := hrel
            obtain ⟨wi, rfl⟩ : ∃ wi : World, wi = wr := ⟨_, rfl⟩
            have hll2 := hmf.out.1.le
            simp only at hll2
            by_cases hlt : m < L.length
            · obtain ⟨ad, rfl, hcy⟩ := (own_reads' o5).int hlt
              obtain ⟨y0, y1⟩ := hmem.out _ (show L[m] ∈ L from List.getElem_mem hlt)
              have hky : L[m]?.getD 0 = L[m] := by rw [List.getElem?_eq_getElem hlt]; rfl
              obtain ⟨yn, hyn⟩ := Int.eq_ofNat_of_zero_le y0
              rw [hky, hyn] at hcy
              rw [hyn] at y1 hky
              have hyN : yn < k := by omega
              have hxN : xn < k := by omega
              have HK := hide hky
              have hxm2 : Hid ((xn : Int) ∈ lst2) := by obtain ⟨t, e⟩ := hmf.out.2.2; rw [e]; exact List.mem_append_left _ HXm.out
              have hi2 : i < lst2.length := by obtain ⟨t, e⟩ := hmf.out.2.2; rw [e, List.length_append]; omega
              have hlx := o11.cellAt i (by omega)
              rw [show (ints lst2)[i]? = some (.int .i64 (xn : Int)) from by
                obtain ⟨t, e⟩ := hmf.out.2.2
                have := HX.out
                rw [List.getElem?_eq_getElem hi, Option.getD_some] at this
                rw [e, ints, List.getElem?_map, List.getElem?_append_left hi, List.getElem?_eq_getElem hi, this]; rfl] at hlx
              have hl2 : Hid (st2.length = k) := hmf.out.1.len
              have hcm := o7.cellAt yn (by omega)
              have hcx := o7.cellAt xn (by omega)
              have hfm := o7.frozenAt yn
              have bx2 := hmf.out.1.at_bd (xn : Int) (by omega) (by omega)
              simp only [Int.toNat_natCast] at bx2
              rw [show (ints st2)[yn]? = some (.int .i64 (st2[yn]?.getD 0)) from by rw [ints, List.getElem?_map, List.getElem?_eq_getElem (by rw [hl2.out]; exact hyN)]; rfl] at hcm
              rw [show (ints st2)[xn]? = some (.int .i64 (st2[xn]?.getD 0)) from by rw [ints, List.getElem?_map, List.getElem?_eq_getElem (by rw [hl2.out]; exact hxN)]; rfl] at hcx
              have hfold := hide (fold_snoc (xn : Int) L m hlt (st1, lst))
              have HST := hide (show ∀ a b, st2[yn]?.getD 0 = a → st2[xn]?.getD 0 = b → visitP (xn : Int) (st2, lst2) (yn : Int) = if a < 0 then (st2.set yn (b + 1), lst2 ++ [(yn : Int)]) else (st2, lst2) from fun a b ha hb' => by
                subst ha hb'
                simp [visitP])
              have HMV := hide ((hmf.out.1.visit (x := (xn : Int)) (y := (yn : Int)) hxm2.out (by omega) y1).1)
              obtain ⟨a, ha⟩ : ∃ a, st2[yn]?.getD 0 = a := ⟨_, rfl⟩
              obtain ⟨b, hbv⟩ : ∃ b, st2[xn]?.getD 0 = b := ⟨_, rfl⟩
              have hv := HST.out a b ha hbv
              rw [ha] at hcm
              rw [hbv] at hcx bx2
              have HV := hide hv
              clear ha hbv hv HST hky hyn y0
              obtain ⟨b0, b1'⟩ := bx2
              by_cases hneg : a < 0
              · have HV2 : Hid (visitP (xn : Int) (st2, lst2) (yn : Int) = (st2.set yn (b + 1), lst2 ++ [(yn : Int)])) := by
                  have := HV.out; rw [if_pos hneg] at this; exact this
                have ewr : IntKind.i64.wrap (b + 1) = b + 1 := IntWalk.i64_in _ (by omega)
                go_wp2_with fail
                go_still_tail 14, (by kernel_rfl)
                have o7d := o7.drew
                have o11d := o11.drew
                have o5d := o5.drew
                have hbd := hb.drew
                have hzd : w5.heap.size ≤ wi.drew.heap.size := hz
                have hcmd : wi.drew.cell? ⟨g7, yn, none⟩ = some (.int .i64 a) := hcm
                have hfmd : wi.drew.frozen? ⟨g7, yn, none⟩ = false := hfm
                have hcyd : wi.drew.cell? (ad.add m) = some (.int .i64 (yn : Int)) := hcy
                have hlxd : wi.drew.cell? ⟨gl, i, none⟩ = some (.int .i64 (xn : Int)) := hlx
                have hcxd : wi.drew.cell? ⟨g7, xn, none⟩ = some (.int .i64 b) := hcx
                change wpList _ _ _ _ _ wi.drew
                clear o7 o11 o5 hb hz hcm hfm hcy hlx hcx
                generalize wi.drew = wd at *
                obtain ⟨Ost, Gst⟩ := o7d.stored yn (.int .i64 (b + 1))
                rw [ints_set] at Ost
                have o11x := own_free o11d Gst (fun e => by simp [Value.ownBlock] at e; exact hgr e)
                have o5x := own_free o5d Gst (fun e => by have := (o5d.lt _ e).1; omega)
                have hb6 := hbd.grown Gst hbd.size (fun j e => by injection e with e; omega)
                have hz6 := Gst.size
                have hcy6 := (Gst.cell hcyd (fun e => by
                  have e1 := (o5d.lt (ad.add m).block (by rw [addr_block]; rfl)).1
                  injection e with e; omega))
                have Ost := hide Ost
                have Gst := hide Gst
                have Hz := hide (show (wd.setCell ⟨g7, yn, none⟩ (Value.int .i64 (b + 1))).heap.size = wd.heap.size by simp [World.setCell])
                go_wp2_with ((at_builtin; refine put_own rfl (.tmp 74) (.tmp 79) rfl Try.underlying25 elem_int' rfl (o11x.alloc _) rfl (m := 1) (news := [.int .i64 (yn : Int)]) rfl (row_new _ _ _ (by simp [World.setCell])) (by simp [Value.oneCell']) (by omega) (by omega) (by have := hbd.size; simp; omega) ?_; intro v9 w9 hown9 hg9 hgg))
                have own9 : w9.ownsRow w.heap.size 3 1 v9 (lst2 ++ [(yn : Int)]).length (ints (lst2 ++ [(yn : Int)])) := by simpa [ints] using hown9
                obtain ⟨g9, c9, rfl, _, hc92, _⟩ := own_one own9 (by simp)
                have hg9' : ((wd.setCell ⟨g7, yn, none⟩ (Value.int .i64 (b + 1))).alloc (.cells #[.int .i64 (yn : Int)] 3)).grownBy w9 (some gl) := hg9
                have hgg2 : some g9 = some gl ∨ some g9 = some ((wd.setCell ⟨g7, yn, none⟩ (Value.int .i64 (b + 1))).alloc (.cells #[.int .i64 (yn : Int)] 3)).heap.size := hgg
                rw [World.size_alloc, Hz.out, Option.some.injEq, Option.some.injEq] at hgg2
                have z9 := hg9'.size
                rw [World.size_alloc, Hz.out] at z9
                have e5 := o5d.lt ad.block rfl
                have i5' := i5 ad.block rfl
                unfold maxLen at hc92
                exact ⟨⟨m + 1, st2.set yn (b + 1), lst2 ++ [(yn : Int)], g9, c9, hlt, by go_num, by simp, own9, own_keep (Ost.out.alloc _) hg9' (fun e => by injection e with e; exact hgr e),
                  own_free (o5x.alloc _) hg9' (fun e => by simp only [Value.ownBlock, Option.some.injEq] at e; omega),
                  ⟨by have := HMV.out; rw [HV2.out] at this; exact this, by rw [hfold.out, hmf.out.2.1, HK.out, HV2.out], by obtain ⟨t, e⟩ := hmf.out.2.2; exact ⟨t ++ [(yn : Int)], by rw [e, List.append_assoc]⟩⟩,
                  by omega, by omega, by omega, by omega, (hb6.alloc hb6.size _).grown hg9' (by have := hb6.size; simp; omega) (fun j e => by have := (o11d.lt gl rfl).1; injection e with e; omega)⟩, by simp [intOf]; omega⟩
              · have HV2 : Hid (visitP (xn : Int) (st2, lst2) (yn : Int) = (st2, lst2)) := by
                  have := HV.out; rw [if_neg hneg] at this; exact this
                go_wp2_with fail
                exact ⟨⟨m + 1, st2, lst2, gl, cl, hlt, rfl, rfl, o11, o7, o5, ⟨hmf.out.1, by rw [hfold.out, hmf.out.2.1, HK.out, HV2.out], hmf.out.2.2⟩, hgr, hcl, hgr2, hz, hb⟩, by simp [intOf]; omega⟩
            · have hkL : Hid (m = L.length) := hide (by omega)
              go_wp2_with fail
              go_roundg f
              case rel => exact ⟨st2, lst2, i + 1, gl, cl, rfl, rfl, by obtain ⟨t, e⟩ := hmf.out.2.2; rw [e, List.length_append]; omega, o11, o7, hmf.out.1, by
                  have e := hmf.out.2.1
                  rw [hkL.out, List.take_of_length_le (Nat.le_refl _)] at e
                  have e2 := hmore.out
                  rw [show (st1, lst).2[i]?.getD 0 = (xn : Int) from HX.out, hexp.out, e] at e2
                  exact e2, by omega, hgr, hcl, hb⟩
              case measure => omega
        · have hres : Hid (res = st1) := by rw [← hbfs.out, bfs_end]; exact rfl; exact hi
          have hlen : Hid (st1.length = k) := HMet.out.len
          go_wp2_with fail
          go_ret
          refine ⟨_, rfl, ?_, hb⟩
          rw [hres.out, hlen.out]
          exact o7
end Go.Proofs.Ytljojjkaeclcfaa

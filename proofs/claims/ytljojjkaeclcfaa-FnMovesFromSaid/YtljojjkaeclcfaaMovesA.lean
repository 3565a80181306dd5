
/-
  Boards: movesFrom.
-/
import Derived.Test.YtljojjkaeclcfaaMoveG
import Derived.Test.YtljojjkaeclcfaaRepeat
import Derived.Test.YtljojjkaeclcfaaBfs
import Derived.Test.YtljojjkaeclcfaaSeg
namespace Go.Proofs.Ytljojjkaeclcfaa
open Go.RowKit
set_option linter.unusedVariables false

theorem flat_none' : Flat none := fun ad e => by cases e
theorem own_keep {w w' : World} {base e size n g c : Nat} {xs : List Value} {r : Option Nat} (h : w.ownsRow base e size (.slice (some ⟨g, 0, none⟩) n c) n xs) (hg : w.grownBy w' r) (hr : r ≠ some g) : w'.ownsRow base e size (.slice (some ⟨g, 0, none⟩) n c) n xs :=
  h.kept hg (.inr (fun e => hr e.symm))
theorem own_lt' {w : World} {base e size n : Nat} {v : Value} {xs : List Value} (h : w.ownsRow base e size v n xs) : ∀ k, v.ownBlock = some k → k < w.heap.size := fun k hk => (h.lt k hk).2
theorem own_reads' {w : World} {base e size n c : Nat} {A : Option Addr} {cs : List Value} (h : w.ownsRow base e size (.slice A n c) n cs) : Row w A cs := by
  obtain ⟨A', c', he, _, _, hr, _⟩ := own_row h
  injection he with h1
  exact h1 ▸ hr
theorem fold_snoc (x : Int) (L : List Int) (k : Nat) (hk : k < L.length) (st : List Int × List Int) : (L.take (k + 1)).foldl (visitP x) st = visitP x ((L.take k).foldl (visitP x) st) (L[k]?.getD 0) := by
  rw [take_snoc L k hk, List.foldl_append]
  rfl
theorem own_free {w w' : World} {base e size n : Nat} {v : Value} {xs : List Value} {g : Nat} (h : w.ownsRow base e size v n xs) (hg : w.grownBy w' (some g)) (hne : v.ownBlock ≠ some g) : w'.ownsRow base e size v n xs := h.kept hg (.inr hne)
theorem ints_set (l : List Int) (i : Nat) (u : Int) : (ints l).set i (.int .i64 u) = ints (l.set i u) := by simp [ints, List.map_set]

set_option maxHeartbeats 2000000 in
set_option maxRecDepth 100000 in
theorem movesFrom_c (bc br cell : Int) (B0 : Nat) (pv : Value) (far : Bool) (ss : List (Int × Int)) (w : World) (h1 : 1 ≤ bc) (h2 : bc ≤ 5) (h3 : 1 ≤ br) (h4 : br ≤ 5)
    (g1 : 0 ≤ cell) (g2 : cell < bc * br) (hs : Hid (∀ p ∈ ss, okStep p)) (hn : ss.length ≤ 8) (hp : IsPiece w B0 pv ss far) :
    Calls Try.prog 22 #[boardV bc br, pv, .int .i64 cell] w (Owns 3 1 (movesP bc br far ss cell).length (ints (movesP bc br far ss cell)) w) := by
  obtain ⟨m1, m2⟩ := mul_bd h1 h2 h3 h4
  obtain ⟨N, hN⟩ : ∃ N : Nat, bc * br = (N : Int) := ⟨(bc * br).toNat, by omega⟩
  obtain ⟨cn, rfl⟩ := Int.eq_ofNat_of_zero_le g1
  have HP := hide (show movesP bc br far ss cn = bfsP bc br far ss 26 ((List.replicate N (-1)).set cn 0, [(cn : Int)]) 0 by
    rw [movesP, hN]; rfl)
  have HM := hide (Met.start (N := N) (cell := (cn : Int)) (by omega) (by omega))
  have hcn : cn < N := by omega
  have hN1 : 1 ≤ N := by omega
  have hN2 : N ≤ 25 := by omega
  have hin := hide (fun (x : Int) => cells_in (bc := bc) (br := br) (far := far) (others := []) (cell := x) (ss := ss) h1 h2 h3 h4)
  have hsize := hide (fun (w5 : World) => show Calls Try.prog 29 #[boardV bc br] w5 (Plain (.int .i64 (N : Int)) w5) by
    have := size_c bc br w5 h1 h2 h3 h4; rwa [hN] at this)
  have hreach := hide (fun (x : Int) (w5 : World) (x0 : 0 ≤ x) (x1 : x < (N : Int)) (hp5 : IsPiece w5 B0 pv ss far) => reach_c bc br x B0 pv far none 0 ss [] w5 h1 h2 h3 h4 x0 (by omega) hs hn hp5 (Row.empty _ _) flat_none' (by simp [maxLen]))
  have hNN := hide hN
  have bx0 := Box.new w 43 #[.int .i64 bc, .int .i64 br]
  generalize hRes : movesP bc br far ss cn = res at *
  clear hRes hN g2 m1 m2
  go_enter Try.func22, Try.ntmps22
  go_wp2_with fail
  refine (hsize.out _).mono ?_
  rintro e w1 ⟨rfl, b1⟩
  have bx1 := (bx0.alloc (.cells #[.int .i64 (-1)] 3)).then b1
  have hc1 := ((Box.new (w.alloc (.cells #[.int .i64 bc, .int .i64 br] 43)) 3 #[.int .i64 (-1)]).then b1).cell 0
  simp only [World.size_alloc] at hc1
  have b1 := below_then (((Below.refl w.heap.size w).alloc (Nat.le_refl _) (.cells #[.int .i64 bc, .int .i64 br] 43)).alloc (by simp) (.cells #[.int .i64 (-1)] 3)) (by simp; omega) b1
  have z1 := bx1.in_
  clear bx0
  go_wp2_with fail
  refine (repeat_c N (w.heap.size + 1) (-1) _ hN1 hN2 hc1).mono ?_
  rintro e w2 ⟨v7, rfl, o7, b2⟩
  obtain ⟨g7, c7, rfl, hc71, hc72, _, hg7, _⟩ := own_one o7 hN1
  have bx2 := bx1.then b2
  have b2 := below_then b1 b1.size b2
  have o7 := own_mono o7 (base' := w.heap.size + 1) (by omega)
  clear hc1 bx1
  have hl7 : (List.replicate N (-1 : Int)).length = N := by simp
  obtain ⟨st0, hst0⟩ : ∃ st, List.replicate N (-1 : Int) = st := ⟨_, rfl⟩
  rw [hst0] at o7 hl7 HM HP
  clear hst0
  have hcell := o7.cellAt cn (by omega)
  rw [List.getElem?_eq_getElem (by simp; omega)] at hcell
  have hfree := o7.frozenAt cn
  obtain ⟨ost, gst⟩ := o7.stored cn (.int .i64 0)
  rw [ints_set] at ost
  have bst := b2.grown gst b2.size (fun k e => by injection e with e; omega)
  have bxs := bx2.grown gst (fun e => by injection e with e; omega)
  have Ost := hide ost
  clear ost o7 gst
  unfold maxLen at hc72
  have Hzs := hide (show (w2.setCell ⟨g7, cn, none⟩ (Value.int .i64 0)).heap.size = w2.heap.size by simp [World.setCell])
  go_wp2_with fail
  generalize w2.setCell ⟨g7, cn, none⟩ (Value.int .i64 0) = w3 at *
  have zb3 := bxs.in_
  have hz3 := bst.size
  go_loopg [8] 26 (fun f v wr => ∃ (st1 pre rest : List Int) (gq : Nat), Seg wr (w.heap.size + 1) gq 3 v (ints rest) ∧ wr.ownsRow (w.heap.size + 1) 3 1 (.slice (some ⟨g7, 0, none⟩) N c7) N (ints st1) ∧ Hid (Met N (st1, pre ++ rest)) ∧ Hid (bfsP bc br far ss f (st1, pre ++ rest) pre.length = res) ∧ N + 1 ≤ pre.length + f ∧ gq ≠ g7 ∧ Below w.heap.size w wr ∧ Box wr w.heap.size 43 #[.int .i64 bc, .int .i64 br])
  case atStart =>
    have on := own_lt' Ost.out
    refine ⟨st0.set cn 0, [], [(cn : Int)], w2.heap.size, ?_, Ost.out.alloc _, HM.out, HP.out.symm, by simp; omega, ?_, bst.alloc hz3 _, bxs.alloc _⟩
    · exact ⟨0, 1, #[.int .i64 cn], rfl, by have := Hzs.out; omega, by rw [← Hzs.out]; exact Box.new _ _ _, Nat.le_refl _, by simp [maxLen], by simp, fun j hj => by
        simp only [List.length_map, List.length_cons, List.length_nil] at hj
        obtain rfl : j = 0 := by omega
        rfl⟩
    · have := on g7 rfl
      have := Hzs.out
      omega
  case round =>
    obtain ⟨st1, pre, rest, gq, sg, o7, HMet, hbfs, hf, hgq, hb, bx⟩ := hrel
    obtain ⟨wo, rfl⟩ : ∃ wo : World, wo = wr := ⟨_, rfl⟩
    have z := hb.size
    cases rest with
    | nil =>
      obtain ⟨off, cap, rfl, _, _, _⟩ := sg.row
      have hres : Hid (res = st1) := by rw [← hbfs.out, bfs_end]; exact rfl; simp
      have hlen : Hid (st1.length = N) := HMet.out.len
      go_wp2_with fail
      go_ret
      refine ⟨_, rfl, ?_, hb⟩
      rw [hres.out, hlen.out]
      exact own_mono o7 (by omega)
    | cons x rest =>
      obtain ⟨off, cap, hv, hcap1, hcap2, hcells⟩ := sg.row
      simp only [ints, List.map_cons, List.length_cons, List.length_map] at hv hcap1 hcells
      subst hv
      have hx0 := hcells 0 (by omega)
      simp only [Nat.add_zero, List.getElem?_cons_zero] at hx0
      have sgt0 : Seg wo (w.heap.size + 1) gq 3 (.slice (some ⟨gq, off, none⟩) ((rest.map (Value.int .i64)).length + 1) cap) (Value.int .i64 x :: rest.map (Value.int .i64)) := by
        rw [List.length_map]; exact sg
      have sgt : Seg wo (w.heap.size + 1) gq 3 (.slice (if cap = 1 then some ⟨gq, off, none⟩ else some ⟨gq, off + 1, none⟩) (rest.map (Value.int .i64)).length (cap - 1)) (rest.map (Value.int .i64)) := Seg.tail sgt0
      rw [List.length_map] at sgt
      clear sgt0
      obtain ⟨⟨x0, x1⟩, _⟩ := HMet.out.mem x (by simp)
      have hfz : Hid (1 ≤ gk) := by have := HMet.out.le; simp only [List.length_append, List.length_cons] at this; show 1 ≤ gk; omega
      obtain ⟨f, rfl⟩ : ∃ f, gk = f + 1 := ⟨gk - 1, by have := hfz.out; omega⟩
      have c0 := bx.cell 0
      have c1 := bx.cell 1
      have hi1 : (1 : Int) ≤ (cap : Int) := by omega
      unfold maxLen at hcap2
      clear hcells
      obtain ⟨xn, rfl⟩ := Int.eq_ofNat_of_zero_le x0
      by_cases hcap : cap = 1
      · rw [if_pos hcap] at sgt
        subst hcap
        obtain rfl : rest = [] := List.eq_nil_of_length_eq_zero (by omega)
        go_wp2_with fail
        refine (hreach.out _ wo x0 x1 (hp.then hb)).mono ?_
        rintro e w5 ⟨v5, rfl, o5, b5⟩
        obtain ⟨A5, c5, rfl, _⟩ := own_row o5
        have i7 := own_lt' o7 g7 rfl
        have iq := sg.lt.2
        have i5 := own_lt' o5
        have o7 := own_below o7 b5
        have sgt := sgt.then b5
        have bx := bx.then b5
        have z5 := b5.size
        have hb := below_then hb z b5
        have hmem : Hid (∀ y ∈ reachP bc br far [] (xn : Int) ss, 0 ≤ y ∧ y < (N : Int)) := fun y hy => by
          unfold reachP at hy
          rw [List.mem_mergeSort] at hy
          have := hin.out _ y hy
          rwa [hNN.out] at this
        have hexp : Hid (∀ st, expandP bc br far ss (xn : Int) st = (reachP bc br far [] (xn : Int) ss).foldl (visitP (xn : Int)) st) := fun st => rfl
        have hLl := reach_len bc br far [] (xn : Int) ss
        generalize reachP bc br far [] (xn : Int) ss = L at *
        have hmore := hide ((bfs_more bc br far ss f (st1, pre ++ (xn : Int) :: ([] : List Int)) pre.length (by simp)).symm.trans hbfs.out)
        clear sg hbfs c0 c1 hx0
        go_wp2_with fail
        go_loopw [8, 34] (fun v i wr => ∃ (k : Nat) (st2 rs : List Int) (gr : Nat), k ≤ L.length ∧ i = .int .i64 k ∧ Seg wr (w.heap.size + 1) gr 3 v (ints rs) ∧ wr.ownsRow (w.heap.size + 1) 3 1 (.slice (some ⟨g7, 0, none⟩) N c7) N (ints st2) ∧ wr.ownsRow wo.heap.size 3 1 (.slice A5 L.length c5) L.length (ints L) ∧
            Hid (Met N (st2, pre ++ [(xn : Int)] ++ rs) ∧ (L.take k).foldl (visitP (xn : Int)) (st1, pre ++ (xn : Int) :: ([] : List Int)) = (st2, pre ++ [(xn : Int)] ++ rs)) ∧ gr ≠ g7 ∧ (gr < wo.heap.size ∨ w5.heap.size ≤ gr) ∧ w5.heap.size ≤ wr.heap.size ∧ Below w.heap.size w wr ∧ Box wr w.heap.size 43 #[.int .i64 bc, .int .i64 br]) (fun _ i _ => L.length - (intOf i).toNat)
        case atStart => exact ⟨0, st1, ([] : List Int), gq, Nat.zero_le _, rfl, sgt, o7, o5, ⟨by simpa using HMet.out, by simp⟩, hgq, .inl iq, Nat.le_refl _, hb, bx⟩
        case round =>
          clear sgt o7 o5 hb bx HMet
          obtain ⟨k, st2, rs, gr, hk, rfl, sg, o7, o5, hmf, hgr, hgr2, hz, hb, bx⟩ := hrel
          obtain ⟨wi, rfl⟩ : ∃ wi : World, wi = wr := ⟨_, rfl⟩
          by_cases hlt : k < L.length
          · obtain ⟨ad, rfl, hcy⟩ := (own_reads' o5).int hlt
            obtain ⟨y0, y1⟩ := hmem.out _ (show L[k] ∈ L from List.getElem_mem hlt)
            have hky : L[k]?.getD 0 = L[k] := by rw [List.getElem?_eq_getElem hlt]; rfl
            obtain ⟨yn, hyn⟩ := Int.eq_ofNat_of_zero_le y0
            rw [hky, hyn] at hcy
            rw [hyn] at y1 hky
            have hyN : yn < N := by omega
            have hxN : xn < N := by omega
            have HK := hide hky
            have hl2 : Hid (st2.length = N) := hmf.out.1.len
            have hcm := o7.cellAt yn (by omega)
            have hcx := o7.cellAt xn (by omega)
            have hfm := o7.frozenAt yn
            have bx2 := hmf.out.1.at_bd (xn : Int) (by omega) (by omega)
            have hle := hmf.out.1.le
            have hxmem := hide (hmf.out.1.mem (xn : Int) (by simp)).2
            simp only [Int.toNat_natCast] at bx2 hxmem
            rw [show (ints st2)[yn]? = some (.int .i64 (st2[yn]?.getD 0)) from by rw [ints, List.getElem?_map, List.getElem?_eq_getElem (by rw [hl2.out]; exact hyN)]; rfl] at hcm
            rw [show (ints st2)[xn]? = some (.int .i64 (st2[xn]?.getD 0)) from by rw [ints, List.getElem?_map, List.getElem?_eq_getElem (by rw [hl2.out]; exact hxN)]; rfl] at hcx
            obtain ⟨ost, gst⟩ := o7.stored yn (.int .i64 (st2[xn]?.getD 0 + 1))
            rw [ints_set] at ost
            have hfold := hide (fold_snoc (xn : Int) L k hlt (st1, pre ++ (xn : Int) :: ([] : List Int)))
            have HST := hide (show ∀ a b, st2[yn]?.getD 0 = a → st2[xn]?.getD 0 = b → visitP (xn : Int) (st2, pre ++ [(xn : Int)] ++ rs) (yn : Int) = if a < 0 then (st2.set yn (b + 1), pre ++ [(xn : Int)] ++ (rs ++ [(yn : Int)])) else (st2, pre ++ [(xn : Int)] ++ rs) from fun a b ha hb' => by
              subst ha hb'
              simp [visitP])
            have HMV := hide ((hmf.out.1.visit (x := (xn : Int)) (y := (yn : Int)) (by simp) (by omega) y1).1)
            obtain ⟨a, ha⟩ : ∃ a, st2[yn]?.getD 0 = a := ⟨_, rfl⟩
            obtain ⟨b, hbv⟩ : ∃ b, st2[xn]?.getD 0 = b := ⟨_, rfl⟩
            have hv := HST.out a b ha hbv
            rw [ha] at hcm
            rw [hbv] at hcx bx2 ost gst
            have HV := hide hv
            have Ost := hide ost
            have Gst := hide gst
            clear ha hbv hv HST ost gst hky hyn y0 hxmem
            simp only [List.length_append, List.length_cons, List.length_nil] at bx2 hle
            obtain ⟨b0, b1'⟩ := bx2
            by_cases hneg : a < 0
            · have HV2 : Hid (visitP (xn : Int) (st2, pre ++ [(xn : Int)] ++ rs) (yn : Int) = (st2.set yn (b + 1), pre ++ [(xn : Int)] ++ (rs ++ [(yn : Int)]))) := by
                have := HV.out; rw [if_pos hneg] at this; exact this
              have sg6 := hide ((sg.grown Gst.out (fun e => by injection e with e; omega)).then ((Below.refl _ _).alloc (Nat.le_refl _) (.cells #[.int .i64 (yn : Int)] 3)))
              have o76 := hide (Ost.out.alloc (.cells #[.int .i64 (yn : Int)] 3))
              have o56 := hide ((own_free o5 Gst.out (fun e => by have := (o5.lt _ e).1; omega)).alloc (.cells #[.int .i64 (yn : Int)] 3))
              have hb6 := hide ((hb.grown Gst.out hb.size (fun j e => by injection e with e; omega)).alloc (by have := hb.size; have := Gst.out.size; omega) (.cells #[.int .i64 (yn : Int)] 3))
              have bx6 := hide ((bx.grown Gst.out (fun e => by injection e with e; omega)).alloc (.cells #[.int .i64 (yn : Int)] 3))
              have hz6 := Gst.out.size
              have hnew : Hid (((wi.setCell ⟨g7, yn, none⟩ (.int .i64 (b + 1))).alloc (.cells #[.int .i64 (yn : Int)] 3)).cell? ⟨wi.heap.size, 0, none⟩ = some (.int .i64 (yn : Int))) := (World.cell?_alloc_at _ _ _ _ (by simp [World.setCell])).trans rfl
              go_wp2_with ((at_builtin; refine seg_put rfl (.tmp 51) (.tmp 53) rfl Try.underlying25 elem_int rfl sg6.out rfl hnew.out rfl (by simp; omega) (by omega) (by have := hb.size; simp; omega) ?_; intro v9 w9 g9 sg9 hg9 hgg))
              have gl := sg.lt.1
              have z6 : (wi.setCell ⟨g7, yn, none⟩ (.int .i64 (b + 1))).heap.size = wi.heap.size := by simp [World.setCell]
              have z9 := hg9.size
              rw [World.size_alloc, z6] at z9 hgg
              exact ⟨⟨k + 1, st2.set yn (b + 1), rs ++ [(yn : Int)], g9, hlt, rfl, by simpa [ints] using sg9, own_keep o76.out hg9 (fun e => by injection e with e; exact hgr e),
                own_free o56.out hg9 (fun e => by have e1 := (o56.out.lt _ e).1; have e2 := i5 _ e; omega),
                ⟨by have := HMV.out; rw [HV2.out] at this; simpa using this, by rw [hfold.out, hmf.out.2, HK.out, HV2.out]⟩, by omega, by omega, by omega,
                hb6.out.grown hg9 hb6.out.size (fun j e => by injection e with e; omega), bx6.out.grown hg9 (fun e => by injection e with e; omega)⟩, by simp [intOf]; omega⟩
            · have HV2 : Hid (visitP (xn : Int) (st2, pre ++ [(xn : Int)] ++ rs) (yn : Int) = (st2, pre ++ [(xn : Int)] ++ rs)) := by
                have := HV.out; rw [if_neg hneg] at this; exact this
              go_wp2_with fail
              exact ⟨⟨k + 1, st2, rs, gr, hlt, rfl, sg, o7, o5, ⟨hmf.out.1, by rw [hfold.out, hmf.out.2, HK.out, HV2.out]⟩, hgr, hgr2, hz, hb, bx⟩, by simp [intOf]; omega⟩
          · have hkL : Hid (k = L.length) := hide (by omega)
            go_wp2_with fail
            go_roundg f
            case rel => exact ⟨st2, pre ++ [(xn : Int)], rs, gr, sg, o7, hmf.out.1, by
                have e := hmf.out.2
                rw [hkL.out, List.take_of_length_le (Nat.le_refl _)] at e
                have e2 := hmore.out
                rw [show (pre ++ (xn : Int) :: ([] : List Int))[pre.length]?.getD 0 = (xn : Int) by simp, hexp.out, e] at e2
                simpa [Hid] using e2, by simp; omega, hgr, hb, bx⟩
            case measure => omega
      · rw [if_neg hcap] at sgt
        go_wp2_with fail
        refine (hreach.out _ wo x0 x1 (hp.then hb)).mono ?_
        rintro e w5 ⟨v5, rfl, o5, b5⟩
        obtain ⟨A5, c5, rfl, _⟩ := own_row o5
        have i7 := own_lt' o7 g7 rfl
        have iq := sg.lt.2
        have i5 := own_lt' o5
        have o7 := own_below o7 b5
        have sgt := sgt.then b5
        have bx := bx.then b5
        have z5 := b5.size
        have hb := below_then hb z b5
        have hmem : Hid (∀ y ∈ reachP bc br far [] (xn : Int) ss, 0 ≤ y ∧ y < (N : Int)) := fun y hy => by
          unfold reachP at hy
          rw [List.mem_mergeSort] at hy
          have := hin.out _ y hy
          rwa [hNN.out] at this
        have hexp : Hid (∀ st, expandP bc br far ss (xn : Int) st = (reachP bc br far [] (xn : Int) ss).foldl (visitP (xn : Int)) st) := fun st => rfl
        have hLl := reach_len bc br far [] (xn : Int) ss
        generalize reachP bc br far [] (xn : Int) ss = L at *
        have hmore := hide ((bfs_more bc br far ss f (st1, pre ++ (xn : Int) :: rest) pre.length (by simp)).symm.trans hbfs.out)
        clear sg hbfs c0 c1 hx0
        go_wp2_with fail
        go_loopw [8, 34] (fun v i wr => ∃ (k : Nat) (st2 rs : List Int) (gr : Nat), k ≤ L.length ∧ i = .int .i64 k ∧ Seg wr (w.heap.size + 1) gr 3 v (ints rs) ∧ wr.ownsRow (w.heap.size + 1) 3 1 (.slice (some ⟨g7, 0, none⟩) N c7) N (ints st2) ∧ wr.ownsRow wo.heap.size 3 1 (.slice A5 L.length c5) L.length (ints L) ∧
            Hid (Met N (st2, pre ++ [(xn : Int)] ++ rs) ∧ (L.take k).foldl (visitP (xn : Int)) (st1, pre ++ (xn : Int) :: rest) = (st2, pre ++ [(xn : Int)] ++ rs)) ∧ gr ≠ g7 ∧ (gr < wo.heap.size ∨ w5.heap.size ≤ gr) ∧ w5.heap.size ≤ wr.heap.size ∧ Below w.heap.size w wr ∧ Box wr w.heap.size 43 #[.int .i64 bc, .int .i64 br]) (fun _ i _ => L.length - (intOf i).toNat)
        case atStart => exact ⟨0, st1, rest, gq, Nat.zero_le _, rfl, sgt, o7, o5, ⟨by simpa using HMet.out, by simp⟩, hgq, .inl iq, Nat.le_refl _, hb, bx⟩
        case round =>
          clear sgt o7 o5 hb bx HMet
          obtain ⟨k, st2, rs, gr, hk, rfl, sg, o7, o5, hmf, hgr, hgr2, hz, hb, bx⟩ := hrel
          obtain ⟨wi, rfl⟩ : ∃ wi : World, wi = wr := ⟨_, rfl⟩
          by_cases hlt : k < L.length
          · obtain ⟨ad, rfl, hcy⟩ := (own_reads' o5).int hlt
            obtain ⟨y0, y1⟩ := hmem.out _ (show L[k] ∈ L from List.getElem_mem hlt)
            have hky : L[k]?.getD 0 = L[k] := by rw [List.getElem?_eq_getElem hlt]; rfl
            obtain ⟨yn, hyn⟩ := Int.eq_ofNat_of_zero_le y0
            rw [hky, hyn] at hcy
            rw [hyn] at y1 hky
            have hyN : yn < N := by omega
            have hxN : xn < N := by omega
            have HK := hide hky
            have hl2 : Hid (st2.length = N) := hmf.out.1.len
            have hcm := o7.cellAt yn (by omega)
            have hcx := o7.cellAt xn (by omega)
            have hfm := o7.frozenAt yn
            have bx2 := hmf.out.1.at_bd (xn : Int) (by omega) (by omega)
            have hle := hmf.out.1.le
            have hxmem := hide (hmf.out.1.mem (xn : Int) (by simp)).2
            simp only [Int.toNat_natCast] at bx2 hxmem
            rw [show (ints st2)[yn]? = some (.int .i64 (st2[yn]?.getD 0)) from by rw [ints, List.getElem?_map, List.getElem?_eq_getElem (by rw [hl2.out]; exact hyN)]; rfl] at hcm
            rw [show (ints st2)[xn]? = some (.int .i64 (st2[xn]?.getD 0)) from by rw [ints, List.getElem?_map, List.getElem?_eq_getElem (by rw [hl2.out]; exact hxN)]; rfl] at hcx
            obtain ⟨ost, gst⟩ := o7.stored yn (.int .i64 (st2[xn]?.getD 0 + 1))
            rw [ints_set] at ost
            have hfold := hide (fold_snoc (xn : Int) L k hlt (st1, pre ++ (xn : Int) :: rest))
            have HST := hide (show ∀ a b, st2[yn]?.getD 0 = a → st2[xn]?.getD 0 = b → visitP (xn : Int) (st2, pre ++ [(xn : Int)] ++ rs) (yn : Int) = if a < 0 then (st2.set yn (b + 1), pre ++ [(xn : Int)] ++ (rs ++ [(yn : Int)])) else (st2, pre ++ [(xn : Int)] ++ rs) from fun a b ha hb' => by
              subst ha hb'
              simp [visitP])
            have HMV := hide ((hmf.out.1.visit (x := (xn : Int)) (y := (yn : Int)) (by simp) (by omega) y1).1)
            obtain ⟨a, ha⟩ : ∃ a, st2[yn]?.getD 0 = a := ⟨_, rfl⟩
            obtain ⟨b, hbv⟩ : ∃ b, st2[xn]?.getD 0 = b := ⟨_, rfl⟩
            have hv := HST.out a b ha hbv
            rw [ha] at hcm
            rw [hbv] at hcx bx2 ost gst
            have HV := hide hv
            have Ost := hide ost
            have Gst := hide gst
            clear ha hbv hv HST ost gst hky hyn y0 hxmem
            simp only [List.length_append, List.length_cons, List.length_nil] at bx2 hle
            obtain ⟨b0, b1'⟩ := bx2
            by_cases hneg : a < 0
            · have HV2 : Hid (visitP (xn : Int) (st2, pre ++ [(xn : Int)] ++ rs) (yn : Int) = (st2.set yn (b + 1), pre ++ [(xn : Int)] ++ (rs ++ [(yn : Int)]))) := by
                have := HV.out; rw [if_pos hneg] at this; exact this
              have sg6 := hide ((sg.grown Gst.out (fun e => by injection e with e; omega)).then ((Below.refl _ _).alloc (Nat.le_refl _) (.cells #[.int .i64 (yn : Int)] 3)))
              have o76 := hide (Ost.out.alloc (.cells #[.int .i64 (yn : Int)] 3))
              have o56 := hide ((own_free o5 Gst.out (fun e => by have := (o5.lt _ e).1; omega)).alloc (.cells #[.int .i64 (yn : Int)] 3))
              have hb6 := hide ((hb.grown Gst.out hb.size (fun j e => by injection e with e; omega)).alloc (by have := hb.size; have := Gst.out.size; omega) (.cells #[.int .i64 (yn : Int)] 3))
              have bx6 := hide ((bx.grown Gst.out (fun e => by injection e with e; omega)).alloc (.cells #[.int .i64 (yn : Int)] 3))
              have hz6 := Gst.out.size
              have hnew : Hid (((wi.setCell ⟨g7, yn, none⟩ (.int .i64 (b + 1))).alloc (.cells #[.int .i64 (yn : Int)] 3)).cell? ⟨wi.heap.size, 0, none⟩ = some (.int .i64 (yn : Int))) := (World.cell?_alloc_at _ _ _ _ (by simp [World.setCell])).trans rfl
              go_wp2_with ((at_builtin; refine seg_put rfl (.tmp 51) (.tmp 53) rfl Try.underlying25 elem_int rfl sg6.out rfl hnew.out rfl (by simp; omega) (by omega) (by have := hb.size; simp; omega) ?_; intro v9 w9 g9 sg9 hg9 hgg))
              have gl := sg.lt.1
              have z6 : (wi.setCell ⟨g7, yn, none⟩ (.int .i64 (b + 1))).heap.size = wi.heap.size := by simp [World.setCell]
              have z9 := hg9.size
              rw [World.size_alloc, z6] at z9 hgg
              exact ⟨⟨k + 1, st2.set yn (b + 1), rs ++ [(yn : Int)], g9, hlt, rfl, by simpa [ints] using sg9, own_keep o76.out hg9 (fun e => by injection e with e; exact hgr e),
                own_free o56.out hg9 (fun e => by have e1 := (o56.out.lt _ e).1; have e2 := i5 _ e; omega),
                ⟨by have := HMV.out; rw [HV2.out] at this; simpa using this, by rw [hfold.out, hmf.out.2, HK.out, HV2.out]⟩, by omega, by omega, by omega,
                hb6.out.grown hg9 hb6.out.size (fun j e => by injection e with e; omega), bx6.out.grown hg9 (fun e => by injection e with e; omega)⟩, by simp [intOf]; omega⟩
            · have HV2 : Hid (visitP (xn : Int) (st2, pre ++ [(xn : Int)] ++ rs) (yn : Int) = (st2, pre ++ [(xn : Int)] ++ rs)) := by
                have := HV.out; rw [if_neg hneg] at this; exact this
              go_wp2_with fail
              exact ⟨⟨k + 1, st2, rs, gr, hlt, rfl, sg, o7, o5, ⟨hmf.out.1, by rw [hfold.out, hmf.out.2, HK.out, HV2.out]⟩, hgr, hgr2, hz, hb, bx⟩, by simp [intOf]; omega⟩
          · have hkL : Hid (k = L.length) := hide (by omega)
            go_wp2_with fail
            go_roundg f
            case rel => exact ⟨st2, pre ++ [(xn : Int)], rs, gr, sg, o7, hmf.out.1, by
                have e := hmf.out.2
                rw [hkL.out, List.take_of_length_le (Nat.le_refl _)] at e
                have e2 := hmore.out
                rw [show (pre ++ (xn : Int) :: rest)[pre.length]?.getD 0 = (xn : Int) by simp, hexp.out, e] at e2
                simpa [Hid] using e2, by simp; omega, hgr, hb, bx⟩
            case measure => omega
end Go.Proofs.Ytljojjkaeclcfaa

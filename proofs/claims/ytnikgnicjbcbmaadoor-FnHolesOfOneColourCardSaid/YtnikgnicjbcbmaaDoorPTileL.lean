
/-
  The program's covers row by row: coversByRows.
-/
import Derived.Test.YtnikgnicjbcbmaaDoorPTileO
import Derived.OwnWalk
import Derived.Deep.RegionHeld3
namespace Go.Proofs.YtnikgnicjbcbmaaDoor
open Go.RowKit Go.Maps
set_option linter.unusedVariables false

/-- A key and its element laid into the call's own map, as a map that is written out is made. -/
theorem insert_ownA {P : Program} (w : World) {ops : Array Oper} {rest : List Oper} {o : Oper} {a : Act} {Q : Exit → Act → World → Prop}
    (hg : o.guard = none) (m x v : Operand) (t : TypeId) (hop : o.op = Op.insert t m x v)
    (k e : TypeId) (K : Keyed P k) (ht : P.underlying t = some (.map k e)) (R : Value → Option (DataW Unit × List MemPlace)) (b n : Nat) (D : DataW Unit)
    (hm : a.eval m = .map (some b)) (hown : w.ownsMap P k R b n D) (hn : n < maxLen) (key val : Value) (kl : Lit) (hx : a.eval x = key) (hv : a.eval v = val) (hkey : keyOf P k key = some kl)
    (d : DataW Unit) (ps : List MemPlace) (hval : R val = some (d, ps))
    (hK : ∀ w', w'.ownsMap P k R b (n + 1) (D.put kl d) → w.grownBy w' (some b) → wpList P ops Q rest (a.put o.dst undef) w') :
    wpList P ops Q (o :: rest) a w := by
  refine wpList_plain hg fun K' hK' => ?_
  obtain ⟨w', hrun, r1, r2⟩ := hown.update K ht hn hkey hval
  unfold Oper.wp
  simp [execOp, hop, hm, hx, hv, hrun, Result.andThen]
  exact hK' _ _ (hK w' r1 r2)
theorem cells_zero : bitsF (Nat.testBit 0) = #[.bool false, .bool false, .bool false, .bool false, .bool false] := by simp [bitsF]
theorem key_zero : keyOf Tryd.prog 58 (.agg #[.bool false, .bool false, .bool false, .bool false, .bool false]) = some (klit 0) := by
  rw [← cells_zero]
  exact keyOf_s 0
theorem eight {k : Nat} (h : k ≤ 5) : 8 ^ k ≤ 32768 := Nat.le_trans (Nat.pow_le_pow_right (by omega) h) (by decide)
theorem grown_none {w w' : World} (h : Below w.heap.size w w') : w.grownBy w' none := ⟨h.os, h.tape, h.output, h.size, fun k hk _ => h.block k hk⟩
theorem map_below {w w' : World} {b n : Nat} {D : DataW Unit} (h : OwnsA w b n D) (hb : Below w.heap.size w w') : OwnsA w' b n D := h.kept (grown_none hb) (fun e => by cases e)
def oneF (t : Nat) : Nat := if t = 0 then 1 else 0
theorem wt_one (R : Nat → Nat) : wt oneF R = R 0 := by
  unfold wt
  rw [sumN_one 0 32 (by omega) (fun i _ hi => by unfold oneF; rw [if_neg hi, Nat.zero_mul])]
  simp [oneF]
def goodR (w set k t : Nat) : Prop := t < 2 ^ w ∧ dif t (rowS w set k) = 0
theorem five_lt {w s : Nat} (hw : w ≤ 5) (h : s < 2 ^ w) : s < 32 := Nat.lt_of_lt_of_le h (Nat.pow_le_pow_right (n := 2) (by omega) hw)

set_option maxHeartbeats 16000000 in
set_option maxRecDepth 100000 in
theorem coversByRows_c (w h set : Nat) (g : Nat → Bool) (hw : 1 ≤ w ∧ w ≤ 5) (hh : 1 ≤ h ∧ h ≤ 5) (hset : ∀ i, set.testBit i = (decide (i < w * h) && !g i)) (hs : set < 33554432) (W : World) :
    Calls Tryd.prog 21 #[boardV (w : Int) (h : Int), .int .i64 (set : Int)] W (Plain (.int .i64 ((rowsT w h g h 0 : Nat) : Int)) W) := by
  have bx0 := Box.new W 37 #[.int .i64 (w : Int), .int .i64 (h : Int)]
  have hmm := @run_makeMap Tryd.prog
  have hmade := hide (World.ownsMap_made (W.alloc (.cells #[.int .i64 (w : Int), .int .i64 (h : Int)] 37)) Tryd.prog 58 (plainElem (H := Unit) Tryd.prog 3))
  have HST := hide (fun (m s : Nat) (hm : m + 1 ≤ h) (hs : s < 2 ^ w) (hg : dif s (rowS w set (h - (m + 1))) = 0) => rows_step hw hm hset hs hg)
  have HCI := hide (fun (row : Nat) (hr : row ≤ 5) (w5 : World) => cellsIn_c w h row set w5 hw hr hs)
  generalize hT : rowsT w h g h 0 = T at *
  have hR0 : Hid (∀ s, rowsT w h g 0 s = if s = 0 then 1 else 0) := fun s => rfl
  have hRh : Hid (rowsT w h g (h - 0) 0 = T) := hT
  clear hT
  generalize rowsT w h g = R at *
  clear hset
  go_enter Tryd.func21, Tryd.ntmps21
  go_wp2_with (first
    | (refine insert_ownA _ rfl _ _ _ 59 rfl 58 3 mlawA Tryd.underlying59 (plainElem Tryd.prog 3) (W.heap.size + 1) 0 _ rfl (by simpa using hmade.out) (by unfold maxLen; omega) _ _ _ rfl rfl key_zero _ [] (plainElem_int Tryd.underlying3 (by decide)) ?_; intro w1 own1 hg1
       have bx1 := (bx0.alloc (.map #[] 0)).grown hg1 (by simp)
       have q0 := bx1.cell 0
       have q1 := bx1.cell 1)
    | go_in)
  have hb1 := (((Below.refl W.heap.size W).alloc (Nat.le_refl _) (.cells #[.int .i64 (w : Int), .int .i64 (h : Int)] 37)).alloc (by simp) (.map #[] 0)).grown hg1 (by simp; omega) (fun j hj => by cases hj; exact Nat.le_succ _)
  have hv1 : Hid (ViewA (DataW.put (.map []) (klit 0) (.lit (.int .i64 1))) oneF (goodR w set 0)) :=
    ((ViewA.empty (goodR w set 0)).put (x := 0) (by omega) ⟨Nat.pow_pos (by omega), by simp [dif]⟩ 1).congr fun t _ => rfl
  clear hmade hg1 q0 q1
  go_loopw [5, 19] (fun m i wr => ∃ (k b nk : Nat) (D : DataW Unit) (F : Nat → Nat), k ≤ h ∧ i = .int .i64 (k : Int) ∧ m = .map (some b) ∧ W.heap.size < b ∧ OwnsA wr b nk D ∧ Hid (nk ≤ 8 ^ k) ∧ Hid (ViewA D F (goodR w set k)) ∧ Hid (wt F (R (h - k)) = T) ∧ Hid (wt F (fun _ => 1) ≤ 8 ^ k) ∧
    Below W.heap.size W wr ∧ Box wr W.heap.size 37 #[.int .i64 (w : Int), .int .i64 (h : Int)]) (fun _ i _ => h - (intOf i).toNat)
  case atStart => exact ⟨0, W.heap.size + 1, 1, _, oneF, Nat.zero_le _, rfl, rfl, by omega, own1, Nat.le_refl _, hv1, (wt_one _).trans hRh.out, Nat.le_of_eq (wt_one _), hb1, bx1⟩
  case round =>
    obtain ⟨k, b, nk, D, F, hk, rfl, rfl, hbW, hown, hnk, hv, hwt, hw1, hb, bx⟩ := hrel
    obtain ⟨wo, rfl⟩ : ∃ wo : World, wo = wr := ⟨_, rfl⟩
    have z := hb.size
    have c0 := bx.cell 0
    have c1 := bx.cell 1
    by_cases hlt : k < h
    · have HC1 := hide (fun w5 => HCI.out k (by omega) w5)
      have HC2 := hide (fun w5 => HCI.out (k + 1) (by omega) w5)
      obtain ⟨fA, hfA⟩ : ∃ fA, fA = (rowS w set k).testBit := ⟨_, rfl⟩
      obtain ⟨fB, hfB⟩ : ∃ fB, fB = (rowS w set (k + 1)).testBit := ⟨_, rfl⟩
      have HC1 := hide (fun w5 => show Calls Tryd.prog 35 #[boardV (w : Int) (h : Int), .int .i64 (k : Int), .int .i64 (set : Int)] w5 (Plain (.agg #[.bool (fA 0), .bool (fA 1), .bool (fA 2), .bool (fA 3), .bool (fA 4)]) w5) by
        have := HCI.out k (by omega) w5
        rwa [show cellsV (rowS w set k) = .agg (bitsF fA) by rw [hfA]] at this)
      have HC2 := hide (fun w5 => show Calls Tryd.prog 35 #[boardV (w : Int) (h : Int), .int .i64 ((k : Int) + 1), .int .i64 (set : Int)] w5 (Plain (.agg #[.bool (fB 0), .bool (fB 1), .bool (fB 2), .bool (fB 3), .bool (fB 4)]) w5) by
        have := HCI.out (k + 1) (by omega) w5
        rwa [show cellsV (rowS w set (k + 1)) = .agg (bitsF fB) by rw [hfB], show ((k + 1 : Nat) : Int) = (k : Int) + 1 by omega] at this)
      have ek : IntKind.i64.wrap ((k : Int) + 1) = (k : Int) + 1 := IntWalk.i64_in _ (by omega)
      have HFA := hide hfA
      have HFB := hide hfB
      clear hfA hfB
      go_wp2_with fail
      refine wp_region_noPanic (region5_w (fun _ _ _ _ _ h => h) (gb := W.heap.size) (w := (w : Int)) (h := (h : Int)) (k := (k : Int)) (set := (set : Int)) (fA := fA) (fB := fB) rfl rfl rfl rfl ek bx HC1.out HC2.out ?_)
      intro g7 g8 w5 ne l7 l8 y7 y8 bx5 hb5
      refine NoPanic.normal ?_
      simp only [Act.put, List.setIfInBounds_toArray, List.set_cons_zero, List.set_cons_succ]
      have hown5 := map_below hown hb5
      have hbW := below_then hb hb.size hb5
      have hbb := hown.lt
      have hmade5 := hide (World.ownsMap_made w5 Tryd.prog 58 (plainElem (H := Unit) Tryd.prog 3))
      clear c0 c1 hb bx hown
      have hnb : nk ≤ 32768 := Nat.le_trans hnk.out (eight (by omega))
      have ha6 : Below w5.heap.size w5 (w5.alloc (.map #[] 0)) := (Below.refl _ _).alloc (Nat.le_refl _) _
      have hown6 := map_below hown5 ha6
      have hbW6 := below_then hbW hbW.size ha6
      have y7_5 := y7
      have y8_5 := y8
      have y7 := y7.then ha6
      have y8 := y8.then ha6
      have bx6 := bx5.then ha6
      clear hown5 hb5 bx5
      go_wp2_with (first
        | (at_range; refine wpList_range_own _ rfl _ 59 rfl 58 3 mlawA Tryd.underlying59 _ b nk _ rfl hown6 ?_; intro w6 hrg6 hg6 hs6)
        | go_in)
      try go_frame
      have hsD : Maps.size D ≤ nk := sizeA_le hown6
      have hnew := hmade5.out.kept hg6 (fun e => by cases e)
      have y7 := y7.grown hg6 (by simp)
      have y8 := y8.grown hg6 (by simp)
      have bx := bx6.grown hg6 (by simp)
      have hb := hbW6.grown hg6 hbW6.size (fun j hj => by cases hj)
      have hz5 := hbW.size
      have hs6' : (w5.alloc (.map #[] 0)).heap.size = w5.heap.size + 1 := by simp
      obtain ⟨nb, hnbE⟩ : ∃ nb, w5.heap.size = nb := ⟨_, rfl⟩
      obtain ⟨it, hit⟩ : ∃ it, (w5.alloc (.map #[] 0)).heap.size = it := ⟨_, rfl⟩
      have hnit : nb + 1 = it := by omega
      have h7nb : g7 < nb := by have := y7_5.in_; omega
      have h8nb : g8 < nb := by have := y8_5.in_; omega
      have hbnb : b < nb := by omega
      have hWb : W.heap.size ≤ nb := by omega
      rw [hit] at hrg6 ⊢
      rw [hnbE] at hnew ⊢
      have hlw : ∀ t, t < 32 → leftW F (Maps.has D) t = F t := fun t ht => by
        unfold leftW
        cases hh : Maps.has D (klit t) with
        | true => rfl
        | false => simp [hv.out.none ht hh]
      have hA1 : Hid (wt (fun _ => 0) (R (h - (k + 1))) + wt (leftW F (Maps.has D)) (R (h - k)) = T) := by
        show _ = _
        rw [wt_zero, wt_congr hlw, Nat.zero_add]; exact hwt.out
      have hA2 : Hid (wt (fun _ => 0) (fun _ => 1) + 8 * wt (leftW F (Maps.has D)) (fun _ => 1) ≤ 8 ^ (k + 1)) := by
        show _ ≤ _
        have := hw1.out
        rw [wt_zero, wt_congr hlw, Nat.pow_succ]; omega
      clear hmade5 hown6 hbW6 hg6 hs6 hs6' hit hnbE bx6 ha6 hbW
      go_loopw [11] (fun _ wr => ∃ (left : Lit → Bool) (cnt nN : Nat) (DN : DataW Unit) (Fn : Nat → Nat), wr.ranges Tryd.prog 58 (plainElem Tryd.prog 3) b it nk D left cnt ∧ OwnsA wr nb nN DN ∧ Hid (ViewA DN Fn (goodR w set (k + 1))) ∧
        Hid (wt Fn (R (h - (k + 1))) + wt (leftW F left) (R (h - k)) = T) ∧ Hid (wt Fn (fun _ => 1) + 8 * wt (leftW F left) (fun _ => 1) ≤ 8 ^ (k + 1)) ∧ Hid (nN + 8 * cnt ≤ 8 * nk) ∧ Hid (∀ kl, left kl = true → Maps.has D kl = true) ∧
        Below W.heap.size W wr ∧ Box wr g7 58 (bitsF fA) ∧ Box wr g8 58 (bitsF fB) ∧ Box wr W.heap.size 37 #[.int .i64 (w : Int), .int .i64 (h : Int)]) (fun _ wr => wr.rangeLeft b it)
      case atStart => exact ⟨_, _, 0, _, fun _ => 0, hrg6, hnew, ViewA.empty _, hA1, hA2, (by show _ ≤ _; omega), fun kl h => h, hb, y7, y8, bx⟩
      case round =>
        clear hrg6 hnew hA1 hA2 hb y7 y8 bx hwt hw1
        obtain ⟨left, cnt, nN, DN, Fn, hrg, hN, hvN, hI1, hI2, hI3, hlD, hb, y7, y8, bx⟩ := hrel
        obtain ⟨wi, rfl⟩ : ∃ wi : World, wi = wr := ⟨_, rfl⟩
        go_wp2_with (first
          | (at_next; refine wpList_next_ranges _ rfl _ rfl 58 mlawA (plainElem Tryd.prog 3) (fun v : Value => v) (Value.int .i64) (fun key kl hk => ⟨key, rfl⟩) (fun v y hv => by obtain ⟨c, rfl, _⟩ := plainElem_int_inv Tryd.underlying3 hv; exact ⟨c, rfl⟩) b it nk D left cnt rfl hrg ?_ ?_)
          | go_in)
        · intro hc0 hl0
          have hzero : ∀ R', wt (leftW F left) R' = 0 := fun R' => by
            rw [wt_congr (F' := fun _ => 0) (fun t _ => by unfold leftW; rw [hl0]; simp), wt_zero]
          have e1 := hI1.out
          have e2 := hI2.out
          have e3 := hI3.out
          rw [hzero] at e1 e2
          have hE1 : Hid (wt Fn (R (h - (k + 1))) = T) := by show _ = _; omega
          have hE2 : Hid (wt Fn (fun _ => 1) ≤ 8 ^ (k + 1)) := by show _ ≤ _; omega
          have hE3 : Hid (nN ≤ 8 ^ (k + 1)) := by
            show _ ≤ _
            have := hnk.out
            rw [Nat.pow_succ]; omega
          clear e1 e2 e3 hI1 hI2 hI3 hzero
          go_wp2
          exact ⟨⟨k + 1, nb, nN, DN, Fn, by omega, by simp, rfl, by omega, hN, hE3, hvN, hE1, hE2, hb, bx⟩, by simp only [intOf]; omega⟩
        · intro x c kl yd yp w1 cnt1 hkey hlx hval hat hrg1 hlt1 hg1 hs1 hen
          obtain ⟨t, ht, hgd, rfl⟩ := hv.out.2.2 _ (hlD.out _ hlx)
          obtain ⟨fC, hfC⟩ : ∃ fC, fC = t.testBit := ⟨_, rfl⟩
          obtain rfl : x = .agg #[.bool (fC 0), .bool (fC 1), .bool (fC 2), .bool (fC 3), .bool (fC 4)] := by
            rw [klaw.inj hkey (keyOf_s t), hfC]; rfl
          obtain ⟨c', ec, ey, _⟩ := plainElem_int_inv Tryd.underlying3 hval
          injection ec with _ ec
          injection ey with e1 _
          obtain rfl : yd = .lit (.int .i64 c) := by rw [e1, ec]
          obtain rfl : c = ((F t : Nat) : Int) := hv.out.val ht (hat _)
          have hstr1 := hide (leftW_strike (F := F) ht hlx (R (h - k)))
          have hstr2 := hide (leftW_strike (F := F) ht hlx (fun _ => 1))
          have hlD1 : Hid (∀ kl, (left kl && !kl.sameKey (klit t)) = true → Maps.has D kl = true) := fun kl h => hlD.out kl (by simp only [Bool.and_eq_true] at h; exact h.1)
          have HFC := hide hfC
          have hgd := hide hgd
          have hit2 := hrg.lt
          have hmeas := hide (show wi.rangeLeft b it = cnt from hrg.left_eq)
          have hN1 := hN.kept hg1 (fun e => by injection e with e; omega)
          have y7 := y7.grown hg1 (by simp; omega)
          have y8 := y8.grown hg1 (by simp; omega)
          have bx := bx.grown hg1 (by simp; omega)
          have hb := hb.grown hg1 hb.size (fun j hj => by injection hj with hj; omega)
          have hlt1 := hide hlt1
          have q0 := Box.new w1 58 (bitsF fun _ => false)
          obtain ⟨t0, f0', t1, f1, t2, f2, t3, f3, t4, f4, r0, r1, r2, r3, r4, hbx⟩ := end5 q0 fC
          clear hfC e1 ec hat hval hkey hlx hN hrg hlD hs1
          go_wp2_with fail
          have hb2 := hb.alloc hb.size (.cells #[.bool (fC 0), .bool (fC 1), .bool (fC 2), .bool (fC 3), .bool (fC 4)] 58)
          have y72 := y7.alloc (.cells #[.bool (fC 0), .bool (fC 1), .bool (fC 2), .bool (fC 3), .bool (fC 4)] 58)
          have y82 := y8.alloc (.cells #[.bool (fC 0), .bool (fC 1), .bool (fC 2), .bool (fC 3), .bool (fC 4)] 58)
          have bx2 := bx.alloc (.cells #[.bool (fC 0), .bool (fC 1), .bool (fC 2), .bool (fC 3), .bool (fC 4)] 58)
          have y92 : Box (w1.alloc (.cells #[.bool (fC 0), .bool (fC 1), .bool (fC 2), .bool (fC 3), .bool (fC 4)] 58)) w1.heap.size 58 (bitsF fC) := Box.new w1 58 (bitsF fC)
          have ga2 : w1.grownBy (w1.alloc (.cells #[.bool (fC 0), .bool (fC 1), .bool (fC 2), .bool (fC 3), .bool (fC 4)] 58)) none := grown_none ((Below.refl _ _).alloc (Nat.le_refl _) _)
          have hrg2 := hrg1.kept ga2 (fun e => by cases e) (fun e => by cases e)
          have hN2 := hN1.kept ga2 (fun e => by cases e)
          generalize hw2 : w1.alloc (.cells #[.bool (fC 0), .bool (fC 1), .bool (fC 2), .bool (fC 3), .bool (fC 4)] 58) = w2 at *
          have hz1 : it < w1.heap.size := hrg1.lt
          obtain ⟨g9, hg9⟩ : ∃ g9, w1.heap.size = g9 := ⟨_, rfl⟩
          rw [hg9] at y92 hz1 ⊢
          have hz2 : g9 < w2.heap.size := y92.in_
          clear y7 y8 bx hb hrg1 hN1 ga2 hw2 q0 t0 f0' t1 f1 t2 f2 t3 f3 t4 f4 r0 r1 r2 r3 r4 hbx hg9 hg1
          obtain ⟨fD, hfD⟩ : ∃ fD, fD = (dif (rowS w set k) t).testBit := ⟨_, rfl⟩
          have HWO := hide (fun w5 => show Calls Tryd.prog 37 #[.agg #[.bool (fA 0), .bool (fA 1), .bool (fA 2), .bool (fA 3), .bool (fA 4)], .agg #[.bool (fC 0), .bool (fC 1), .bool (fC 2), .bool (fC 3), .bool (fC 4)]] w5 (Plain (.agg #[.bool (fD 0), .bool (fD 1), .bool (fD 2), .bool (fD 3), .bool (fD 4)]) w5) by
            have := without_c (rowS w set k) t w5
            rwa [show cellsV (rowS w set k) = .agg (bitsF fA) by rw [HFA.out], show cellsV t = .agg (bitsF fC) by rw [HFC.out], show cellsV (dif (rowS w set k) t) = .agg (bitsF fD) by rw [hfD]] at this)
          have hr0 : rowS w set k < 32 := five_lt hw.2 (rowS_lt w set k)
          have hr1 : rowS w set (k + 1) < 32 := five_lt hw.2 (rowS_lt w set (k + 1))
          have hdl : dif (rowS w set k) t < 32 := Nat.lt_of_le_of_lt (dif_le _ _) hr0
          have HL := ways_in ⟨_, hdl⟩ ⟨_, hr1⟩
          have HCO := fun w5 => coversOf_c (dif (rowS w set k) t) (rowS w set (k + 1)) hdl hr1 w5
          have HST1 := HST.out (h - (k + 1)) t (by omega) hgd.out.1 (by rw [show h - (h - (k + 1) + 1) = k by omega]; exact hgd.out.2)
          rw [show h - (h - (k + 1) + 1) = k by omega, show h - (h - (k + 1)) = k + 1 by omega, show h - (k + 1) + 1 = h - k by omega] at HST1
          simp only at HL
          generalize waysP 6 (dif (rowS w set k) t) (rowS w set (k + 1)) = L at *
          have HCO := hide (fun w5 => show Calls Tryd.prog 36 #[.agg #[.bool (fD 0), .bool (fD 1), .bool (fD 2), .bool (fD 3), .bool (fD 4)], .agg #[.bool (fB 0), .bool (fB 1), .bool (fB 2), .bool (fB 3), .bool (fB 4)]] w5 (Owns 58 5 L.length (flatS L) w5) by
            have := HCO w5
            rwa [show cellsV (dif (rowS w set k) t) = .agg (bitsF fD) by rw [hfD], show cellsV (rowS w set (k + 1)) = .agg (bitsF fB) by rw [HFB.out]] at this)
          have HL := hide HL
          have HST1 := hide HST1
          clear hfD hdl
          obtain ⟨p0, p1, p2, p3, p4, p5, p6, p7, p8, p9⟩ := box10 y72
          obtain ⟨q0, q1, q2, q3, q4, q5, q6, q7, q8, q9⟩ := box10 y82
          obtain ⟨r0, r1, r2, r3, r4, r5, r6, r7, r8, r9⟩ := box10 y92
          go_wp2_with fail
          go_region_held3 (fun w' => w'.cell? ⟨g7, 0, none⟩ = some (.bool (fA 0)) ∧ w'.cell? ⟨g7, 1, none⟩ = some (.bool (fA 1)) ∧ w'.cell? ⟨g7, 2, none⟩ = some (.bool (fA 2)) ∧ w'.cell? ⟨g7, 3, none⟩ = some (.bool (fA 3)) ∧ w'.cell? ⟨g7, 4, none⟩ = some (.bool (fA 4)) ∧ w'.cell? ⟨g8, 0, none⟩ = some (.bool (fB 0)) ∧ w'.cell? ⟨g8, 1, none⟩ = some (.bool (fB 1)) ∧ w'.cell? ⟨g8, 2, none⟩ = some (.bool (fB 2)) ∧ w'.cell? ⟨g8, 3, none⟩ = some (.bool (fB 3)) ∧ w'.cell? ⟨g8, 4, none⟩ = some (.bool (fB 4)) ∧ w'.cell? ⟨g9, 0, none⟩ = some (.bool (fC 0)) ∧ w'.cell? ⟨g9, 1, none⟩ = some (.bool (fC 1)) ∧ w'.cell? ⟨g9, 2, none⟩ = some (.bool (fC 2)) ∧ w'.cell? ⟨g9, 3, none⟩ = some (.bool (fC 3)) ∧ w'.cell? ⟨g9, 4, none⟩ = some (.bool (fC 4))) (refine ⟨?_, ?_, ?_, ?_, ?_, ?_, ?_, ?_, ?_, ?_, ?_, ?_, ?_, ?_, ?_⟩ <;> assumption)
            (first
              | (go_at_call 37; refine (HWO.out _).mono ?_
                 rintro e w3 ⟨rfl, b3⟩
                 have y73 : Box w3 g7 58 (bitsF fA) := (b3.block g7 y72.in_).trans y72
                 have y83 : Box w3 g8 58 (bitsF fB) := (b3.block g8 y82.in_).trans y82
                 have y93 : Box w3 g9 58 (bitsF fC) := (b3.block g9 y92.in_).trans y92
                 obtain ⟨s0, s1, s2, s3, s4⟩ := box5 y73
                 obtain ⟨t0, t1, t2, t3, t4⟩ := box5 y83
                 obtain ⟨u0, u1, u2, u3, u4⟩ := box5 y93)
              | (go_at_call 36; refine (HCO.out _).mono ?_
                 rintro e w4 ⟨v4, rfl, o4, b4⟩
                 have y74 : Box w4 g7 58 (bitsF fA) := (b4.block g7 y73.in_).trans y73
                 have y84 : Box w4 g8 58 (bitsF fB) := (b4.block g8 y83.in_).trans y83
                 have y94 : Box w4 g9 58 (bitsF fC) := (b4.block g9 y93.in_).trans y93
                 obtain ⟨v0, v1, v2, v3, v4⟩ := box5 y74
                 obtain ⟨x0, x1, x2, x3, x4⟩ := box5 y84
                 obtain ⟨z0, z1, z2, z3, z4⟩ := box5 y94
                 obtain ⟨A4, c4, rfl, hA1, hA2, hA3, hA4⟩ := own_row o4)
              | fail)
          have hg3 : w2.grownBy w3 none := ⟨b3.os, b3.tape, b3.output, b3.size, fun k hk _ => b3.block k hk⟩
          have hrg4 := (hrg2.kept hg3 (fun e => by cases e) (fun e => by cases e)).kept (grown_none b4) (fun e => by cases e) (fun e => by cases e)
          have hN4 := (hN2.kept hg3 (fun e => by cases e)).kept (grown_none b4) (fun e => by cases e)
          have hb3 := below_then hb2.drew hb2.size b3
          have hb4 := below_then hb3 hb3.size b4
          have bx4 := (bx2.grown hg3 (by simp)).then b4
          have hz3 : w2.heap.size ≤ w3.heap.size := b3.size
          have hz7 := y72.in_
          have hitlt : it < w3.heap.size := by omega
          have hnblt : nb < w3.heap.size := by omega
          have hWlt : W.heap.size < w3.heap.size := by omega
          clear hg3 hrg2 hN2 hb2 hb3 b3 b4 bx2 y72 y82 y92 y73 y83 y93 y94 p0 p1 p2 p3 p4 p5 p6 p7 p8 p9 q0 q1 q2 q3 q4 q5 q6 q7 q8 q9 r0 r1 r2 r3 r4 r5 r6 r7 r8 r9 s0 s1 s2 s3 s4 t0 t1 t2 t3 t4 u0 u1 u2 u3 u4 v0 v1 v2 v3 v4 x0 x1 x2 x3 x4 z0 z1 z2 z3 z4 hz1 hz2
          have hL8 : L.length ≤ 8 := HL.out.1
          obtain ⟨G, hG⟩ : ∃ G, w3.heap.size = G := ⟨_, rfl⟩
          rw [hG] at o4 hA4 hitlt hnblt hWlt
          go_wp2_with fail
          go_loopw [45] (fun i wr => ∃ (j n2 : Nat) (D2 : DataW Unit) (F2 : Nat → Nat), j ≤ L.length ∧ i = .int .i64 (j : Int) ∧ wr.ranges Tryd.prog 58 (plainElem Tryd.prog 3) b it nk D (fun z => left z && !z.sameKey (klit t)) cnt1 ∧
            OwnsA wr nb n2 D2 ∧ Hid (ViewA D2 F2 (goodR w set (k + 1))) ∧ Hid (n2 = nN + j) ∧ Hid (wt F2 (R (h - (k + 1))) = wt Fn (R (h - (k + 1))) + F t * ((L.take j).map (R (h - (k + 1)))).sum) ∧
            Hid (wt F2 (fun _ => 1) = wt Fn (fun _ => 1) + F t * j) ∧ wr.ownsRow G 58 5 (.slice A4 L.length c4) L.length (flatS L) ∧
            Below W.heap.size W wr ∧ Box wr g7 58 (bitsF fA) ∧ Box wr g8 58 (bitsF fB) ∧ Box wr W.heap.size 37 #[.int .i64 (w : Int), .int .i64 (h : Int)]) (fun i _ => L.length - (intOf i).toNat)
          case atStart => exact ⟨0, nN, DN, Fn, Nat.zero_le _, rfl, hrg4, hN4, hvN, rfl, (by show _ = _; simp), (by show _ = _; simp), o4, hb4, y74, y84, bx4⟩
          case round =>
            clear hrg4 hN4 o4 hA3 hA4 hb4 y74 y84 bx4
            obtain ⟨j, n2, D2, F2, hj, rfl, hrg, hN, hv2, hn2, hs1, hs2, own, hb, y7, y8, bx⟩ := hrel
            obtain ⟨wq, rfl⟩ : ∃ wq : World, wq = wr := ⟨_, rfl⟩
            by_cases hlj : j < L.length
            · obtain ⟨A5, c5, e5, _, _, hr, hf3⟩ := own_row own
              cases e5
              obtain ⟨ad, rfl, _⟩ := hr 0 (by have := flatS_len L; omega)
              obtain ⟨g, rfl, hgG, hgl, hob⟩ := hf3 _ rfl
              obtain ⟨x0, x1, x2, x3, x4⟩ := Row.row5 hr hlj
              obtain ⟨xs, hxs⟩ : ∃ xs, xs = L[j]?.getD 0 := ⟨_, rfl⟩
              have hxL : xs ∈ L := by rw [hxs, List.getElem?_eq_getElem hlj]; exact List.getElem_mem _
              obtain ⟨hx32, hxd⟩ := HL.out.2 xs hxL
              have hxg : goodR w set (k + 1) xs := ⟨by
                have h1 : xs ≤ rowS w set (k + 1) := by
                  have h0 : xs = xs &&& rowS w set (k + 1) := ?_
                  · rw [h0]; exact Nat.and_le_right
                  refine Nat.eq_of_testBit_eq fun i => ?_
                  have h2 := congrArg (fun z => z.testBit i) hxd
                  simp only [dif_bit, Nat.zero_testBit] at h2
                  rw [Nat.testBit_and]
                  cases ha : xs.testBit i <;> simp_all
                exact Nat.lt_of_le_of_lt h1 (rowS_lt w set (k + 1)), hxd⟩
              have htake : Hid (((L.take (j + 1)).map (R (h - (k + 1)))).sum = ((L.take j).map (R (h - (k + 1)))).sum + R (h - (k + 1)) xs) := by
                show _ = _
                rw [List.take_add_one, List.getElem?_eq_getElem hlj, List.map_append, List.sum_append, hxs, List.getElem?_eq_getElem hlj]
                simp
              rw [← hxs] at x0 x1 x2 x3 x4
              obtain ⟨fx, hfx⟩ : ∃ fx, fx = xs.testBit := ⟨_, rfl⟩
              rw [← hfx] at x0 x1 x2 x3 x4
              have HK := hide (show keyOf Tryd.prog 58 (.agg #[.bool (fx 0), .bool (fx 1), .bool (fx 2), .bool (fx 3), .bool (fx 4)]) = some (klit xs) by
                have := keyOf_s xs
                rwa [show cellsV xs = .agg (bitsF fx) by rw [hfx]] at this)
              have hFx := wt_at (F := F2) hx32
              have hFt := hstr2.out
              have hI2' := hI2.out
              have hs2' := hs2.out
              have h8 := eight (k := k + 1) (by omega)
              have hFj : F t * j ≤ F t * 8 := Nat.mul_le_mul_left _ (by omega)
              have hsmall : F2 xs + F t ≤ 65536 := by omega
              have hsum : IntKind.i64.wrap (((F2 xs : Nat) : Int) + ((F t : Nat) : Int)) = ((F2 xs : Nat) : Int) + ((F t : Nat) : Int) := IntWalk.i64_in _ (by omega)
              have hHs := hide hsum
              have hsm := hide hsmall
              have hnm : n2 < maxLen := by
                have a1 := hI3.out
                have a2 := hn2.out
                unfold maxLen
                omega
              have q0 := Box.new wq 58 (bitsF fun _ => false)
              obtain ⟨t0, f0', t1, f1, t2, f2, t3, f3, t4, f4, r0, r1, r2, r3, r4, hbx⟩ := end5 q0 fx
              have j0 : (0 : Int) ≤ (j : Int) := by omega
              have j1 : (j : Int) < (L.length : Int) := by omega
              have hwq : W.heap.size ≤ wq.heap.size := hb.size
              clear hFx hFt hI2' hs2' h8 hFj hsmall hsum hr hf3 hxs hfx hob
              go_wp2_with fail
              refine wp_region_noPanic (region13_w (fun _ _ _ _ _ h => h) (gw := wq.heap.size) (nb := nb) (n := n2) (c := F t) (y := F2 xs) (f := fx) (kl := klit xs) (D := D2) rfl rfl rfl rfl (Box.new wq 58 (bitsF fx)) (by omega) HK.out (map_below hN ((Below.refl _ _).alloc (Nat.le_refl _) _)) hv2.out.1 hnm (hv2.out.2.1 xs hx32) hHs.out hsm.out ?_)
              intro st w6 hN6 hg6
              refine NoPanic.normal ?_
              simp only [Act.put, List.setIfInBounds_toArray, List.set_cons_zero, List.set_cons_succ]
              go_wp2_with fail
              have ga : wq.grownBy (wq.alloc (.cells #[.bool (fx 0), .bool (fx 1), .bool (fx 2), .bool (fx 3), .bool (fx 4)] 58)) none := grown_none ((Below.refl _ _).alloc (Nat.le_refl _) _)
              have hrg6 := (hrg.kept ga (fun e => by cases e) (fun e => by cases e)).kept hg6 (fun e => by injection e with e; omega) (fun e => by injection e with e; omega)
              have own6 := (own.alloc (.cells #[.bool (fx 0), .bool (fx 1), .bool (fx 2), .bool (fx 3), .bool (fx 4)] 58)).kept hg6 (.inr (fun e => by simp only [Value.ownBlock, Option.some.injEq] at e; omega))
              have hb6 := (hb.alloc hwq (.cells #[.bool (fx 0), .bool (fx 1), .bool (fx 2), .bool (fx 3), .bool (fx 4)] 58)).grown hg6 (by simp; omega) (fun j hj => by injection hj with hj; omega)
              have y76 := (y7.alloc (.cells #[.bool (fx 0), .bool (fx 1), .bool (fx 2), .bool (fx 3), .bool (fx 4)] 58)).grown hg6 (by simp; omega)
              have y86 := (y8.alloc (.cells #[.bool (fx 0), .bool (fx 1), .bool (fx 2), .bool (fx 3), .bool (fx 4)] 58)).grown hg6 (by simp; omega)
              have bx6 := (bx.alloc (.cells #[.bool (fx 0), .bool (fx 1), .bool (fx 2), .bool (fx 3), .bool (fx 4)] 58)).grown hg6 (by simp; omega)
              rw [show ((F2 xs : Nat) : Int) + ((F t : Nat) : Int) = ((F2 xs + F t : Nat) : Int) by omega] at hN6
              have hv6 : Hid (ViewA (D2.put (klit xs) (.lit (.int .i64 ((F2 xs + F t : Nat) : Int)))) (fun s => if s = xs then F2 xs + F t else F2 s) (goodR w set (k + 1))) := hv2.out.put hx32 hxg _
              have g1 : Hid (n2 + 1 = nN + (j + 1)) := by
                have := hn2.out
                show _ = _
                omega
              have g2 : Hid (wt (fun s => if s = xs then F2 xs + F t else F2 s) (R (h - (k + 1))) = wt Fn (R (h - (k + 1))) + F t * ((L.take (j + 1)).map (R (h - (k + 1)))).sum) := by
                show _ = _
                rw [wt_put hx32, htake.out, hs1.out, Nat.mul_add, Nat.add_assoc]
              have g3 : Hid (wt (fun s => if s = xs then F2 xs + F t else F2 s) (fun _ => 1) = wt Fn (fun _ => 1) + F t * (j + 1)) := by
                show _ = _
                rw [wt_put hx32, hs2.out, Nat.mul_add, Nat.add_assoc]
              exact ⟨⟨j + 1, n2 + 1, _, _, hlj, by simp, hrg6, hN6, hv6, g1, g2, g3, own6, hb6, y76, y86, bx6⟩, by simp only [intOf]; omega⟩
            · obtain rfl : j = L.length := by omega
              have a1 := hs1.out
              rw [List.take_length, ← HST1.out] at a1
              have a2 := hstr1.out
              have a3 := hI1.out
              have b1 := hs2.out
              have b2 := hstr2.out
              have b3 := hI2.out
              have b4 : F t * L.length ≤ F t * 8 := Nat.mul_le_mul_left _ hL8
              have d1 := hn2.out
              have d2 := hI3.out
              have d3 := hlt1.out
              have E1 : Hid (wt F2 (R (h - (k + 1))) + wt (leftW F fun z => left z && !z.sameKey (klit t)) (R (h - k)) = T) := by show _ = _; omega
              have E2 : Hid (wt F2 (fun _ => 1) + 8 * wt (leftW F fun z => left z && !z.sameKey (klit t)) (fun _ => 1) ≤ 8 ^ (k + 1)) := by show _ ≤ _; omega
              have E3 : Hid (n2 + 8 * cnt1 ≤ 8 * nk) := by show _ ≤ _; omega
              clear a1 a2 a3 b1 b2 b3 b4 d1 d2 d3
              go_wp2
              exact ⟨⟨fun z => left z && !z.sameKey (klit t), cnt1, n2, D2, F2, hrg, hN, hv2, E1, E2, E3, hlD1, hb, y7, y8, bx⟩, by rw [hrg.left_eq, hmeas.out]; exact hlt1.out⟩
    · obtain rfl : k = h := by omega
      have HZ := hv.out.2.1 0 (by omega)
      go_wp2_with (first
        | (at_lookup; refine wpList_lookup_own_int _ rfl _ _ 59 rfl 58 3 .i64 mlawA Tryd.underlying59 Tryd.underlying3 (mzeroA _) b nk _ rfl hown _ _ rfl key_zero ?_; intro c0 hc0 hwc0
           obtain rfl : c0 = ((F 0 : Nat) : Int) := hv.out.val (by omega) hc0)
        | go_in)
      go_ret
      have e : F 0 = T := by
        have h1 := hwt.out
        rw [Nat.sub_self, show wt F (R 0) = wt F oneF from by unfold wt; exact sumN_congr 32 fun t _ => by rw [hR0.out t]; rfl] at h1
        rw [← h1]
        unfold wt
        rw [sumN_one 0 32 (by omega) (fun i _ hi => by unfold oneF; rw [if_neg hi, Nat.mul_zero])]
        simp [oneF]
      rw [← e]
      exact ⟨rfl, hb⟩
end Go.Proofs.YtnikgnicjbcbmaaDoor

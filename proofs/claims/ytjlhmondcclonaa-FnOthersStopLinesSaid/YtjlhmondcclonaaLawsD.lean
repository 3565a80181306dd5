/-
  The walk of the law FnReachOf.
-/
import Derived.Test.YtjlhmondcclonaaLawsC
import Derived.Test.YtjlhmondcclonaaReachFacts
namespace Go.Proofs.Ytjlhmondcclonaa
open Go.RowKit
set_option linter.unusedVariables false

set_option maxHeartbeats 400000 in
theorem ascends_t (A : Option Addr) (l : List Int) (c : Nat) (w : World) (hr : Row w A (ints l)) (hm : l.length ≤ 1048576) (hu : Hid (∀ i, i + 1 < l.length → l[i]?.getD 0 < l[i + 1]?.getD 0)) :
    Calls Try.prog 22 #[.slice A l.length c] w (Plain (.bool true) w) := by
  go_enter Try.func22, Try.ntmps22
  go_wp2
  go_loopw [3] (fun i wr => ∃ k : Nat, 1 ≤ k ∧ i = .int .i64 k ∧ Below w.heap.size w wr) (fun i _ => l.length - (intOf i).toNat)
  case atStart => exact ⟨1, by omega, rfl, Below.refl _ _⟩
  case round =>
    obtain ⟨k, hk, rfl, hb⟩ := hrel
    obtain ⟨wo, rfl⟩ : ∃ wo : World, wo = wr := ⟨_, rfl⟩
    by_cases hlt : k < l.length
    · obtain ⟨ad, rfl, hca⟩ := (hr.below hb).int hlt
      obtain ⟨ad', e, hcb⟩ := (hr.below hb).int (k := k - 1) (by omega)
      obtain rfl : ad = ad' := by injection e
      have hxy := hu.out (k - 1) (by omega)
      rw [show k - 1 + 1 = k by omega] at hxy
      generalize l[k]?.getD 0 = x at *
      generalize l[k - 1]?.getD 0 = y at *
      have e3 : IntKind.i64.wrap ((k : Int) - 1) = (k : Int) - 1 := IntWalk.i64_in _ (by omega)
      clear e
      go_wp2_with fail
      go_quiet (fail)
      all_goals clear e3
      all_goals go_wp2_with fail
      exact ⟨⟨k + 1, by omega, rfl, below_drewN hb _⟩, by simp [intOf]; omega⟩
    · go_wp2_with fail
      go_ret
      exact ⟨rfl, hb⟩
theorem isIn_t (A : Option Addr) (n : Nat) (l : List Int) (c : Nat) (x : Int) (w : World) (hn : l.length = n) (hr : Row w A (ints l)) (hm : l.length ≤ 1048576) (h : x ∈ l) : Calls Try.prog 21 #[.slice A n c, .int .i64 x] w (Plain (.bool true) w) := by
  subst hn
  have := isIn_c A l c x w hr (by simp [maxLen]; omega)
  rwa [decide_eq_true h] at this
theorem isIn_f (A : Option Addr) (n : Nat) (l : List Int) (c : Nat) (x : Int) (w : World) (hn : l.length = n) (hr : Row w A (ints l)) (hm : l.length ≤ 1048576) (h : x ∉ l) : Calls Try.prog 21 #[.slice A n c, .int .i64 x] w (Plain (.bool false) w) := by
  subst hn
  have := isIn_c A l c x w hr (by simp [maxLen]; omega)
  rwa [decide_eq_false h] at this
theorem equalInts_t (A C : Option Addr) (n m ca cc : Nat) (xs ys : List Int) (w : World) (hx : xs.length = n) (hy : ys.length = m) (ha : Row w A (ints xs)) (hc : Row w C (ints ys)) (hn : xs.length ≤ 1048576) (he : xs = ys) :
    Calls Try.prog 19 #[.slice A n ca, .slice C m cc] w (Plain (.bool true) w) := by
  subst hx hy he
  have := equalInts_c A C xs xs ca cc w ha hc (by simp [maxLen]; omega) (by simp [maxLen]; omega)
  rwa [decide_eq_true rfl] at this
/-- What the law wants of ReachOf's answer, where there is one. -/
structure Moved (bc br cell : Int) (s : List UInt8) (xs : List Int) : Prop where
  free : ∀ y ∈ reachOfP bc br s cell xs, y ∈ reachOfP bc br s cell []
  back : ∀ y ∈ reachOfP bc br s cell xs, cell ∈ reachOfP bc br s y xs
  up : Hid (∀ i, i + 1 < (reachOfP bc br s cell xs).length → (reachOfP bc br s cell xs)[i]?.getD 0 < (reachOfP bc br s cell xs)[i + 1]?.getD 0)
  out : cell ∉ reachOfP bc br s cell xs
theorem moved_of {bc br cell : Int} {s : List UInt8} {xs : List Int} (h : reachOfP bc br s cell xs ≠ []) : Moved bc br cell s xs := by
  cases hk : kindL s with
  | none => exact absurd (by simp [reachOfP, hk]) h
  | some p =>
    obtain ⟨ss, far⟩ := p
    by_cases hv : Brd bc br ∧ (0 ≤ cell ∧ cell < bc * br) ∧ AscTo (bc * br) xs xs.length
    · obtain ⟨hB, ⟨g1, g2⟩, ha⟩ := hv
      have e : ∀ y zs, 0 ≤ y → y < bc * br → AscTo (bc * br) zs zs.length → reachOfP bc br s y zs = reachP bc br far zs y ss := fun y zs y1 y2 hz => by
        simp only [reachOfP, hk]
        rw [if_pos ⟨hB, ⟨y1, y2⟩, hz⟩]
      have hb := back_of hB (kind_six hk) g1 g2
      have e1 := e cell xs g1 g2 ha
      have e2 := e cell [] g1 g2 (AscTo.zero _ _)
      refine ⟨fun y hy => ?_, fun y hy => ?_, ?_, ?_⟩
      · rw [e1, reach_mem] at hy
        rw [e2, reach_mem]
        exact (cells_sub bc br far ss cell xs).subset hy
      · rw [e1, reach_mem] at hy
        obtain ⟨y1, y2⟩ := cells_in hB.1 hB.2.1 hB.2.2.1 hB.2.2.2 y hy
        rw [e y xs y1 y2 ha, reach_mem]
        exact cells_back hb hy
      · rw [e1]; exact fun i hi => reach_up hb i hi
      · rw [e1, reach_mem]
        exact fun hc => hb.out ((cells_sub bc br far ss cell xs).subset hc)
    · exact absurd (by simp only [reachOfP, hk]; rw [if_neg hv]) h

set_option maxHeartbeats 1000000 in
set_option maxRecDepth 100000 in
theorem reachOf_w (A : Option Addr) (n c : Nat) (w : World) (h : Code w A n c) : Calls Try.prog 4 #[.slice A n c] w (Plain (.bool true) w) := by
  by_cases hl : 1048576 < (n : Int)
  · go_enter Try.func4, Try.ntmps4
    go_wp2
    go_ret
    exact ⟨rfl, Below.refl _ _⟩
  · have HC := hide (drawReachOf_c A n c w h)
    clear h
    go_enter Try.func4, Try.ntmps4
    go_wp2_with fail
    refine HC.out.mono ?_
    rintro e w1 ⟨bc, br, cell, s, v, xs, rfl, _, _, _, hs, ox, hxl, b1⟩
    obtain ⟨O, oc, rfl, _⟩ := own_row ox
    have hxm : xs.length ≤ maxLen := by unfold maxLen; omega
    have HI := hide (fun (y : Int) (w5 : World) (hr : Row w5 O (ints xs)) => implReachOf_c bc br y s O oc xs w5 hr (own_flat ox) hxm)
    have HF := hide (fun (w5 : World) => implReachOf_c bc br cell s none 0 [] w5 (Row.empty _ _) flat_none (by simp [maxLen]))
    have HS := hide (fun (w5 : World) (hr : Row w5 O (ints xs)) => specReachOf_c bc br cell s O oc xs w5 hr hxm)
    have hM := hide (fun h => moved_of (bc := bc) (br := br) (cell := cell) (s := s.toList) (xs := xs) h)
    have hll := reachOfP_len bc br s.toList cell xs
    have hfl := reachOfP_len bc br s.toList cell []
    clear hxm
    go_wp2_with fail
    refine (HI.out cell _ (own_reads ox)).mono ?_
    rintro e w2 ⟨v2, rfl, o2, b2⟩
    obtain ⟨A2, c2, rfl, _⟩ := own_row o2
    have ox := own_below ox b2
    have b2 := below_then b1 b1.size b2
    go_wp2_with fail
    refine (HS.out _ (own_reads ox)).mono ?_
    rintro e w3 ⟨v3, rfl, o3, b3⟩
    obtain ⟨A3, c3, rfl, _⟩ := own_row o3
    have ox := own_below ox b3
    have o2 := own_below o2 b3
    have b3 := below_then b2 b2.size b3
    go_wp2_with fail
    refine (equalInts_t _ _ _ _ _ _ _ _ _ rfl rfl (own_reads o2) (own_reads o3) (by omega) rfl).mono ?_
    rintro e w4 ⟨rfl, b4⟩
    have ox := own_below ox b4
    have o2 := own_below o2 b4
    have b4 := below_then b3 b3.size b4
    clear o3
    by_cases hnil : reachOfP bc br s.toList cell xs = []
    · have hz : (((reachOfP bc br s.toList cell xs).length : Int) == 0) = true := by rw [hnil]; rfl
      have HN := hide hnil
      clear hnil hM
      go_wp2_with fail
      refine (HS.out _ (own_reads ox)).mono ?_
      rintro e w5 ⟨v5, rfl, o5, b5⟩
      obtain ⟨A5, c5, rfl, _⟩ := own_row o5
      have o2 := own_below o2 b5
      have b5 := below_then b4 b4.size b5
      go_wp2_with fail
      refine (equalInts_t _ _ _ _ _ _ _ _ _ rfl rfl (own_reads o2) (own_reads o5) (by omega) rfl).mono ?_
      rintro e w6 ⟨rfl, b6⟩
      go_wp2_with fail
      go_ret
      exact ⟨rfl, below_then b5 b5.size b6⟩
    · obtain ⟨m1, m2, m3, m4⟩ := hM.out hnil
      have hz : (((reachOfP bc br s.toList cell xs).length : Int) == 0) = false := by
        rw [beq_eq_false_iff_ne]
        intro e
        exact hnil (List.eq_nil_of_length_eq_zero (by omega))
      have M1 := hide m1
      have M2 := hide m2
      have M4 := hide m4
      have hll2 := fun y => reachOfP_len bc br s.toList y xs
      have HLL := hide hll2
      clear hM m1 m2 m4 hnil HS hll2
      go_wp2_with fail
      refine (HF.out _).mono ?_
      rintro e w5 ⟨v5, rfl, o5, b5⟩
      obtain ⟨A5, c5, rfl, _⟩ := own_row o5
      have ox := own_below ox b5
      have o2 := own_below o2 b5
      have b5 := below_then b4 b4.size b5
      have r2 := own_reads o2
      have rx := own_reads ox
      have r5 := own_reads o5
      clear o2 ox o5
      generalize hL : reachOfP bc br s.toList cell xs = L at *
      clear hL
      go_wp2_with fail
      go_loopw [10] (fun i wr => ∃ k : Nat, k ≤ L.length ∧ i = .int .i64 k ∧ Below w5.heap.size w5 wr) (fun i _ => L.length - (intOf i).toNat)
      case atStart => exact ⟨0, Nat.zero_le _, rfl, Below.refl _ _⟩
      case round =>
        obtain ⟨k, hk, rfl, hb⟩ := hrel
        obtain ⟨wo, rfl⟩ : ∃ wo : World, wo = wr := ⟨_, rfl⟩
        by_cases hlt : k < L.length
        · obtain ⟨ad, rfl, hc⟩ := (r2.below hb).int hlt
          obtain ⟨y, hy⟩ : ∃ y, L[k]?.getD 0 = y := ⟨_, rfl⟩
          have hmem : y ∈ L := by rw [← hy, List.getElem?_eq_getElem hlt]; exact List.getElem_mem hlt
          rw [hy] at hc
          have f1 := hide (M1.out y hmem)
          have f2 := hide (M2.out y hmem)
          clear hy hmem
          go_wp2_with fail
          refine (isIn_t _ _ _ _ _ _ rfl (r5.below hb) (by omega) f1.out).mono ?_
          rintro e w6 ⟨rfl, b6⟩
          have b6 := below_then hb hb.size b6
          have hc6 := (b6.cell (World.block_lt_of_cell? _ _ ((show w5.cell? (ad.add k) = some (.int .i64 y) from by
            obtain ⟨_, ⟨rfl⟩, h5⟩ := r2.int hlt
            have := (hb.cell (World.block_lt_of_cell? _ _ h5)).symm.trans hc
            exact this)))).trans (show w5.cell? (ad.add k) = some (.int .i64 y) from by
            obtain ⟨_, ⟨rfl⟩, h5⟩ := r2.int hlt
            exact (hb.cell (World.block_lt_of_cell? _ _ h5)).symm.trans hc)
          go_wp2_with fail
          refine (HI.out y _ (rx.below b6)).mono ?_
          rintro e w7 ⟨v7, rfl, o7, b7⟩
          obtain ⟨A7, c7, rfl, _⟩ := own_row o7
          have b7 := below_then b6 b6.size b7
          have hl7 := HLL.out y
          go_wp2_with fail
          refine (isIn_t _ _ _ _ _ _ rfl (own_reads o7) (by omega) f2.out).mono ?_
          rintro e w8 ⟨rfl, b8⟩
          have b8 := below_then b7 b7.size b8
          go_wp2_with fail
          exact ⟨⟨k + 1, hlt, rfl, b8⟩, by simp [intOf]; omega⟩
        · go_wp2_with fail
          refine (ascends_t _ L _ _ (r2.below hb) (by omega) m3).mono ?_
          rintro e w6 ⟨rfl, b6⟩
          have b6 := below_then hb hb.size b6
          go_wp2_with fail
          refine (isIn_f _ _ L _ _ _ rfl (r2.below b6) (by omega) M4.out).mono ?_
          rintro e w7 ⟨rfl, b7⟩
          have b7 := below_then b6 b6.size b7
          go_wp2_with fail
          go_ret
          exact ⟨rfl, below_then b5 b5.size b7⟩
end Go.Proofs.Ytjlhmondcclonaa

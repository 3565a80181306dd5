
/-
  The program's TileFirst.
-/
import Derived.Test.YtbecnjfdolagcacDoorPTileF
import Derived.Test.YtbecnjfdolagcacDoorTileV
import Derived.Test.YtbecnjfdolagcacDoorRepeat
namespace Go.Proofs.YtbecnjfdolagcacDoor
open Go.RowKit
set_option linter.unusedVariables false

theorem out_set1 {n a : Nat} (o : Nat → Int) (v : Int) : (outL n o).set a v = outL n (fun i => if i = a then v else o i) := by
  have h := out_set (n := n) (a := a) (b := a) o v
  rw [List.set_set] at h
  rw [h]
  congr 1
  funext i
  simp
theorem out_congr {n : Nat} {o o' : Nat → Int} (h : ∀ i, i < n → o i = o' i) : outL n o = outL n o' := by
  unfold outL
  exact List.map_congr_left fun i hi => h i (List.mem_range.1 hi)
theorem next_lt {w h a : Nat} (hw : 1 ≤ w) (ha : a < w * h) (hc : a % w + 1 < w) : a + 1 < w * h := by
  have dm : w * (a / w) + a % w = a := Nat.div_add_mod a w
  have dl : a / w < h := Nat.div_lt_of_lt_mul ha
  have : w * (a / w + 1) ≤ w * h := Nat.mul_le_mul_left _ dl
  rw [Nat.mul_add] at this
  omega
theorem cov_congr {g g' : Nat → Bool} {n a b : Nat} (hg : ∀ i, i < n → g i = g' i) : ∀ i, i < n → cov g a b i = cov g' a b i := fun i hi => by
  unfold cov
  rw [hg i hi]
theorem toG_congr {w h : Nat} (hw : 1 ≤ w ∧ w ≤ 5) {g g' : Nat → Bool} (hg : ∀ i, i < w * h → g i = g' i) {a : Nat} (ha : a < w * h) : toG w (w * h) g a = toG w (w * h) g' a := by
  unfold toG
  by_cases hc : a % w + 1 < w
  · rw [hg _ (next_lt hw.1 ha hc), tile_congr hw (fun i hi => (cov_congr hg i hi).symm)]
  · rw [decide_eq_false hc]; rfl
theorem first_congr {w h : Nat} (hw : 1 ≤ w ∧ w ≤ 5) : ∀ (k : Nat) (g g' : Nat → Bool) (o : Nat → Int) (m : Nat), k ≤ w * h → (∀ i, i < w * h → g i = g' i) → firstG w (w * h) k g o m = firstG w (w * h) k g' o m
  | 0, _, _, _, _, _, _ => rfl
  | k + 1, g, g', o, m, hk, hg => by
    have ha : w * h - (k + 1) < w * h := by omega
    cases e : g (w * h - (k + 1)) with
    | true => rw [first_skip e, first_skip (by rw [← hg _ ha]; exact e)]; exact first_congr hw k g g' o m (by omega) hg
    | false =>
      rw [first_step rfl e, first_step rfl (by rw [← hg _ ha]; exact e), toG_congr hw hg ha]
      exact first_congr hw k _ _ _ _ (by omega) (cov_congr hg)
/-- The numbers with the piece's cells below k marked. -/
def markO (piece : Nat) (m : Nat) (o : Nat → Int) (k : Nat) : Nat → Int := fun i => if i < k ∧ piece.testBit i = true then (m : Int) else o i
theorem mark_zero (n piece m : Nat) (o : Nat → Int) : outL n (markO piece m o 0) = outL n o := out_congr fun i _ => by unfold markO; rw [if_neg (by omega)]
theorem mark_hit {n piece m k : Nat} {o : Nat → Int} (h : piece.testBit k = true) : (outL n (markO piece m o k)).set k (m : Int) = outL n (markO piece m o (k + 1)) := by
  rw [out_set1]
  refine out_congr fun i _ => ?_
  unfold markO
  by_cases e : i = k
  · subst e; rw [if_pos rfl, if_pos ⟨by omega, h⟩]
  · rw [if_neg e]
    by_cases e2 : i < k ∧ piece.testBit i = true
    · rw [if_pos e2, if_pos ⟨by omega, e2.2⟩]
    · rw [if_neg e2, if_neg (fun h' => e2 ⟨by omega, h'.2⟩)]
theorem mark_miss {n piece m k : Nat} {o : Nat → Int} (h : piece.testBit k = false) : outL n (markO piece m o (k + 1)) = outL n (markO piece m o k) := out_congr fun i _ => by
  unfold markO
  by_cases e : i = k
  · subst e; rw [if_neg (by rw [h]; simp), if_neg (by omega)]
  · by_cases e2 : i < k ∧ piece.testBit i = true
    · rw [if_pos e2, if_pos ⟨by omega, e2.2⟩]
    · rw [if_neg e2, if_neg (fun h' => e2 ⟨by omega, h'.2⟩)]
theorem mark_all {n piece m : Nat} (o : Nat → Int) : outL n (markO piece m o n) = outL n (fun i => if piece.testBit i then (m : Int) else o i) := out_congr fun i hi => by
  unfold markO
  by_cases e : piece.testBit i = true
  · rw [if_pos ⟨hi, e⟩, if_pos e]
  · rw [if_neg (fun h => e h.2), if_neg e]

set_option maxHeartbeats 4000000 in
set_option maxRecDepth 100000 in
theorem implTileFirst_c (bc br : Int) (A : Option Addr) (c : Nat) (hs : List Int) (W : World) (hT : Tab W) (hr : Row W A (ints hs)) (hm : hs.length ≤ maxLen) :
    Calls Tryd.prog 11 #[.int .i64 bc, .int .i64 br, .slice A hs.length c] W (FirstIs (firstL bc br hs) W) := by
  by_cases hH : Holes bc br hs
  · obtain ⟨⟨h1, h2, h3, h4⟩, ha⟩ := id hH
    obtain ⟨w, rfl⟩ := Int.eq_ofNat_of_zero_le (show 0 ≤ bc by omega)
    obtain ⟨h, rfl⟩ := Int.eq_ofNat_of_zero_le (show 0 ≤ br by omega)
    have hw : 1 ≤ w ∧ w ≤ 5 := ⟨by omega, by omega⟩
    have hh : 1 ≤ h ∧ h ≤ 5 := ⟨by omega, by omega⟩
    have h25 : w * h ≤ 25 := Nat.mul_le_mul hw.2 hh.2
    have hn1 : 1 ≤ w * h := Nat.mul_le_mul hw.1 hh.1
    have ha' := ha
    rw [← Int.natCast_mul] at ha'
    have hsl := asc_len ha'
    have HT := hide (tilesOf_yes w h A c hs W hr hw hh ha (by omega))
    have HZ := hide (fun w6 => by
      have := size_c (w : Int) (h : Int) w6 (by omega) (by omega) (by omega) (by omega)
      rw [← Int.natCast_mul] at this
      exact this)
    have HRp := hide (fun (g : Nat) (w6 : World) (hc : w6.cell? ⟨g, 0, none⟩ = some (.int .i64 (-1))) => repeat_c (w * h) g (-1) w6 hn1 h25 hc)
    have hcs := cov_set (w := w) (h := h) hw (hs := hs) (fun x hx => (asc_mem ha x hx).1)
    have hpos : coversP (w : Int) (h : Int) hs = ((covN w (w * h) (setOf (w * h) hs) : Nat) : Int) := by unfold coversP; rw [if_pos hH, hcs]; rfl
    have hF : firstL (w : Int) (h : Int) hs = if 0 < covN w (w * h) (setOf (w * h) hs) then some (outL (w * h) (firstG w (w * h) (w * h) (cOf (setOf (w * h) hs)) (fun _ => -1) 0).1) else none := by
      have hc := first_congr hw (w * h) (inL hs) (cOf (setOf (w * h) hs)) (fun _ => -1) 0 (Nat.le_refl _) (fun i hi => by
        unfold cOf
        rw [setOf_bit (fun x hx => (asc_mem ha x hx).1), decide_eq_true hi, Bool.true_and, Bool.not_not])
      unfold firstL
      rw [hpos]
      simp only [Int.toNat_natCast]
      rw [hc]
      by_cases hp : 0 < covN w (w * h) (setOf (w * h) hs)
      · rw [if_pos hp, if_pos ⟨hH, by omega⟩]
      · rw [if_neg hp, if_neg (fun h' => hp (by have := h'.2; omega))]
    rw [hF]
    have HTb := hide hT
    have hSl := setOf_lt (w * h) hs
    generalize setOf (w * h) hs = S at *
    have HF := hide (fun (lf : Nat) (h0 : lf ≠ 0) (hl : lf < 2 ^ (w * h)) (w6 : World) (h6 : Tab w6) => firstCover_c w h hw hh lf h0 hl w6 h6)
    clear hH ha ha' hr hT hF hcs hpos h1 h2 h3 h4
    have hS25 := set25 h25 hSl
    have hS25 := set25 h25 hSl
    generalize hR : (if 0 < covN w (w * h) S then some (outL (w * h) (firstG w (w * h) (w * h) (cOf S) (fun _ => -1) 0).1) else none) = R at *
    have HRn := hide (fun (e : covN w (w * h) S = 0) => show R = none by rw [← hR, if_neg (by omega)])
    have HRs := hide (fun (e : 0 < covN w (w * h) S) => show R = some (outL (w * h) (firstG w (w * h) (w * h) (cOf S) (fun _ => -1) 0).1) by rw [← hR, if_pos e])
    clear hR
    go_enter Tryd.func11, Tryd.ntmps11
    go_wp2_with fail
    refine HT.out.mono ?_
    rintro e w1 ⟨rfl, b1⟩
    have bx2 := (Box.new w1 41 #[.int .i64 (w : Int), .int .i64 (h : Int)]).alloc (.cells #[.int .i64 (-1)] 3)
    have bo2 := Box.new (w1.alloc (.cells #[.int .i64 (w : Int), .int .i64 (h : Int)] 41)) 3 #[.int .i64 (-1)]
    have b2 : Below W.heap.size W ((w1.alloc (.cells #[.int .i64 (w : Int), .int .i64 (h : Int)] 41)).alloc (.cells #[.int .i64 (-1)] 3)) := (b1.alloc b1.size _).alloc (by have := b1.size; simp; omega) _
    have z1 := b1.size
    go_wp2_with fail
    refine (HZ.out _).mono ?_
    rintro e w3 ⟨rfl, b3⟩
    have bx3 := bx2.then b3
    have bo3 := (bo2.then b3).cell 0
    have b3 := below_then b2 b2.size b3
    rw [World.size_alloc] at bo3
    clear bo2 bx2 b2
    go_wp2_with fail
    refine (HRp.out _ _ bo3).mono ?_
    rintro e w4 ⟨v4, rfl, o4, b4⟩
    have bx4 := bx3.then b4
    have z3 := bx3.in_
    have b4' := below_then b3 b3.size b4
    obtain ⟨g, c4, rfl, hg⟩ := own_intv o4 (by omega)
    rw [out_start] at o4
    clear bx3 bo3 b3 HT HZ HRp
    have HnS : Hid (∀ lf, 0 < covN w (w * h) lf → lf ≠ 0 → lf < 2 ^ (w * h) → ∃ p, firstC w (w * h) lf = some p ∧ p < 33554432 ∧ dif lf p < 2 ^ (w * h) ∧ dif lf p < lf ∧ 0 < covN w (w * h) (dif lf p) ∧
        ∀ (o : Nat → Int) (m : Nat), firstG w (w * h) (w * h) (cOf lf) o m = firstG w (w * h) (w * h) (cOf (dif lf p)) (fun i => if p.testBit i then (m : Int) else o i) (m + 1)) := fun lf hc h0 hl => by
      obtain ⟨e1, e2, e3, e4⟩ := first_some (w := w) (h := h) rfl hw.1 h0 hl h25 hc
      refine ⟨_, e1, ?_, dif_lt _ hl, ?_, e4, fun o m => first_round h0 hl h25⟩
      · exact set25 h25 (pair_lt (low_spec h0 hl (by omega)).2.2 e2)
      · exact dif_less (low_spec h0 hl (by omega)).1 (by rw [pair_bit]; simp)
    have HnN : Hid (∀ lf, covN w (w * h) lf = 0 → lf ≠ 0 → lf < 2 ^ (w * h) → firstC w (w * h) lf = none) := fun lf hc h0 hl => first_none h0 hl h25 hc
    have HE := hide (fun (o : Nat → Int) (m : Nat) => first_end w (w * h) o m)
    have hc00 := cov_zero w (w * h)
    generalize w * h = n at *
    generalize hGS : firstG w n n (cOf S) (fun _ => -1) 0 = GS at *
    go_wp2_with fail
    go_loopw [9, 12] (fun a b wr => ∃ (lf m : Nat) (o : Nat → Int), a = .int .i64 lf ∧ b = .int .i64 m ∧ lf < 2 ^ n ∧ m + lf ≤ 33554432 ∧ Hid (0 < covN w n S → 0 < covN w n lf ∧ firstG w n n (cOf lf) o m = GS) ∧ Hid (covN w n S = 0 → covN w n lf = 0) ∧
      wr.ownsRow w3.heap.size 3 1 (.slice (some ⟨g, 0, none⟩) n c4) n (ints (outL n o)) ∧ Below W.heap.size W wr ∧ Box wr w1.heap.size 41 #[.int .i64 (w : Int), .int .i64 (h : Int)]) (fun a _ _ => (intOf a).toNat)
    case atStart => exact ⟨S, 0, _, rfl, rfl, hSl, by omega, fun hp => ⟨hp, hGS⟩, fun hp => hp, o4, b4', bx4⟩
    case round =>
      obtain ⟨lf, m, o, rfl, rfl, hlf, hml, hi1, hi2, own, hb, bx⟩ := hrel
      obtain ⟨wo, rfl⟩ : ∃ wo : World, wo = wr := ⟨_, rfl⟩
      have z := hb.size
      have c0 := bx.cell 0
      have c1 := bx.cell 1
      have hlf25 := set25 h25 hlf
      by_cases h0 : lf = 0
      · subst h0
        have hSp : 0 < covN w n S := by
          rcases Nat.eq_zero_or_pos (covN w n S) with e | e
          · have := hi2.out e; omega
          · exact e
        have hout : Hid (R = some (outL n o)) := (HRs.out hSp).trans (by rw [← (hi1.out hSp).2, HE.out])
        go_wp2_with fail
        go_ret2
        rw [hout.out]
        exact ⟨_, rfl, by rw [outL_len]; exact own_mono own (by omega), hb⟩
      · have hlz : ((lf : Int) == 0) = false := by rw [beq_eq_false_iff_ne]; omega
        have hln : ((lf : Int) != 0) = true := by rw [bne, hlz]; rfl
        have HC := hide (fun w6 h6 => HF.out lf h0 hlf w6 h6)
        have HB := hide (HTb.out.below hb)
        by_cases hc : covN w n lf = 0
        · have hSp : covN w n S = 0 := by
            rcases Nat.eq_zero_or_pos (covN w n S) with e | e
            · exact e
            · have := (hi1.out e).1; omega
          have hout : Hid (R = none) := HRn.out hSp
          rw [HnN.out lf hc h0 hlf, show pieceV none = .tuple #[.int .i64 0, .bool false] from rfl] at HC
          go_wp2_with fail
          refine (HC.out _ HB.out).mono ?_
          rintro e w5 ⟨rfl, b5⟩
          go_wp2_with fail
          go_ret2
          rw [hout.out]
          exact ⟨rfl, below_then hb z b5⟩
        · obtain ⟨p, e1, e2, e3, e4, e5, e6⟩ := HnS.out lf (by omega) h0 hlf
          have hi1' : Hid (0 < covN w n S → 0 < covN w n (dif lf p) ∧ firstG w n n (cOf (dif lf p)) (fun i => if p.testBit i then (m : Int) else o i) (m + 1) = GS) := fun hp => ⟨e5, by rw [← e6]; exact (hi1.out hp).2⟩
          have hi2' : Hid (covN w n S = 0 → covN w n (dif lf p) = 0) := fun hp => absurd (hi2.out hp) hc
          rw [e1, show pieceV (some p) = .tuple #[.int .i64 (p : Int), .bool true] from rfl] at HC
          have ed := i64_difN lf p (by omega) (by omega)
          clear e6 e1 hi1 hi2
          generalize dif lf p = lf' at *
          go_wp2_with fail
          refine (HC.out _ HB.out).mono ?_
          rintro e w5 ⟨rfl, b5⟩
          have own5 := own_below own b5
          have bx5 := bx.then b5
          have b5 := below_then hb z b5
          clear own bx hb c0 c1 HB HC
          have hn25 : n ≤ 25 := h25
          have HM1 := hide (fun k (hk : p.testBit k = true) => mark_hit (n := n) (m := m) (o := o) hk)
          have HM2 := hide (fun k (hk : p.testBit k = false) => mark_miss (n := n) (m := m) (o := o) hk)
          have HM3 := hide (mark_all (n := n) (piece := p) (m := m) o)
          have own5 : w5.ownsRow w3.heap.size 3 1 (.slice (some ⟨g, 0, none⟩) n c4) n (ints (outL n (markO p m o 0))) := by rw [mark_zero]; exact own5
          go_wp2_with fail
          go_loopw [47] (fun a wr => ∃ (k : Nat), k ≤ n ∧ a = .int .i64 k ∧ wr.ownsRow w3.heap.size 3 1 (.slice (some ⟨g, 0, none⟩) n c4) n (ints (outL n (markO p m o k))) ∧ Below W.heap.size W wr ∧ Box wr w1.heap.size 41 #[.int .i64 (w : Int), .int .i64 (h : Int)]) (fun a _ => n - (intOf a).toNat)
          case atStart => exact ⟨0, Nat.zero_le _, rfl, own5, b5, bx5⟩
          case round =>
            obtain ⟨k, hk, rfl, own, hb, bx⟩ := hrel
            obtain ⟨wi, rfl⟩ : ∃ wi : World, wi = wr := ⟨_, rfl⟩
            by_cases hlt : k < n
            · have hbt := bit_test p k (by omega)
              have k0 : (0 : Int) ≤ (k : Int) := by omega
              have k1 : (k : Int) < (n : Int) := by omega
              have k25 : (k : Int) < 64 := by omega
              cases hkb : p.testBit k with
              | false =>
                rw [hkb] at hbt
                have hm2 := hide (HM2.out k hkb)
                clear hkb
                go_wp2_with fail
                exact ⟨⟨k + 1, hlt, by go_num, by rw [hm2.out]; exact own, hb, bx⟩, by simp [intOf]; omega⟩
              | true =>
                rw [hkb] at hbt
                have hm1 := hide (HM1.out k hkb)
                clear hkb
                obtain ⟨d1, d2, d3, d4⟩ := own_int own hlt (m : Int)
                have bx' := bx.other (p := ⟨g, k, none⟩) (by simp; omega) (.int .i64 (m : Int))
                have hb' := hb.setCell (p := ⟨g, k, none⟩) (by simp; omega) (.int .i64 (m : Int))
                go_wp2_with fail
                exact ⟨⟨k + 1, hlt, by go_num, by rw [← hm1.out]; exact d3, hb', bx'⟩, by simp [intOf]; omega⟩
            · obtain rfl : k = n := by omega
              rw [HM3.out] at own
              have em : IntKind.i64.wrap ((m : Int) + 1) = ((m + 1 : Nat) : Int) := (IntWalk.i64_in _ (by omega)).trans (by omega)
              go_wp2_with fail
              exact ⟨⟨lf', m + 1, _, rfl, by go_num, e3, by omega, hi1', hi2', own, hb, bx⟩, by simp [intOf]; omega⟩
  · have HT := hide (tilesOf_no bc br A c hs W hr hm hH)
    have hX : firstL bc br hs = none := by unfold firstL; rw [if_neg (fun h' => hH h'.1)]
    rw [hX]
    clear hX hH hr hT
    go_enter Tryd.func11, Tryd.ntmps11
    go_wp2_with fail
    refine HT.out.mono ?_
    rintro e w1 ⟨rfl, b1⟩
    go_wp2_with fail
    go_ret2
    exact ⟨rfl, b1.alloc b1.size _⟩
end Go.Proofs.YtbecnjfdolagcacDoor

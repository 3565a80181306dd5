
/-
  Covers of boards: the model's TileFirst.
-/
import Derived.Test.YtbecnjfdolagcacDoorTileU
namespace Go.Proofs.YtbecnjfdolagcacDoor
open Go.RowKit
set_option linter.unusedVariables false

/-- A row of numbers of the call's own: its cells, and one of them written. -/
theorem own_int {W : World} {base g n c : Nat} {L : List Int} (h : W.ownsRow base 3 1 (.slice (some ⟨g, 0, none⟩) n c) n (ints L)) {k : Nat} (hk : k < n) (b : Int) :
    W.cell? ⟨g, k, none⟩ = some (.int .i64 (L[k]?.getD 0)) ∧ W.frozen? ⟨g, k, none⟩ = false ∧ (W.setCell ⟨g, k, none⟩ (.int .i64 b)).ownsRow base 3 1 (.slice (some ⟨g, 0, none⟩) n c) n (ints (L.set k b)) ∧ W.grownBy (W.setCell ⟨g, k, none⟩ (.int .i64 b)) (some g) := by
  have hl : L.length = n := by have := h.1; simpa using this
  have hc := h.cellAt k (by omega)
  obtain ⟨o, gr⟩ := h.stored k (.int .i64 b)
  refine ⟨?_, h.frozenAt k, ?_, gr⟩
  · rw [hc]; simp [List.getElem?_eq_getElem (show k < L.length by omega)]
  · rw [show (ints L).set k (.int .i64 b) = ints (L.set k b) by simp [ints, List.map_set]] at o
    exact o
def outL (n : Nat) (o : Nat → Int) : List Int := (List.range n).map o
theorem outL_len (n : Nat) (o : Nat → Int) : (outL n o).length = n := by simp [outL]
theorem out_set {n a b : Nat} (o : Nat → Int) (v : Int) : ((outL n o).set a v).set b v = outL n (fun i => if i = a ∨ i = b then v else o i) := by
  apply List.ext_getElem
  · simp [outL]
  · intro i h1 h2
    rw [List.getElem_set, List.getElem_set]
    simp only [outL, List.getElem_map, List.getElem_range]
    by_cases e1 : b = i
    · rw [if_pos e1, if_pos (.inr e1.symm)]
    · rw [if_neg e1]
      by_cases e2 : a = i
      · rw [if_pos e2, if_pos (.inl e2.symm)]
      · rw [if_neg e2, if_neg (by rintro (h | h); exact e2 h.symm; exact e1 h.symm)]
theorem out_start (n : Nat) : List.replicate n (-1) = outL n (fun _ => -1) := by
  apply List.ext_getElem
  · simp [outL]
  · intro i h1 h2; simp [outL]
theorem own_intv {w : World} {base n : Nat} {v : Value} {cs : List Value} (h : w.ownsRow base 3 1 v n cs) (hn : 0 < n) : ∃ g c, v = .slice (some ⟨g, 0, none⟩) n c ∧ base ≤ g := by
  rcases h.2 with ⟨_, rfl⟩ | ⟨g, cap, cur, e, hb, _⟩
  · omega
  · exact ⟨g, cap, e, hb⟩
/-- The first way, if there is one. -/
def firstL (bc br : Int) (hs : List Int) : Option (List Int) :=
  if Holes bc br hs ∧ 0 < coversP bc br hs then some (outL (bc.toNat * br.toNat) (firstG bc.toNat (bc.toNat * br.toNat) (bc.toNat * br.toNat) (inL hs) (fun _ => -1) 0).1) else none
def FirstIs (o : Option (List Int)) (w : World) (e : Ending) (w' : World) : Prop :=
  match o with
  | some l => ∃ v, e = .returned (.tuple #[v, .bool true]) ∧ w'.ownsRow w.heap.size 3 1 v l.length (ints l) ∧ Below w.heap.size w w'
  | none => e = .returned (.tuple #[.slice none 0 0, .bool false]) ∧ Below w.heap.size w w'

set_option maxHeartbeats 4000000 in
set_option maxRecDepth 100000 in
theorem tileFirst_c (bc br : Int) (A : Option Addr) (c : Nat) (hs : List Int) (W : World) (hr : Row W A (ints hs)) (hm : hs.length ≤ maxLen) :
    Calls Tryd.prog 12 #[.int .i64 bc, .int .i64 br, .slice A hs.length c] W (FirstIs (firstL bc br hs) W) := by
  have HV := hide (validHoles_c bc br A c hs W hr hm)
  by_cases hH : Holes bc br hs
  · rw [decide_eq_true hH] at HV
    have hH' := hH
    obtain ⟨⟨h1, h2, h3, h4⟩, ha⟩ := hH
    obtain ⟨w, rfl⟩ := Int.eq_ofNat_of_zero_le (show 0 ≤ bc by omega)
    obtain ⟨h, rfl⟩ := Int.eq_ofNat_of_zero_le (show 0 ≤ br by omega)
    have hX : coversP (w : Int) (h : Int) hs = ((tileT w (w * h) (w * h) (inL hs) : Nat) : Int) := by
      unfold coversP
      rw [if_pos hH']
      rfl
    have hmem := asc_mem ha
    rw [← Int.natCast_mul] at hmem
    have HF := hide (mask_fn hmem)
    have HO := hide (fun (w5 : World) (h5 : Row w5 A (ints hs)) => holesOf_c (w : Int) (h : Int) (w * h) A c hs w5 hH' (by rw [Int.natCast_mul]) h5 hm)
    have HT := hide (fun (l : List Bool) (A : Option Addr) (c : Nat) (w5 : World) (hl : l.length = w * h) (h5 : Row w5 A (boolsV l)) => tile_c w h (w * h) rfl ⟨by omega, by omega⟩ ⟨by omega, by omega⟩ (w * h) (Nat.le_refl _) l A c w5 hl h5)
    rw [Nat.sub_self] at HT
    have HL := hide (mask_len (w * h) hs)
    have hFL : firstL (w : Int) (h : Int) hs = if 0 < tileT w (w * h) (w * h) (inL hs) then some (outL (w * h) (firstG w (w * h) (w * h) (inL hs) (fun _ => -1) 0).1) else none := by
      unfold firstL
      rw [hX]
      by_cases hz : 0 < tileT w (w * h) (w * h) (inL hs)
      · rw [if_pos ⟨hH', by omega⟩, if_pos hz]; rfl
      · rw [if_neg (fun h' => hz (by have := h'.2; omega)), if_neg hz]
    rw [hFL]
    have HMT := hide (fun (k a : Nat) (g : Nat → Bool) (hk : k + 1 ≤ w * h) (ha : w * h - (k + 1) = a) => mate (w := w) (h := h) (n := w * h) (k := k) (a := a) (g := g) rfl (by omega) hk ha)
    have hn1 : 1 ≤ w * h := Nat.mul_le_mul (show 1 ≤ w by omega) (show 1 ≤ h by omega)
    have hn25 : w * h ≤ 25 := Nat.mul_le_mul (show w ≤ 5 by omega) (show h ≤ 5 by omega)
    have emul : IntKind.i64.wrap ((w : Int) * (h : Int)) = ((w * h : Nat) : Int) := by rw [Int.natCast_mul]; exact IntWalk.i64_in _ (by rw [← Int.natCast_mul]; omega)
    have HROW := hide (fun a (han : a < w * h) (hlt : a % w + 1 < w) => show a + 1 < w * h by
      have e1 := Nat.div_add_mod a w
      have e2 : a / w < h := Nat.div_lt_of_lt_mul han
      have e3 : w * (a / w + 1) ≤ w * h := Nat.mul_le_mul_left w e2
      rw [Nat.mul_add, Nat.mul_one] at e3
      omega)
    have HTB := hide (fun c => tile_bd w (w * h) (w * h) c)
    have hp25 : 2 ^ (w * h) ≤ 33554432 := Nat.le_trans (Nat.pow_le_pow_right (by omega) hn25) (by decide)
    have w1 : 1 ≤ w := by omega
    have w5 : w ≤ 5 := by omega
    clear hX hFL ha hmem h1 h2 h3 h4 hm hH'
    generalize w * h = n at *
    by_cases hz : 0 < tileT w n n (inL hs)
    · rw [if_pos hz]
      obtain ⟨F, hF⟩ : ∃ F, firstG w n n (inL hs) (fun _ => -1) 0 = F := ⟨_, rfl⟩
      rw [hF]
      have HFF := hide hF
      clear hF
      have hzi : (((tileT w n n (inL hs) : Nat) : Int) == 0) = false := by rw [beq_eq_false_iff_ne]; omega
      have HZ := hide hz
      clear hz
      go_enter Tryd.func12, Tryd.ntmps12
      go_wp2_with fail
      refine HV.out.mono ?_
      rintro e w1' ⟨rfl, b1⟩
      have R1 := hide (hr.below b1)
      go_wp2_with fail
      refine (HO.out _ R1.out).mono ?_
      rintro e w2 ⟨gq, rfl, o2, b2⟩
      have R2 := hide (R1.out.below b2)
      have b2 := below_then b1 b1.size b2
      have Q2 := hide (own_reads o2)
      clear o2
      go_wp2_with fail
      refine (HT.out _ _ _ _ HL.out Q2.out).mono ?_
      rintro e w3 ⟨rfl, b3⟩
      rw [HF.out]
      have R3 := hide (R2.out.below b3)
      have b3 := below_then b2 b2.size b3
      go_wp2_with fail
      refine (HO.out _ R3.out).mono ?_
      rintro e w4 ⟨g0, rfl, o4, b4⟩
      have zb3 := b3.size
      have O4 := hide (own_mono o4 zb3)
      have b4 := below_then b3 b3.size b4
      clear o4
      have hz4 : W.heap.size ≤ w4.heap.size := b4.size
      have hg4 := (O4.out.lt g0 rfl).2
      go_wp2_with fail
      go_loopw [9, 10] (fun v i wr => ∃ k : Nat, k ≤ n ∧ i = .int .i64 (k : Int) ∧ wr.ownsRow w4.heap.size 3 1 v k (ints (List.replicate k (-1))) ∧ wr.ownsRow W.heap.size 4 1 (.slice (some ⟨g0, 0, none⟩) n n) n (boolsV (maskL n hs)) ∧ Below W.heap.size W wr ∧ w4.heap.size ≤ wr.heap.size) (fun _ i _ => n - (intOf i).toNat)
      case atStart => exact ⟨0, Nat.zero_le _, rfl, by simpa [ints] using World.ownsRow_made w4 #[] 0 (Nat.le_refl _) (by simp [maxLen]) rfl, O4.out.alloc _, b4.alloc b4.size _, by simp⟩
      case round =>
        obtain ⟨k, hk, rfl, hown, ogone, hb, hzw⟩ := hrel
        obtain ⟨wo, rfl⟩ : ∃ wo : World, wo = wr := ⟨_, rfl⟩
        by_cases hlt : k < n
        · have hvc := hide (hown.alloc (.cells #[.int .i64 (-1)] 3))
          have hog := hide (ogone.alloc (.cells #[.int .i64 (-1)] 3))
          have hbc := hb.alloc hb.size (.cells #[.int .i64 (-1)] 3)
          have hzc : w4.heap.size ≤ (wo.alloc (.cells #[.int .i64 (-1)] 3)).heap.size := by simp; omega
          obtain ⟨A0, c0, rfl, _⟩ := own_row hown
          have hgj : ∀ j, (Value.slice (some ⟨g0, 0, none⟩) n n).ownBlock = some j → j < w4.heap.size := fun j e => by
            have e' : g0 = j := by injection (show some g0 = some j from e)
            omega
          clear hown ogone
          go_wp2_with ((at_builtin; refine put_own rfl (.tmp 41) (.tmp 42) rfl Tryd.underlying28 elem_int' rfl hvc.out rfl (m := 1) (news := [.int .i64 (-1)]) rfl (row_new _ _ _ rfl) (by simp [Value.oneCell']) (by omega) (by omega) hzc ?_; intro v9 w9 own9 hg9 ho9))
          exact ⟨⟨k + 1, hlt, rfl, by rw [List.replicate_succ']; simpa [ints] using own9, own_other hog.out hgj hvc.out (Nat.le_refl _) hg9, below_grown hbc hbc.size hvc.out hz4 hg9, Nat.le_trans hzc hg9.size⟩, by simp [intOf]; omega⟩
        · obtain rfl : n = k := by omega
          obtain ⟨go, co, rfl, hgo⟩ := own_intv hown (by omega)
          rw [out_start] at hown
          have S1 := hide (own_mono hown hz4)
          have S2 := hide ogone
          have S3 := hide hb
          have hne : g0 ≠ go := by omega
          clear hown ogone hb
          go_wp2_with fail
          go_loopw [11, 12] (fun m i wi => ∃ (k : Nat) (lg : List Bool) (o : Nat → Int) (q : Nat), k ≤ n ∧ i = .int .i64 ((n - k : Nat) : Int) ∧ m = .int .i64 (q : Int) ∧ q ≤ n - k ∧ wi.ownsRow W.heap.size 4 1 (.slice (some ⟨g0, 0, none⟩) n n) n (boolsV lg) ∧ wi.ownsRow W.heap.size 3 1 (.slice (some ⟨go, 0, none⟩) n co) n (ints (outL n o)) ∧
              Hid ((∀ i, i < n - k → fnB lg i = true) ∧ 0 < tileT w n n (fnB lg) ∧ firstG w n k (fnB lg) o q = F) ∧ Below W.heap.size W wi) (fun _ i _ => n - (intOf i).toNat)
          case atStart => exact ⟨n, maskL n hs, fun _ => -1, 0, Nat.le_refl _, by simp, rfl, Nat.zero_le _, S2.out, S1.out, ⟨fun i hi => absurd hi (by omega), by rw [HF.out]; exact HZ.out, by rw [HF.out]; exact HFF.out⟩, S3.out⟩
          case round =>
            clear S1 S2 S3
            obtain ⟨k, lg, o, q, hk, rfl, rfl, hq, og, oo, hinv, hb⟩ := hrel
            obtain ⟨wi, rfl⟩ : ∃ wi : World, wi = wr := ⟨_, rfl⟩
            have hll : lg.length = n := by have := og.1; simpa using this
            obtain ⟨a, hka⟩ : ∃ a, n - k = a := ⟨_, rfl⟩
            rw [hka] at hq ⊢
            have zi := hb.size
            by_cases hk0 : k = 0
            · subst hk0
              obtain rfl : a = n := by omega
              have HE : Hid ((o, q) = F) := hinv.out.2.2
              have X1 := hide oo
              have X2 := hide hb
              clear og oo hb hinv
              go_wp2_with fail
              go_ret2
              refine ⟨_, rfl, ?_, X2.out⟩
              rw [← HE.out, outL_len]
              exact X1.out
            · obtain ⟨k, rfl⟩ : ∃ k', k = k' + 1 := ⟨k - 1, by omega⟩
              have han : a < n := by omega
              have hnk : n - k = a + 1 := by omega
              obtain ⟨i1, i2, i3⟩ := hinv.out
              rw [hka] at i1
              cases hcv : fnB lg a with
              | true =>
                have hc := (own_bool og han true).1
                rw [hcv] at hc
                have HN : Hid ((∀ i, i < n - k → fnB lg i = true) ∧ 0 < tileT w n n (fnB lg) ∧ firstG w n k (fnB lg) o q = F) := ⟨fun i hi => by
                  by_cases e : i = a
                  · subst e; exact hcv
                  · exact i1 i (by omega), i2, by rw [← i3, first_skip (by rw [hka]; exact hcv)]⟩
                clear hinv i1 i2 i3 hcv
                go_wp2_with fail
                exact ⟨⟨k, lg, o, q, by omega, by rw [hnk]; rfl, rfl, by omega, og, oo, HN.out, hb⟩, by simp [intOf]; omega⟩
              | false =>
                obtain ⟨m1, m2, m3, m4, m5⟩ := HMT.out k a (fnB lg) (by omega) hka i1 hcv i2
                have hst := first_step (w := w) (n := n) (k := k) (g := fnB lg) (o := o) (m := q) hka hcv
                rw [i3] at hst
                have HN := hide (fun (z : Nat) (hto : toG w n (fnB lg) a = z) (htn : z < n) => show ((∀ i, i < n - k → fnB ((lg.set a true).set z true) i = true) ∧ 0 < tileT w n n (fnB ((lg.set a true).set z true)) ∧ firstG w n k (fnB ((lg.set a true).set z true)) (fun i => if i = a ∨ i = z then (q : Int) else o i) (q + 1) = F) by
                  rw [fnB_cov (by omega) (by omega), ← hto]
                  refine ⟨fun i hi => ?_, m5, hst.symm⟩
                  by_cases e : i = a
                  · subst e; exact cov_l _ i _
                  · exact cov_true (i1 i (by omega)))
                have HCR := hide (fun (hx : a + 1 < n) => fnB_cov (l := lg) (x := a) (y := a + 1) (by omega) (by omega))
                have hlA : (lg.set a true).length = n := by simpa using hll
                obtain ⟨p1, p2, p3, p4⟩ := own_bool og han true
                rw [hcv] at p1
                have P3 := hide p3
                have P4 := hide (own_freeS oo p4 (fun e => by
                  have e' : go = g0 := by injection (show some go = some g0 from e)
                  exact hne e'.symm))
                have P5 := hide (hb.grown p4 zi (fun j e => by injection e with e; have := (og.lt g0 rfl).1; omega))
                clear p3 p4 og oo hb hinv i1 i2 i3 hst
                have hmw : a % w < w := Nat.mod_lt _ (by omega)
                have t1 : Int.tmod (a : Int) (w : Int) = ((a % w : Nat) : Int) := rfl
                have t1' : (a : Int) % (w : Int) = ((a % w : Nat) : Int) := rfl
                have hw0 : (w : Int) ≠ 0 := by omega
                have HTO : Hid (toG w n (fnB lg) a = if decide (a % w + 1 < w) && !fnB lg (a + 1) && decide (0 < tileT w n n (cov (fnB lg) a (a + 1))) then a + 1 else a + w) := rfl
                generalize hmm : a % w = m at *
                have e2 : IntKind.i64.wrap (m : Int) = (m : Int) := IntWalk.i64_in _ (by omega)
                have hbg : W.heap.size ≤ g0 := (P3.out.lt g0 rfl).1
                have hbo : W.heap.size ≤ go := (P4.out.lt go rfl).1
                by_cases hR : m + 1 < w
                · have hRi : (m : Int) + 1 < (w : Int) := by omega
                  have hr1 : a + 1 < n := by
                    by_cases hx : a + 1 < n
                    · exact hx
                    · exfalso
                      exact hx (HROW.out a han (by rw [hmm]; exact hR))
                  have r1 := (own_bool P3.out (k := a + 1) hr1 true).1
                  rw [fnB_set (by omega), if_neg (by omega)] at r1
                  cases hx1 : fnB lg (a + 1) with
                  | true =>
                    rw [hx1] at r1
                    have hto : toG w n (fnB lg) a = a + w := by rw [HTO.out, hx1]; simp
                    rw [hto] at m2 m3
                    have htn : a + w < n := m2
                    have HNx := hide (HN.out (a + w) hto htn)
                    clear HN m1 m2 m3 m4 m5 HTO HCR
                    obtain ⟨d1, d2, d3, d4⟩ := own_bool P3.out (k := a + w) htn true
                    have D3 := hide d3
                    have D4 := hide (own_freeS P4.out d4 (fun e => by
                      have e' : go = g0 := by injection (show some go = some g0 from e)
                      exact hne e'.symm))
                    have D5 := hide (P5.out.grown d4 P5.out.size (fun j e => by injection e with e; omega))
                    clear d3 d4
                    obtain ⟨f1, f2, f3, f4⟩ := own_int D4.out (k := a) han (q : Int)
                    have F3 := hide f3
                    have F4 := hide (own_freeS D3.out f4 (fun e => by
                      have e' : g0 = go := by injection (show some g0 = some go from e)
                      exact hne e'))
                    have F5 := hide (D5.out.grown f4 D5.out.size (fun j e => by injection e with e; omega))
                    clear f3 f4 D3 D4 D5
                    obtain ⟨k1, k2, k3, k4⟩ := own_int F3.out (k := a + w) htn (q : Int)
                    rw [out_set] at k3
                    have K3 := hide k3
                    have K4 := hide (own_freeS F4.out k4 (fun e => by
                      have e' : g0 = go := by injection (show some g0 = some go from e)
                      exact hne e'))
                    have K5 := hide (F5.out.grown k4 F5.out.size (fun j e => by injection e with e; omega))
                    clear k3 k4 F3 F4 F5
                    go_wp2_with fail
                    exact ⟨⟨k, (lg.set a true).set (a + w) true, _, q + 1, by omega, by rw [hnk]; rfl, rfl, by omega, K4.out, K3.out, HNx.out, K5.out⟩, by simp [intOf]; omega⟩
                  | false =>
                    rw [hx1] at r1
                    obtain ⟨q1, q2, q3, q4⟩ := own_bool P3.out (k := a + 1) hr1 true
                    rw [fnB_set (by omega), if_neg (by omega), hx1] at q1
                    have Q3 := hide q3
                    have Q4 := hide (own_freeS P4.out q4 (fun e => by
                      have e' : go = g0 := by injection (show some go = some g0 from e)
                      exact hne e'.symm))
                    have Q5 := hide (P5.out.grown q4 P5.out.size (fun j e => by injection e with e; omega))
                    clear q3 q4
                    have HBK := hide (set_back (l := lg.set a true) (x := a + 1) (by rw [fnB_set (by omega), if_neg (by omega)]; exact hx1) (by omega))
                    have HC := hide (HCR.out hr1)
                    have hxb := HTB.out (cov (fnB lg) a (a + 1))
                    go_wp2_with fail
                    refine (HT.out _ _ _ _ (by simpa using hll) (own_reads Q3.out)).mono ?_
                    rintro e w12 ⟨rfl, b12⟩
                    rw [HC.out]
                    have O12 := hide (own_below Q3.out b12)
                    have U12 := hide (own_below Q4.out b12)
                    have b12 := hide (below_then Q5.out Q5.out.size b12)
                    clear P3 P4 P5 Q3 Q4 Q5 p1 p2 q1 q2 r1 HC
                    obtain ⟨s1, s2, s3, s4⟩ := own_bool O12.out (k := a + 1) hr1 false
                    rw [HBK.out] at s3
                    have S3 := hide s3
                    have S4 := hide (own_freeS U12.out s4 (fun e => by
                      have e' : go = g0 := by injection (show some go = some g0 from e)
                      exact hne e'.symm))
                    have S5 := hide (b12.out.grown s4 b12.out.size (fun j e => by injection e with e; omega))
                    clear s3 s4 O12 U12 b12
                    obtain ⟨X, hX⟩ : ∃ X, tileT w n n (cov (fnB lg) a (a + 1)) = X := ⟨_, rfl⟩
                    rw [hX] at hxb HTO ⊢
                    clear hX
                    by_cases hX0 : 0 < X
                    · have hX0i : (0 : Int) < (X : Int) := by omega
                      have hto : toG w n (fnB lg) a = a + 1 := by rw [HTO.out, hx1, decide_eq_true hR, decide_eq_true hX0]; rfl
                      have htn : a + 1 < n := hr1
                      have HNx := hide (HN.out (a + 1) hto htn)
                      clear HN m1 m2 m3 m4 m5 HTO HCR
                      obtain ⟨d1, d2, d3, d4⟩ := own_bool S3.out (k := a + 1) htn true
                      have D3 := hide d3
                      have D4 := hide (own_freeS S4.out d4 (fun e => by
                        have e' : go = g0 := by injection (show some go = some g0 from e)
                        exact hne e'.symm))
                      have D5 := hide (S5.out.grown d4 S5.out.size (fun j e => by injection e with e; omega))
                      clear d3 d4
                      obtain ⟨f1, f2, f3, f4⟩ := own_int D4.out (k := a) han (q : Int)
                      have F3 := hide f3
                      have F4 := hide (own_freeS D3.out f4 (fun e => by
                        have e' : g0 = go := by injection (show some g0 = some go from e)
                        exact hne e'))
                      have F5 := hide (D5.out.grown f4 D5.out.size (fun j e => by injection e with e; omega))
                      clear f3 f4 D3 D4 D5
                      obtain ⟨k1, k2, k3, k4⟩ := own_int F3.out (k := a + 1) htn (q : Int)
                      rw [out_set] at k3
                      have K3 := hide k3
                      have K4 := hide (own_freeS F4.out k4 (fun e => by
                        have e' : g0 = go := by injection (show some g0 = some go from e)
                        exact hne e'))
                      have K5 := hide (F5.out.grown k4 F5.out.size (fun j e => by injection e with e; omega))
                      clear k3 k4 F3 F4 F5
                      go_wp2_with fail
                      exact ⟨⟨k, (lg.set a true).set (a + 1) true, _, q + 1, by omega, by rw [hnk]; rfl, rfl, by omega, K4.out, K3.out, HNx.out, K5.out⟩, by simp [intOf]; omega⟩
                    · have hX0i : ¬ ((0 : Int) < (X : Int)) := by omega
                      have hto : toG w n (fnB lg) a = a + w := by rw [HTO.out, decide_eq_false hX0]; simp
                      rw [hto] at m2 m3
                      have htn : a + w < n := m2
                      have HNx := hide (HN.out (a + w) hto htn)
                      clear HN m1 m2 m3 m4 m5 HTO HCR
                      obtain ⟨d1, d2, d3, d4⟩ := own_bool S3.out (k := a + w) htn true
                      have D3 := hide d3
                      have D4 := hide (own_freeS S4.out d4 (fun e => by
                        have e' : go = g0 := by injection (show some go = some g0 from e)
                        exact hne e'.symm))
                      have D5 := hide (S5.out.grown d4 S5.out.size (fun j e => by injection e with e; omega))
                      clear d3 d4
                      obtain ⟨f1, f2, f3, f4⟩ := own_int D4.out (k := a) han (q : Int)
                      have F3 := hide f3
                      have F4 := hide (own_freeS D3.out f4 (fun e => by
                        have e' : g0 = go := by injection (show some g0 = some go from e)
                        exact hne e'))
                      have F5 := hide (D5.out.grown f4 D5.out.size (fun j e => by injection e with e; omega))
                      clear f3 f4 D3 D4 D5
                      obtain ⟨k1, k2, k3, k4⟩ := own_int F3.out (k := a + w) htn (q : Int)
                      rw [out_set] at k3
                      have K3 := hide k3
                      have K4 := hide (own_freeS F4.out k4 (fun e => by
                        have e' : g0 = go := by injection (show some g0 = some go from e)
                        exact hne e'))
                      have K5 := hide (F5.out.grown k4 F5.out.size (fun j e => by injection e with e; omega))
                      clear k3 k4 F3 F4 F5
                      go_wp2_with fail
                      exact ⟨⟨k, (lg.set a true).set (a + w) true, _, q + 1, by omega, by rw [hnk]; rfl, rfl, by omega, K4.out, K3.out, HNx.out, K5.out⟩, by simp [intOf]; omega⟩
                · have hRi : ¬ ((m : Int) + 1 < (w : Int)) := by omega
                  have hto : toG w n (fnB lg) a = a + w := by rw [HTO.out, decide_eq_false hR]; simp
                  rw [hto] at m2 m3
                  have htn : a + w < n := m2
                  have HNx := hide (HN.out (a + w) hto htn)
                  clear HN m1 m2 m3 m4 m5 HTO HCR
                  obtain ⟨d1, d2, d3, d4⟩ := own_bool P3.out (k := a + w) htn true
                  have D3 := hide d3
                  have D4 := hide (own_freeS P4.out d4 (fun e => by
                    have e' : go = g0 := by injection (show some go = some g0 from e)
                    exact hne e'.symm))
                  have D5 := hide (P5.out.grown d4 P5.out.size (fun j e => by injection e with e; omega))
                  clear d3 d4
                  obtain ⟨f1, f2, f3, f4⟩ := own_int D4.out (k := a) han (q : Int)
                  have F3 := hide f3
                  have F4 := hide (own_freeS D3.out f4 (fun e => by
                    have e' : g0 = go := by injection (show some g0 = some go from e)
                    exact hne e'))
                  have F5 := hide (D5.out.grown f4 D5.out.size (fun j e => by injection e with e; omega))
                  clear f3 f4 D3 D4 D5
                  obtain ⟨k1, k2, k3, k4⟩ := own_int F3.out (k := a + w) htn (q : Int)
                  rw [out_set] at k3
                  have K3 := hide k3
                  have K4 := hide (own_freeS F4.out k4 (fun e => by
                    have e' : g0 = go := by injection (show some g0 = some go from e)
                    exact hne e'))
                  have K5 := hide (F5.out.grown k4 F5.out.size (fun j e => by injection e with e; omega))
                  clear k3 k4 F3 F4 F5
                  go_wp2_with fail
                  exact ⟨⟨k, (lg.set a true).set (a + w) true, _, q + 1, by omega, by rw [hnk]; rfl, rfl, by omega, K4.out, K3.out, HNx.out, K5.out⟩, by simp [intOf]; omega⟩
    · rw [if_neg hz]
      have hz0 : tileT w n n (inL hs) = 0 := by omega
      have HZ := hide hz0
      clear hz hz0
      go_enter Tryd.func12, Tryd.ntmps12
      go_wp2_with fail
      refine HV.out.mono ?_
      rintro e w1' ⟨rfl, b1⟩
      have R1 := hide (hr.below b1)
      go_wp2_with fail
      refine (HO.out _ R1.out).mono ?_
      rintro e w2 ⟨gq, rfl, o2, b2⟩
      have b2 := below_then b1 b1.size b2
      have Q2 := hide (own_reads o2)
      clear o2
      go_wp2_with fail
      refine (HT.out _ _ _ _ HL.out Q2.out).mono ?_
      rintro e w3 ⟨rfl, b3⟩
      rw [HF.out, HZ.out]
      have b3 := below_then b2 b2.size b3
      go_wp2_with fail
      go_ret2
      exact ⟨rfl, b3⟩
  · rw [decide_eq_false hH] at HV
    have hX : firstL bc br hs = none := by unfold firstL; rw [if_neg (fun h' => hH h'.1)]
    rw [hX]
    clear hX hH hr
    go_enter Tryd.func12, Tryd.ntmps12
    go_wp2_with fail
    refine HV.out.mono ?_
    rintro e w1 ⟨rfl, b1⟩
    go_wp2_with fail
    go_ret2
    exact ⟨rfl, b1⟩
end Go.Proofs.YtbecnjfdolagcacDoor

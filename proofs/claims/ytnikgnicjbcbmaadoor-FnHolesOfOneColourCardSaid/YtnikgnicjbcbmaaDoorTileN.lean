
/-
  Covers of boards: the model's tile and TileCount.
-/
import Derived.Test.YtnikgnicjbcbmaaDoorTileM
import Derived.WalkMore
namespace Go.Proofs.YtnikgnicjbcbmaaDoor
open Go.RowKit
set_option linter.unusedVariables false

theorem one_bools (l : List Bool) : ∀ u ∈ boolsV l, u.oneCell' = true := by
  intro u hu
  obtain ⟨b, _, rfl⟩ := List.mem_map.1 hu
  rfl
theorem own_bools {w : World} {base n : Nat} {v : Value} {cs : List Value} (h : w.ownsRow base 4 1 v n cs) (hn : 0 < n) : ∃ g c, v = .slice (some ⟨g, 0, none⟩) n c ∧ base ≤ g := by
  rcases h.2 with ⟨_, rfl⟩ | ⟨g, cap, cur, e, hb, _⟩
  · omega
  · exact ⟨g, cap, e, hb⟩
theorem set_back {l : List Bool} {x : Nat} (h : fnB l x = false) (hx : x < l.length) : (l.set x true).set x false = l := by
  rw [List.set_set]
  apply List.ext_getElem
  · simp
  · intro i h1 h2
    rw [List.getElem_set]
    by_cases e : x = i
    · subst e
      rw [if_pos rfl]
      unfold fnB at h
      rw [List.getElem?_eq_getElem hx] at h
      exact h.symm
    · rw [if_neg e]
theorem tile_one {w n k : Nat} {c : Nat → Bool} {a : Nat} (ha : n - (k + 1) = a) (hc : c a = false) : tileT w n (k + 1) c = (if decide (a % w + 1 < w) && !c (a + 1) then tileT w n k (cov c a (a + 1)) else 0) + (if decide (a + w < n) && !c (a + w) then tileT w n k (cov c a (a + w)) else 0) := by
  subst ha
  rw [tile_step, if_neg (by rw [hc]; decide)]

set_option maxHeartbeats 4000000 in
set_option maxRecDepth 100000 in
theorem tile_c (w h n : Nat) (hn : n = w * h) (hw : 1 ≤ w ∧ w ≤ 5) (hh : 1 ≤ h ∧ h ≤ 5) : ∀ (k : Nat), k ≤ n → ∀ (l : List Bool) (A : Option Addr) (c : Nat) (W : World), l.length = n → Row W A (boolsV l) →
    Calls Tryd.prog 19 #[.int .i64 (w : Int), .int .i64 (h : Int), .slice A n c, .int .i64 ((n - k : Nat) : Int)] W (Plain (.int .i64 ((tileT w n k (fnB l) : Nat) : Int)) W) := by
  have h25 : n ≤ 25 := by rw [hn]; exact Nat.mul_le_mul hw.2 hh.2
  have emul : IntKind.i64.wrap ((w : Int) * (h : Int)) = (n : Int) := by rw [hn, Int.natCast_mul]; exact IntWalk.i64_in _ (by rw [← Int.natCast_mul, ← hn]; omega)
  have hrow : ∀ a, a < n → a % w + 1 < w → a + 1 < n := fun a han hlt => by
    have e1 := Nat.div_add_mod a w
    have e2 : a / w < h := Nat.div_lt_of_lt_mul (by rw [← hn]; exact han)
    have e3 : w * (a / w + 1) ≤ w * h := Nat.mul_le_mul_left w e2
    rw [Nat.mul_add, Nat.mul_one] at e3
    omega
  obtain ⟨w1, w5⟩ := hw
  obtain ⟨h1, h5⟩ := hh
  clear hn
  intro k
  induction k using Nat.strongRecOn with
  | _ k ih =>
    intro hk l A c W hl hr
    have IH := hide (fun j (hj : j < k) => ih j hj)
    have HROW := hide hrow
    have HR := hide hr
    clear ih hrow hr
    obtain ⟨T, hT⟩ : ∃ T, tileT w n k (fnB l) = T := ⟨_, rfl⟩
    rw [hT]
    have HT := hide hT
    clear hT
    go_enter Tryd.func19, Tryd.ntmps19
    go_wp2_with fail
    go_loopw [3] (fun i wr => ∃ j : Nat, j ≤ k ∧ i = .int .i64 ((n - j : Nat) : Int) ∧ Hid (tileT w n j (fnB l) = T) ∧ W = wr) (fun i _ => n - (intOf i).toNat)
    case atStart => exact ⟨k, Nat.le_refl _, rfl, HT.out, rfl⟩
    case round =>
      obtain ⟨j, hj, rfl, hTj, rfl⟩ := hrel
      obtain ⟨a, ha⟩ : ∃ a, n - j = a := ⟨_, rfl⟩
      rw [ha]
      by_cases hj0 : j = 0
      · subst hj0
        obtain rfl : a = n := by omega
        have HV : Hid (T = 1) := hTj.out.symm
        clear hTj
        go_wp2_with fail
        go_ret
        exact ⟨by rw [HV.out]; rfl, Below.refl _ _⟩
      · obtain ⟨q, rfl⟩ : ∃ q, j = q + 1 := ⟨j - 1, by omega⟩
        have han : a < n := by omega
        have han' : (a : Int) < (n : Int) := by omega
        have a0 : (0 : Int) ≤ (a : Int) := by omega
        obtain ⟨ad, rfl, hca⟩ := HR.out.bool (k := a) (by omega)
        cases hcv : fnB l a with
        | true =>
          rw [hcv] at hca
          have HN : Hid (tileT w n q (fnB l) = T) := by
            have := hTj.out
            rwa [tile_step, ha, if_pos hcv] at this
          clear hTj
          have hnq : n - q = a + 1 := by omega
          go_wp2_with fail
          exact ⟨⟨q, by omega, by rw [hnq]; rfl, HN.out, trivial⟩, by simp [intOf]; omega⟩
        | false =>
          rw [hcv] at hca
          have HN := hide (hTj.out.symm.trans (tile_one (w := w) ha hcv))
          clear hTj
          have hnq : n - q = a + 1 := by omega
          have IHq := hide (fun (l' : List Bool) (A : Option Addr) (c : Nat) (W' : World) (hl' : l'.length = n) (hr' : Row W' A (boolsV l')) => IH.out q (by omega) (by omega) l' A c W' hl' hr')
          rw [hnq] at IHq
          have hna : ((a : Int) == (n : Int)) = false := by rw [beq_eq_false_iff_ne]; omega
          have HRB := hide (fun (w' : World) (hb' : Below W.heap.size W w') (i : Nat) (hi : i < n) => show w'.cell? (ad.add i) = some (.bool (fnB l i)) by
            obtain ⟨_, ⟨rfl⟩, hc⟩ := (HR.out.below hb').bool (k := i) (by omega)
            exact hc)
          have HRB2 := hide (fun (w' : World) (hb' : Below W.heap.size W w') (i : Nat) (hi : i < n) (h0 : i ≠ 0) => show w'.cell? { block := ad.block, off := ad.off + i, spot := none } = some (.bool (fnB l i)) by
            have := HRB.out w' hb' i hi
            unfold Addr.add at this
            rwa [if_neg h0] at this)
          have HX := hide (fun c => tile_bd w n q c)
          have hq24 : 2 ^ q ≤ 16777216 := Nat.le_trans (Nat.pow_le_pow_right (by omega) (show q ≤ 24 by omega)) (by decide)
          have t1 : Int.tmod (a : Int) (w : Int) = ((a % w : Nat) : Int) := rfl
          have t1' : (a : Int) % (w : Int) = ((a % w : Nat) : Int) := rfl
          have hw0 : (w : Int) ≠ 0 := by omega
          have hmw : a % w < w := Nat.mod_lt _ (by omega)
          have hrw := HROW.out a han
          have hlen := hide (show (l.set a true).length = n by simpa using hl)
          have HCR := hide (fun (hx : a + 1 < n) => fnB_cov (l := l) (x := a) (y := a + 1) (by omega) (by omega))
          have HCD := hide (fun (hx : a + w < n) => fnB_cov (l := l) (x := a) (y := a + w) (by omega) (by omega))
          have HBK := hide (fun (hx : a + 1 < n) (hf : fnB l (a + 1) = false) => set_back (l := l.set a true) (x := a + 1) (by rw [fnB_set (by omega), if_neg (by omega)]; exact hf) (by rw [hlen.out]; exact hx))
          obtain ⟨m, hm⟩ : ∃ m, a % w = m := ⟨_, rfl⟩
          rw [hm] at t1 t1' hmw hrw HN
          clear hm
          have e2 : IntKind.i64.wrap (m : Int) = (m : Int) := IntWalk.i64_in _ (by omega)
          have hvc := hide (World.ownsRow_made W (e := 4) (size := 1) #[] 0 (Nat.le_refl _) (by simp [maxLen]) rfl)
          have hbc := (Below.refl W.heap.size W).alloc (Nat.le_refl _) (.cells #[] 4)
          by_cases hR : m + 1 < w
          · have hr1 := hrw hR
            have hRi : (m : Int) + 1 < (w : Int) := by omega
            have hr1i : (a : Int) + 1 < (n : Int) := by omega
            cases hx1 : fnB l (a + 1) with
            | true =>
              rw [show (decide (m + 1 < w) && !fnB l (a + 1)) = false from by rw [hx1]; simp, if_neg (by decide), Nat.zero_add] at HN
              by_cases hD : a + w < n
              · have hDi : (a : Int) + (w : Int) < (n : Int) := by omega
                cases hx2 : fnB l (a + w) with
                | true =>
                  have HV : Hid (T = 0) := by rw [hx2] at HN; exact HN.out.trans (by simp)
                  clear HN HX
                  go_wp2_with ((at_builtin; refine put_own rfl (.tmp 29) (.tmp 30) rfl Tryd.underlying42 elem_bool rfl hvc.out rfl (m := n) (news := boolsV l) (by simp [hl]) (HR.out.alloc _) (one_bools l) (by omega) (by omega) hbc.size ?_; intro v9 w9 own9 hg9 ho9; have b9 := below_grown hbc hbc.size hvc.out (Nat.le_refl _) hg9; have own9 : w9.ownsRow W.heap.size 4 1 v9 n (boolsV l) := (by simpa using own9); clear hg9 ho9; obtain ⟨g, c9, rfl, hgb⟩ := own_bools own9 (by omega); obtain ⟨p1, p2, p3, p4⟩ := own_bool own9 han true; have b10 := hide (b9.grown p4 b9.size (fun j e => by injection e with e; omega)); have P3 := hide p3; clear p3 p4 own9 b9; have r1 := HRB2.out _ b10.out (a + 1) hr1 (by omega); rw [hx1] at r1; have d1 := HRB2.out _ b10.out (a + w) hD (by omega); have d2 := HRB.out _ b10.out (a + w) hD; rw [hx2] at d1 d2))
                  go_ret
                  exact ⟨by rw [HV.out]; rfl, b10.out⟩
                | false =>
                  have HV : Hid (T = tileT w n q (cov (fnB l) a (a + w))) := by rw [hx2, decide_eq_true hD] at HN; exact HN.out
                  have hyb := HX.out (cov (fnB l) a (a + w))
                  have HC := hide (HCD.out hD)
                  clear HN HX
                  skip
                  go_wp2_with ((at_builtin; refine put_own rfl (.tmp 29) (.tmp 30) rfl Tryd.underlying42 elem_bool rfl hvc.out rfl (m := n) (news := boolsV l) (by simp [hl]) (HR.out.alloc _) (one_bools l) (by omega) (by omega) hbc.size ?_; intro v9 w9 own9 hg9 ho9; have b9 := below_grown hbc hbc.size hvc.out (Nat.le_refl _) hg9; have own9 : w9.ownsRow W.heap.size 4 1 v9 n (boolsV l) := (by simpa using own9); clear hg9 ho9; obtain ⟨g, c9, rfl, hgb⟩ := own_bools own9 (by omega); obtain ⟨p1, p2, p3, p4⟩ := own_bool own9 han true; have b10 := hide (b9.grown p4 b9.size (fun j e => by injection e with e; omega)); have P3 := hide p3; clear p3 p4 own9 b9; have r1 := HRB2.out _ b10.out (a + 1) hr1 (by omega); rw [hx1] at r1; have d1 := HRB2.out _ b10.out (a + w) hD (by omega); have d2 := HRB.out _ b10.out (a + w) hD; rw [hx2] at d1 d2; obtain ⟨q1a, q2a, q3a, q4a⟩ := own_bool P3.out (k := a + w) (by omega) true; have Q3a := hide q3a; have ca := hide (b10.out.grown q4a b10.out.size (fun j e => by injection e with e; omega)); clear q3a q4a))
                  refine (IHq.out _ _ _ _ (by simp [hl]) (own_reads Q3a.out)).mono ?_
                  rintro e w12 ⟨rfl, b12⟩
                  rw [HC.out, ← HV.out]
                  rw [← HV.out] at hyb
                  have b12 := below_then ca.out ca.out.size b12
                  have eY : IntKind.i64.wrap (T : Int) = (T : Int) := IntWalk.i64_in _ (by omega)
                  go_wp2_with fail
                  go_ret
                  exact ⟨rfl, b12⟩
              · have HV : Hid (T = 0) := by rw [decide_eq_false hD] at HN; exact HN.out.trans (by simp)
                have hDi : ¬ ((a : Int) + (w : Int) < (n : Int)) := by omega
                clear HN HX
                go_wp2_with ((at_builtin; refine put_own rfl (.tmp 29) (.tmp 30) rfl Tryd.underlying42 elem_bool rfl hvc.out rfl (m := n) (news := boolsV l) (by simp [hl]) (HR.out.alloc _) (one_bools l) (by omega) (by omega) hbc.size ?_; intro v9 w9 own9 hg9 ho9; have b9 := below_grown hbc hbc.size hvc.out (Nat.le_refl _) hg9; have own9 : w9.ownsRow W.heap.size 4 1 v9 n (boolsV l) := (by simpa using own9); clear hg9 ho9; obtain ⟨g, c9, rfl, hgb⟩ := own_bools own9 (by omega); obtain ⟨p1, p2, p3, p4⟩ := own_bool own9 han true; have b10 := hide (b9.grown p4 b9.size (fun j e => by injection e with e; omega)); have P3 := hide p3; clear p3 p4 own9 b9; have r1 := HRB2.out _ b10.out (a + 1) hr1 (by omega); rw [hx1] at r1))
                go_ret
                exact ⟨by rw [HV.out]; rfl, b10.out⟩
            | false =>
              rw [show (decide (m + 1 < w) && !fnB l (a + 1)) = true from by rw [hx1, decide_eq_true hR]; rfl, if_pos rfl] at HN
              have HC := hide (HCR.out hr1)
              have hxb := HX.out (cov (fnB l) a (a + 1))
              have HB := hide (HBK.out hr1 hx1)
              obtain ⟨X, hX⟩ : ∃ X, tileT w n q (cov (fnB l) a (a + 1)) = X := ⟨_, rfl⟩
              rw [hX] at HN hxb
              have HXX := hide hX
              clear hX
              have eX : IntKind.i64.wrap (X : Int) = (X : Int) := IntWalk.i64_in _ (by omega)
              go_wp2_with ((at_builtin; refine put_own rfl (.tmp 29) (.tmp 30) rfl Tryd.underlying42 elem_bool rfl hvc.out rfl (m := n) (news := boolsV l) (by simp [hl]) (HR.out.alloc _) (one_bools l) (by omega) (by omega) hbc.size ?_; intro v9 w9 own9 hg9 ho9; have b9 := below_grown hbc hbc.size hvc.out (Nat.le_refl _) hg9; have own9 : w9.ownsRow W.heap.size 4 1 v9 n (boolsV l) := (by simpa using own9); clear hg9 ho9; obtain ⟨g, c9, rfl, hgb⟩ := own_bools own9 (by omega); obtain ⟨p1, p2, p3, p4⟩ := own_bool own9 han true; have b10 := hide (b9.grown p4 b9.size (fun j e => by injection e with e; omega)); have P3 := hide p3; clear p3 p4 own9 b9; have r1 := HRB2.out _ b10.out (a + 1) hr1 (by omega); rw [hx1] at r1; obtain ⟨q1a, q2a, q3a, q4a⟩ := own_bool P3.out (k := a + 1) (by omega) true; have Q3a := hide q3a; have ca := hide (b10.out.grown q4a b10.out.size (fun j e => by injection e with e; omega)); clear q3a q4a))
              refine (IHq.out _ _ _ _ (by simp [hl]) (own_reads Q3a.out)).mono ?_
              rintro e w12 ⟨rfl, b12⟩
              rw [HC.out, HXX.out]
              have O12 := hide (own_below Q3a.out b12)
              have b12 := hide (below_then ca.out ca.out.size b12)
              clear Q3a ca r1 q1a q2a p1 p2 P3 b10
              obtain ⟨q1b, q2b, q3b, q4b⟩ := own_bool O12.out (k := a + 1) (by omega) false
              have Q3b := hide q3b
              have cb := hide (b12.out.grown q4b b12.out.size (fun j e => by injection e with e; omega))
              clear q3b q4b
              rw [HB.out] at Q3b
              by_cases hD : a + w < n
              · have hDi : (a : Int) + (w : Int) < (n : Int) := by omega
                have d1 := HRB2.out _ cb.out (a + w) hD (by omega)
                have d2 := HRB.out _ cb.out (a + w) hD
                cases hx2 : fnB l (a + w) with
                | true =>
                  rw [hx2] at d1 d2
                  have HV : Hid (T = X) := by rw [hx2] at HN; exact HN.out.trans (by simp)
                  clear HN
                  go_wp2_with fail
                  go_ret
                  exact ⟨by rw [HV.out]; rfl, cb.out⟩
                | false =>
                  rw [hx2] at d1 d2
                  have HV : Hid (T = X + tileT w n q (cov (fnB l) a (a + w))) := by rw [hx2, decide_eq_true hD] at HN; exact HN.out
                  have hyb := HX.out (cov (fnB l) a (a + w))
                  have HC2 := hide (HCD.out hD)
                  clear HN
                  obtain ⟨q1c, q2c, q3c, q4c⟩ := own_bool Q3b.out (k := a + w) (by omega) true
                  have Q3c := hide q3c
                  have cc := hide (cb.out.grown q4c cb.out.size (fun j e => by injection e with e; omega))
                  clear q3c q4c
                  go_wp2_with fail
                  refine (IHq.out _ _ _ _ (by simp [hl]) (own_reads Q3c.out)).mono ?_
                  rintro e w13 ⟨rfl, b13⟩
                  rw [HC2.out]
                  have b13 := below_then cc.out cc.out.size b13
                  generalize tileT w n q (cov (fnB l) a (a + w)) = Y at *
                  have eY : IntKind.i64.wrap ((X : Int) + (Y : Int)) = ((X + Y : Nat) : Int) := (IntWalk.i64_in _ (by omega)).trans (by omega)
                  go_wp2_with fail
                  go_ret
                  exact ⟨by rw [HV.out]; rfl, b13⟩
              · have hDi : ¬ ((a : Int) + (w : Int) < (n : Int)) := by omega
                have HV : Hid (T = X) := by rw [decide_eq_false hD] at HN; exact HN.out.trans (by simp)
                clear HN
                go_wp2_with fail
                go_ret
                exact ⟨by rw [HV.out]; rfl, cb.out⟩
          · have hRi : ¬ ((m : Int) + 1 < (w : Int)) := by omega
            rw [show (decide (m + 1 < w) && !fnB l (a + 1)) = false from by rw [decide_eq_false hR]; rfl, if_neg (by decide), Nat.zero_add] at HN
            by_cases hD : a + w < n
            · have hDi : (a : Int) + (w : Int) < (n : Int) := by omega
              cases hx2 : fnB l (a + w) with
              | true =>
                have HV : Hid (T = 0) := by rw [hx2] at HN; exact HN.out.trans (by simp)
                clear HN HX
                go_wp2_with ((at_builtin; refine put_own rfl (.tmp 29) (.tmp 30) rfl Tryd.underlying42 elem_bool rfl hvc.out rfl (m := n) (news := boolsV l) (by simp [hl]) (HR.out.alloc _) (one_bools l) (by omega) (by omega) hbc.size ?_; intro v9 w9 own9 hg9 ho9; have b9 := below_grown hbc hbc.size hvc.out (Nat.le_refl _) hg9; have own9 : w9.ownsRow W.heap.size 4 1 v9 n (boolsV l) := (by simpa using own9); clear hg9 ho9; obtain ⟨g, c9, rfl, hgb⟩ := own_bools own9 (by omega); obtain ⟨p1, p2, p3, p4⟩ := own_bool own9 han true; have b10 := hide (b9.grown p4 b9.size (fun j e => by injection e with e; omega)); have P3 := hide p3; clear p3 p4 own9 b9; have d1 := HRB2.out _ b10.out (a + w) hD (by omega); have d2 := HRB.out _ b10.out (a + w) hD; rw [hx2] at d1 d2))
                go_ret
                exact ⟨by rw [HV.out]; rfl, b10.out⟩
              | false =>
                have HV : Hid (T = tileT w n q (cov (fnB l) a (a + w))) := by rw [hx2, decide_eq_true hD] at HN; exact HN.out
                have hyb := HX.out (cov (fnB l) a (a + w))
                have HC := hide (HCD.out hD)
                clear HN HX
                skip
                go_wp2_with ((at_builtin; refine put_own rfl (.tmp 29) (.tmp 30) rfl Tryd.underlying42 elem_bool rfl hvc.out rfl (m := n) (news := boolsV l) (by simp [hl]) (HR.out.alloc _) (one_bools l) (by omega) (by omega) hbc.size ?_; intro v9 w9 own9 hg9 ho9; have b9 := below_grown hbc hbc.size hvc.out (Nat.le_refl _) hg9; have own9 : w9.ownsRow W.heap.size 4 1 v9 n (boolsV l) := (by simpa using own9); clear hg9 ho9; obtain ⟨g, c9, rfl, hgb⟩ := own_bools own9 (by omega); obtain ⟨p1, p2, p3, p4⟩ := own_bool own9 han true; have b10 := hide (b9.grown p4 b9.size (fun j e => by injection e with e; omega)); have P3 := hide p3; clear p3 p4 own9 b9; have d1 := HRB2.out _ b10.out (a + w) hD (by omega); have d2 := HRB.out _ b10.out (a + w) hD; rw [hx2] at d1 d2; obtain ⟨q1a, q2a, q3a, q4a⟩ := own_bool P3.out (k := a + w) (by omega) true; have Q3a := hide q3a; have ca := hide (b10.out.grown q4a b10.out.size (fun j e => by injection e with e; omega)); clear q3a q4a))
                refine (IHq.out _ _ _ _ (by simp [hl]) (own_reads Q3a.out)).mono ?_
                rintro e w12 ⟨rfl, b12⟩
                rw [HC.out, ← HV.out]
                rw [← HV.out] at hyb
                have b12 := below_then ca.out ca.out.size b12
                have eY : IntKind.i64.wrap (T : Int) = (T : Int) := IntWalk.i64_in _ (by omega)
                go_wp2_with fail
                go_ret
                exact ⟨rfl, b12⟩
            · have HV : Hid (T = 0) := by rw [decide_eq_false hD] at HN; exact HN.out.trans (by simp)
              have hDi : ¬ ((a : Int) + (w : Int) < (n : Int)) := by omega
              clear HN HX
              go_wp2_with ((at_builtin; refine put_own rfl (.tmp 29) (.tmp 30) rfl Tryd.underlying42 elem_bool rfl hvc.out rfl (m := n) (news := boolsV l) (by simp [hl]) (HR.out.alloc _) (one_bools l) (by omega) (by omega) hbc.size ?_; intro v9 w9 own9 hg9 ho9; have b9 := below_grown hbc hbc.size hvc.out (Nat.le_refl _) hg9; have own9 : w9.ownsRow W.heap.size 4 1 v9 n (boolsV l) := (by simpa using own9); clear hg9 ho9; obtain ⟨g, c9, rfl, hgb⟩ := own_bools own9 (by omega); obtain ⟨p1, p2, p3, p4⟩ := own_bool own9 han true; have b10 := hide (b9.grown p4 b9.size (fun j e => by injection e with e; omega)); have P3 := hide p3; clear p3 p4 own9 b9; ))
              go_ret
              exact ⟨by rw [HV.out]; rfl, b10.out⟩
end Go.Proofs.YtnikgnicjbcbmaaDoor


/-
  The walk of the law FnTilesAreEven, whatever the program's contracts are proved by.
-/
import Derived.Test.YtbecnjfdolagcadDoorDrawT
import Derived.Test.YtbecnjfdolagcadDoorTileV
import Derived.Test.YtbecnjfdolagcadDoorTileT
import Derived.Test.YtbecnjfdolagcadDoorPTileA
import Derived.Test.YtbecnjfdolagcadDoorExFirst
import Derived.Test.YtbecnjfdolagcadDoorCodeWords
namespace Go.Proofs.YtbecnjfdolagcadDoor
open Go.RowKit
set_option linter.unusedVariables false

theorem equalInts_d (A C : Option Addr) (n m ca cc : Nat) (xs ys : List Int) (w : World) (hx : xs.length = n) (hy : ys.length = m) (ha : Row w A (ints xs)) (hc : Row w C (ints ys)) (hn : xs.length ≤ maxLen) (he : xs = ys) :
    Calls Tryd.prog 12 #[.slice A n ca, .slice C m cc] w (Plain (.bool true) w) := by
  subst hx hy he
  have := equalInts_c A C xs xs ca cc w ha hc hn hn
  rwa [decide_eq_true rfl] at this
/-- The numbers below k of which p holds, ascending. -/
def selL (p : Nat → Bool) (k : Nat) : List Int := ((List.range k).filter p).map fun (x : Nat) => (x : Int)
theorem selL_snoc (p : Nat → Bool) (k : Nat) : selL p (k + 1) = selL p k ++ if p k then [(k : Int)] else [] := by
  simp only [selL, List.range_succ, List.filter_append, List.filter_cons, List.filter_nil, List.map_append]
  split <;> rfl
theorem selL_len (p : Nat → Bool) (k : Nat) : (selL p k).length ≤ k := by
  have := List.length_filter_le p (List.range k)
  simpa [selL] using this
theorem selL_in (p : Nat → Bool) (k i : Nat) : inL (selL p k) i = (decide (i < k) && p i) := by
  unfold inL
  rw [Bool.eq_iff_iff]
  simp only [List.contains_iff_mem, Bool.and_eq_true, decide_eq_true_eq]
  unfold selL
  constructor
  · intro hm
    obtain ⟨x, hx, e⟩ := List.mem_map.1 hm
    obtain rfl : x = i := by omega
    obtain ⟨h1, h2⟩ := List.mem_filter.1 hx
    exact ⟨List.mem_range.1 h1, h2⟩
  · rintro ⟨h1, h2⟩
    exact List.mem_map.2 ⟨i, List.mem_filter.2 ⟨List.mem_range.2 h1, h2⟩, rfl⟩
theorem selL_asc {p : Nat → Bool} {n : Int} : ∀ k : Nat, (k : Int) ≤ n → AscTo n (selL p k) (selL p k).length
  | 0, _ => fun i hi => absurd hi (by simp [selL])
  | k + 1, hk => by
    rw [selL_snoc]
    split
    · refine ascTo_snoc (selL_asc k (by omega)) (by omega) (fun y hy => ?_)
      obtain ⟨x, hx, rfl⟩ := List.mem_map.1 hy
      have := List.mem_range.1 (List.mem_filter.1 hx).1
      omega
    · rw [List.append_nil]
      exact selL_asc k (by omega)
/-- Of a first way with a piece: its first piece and the holes as holes leave some ways, and no more than there were. -/
theorem even_way {w h : Nat} (hw : 1 ≤ w ∧ w ≤ 5) {hs : List Int} {o : Nat → Int} (ho : o = (firstG w (w * h) (w * h) (inL hs) (fun _ => -1) 0).1) (hp : 0 < tileT w (w * h) (w * h) (inL hs)) (hf : ∃ i, i < w * h ∧ inL hs i = false) :
    0 < tileT w (w * h) (w * h) (inL (selL (fun i => decide (o i ≤ 0)) (w * h))) ∧ tileT w (w * h) (w * h) (inL (selL (fun i => decide (o i ≤ 0)) (w * h))) ≤ tileT w (w * h) (w * h) (inL hs) := by
  obtain ⟨a, b, ha, hb, hab, ga, gb, hadj, hpos, hall⟩ := first_piece (w := w) (h := h) rfl hw.1 (w * h) (inL hs) (Nat.le_refl _) (fun i hi => absurd hi (by omega)) hp hf
  have he : tileT w (w * h) (w * h) (inL (selL (fun i => decide (o i ≤ 0)) (w * h))) = tileT w (w * h) (w * h) (cov (inL hs) a b) := tile_congr hw fun i hi => by
    rw [selL_in, decide_eq_true hi, Bool.true_and, Bool.eq_iff_iff, decide_eq_true_eq, ho]
    exact (hall i hi).symm
  rw [he]
  exact ⟨hpos, tile_less hw ha hb hab ga gb hadj⟩
theorem out_at {n : Nat} {o : Nat → Int} {k : Nat} (h : k < n) : (outL n o)[k]?.getD 0 = o k := by
  unfold outL
  rw [List.getElem?_map, List.getElem?_range h]
  rfl

set_option maxHeartbeats 4000000 in
set_option maxRecDepth 100000 in
theorem tilesAreEven_w (T : World → Prop) (hTb : ∀ w w', T w → Below w.heap.size w w' → T w')
    (HI : ∀ (bc br : Int) (A : Option Addr) (c : Nat) (hs : List Int) (W : World), T W → Row W A (ints hs) → hs.length ≤ maxLen → Calls Tryd.prog 10 #[.int .i64 bc, .int .i64 br, .slice A hs.length c] W (FirstIs (firstL bc br hs) W))
    (HK : ∀ (bc br : Int) (A : Option Addr) (c : Nat) (hs : List Int) (W : World), T W → Row W A (ints hs) → hs.length ≤ maxLen → Calls Tryd.prog 6 #[.int .i64 bc, .int .i64 br, .slice A hs.length c] W (Plain (.int .i64 (coversP bc br hs)) W))
    (A : Option Addr) (n c : Nat) (w : World) (hT : T w) (h : Code w A n c) : Calls Tryd.prog 4 #[.slice A n c] w (Plain (.bool true) w) := by
  by_cases hl : 1048576 < (n : Int)
  · go_enter Tryd.func4, Tryd.ntmps4
    go_wp2
    go_ret
    exact ⟨rfl, Below.refl _ _⟩
  · have HC := hide (drawTileFirst_c A n c w h)
    have HT := hide (fun w5 (h5 : Below w.heap.size w w5) => hTb w w5 hT h5)
    have HII := hide HI
    have HKK := hide HK
    clear h hT hTb HI HK
    go_enter Tryd.func4, Tryd.ntmps4
    go_wp2_with fail
    refine HC.out.mono ?_
    rintro e w1 ⟨bc, br, v, hs, rfl, hx, hy, hown, hhl, b1⟩
    obtain ⟨Ah, ch, rfl, _⟩ := own_row hown
    have hm : hs.length ≤ maxLen := by unfold maxLen; omega
    have HRH := hide (own_reads hown)
    have HIs := hide (fun (w5 : World) (h5 : Below w1.heap.size w1 w5) (t5 : T w5) => (HII.out bc br Ah ch hs w5 t5 (HRH.out.below h5) hm).mono fun _ _ => first_any)
    have HSs := hide (fun (w5 : World) (h5 : Below w1.heap.size w1 w5) => (tileFirst_c bc br Ah ch hs w5 (HRH.out.below h5) hm).mono fun _ _ => first_any)
    have HKs := hide (fun (w5 : World) (h5 : Below w1.heap.size w1 w5) (t5 : T w5) => HKK.out bc br Ah ch hs w5 t5 (HRH.out.below h5) hm)
    have hlen1 := firstL_len bc br hs
    have zb := b1.size
    have HT1 := hide (fun w5 (h5 : Below w1.heap.size w1 w5) => HT.out w5 (below_then b1 zb h5))
    have HLM := hide (show ((firstL bc br hs).getD []).length ≤ maxLen by unfold maxLen; omega)
    clear hown
    cases hF : firstL bc br hs with
    | none =>
      rw [hF] at HIs HSs
      simp only [Option.isSome_none, Option.getD_none] at HIs HSs
      clear HKs hlen1 hF
      go_wp2_with fail
      refine (HIs.out _ (Below.refl _ _) (HT1.out _ (Below.refl _ _))).mono ?_
      rintro e w2 ⟨v2, rfl, o2, b2⟩
      obtain ⟨A2, c2, rfl, _⟩ := own_row o2
      go_wp2_with fail
      refine (HSs.out _ b2).mono ?_
      rintro e w3 ⟨v3, rfl, o3, b3⟩
      obtain ⟨A3, c3, rfl, _⟩ := own_row o3
      have o2 := own_below o2 b3
      have b3 := below_then b2 b2.size b3
      go_wp2_with fail
      refine (equalInts_d _ _ _ _ _ _ [] [] _ rfl rfl (Row.empty _ _) (Row.empty _ _) (by simp) rfl).mono ?_
      rintro e w4 ⟨rfl, b4⟩
      have b4 := below_then b3 b3.size b4
      go_wp2_with fail
      refine (HIs.out _ b4 (HT1.out _ b4)).mono ?_
      rintro e w5 ⟨v5, rfl, o5, b5⟩
      obtain ⟨A5, c5, rfl, _⟩ := own_row o5
      have b5 := below_then b1 zb (below_then b4 b4.size b5)
      go_wp2_with fail
      go_ret
      exact ⟨rfl, b5⟩
    | some L =>
      have hF' := hF
      unfold firstL at hF'
      by_cases hHc : Holes bc br hs ∧ 0 < coversP bc br hs
      · rw [if_pos hHc] at hF'
        obtain ⟨hH, hcp⟩ := hHc
        injection hF' with hL
        obtain ⟨⟨h1, h2, h3, h4⟩, ha⟩ := id hH
        obtain ⟨x, rfl⟩ := Int.eq_ofNat_of_zero_le (show 0 ≤ bc by omega)
        obtain ⟨y, rfl⟩ := Int.eq_ofNat_of_zero_le (show 0 ≤ br by omega)
        have hxx : 1 ≤ x ∧ x ≤ 5 := by omega
        have hyy : 1 ≤ y ∧ y ≤ 5 := by omega
        have hn25 : x * y ≤ 25 := Nat.mul_le_mul hxx.2 hyy.2
        have hX : coversP (x : Int) (y : Int) hs = ((tileT x (x * y) (x * y) (inL hs) : Nat) : Int) := by unfold coversP; rw [if_pos hH]; rfl
        simp only [Int.toNat_natCast] at hL
        have hmem := asc_mem ha
        rw [← Int.natCast_mul] at hmem
        have hfr := free_list (n := x * y) hs (asc_nodup ha) hmem
        obtain ⟨o, ho⟩ : ∃ o, o = (firstG x (x * y) (x * y) (inL hs) (fun _ => -1) 0).1 := ⟨_, rfl⟩
        rw [← ho] at hL
        have hLl : L.length = x * y := by rw [← hL, outL_len]
        have hEv := hide (fun hf => even_way hxx ho (by rw [hX] at hcp; omega) hf)
        have hEx : Hid (¬ x * y = hs.length → ∃ i, i < x * y ∧ inL hs i = false) := fun hne => by
          apply Classical.byContradiction
          intro hno
          have hz : freeN (fun _ => true) (inL hs) (x * y) = 0 := by
            unfold freeN
            rw [sumN_congr _ (g := fun _ => 0) (fun i hi => by
              cases e : inL hs i with
              | true => rfl
              | false => exact absurd ⟨i, hi, e⟩ hno), sumN_zero]
          omega
        have hMore : Hid (coversP (x : Int) (y : Int) (selL (fun i => decide (o i ≤ 0)) (x * y)) = ((tileT x (x * y) (x * y) (inL (selL (fun i => decide (o i ≤ 0)) (x * y))) : Nat) : Int)) := by
          have : Holes (x : Int) (y : Int) (selL (fun i => decide (o i ≤ 0)) (x * y)) := ⟨⟨h1, h2, h3, h4⟩, by rw [← Int.natCast_mul]; exact selL_asc _ (Int.le_refl _)⟩
          unfold Hid coversP
          rw [if_pos this]
          rfl
        have hOa := hide (fun k (hk : k < x * y) => (show L[k]?.getD 0 = o k by rw [← hL]; exact out_at hk))
        rw [hF] at HIs HSs HLM
        simp only [Option.isSome_some, Option.getD_some] at HIs HSs HLM
        rw [hX] at HKs
        have HMs := hide (fun (A : Option Addr) (c : Nat) (w5 : World) (t5 : T w5) (h5 : Row w5 A (ints (selL (fun i => decide (o i ≤ 0)) (x * y)))) => HKK.out (x : Int) (y : Int) A c _ w5 t5 h5 (by have := selL_len (fun i => decide (o i ≤ 0)) (x * y); unfold maxLen; omega))
        rw [hMore.out] at HMs
        have HSn := hide (fun k => selL_snoc (fun i => decide (o i ≤ 0)) k)
        have HSl := hide (fun k => selL_len (fun i => decide (o i ≤ 0)) k)
        have hnl : Hid (((L.length : Int) == (hs.length : Int)) = decide (x * y = hs.length)) := by
          rw [hLl]
          show _ = _
          rw [Bool.eq_iff_iff, beq_iff_eq, decide_eq_true_eq]
          omega
        have HLl := hide hLl
        have hLi : (L.length : Int) = ((x * y : Nat) : Int) := by rw [hLl]
        have HLi := hide hLi
        clear hlen1 hF hH ha hmem hfr ho hX hcp hL hLl hLi h1 h2 h3 h4 HC HII HKK hMore
        generalize tileT x (x * y) (x * y) (inL hs) = C at *
        generalize hN : x * y = N' at *
        go_wp2_with fail
        refine (HIs.out _ (Below.refl _ _) (HT1.out _ (Below.refl _ _))).mono ?_
        rintro e w2 ⟨v2, rfl, o2, b2⟩
        obtain ⟨A2, c2, rfl, _⟩ := own_row o2
        go_wp2_with fail
        refine (HSs.out _ b2).mono ?_
        rintro e w3 ⟨v3, rfl, o3, b3⟩
        obtain ⟨A3, c3, rfl, _⟩ := own_row o3
        have o2 := own_below o2 b3
        have b3 := below_then b2 b2.size b3
        go_wp2_with fail
        refine (equalInts_d _ _ _ _ _ _ L L _ rfl rfl (own_reads o2) (own_reads o3) HLM.out rfl).mono ?_
        rintro e w4 ⟨rfl, b4⟩
        have b4 := below_then b3 b3.size b4
        go_wp2_with fail
        refine (HIs.out _ b4 (HT1.out _ b4)).mono ?_
        rintro e w5 ⟨v5, rfl, o5, b5⟩
        obtain ⟨A5, c5, rfl, _⟩ := own_row o5
        have RL := hide (own_reads o5)
        have b5 := below_then b4 b4.size b5
        have z5 := b5.size
        clear o2 o3 o5
        by_cases hne : N' = hs.length
        · have hq : ((L.length : Int) == (hs.length : Int)) = true := by rw [hnl.out, decide_eq_true hne]
          have HQ := hide hq
          clear hq hne
          have hq := HQ.out
          have b5 := below_then b1 zb b5
          go_wp2_with fail
          go_ret
          exact ⟨rfl, b5⟩
        · have hq : ((L.length : Int) == (hs.length : Int)) = false := by rw [hnl.out, decide_eq_false hne]
          obtain ⟨ev1, ev2⟩ := hEv.out (hEx.out hne)
          generalize tileT x N' N' (inL (selL (fun i => decide (o i ≤ 0)) N')) = M at *
          have hne' : Hid (¬ N' = hs.length) := hne
          clear hne hEv hnl
          go_wp2_with fail
          go_loopw [12, 13] (fun o' i wr => ∃ k : Nat, k ≤ N' ∧ i = .int .i64 (k : Int) ∧ wr.ownsRow w5.heap.size 3 1 o' (selL (fun i => decide (o i ≤ 0)) k).length (ints (selL (fun i => decide (o i ≤ 0)) k)) ∧ Below w5.heap.size w5 wr) (fun _ i _ => N' - (intOf i).toNat)
          case atStart => exact ⟨0, Nat.zero_le _, rfl, World.ownsRow_made w5 #[] 0 (Nat.le_refl _) (by simp [maxLen]) rfl, (Below.refl _ _).alloc (Nat.le_refl _) _⟩
          case round =>
            obtain ⟨k, hk, rfl, hown, hb⟩ := hrel
            obtain ⟨wo, rfl⟩ : ∃ wo : World, wo = wr := ⟨_, rfl⟩
            have zo := hb.size
            obtain ⟨Ao, co, rfl, _⟩ := own_row hown
            by_cases hlt : k < N'
            · obtain ⟨ad, rfl, hca⟩ := (RL.out.below hb).int (k := k) (by rw [HLl.out]; exact hlt)
              rw [hOa.out k hlt] at hca
              have hsn := HSn.out k
              have hll := HSl.out k
              have HO := hide hown
              clear hown
              have k0 : (0 : Int) ≤ (k : Int) := by omega
              have k1 : (k : Int) < (N' : Int) := by omega
              have k1' : (k : Int) < (L.length : Int) := by rw [HLi.out]; exact k1
              by_cases hle : o k ≤ 0
              · rw [decide_eq_true hle, if_pos rfl] at hsn
                have HSK := hide hsn
                clear hsn
                generalize o k = ok at *
                go_wp2_with ((at_builtin; refine put_own rfl (.tmp 75) (.tmp 77) rfl Tryd.underlying23 elem_int0 rfl (HO.out.alloc _) rfl (m := 1) (news := [.int .i64 (k : Int)]) rfl (row_new _ _ _ rfl) (by simp [Value.oneCell']) (by omega) (by omega) (by simp; omega) ?_; intro v9 w9 own9 hg9 ho9))
                refine ⟨⟨k + 1, hlt, rfl, ?_, below_grown (hb.alloc zo _) (by simp; omega) (HO.out.alloc _) (Nat.le_refl _) hg9⟩, by simp [intOf]; omega⟩
                rw [HSK.out]
                simpa [ints] using own9
              · rw [decide_eq_false hle, if_neg (by decide), List.append_nil] at hsn
                have HSK := hide hsn
                clear hsn
                generalize o k = ok at *
                go_wp2_with fail
                exact ⟨⟨k + 1, hlt, rfl, by rw [HSK.out]; exact HO.out, hb⟩, by simp [intOf]; omega⟩
            · obtain rfl : k = N' := by omega
              have RO := hide (own_reads hown)
              have b6 := hide (below_then b5 z5 hb)
              clear hown hb
              have kk : ¬ (k : Int) < (L.length : Int) := by rw [HLi.out]; omega
              have m1 : (1 : Int) ≤ (M : Int) := by omega
              have m2 : (M : Int) ≤ (C : Int) := by omega
              go_wp2_with fail
              refine (HMs.out _ _ _ (HT1.out _ b6.out) RO.out).mono ?_
              rintro e w7 ⟨rfl, b7⟩
              have b7 := below_then b6.out b6.out.size b7
              go_wp2_with fail
              refine (HKs.out _ b7 (HT1.out _ b7)).mono ?_
              rintro e w8 ⟨rfl, b8⟩
              have b8 := below_then b1 zb (below_then b7 b7.size b8)
              go_wp2_with fail
              go_ret
              exact ⟨rfl, b8⟩
      · rw [if_neg hHc] at hF'
        cases hF'
end Go.Proofs.YtbecnjfdolagcadDoor

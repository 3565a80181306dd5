
/-
  Chases: the model's catches.
-/
import Derived.Test.YtakphmcelhbaiacChaseA
import Derived.Test.YtakphmcelhbaiacRowsC
namespace Go.Proofs.Ytakphmcelhbaiac
open Go.RowKit
set_option linter.unusedVariables false

def idV (a b : Nat) : Int := if a = b then 0 else -1
/-- What is known behind t rounds. -/
def maskV (C : List (List Nat)) (t a b : Nat) : Int := if 1 ≤ cAt C a b ∧ cAt C a b ≤ t + 1 then (cAt C a b : Int) - 1 else -1
/-- What is known in round t, ahead of the cell k of row i. -/
def stV (C : List (List Nat)) (t i k a b : Nat) : Int := if a < i ∨ (a = i ∧ b < k) then maskV C t a b else maskV C (t - 1) a b
/-- Whether the round has found something. -/
def Chg (C : List (List Nat)) (n t i k : Nat) : Prop := ∃ a b, a < n ∧ b < n ∧ (a < i ∨ (a = i ∧ b < k)) ∧ cAt C a b = t + 1
theorem mask_id {L : List Nat} {C : List (List Nat)} (h : CatOk L C) {a b : Nat} (ha : a < L.length) (hb : b < L.length) : maskV C 0 a b = idV a b := by
  unfold maskV idV
  by_cases e : a = b
  · subst e
    have := h.diag a ha
    rw [if_pos rfl, if_pos (by omega)]
    omega
  · have := h.off a b ha hb e
    rw [if_neg e, if_neg (by omega)]
theorem mask_top {L : List Nat} {C : List (List Nat)} (h : CatOk L C) {a b : Nat} (ha : a < L.length) (hb : b < L.length) : maskV C (topN C) a b = maskV C (topN C - 1) a b := by
  have := h.top a b ha hb
  have := h.low.1
  unfold maskV
  by_cases e : 1 ≤ cAt C a b
  · rw [if_pos (by omega), if_pos (by omega)]
  · rw [if_neg (by omega), if_neg (by omega)]
theorem st_fine (C : List (List Nat)) {t i k : Nat} (ht : 1 ≤ t) (x y : Nat) : 1 ≤ cAt C x y ∧ cAt C x y ≤ t ↔ 0 ≤ stV C t i k x y ∧ stV C t i k x y < (t : Int) := by
  unfold stV maskV
  split
  · split <;> omega
  · split <;> omega
theorem st_here (C : List (List Nat)) {t i k : Nat} : stV C t i k i k = maskV C (t - 1) i k := by
  unfold stV
  rw [if_neg (by omega)]
theorem st_same {C : List (List Nat)} {t i k : Nat} (ht : 1 ≤ t) (hc : cAt C i k ≠ t + 1) (a b : Nat) : stV C t i (k + 1) a b = stV C t i k a b := by
  unfold stV
  by_cases e : a = i ∧ b = k
  · obtain ⟨rfl, rfl⟩ := e
    rw [if_pos (by omega), if_neg (by omega)]
    unfold maskV
    by_cases e : 1 ≤ cAt C a b ∧ cAt C a b ≤ t
    · rw [if_pos (by omega), if_pos (by omega)]
    · rw [if_neg (by omega), if_neg (by omega)]
  · by_cases e' : a < i ∨ (a = i ∧ b < k)
    · rw [if_pos (by omega), if_pos e']
    · rw [if_neg (by omega), if_neg e']
theorem st_put {C : List (List Nat)} {t i k : Nat} (hc : cAt C i k = t + 1) (a b : Nat) : (if a = i ∧ b = k then (t : Int) else stV C t i k a b) = stV C t i (k + 1) a b := by
  by_cases e : a = i ∧ b = k
  · obtain ⟨rfl, rfl⟩ := e
    rw [if_pos ⟨rfl, rfl⟩]
    unfold stV maskV
    rw [if_pos (by omega), if_pos (by omega)]
    omega
  · rw [if_neg e]
    unfold stV
    by_cases e' : a < i ∨ (a = i ∧ b < k)
    · rw [if_pos e', if_pos (by omega)]
    · rw [if_neg e', if_neg (by omega)]
theorem st_next (C : List (List Nat)) {t i n : Nat} {a b : Nat} (hb : b < n) : stV C t i n a b = stV C t (i + 1) 0 a b := by
  unfold stV
  by_cases e : a < i ∨ (a = i ∧ b < n)
  · rw [if_pos e, if_pos (by omega)]
  · rw [if_neg e, if_neg (by omega)]
theorem st_first (C : List (List Nat)) (t a b : Nat) : stV C t 0 0 a b = maskV C (t - 1) a b := by
  unfold stV
  rw [if_neg (by omega)]
theorem st_last (C : List (List Nat)) {t n a b : Nat} (ha : a < n) : stV C t n 0 a b = maskV C t a b := by
  unfold stV
  rw [if_pos (by omega)]
theorem chg_same {C : List (List Nat)} {n t i k : Nat} (hc : cAt C i k ≠ t + 1) : Chg C n t i (k + 1) ↔ Chg C n t i k := by
  constructor
  · rintro ⟨a, b, ha, hb, ho, he⟩
    refine ⟨a, b, ha, hb, ?_, he⟩
    by_cases e : a = i ∧ b = k
    · obtain ⟨rfl, rfl⟩ := e
      exact absurd he hc
    · omega
  · rintro ⟨a, b, ha, hb, ho, he⟩
    exact ⟨a, b, ha, hb, by omega, he⟩
theorem chg_next {C : List (List Nat)} {n t i : Nat} : Chg C n t i n ↔ Chg C n t (i + 1) 0 := by
  constructor
  · rintro ⟨a, b, ha, hb, ho, he⟩
    exact ⟨a, b, ha, hb, by omega, he⟩
  · rintro ⟨a, b, ha, hb, ho, he⟩
    exact ⟨a, b, ha, hb, by omega, he⟩
theorem chg_first {C : List (List Nat)} {n t : Nat} : ¬ Chg C n t 0 0 := by
  rintro ⟨a, b, ha, hb, ho, he⟩
  omega
def CatchIs (n : Nat) (C : List (List Nat)) (W : World) (e : Ending) (w' : World) : Prop := ∃ gm cm ps, e = .returned (.slice (some ⟨gm, 0, none⟩) n cm) ∧ w'.ownsRow W.heap.size 28 1 (.slice (some ⟨gm, 0, none⟩) n cm) n (vsOf n ps) ∧ RowsAt w' W.heap.size n ps (gridM n (maskV C (topN C))) ∧ Below W.heap.size W w'
set_option maxHeartbeats 2000000 in
set_option maxRecDepth 100000 in
theorem catches_c (A : Option Addr) (c : Nat) (L : List Nat) (C : List (List Nat)) (n : Nat) (W : World) (hn : L.length = n) (hn1 : 1 ≤ n) (hL : Sets9 L) (hC : CatOk L C) (hr : Row W A (ints (natI L))) :
    Calls Try.prog 21 #[.slice A n c] W (CatchIs n C W) := by
  have hn9 : n ≤ 9 := by have := hL.len; omega
  have HL := hide hL
  have HCK := hide hC
  have HR := hide hr
  have HN := hide hn
  clear hr hL hC hn
  go_enter Try.func21, Try.ntmps21
  go_wp2_with fail
  have hz1 : W.heap.size ≤ (W.alloc (.cells #[] 28)).heap.size := by simp
  go_loopw [4, 5] (fun m i wr => ∃ (k : Nat) (ps : List (Nat × Nat)), k ≤ n ∧ i = .int .i64 (k : Int) ∧ ps.length = k ∧ wr.ownsRow W.heap.size 28 1 m k (vsOf n ps) ∧ RowsAt wr W.heap.size n ps ((gridM n idV).take k) ∧ Hid (∀ i (hi : i < ps.length), m.ownBlock ≠ some ps[i].1) ∧ Below W.heap.size W wr) (fun _ i _ => n - (intOf i).toNat)
  case atStart => exact ⟨0, [], Nat.zero_le _, rfl, rfl, World.ownsRow_made W #[] 0 (Nat.le_refl _) (by simp [maxLen]) rfl, ⟨by simp, fun i hi => absurd hi (by simp), fun i j hi => absurd hi (by simp)⟩, fun i hi => absurd hi (by simp), (Below.refl _ _).alloc (Nat.le_refl _) _⟩
  case round =>
    obtain ⟨k, ps, hk, rfl, hpl, hown, hrows, hoff, hb⟩ := hrel
    obtain ⟨wo, rfl⟩ : ∃ wo : World, wo = wr := ⟨_, rfl⟩
    have zo := hb.size
    obtain ⟨Ah, ch, rfl, _⟩ := own_row hown
    by_cases hlt : k < n
    · have hta := hide (grid_take (f := idV) hlt)
      have HOW := hide hown
      have HRW := hide hrows
      have HB := hide hb
      have hz0 : wo.heap.size < (wo.alloc (.cells #[] 3)).heap.size := by simp
      have zl := hide (fun i hi => (hrows.lt i hi).2)
      have zh := hide (own_lt hown)
      clear hown hrows hb
      go_wp2_with fail
      go_loopw [6, 7] (fun v j wj => ∃ q : Nat, q ≤ n ∧ j = .int .i64 (q : Int) ∧ wj.ownsRow wo.heap.size 3 1 v q (ints ((List.range q).map (idV k))) ∧ Below wo.heap.size wo wj) (fun _ j _ => n - (intOf j).toNat)
      case atStart => exact ⟨0, Nat.zero_le _, rfl, by simpa [ints] using World.ownsRow_made wo (e := 3) (size := 1) #[] 0 (Nat.le_refl _) (by simp [maxLen]) rfl, (Below.refl _ _).alloc (Nat.le_refl _) _⟩
      case round =>
        obtain ⟨q, hq, rfl, hownr, hbr⟩ := hrel
        obtain ⟨wi, rfl⟩ : ∃ wi : World, wi = wr := ⟨_, rfl⟩
        obtain ⟨A6, c6, rfl, _⟩ := own_row hownr
        by_cases hql : q < n
        · have hrq : (List.range (q + 1)).map (idV k) = (List.range q).map (idV k) ++ [idV k q] := by rw [List.range_succ, List.map_append]; rfl
          have HQL := hide hql
          by_cases hkq : k = q
          · have hkq' : ((k : Int) == (q : Int)) = true := by rw [hkq]; simp
            have hid : idV k q = 0 := if_pos hkq
            rw [hid] at hrq
            have HRQ := hide hrq
            have hvc := hide (hownr.alloc (.cells #[.int .i64 0] 3))
            have hbc := hbr.alloc hbr.size (.cells #[.int .i64 0] 3)
            clear hkq hid hrq
            go_wp2_with ((at_builtin; refine put_own rfl (.tmp 30) (.tmp 32) rfl Try.underlying28 elem_int' rfl hvc.out rfl (m := 1) (news := [.int .i64 0]) rfl (row_new _ _ _ rfl) (by simp [Value.oneCell']) (by omega) (by omega) hbc.size ?_; intro v9 w9 own9 hg9 ho9))
            exact ⟨⟨q + 1, HQL.out, by go_num, by rw [HRQ.out]; simpa [ints] using own9, below_grown hbc hbc.size hvc.out (Nat.le_refl _) hg9⟩, by simp [intOf]; omega⟩
          · have hkq' : ((k : Int) == (q : Int)) = false := by rw [beq_eq_false_iff_ne]; omega
            have hid : idV k q = -1 := if_neg hkq
            rw [hid] at hrq
            have HRQ := hide hrq
            have hvc := hide (hownr.alloc (.cells #[.int .i64 (-1)] 3))
            have hbc := hbr.alloc hbr.size (.cells #[.int .i64 (-1)] 3)
            clear hkq hid hrq
            go_wp2_with ((at_builtin; refine put_own rfl (.tmp 30) (.tmp 32) rfl Try.underlying28 elem_int' rfl hvc.out rfl (m := 1) (news := [.int .i64 (-1)]) rfl (row_new _ _ _ rfl) (by simp [Value.oneCell']) (by omega) (by omega) hbc.size ?_; intro v9 w9 own9 hg9 ho9))
            exact ⟨⟨q + 1, HQL.out, by go_num, by rw [HRQ.out]; simpa [ints] using own9, below_grown hbc hbc.size hvc.out (Nat.le_refl _) hg9⟩, by simp [intOf]; omega⟩
        · obtain rfl : q = n := by omega
          obtain ⟨b2, c2, e2, hb2⟩ := own_intv hownr (by omega)
          injection e2 with e2 _ e3
          subst e2
          subst e3
          have hh2 := own_below HOW.out hbr
          have hr2 := HRW.out.below hbr
          have hbb2 := below_then HB.out HB.out.size hbr
          have zb2 := (hownr.lt b2 rfl).2
          have X1 := hide (hownr.alloc (.cells #[.slice (some ⟨b2, 0, none⟩) q c6] 28))
          have X2 := hide (hh2.alloc (.cells #[.slice (some ⟨b2, 0, none⟩) q c6] 28))
          have X3 := hide (hr2.kept (World.grownBy_alloc wi (.cells #[.slice (some ⟨b2, 0, none⟩) q c6] 28) none) (fun i hi => by simp))
          have X4 := hide (hbb2.alloc hbb2.size (.cells #[.slice (some ⟨b2, 0, none⟩) q c6] 28))
          have zx : wi.heap.size < (wi.alloc (.cells #[.slice (some ⟨b2, 0, none⟩) q c6] 28)).heap.size := by simp
          have hb0 := hbr.size
          clear hownr hbr hh2 hr2 hbb2
          go_wp2_with ((at_builtin; refine put_own rfl (.tmp 34) (.tmp 36) rfl Try.underlying47 elem_rowv rfl X2.out rfl (m := 1) (news := [.slice (some ⟨b2, 0, none⟩) q c6]) rfl (row_new _ _ _ rfl) (one_row _ rfl) (by omega) (by omega) X4.out.size ?_; intro v4 w4 own4 hg4 ho4))
          have hblk : ∀ j, (Value.slice Ah k ch).ownBlock = some j → j < wo.heap.size := zh.out
          have hr4 := X3.out.kept hg4 (fun i hi e => hoff.out i hi e)
          have ho5 := own_free1 X1.out hg4 (fun e => by
            have := hblk b2 e.symm
            omega)
          have key : ∀ b, b < (wi.alloc (.cells #[.slice (some ⟨b2, 0, none⟩) q c6] 28)).heap.size → (Value.slice Ah k ch).ownBlock ≠ some b → v4.ownBlock ≠ some b := fun b h1 h2 e => by
            rcases ho4 with h | h
            · exact h2 (h.symm.trans e)
            · rw [h] at e; injection e with e; omega
          refine ⟨⟨k + 1, ps ++ [(b2, c6)], hlt, by go_num, by simp [hpl], by simpa [vsOf] using own4, by rw [hta.out]; exact hr4.snoc (own_mono ho5 zo) (fun i hi => by have := zl.out i hi; omega), fun i hi => ?_, below_grown X4.out X4.out.size X2.out (Nat.le_refl _) hg4⟩, by simp [intOf]; omega⟩
          by_cases e : i < ps.length
          · rw [List.getElem_append_left e]
            exact key _ (by have := zl.out i e; omega) (hoff.out i e)
          · have e' : i = ps.length := by simp at hi; omega
            subst e'
            rw [List.getElem_append_right (Nat.le_refl _)]
            simp only [Nat.sub_self, List.getElem_cons_zero]
            exact key _ (by omega) (fun e => by have := hblk b2 e; omega)
    · obtain rfl : n = k := by omega
      obtain ⟨gm, cm, hAh, hgm⟩ := own_rowv hown (by omega)
      injection hAh with hAh _ hcc
      subst hAh
      subst hcc
      have HB := hide hb
      have HRW := hide (show RowsAt wo W.heap.size n ps (gridM n idV) by rwa [List.take_of_length_le (by rw [grid_len]; exact Nat.le_refl _)] at hrows)
      have HOW := hide hown
      have HOF := hide (fun i (hi : i < ps.length) => show ps[i].1 ≠ gm from fun e => hoff.out i hi (show some gm = some ps[i].1 by rw [e]))
      clear hown hrows hb hoff
      go_wp2_with fail
      obtain ⟨T, hTT⟩ : ∃ T, topN C = T := ⟨_, rfl⟩
      obtain ⟨hT1, hT5⟩ := HCK.out.low
      rw [hTT] at hT1 hT5
      have HTT := hide hTT
      clear hTT
      go_loopw [9] (fun tt wr => ∃ t : Nat, 1 ≤ t ∧ t ≤ T ∧ tt = .int .i64 (t : Int) ∧ wr.ownsRow W.heap.size 28 1 (.slice (some ⟨gm, 0, none⟩) n ch) n (vsOf n ps) ∧ RowsAt wr W.heap.size n ps (gridM n (maskV C (t - 1))) ∧ Below W.heap.size W wr) (fun tt _ => T + 1 - (intOf tt).toNat)
      case atStart => exact ⟨1, Nat.le_refl _, hT1, rfl, HOW.out, by rw [show gridM n (maskV C (1 - 1)) = gridM n idV from grid_congr (fun a b ha hb => mask_id HCK.out (by rw [HN.out]; exact ha) (by rw [HN.out]; exact hb))]; exact HRW.out, HB.out⟩
      case round =>
        clear HOW HRW HB
        obtain ⟨t, ht1, htT, rfl, hown, hrows, hb⟩ := hrel
        obtain ⟨wt, rfl⟩ : ∃ wt : World, wt = wr := ⟨_, rfl⟩
        have HOW := hide hown
        have HRW := hide hrows
        have HB := hide hb
        clear hown hrows hb
        go_wp2_with fail
        go_loopw [10, 11] (fun f iv wr => ∃ (b : Bool) (i : Nat), i ≤ n ∧ f = .bool b ∧ iv = .int .i64 (i : Int) ∧ Hid (b = true ↔ Chg C n t i 0) ∧ wr.ownsRow W.heap.size 28 1 (.slice (some ⟨gm, 0, none⟩) n ch) n (vsOf n ps) ∧ RowsAt wr W.heap.size n ps (gridM n (stV C t i 0)) ∧ Below W.heap.size W wr) (fun _ iv _ => n - (intOf iv).toNat)
        case atStart => exact ⟨false, 0, Nat.zero_le _, rfl, rfl, ⟨(fun h => nomatch h), (fun h => absurd h chg_first)⟩, HOW.out, by rw [grid_congr (fun a b _ _ => st_first C t a b)]; exact HRW.out, HB.out⟩
        case round =>
          clear HOW HRW HB
          obtain ⟨bf, i, hi, rfl, rfl, hch, hown, hrows, hb⟩ := hrel
          obtain ⟨wi, rfl⟩ : ∃ wi : World, wi = wr := ⟨_, rfl⟩
          by_cases hin : i < n
          · have HOW := hide hown
            have HRW := hide hrows
            have HB := hide hb
            clear hown hrows hb
            go_wp2_with fail
            go_loopw [10, 12] (fun f kv wr => ∃ (b : Bool) (k : Nat), k ≤ n ∧ f = .bool b ∧ kv = .int .i64 (k : Int) ∧ Hid (b = true ↔ Chg C n t i k) ∧ wr.ownsRow W.heap.size 28 1 (.slice (some ⟨gm, 0, none⟩) n ch) n (vsOf n ps) ∧ RowsAt wr W.heap.size n ps (gridM n (stV C t i k)) ∧ Below W.heap.size W wr) (fun _ kv _ => n - (intOf kv).toNat)
            case atStart => exact ⟨bf, 0, Nat.zero_le _, rfl, rfl, hch, HOW.out, HRW.out, HB.out⟩
            case round =>
              clear HOW HRW HB hch
              obtain ⟨bk, k, hk, rfl, rfl, hch, hown, hrows, hb⟩ := hrel
              obtain ⟨wk, rfl⟩ : ∃ wk : World, wk = wr := ⟨_, rfl⟩
              by_cases hkn : k < n
              · have hpl : ps.length = n := by rw [hrows.len, grid_len]
                have hip : i < ps.length := by omega
                obtain ⟨q1, q2⟩ := hdr_cell hown hip
                obtain ⟨q3, q4⟩ := hrows.cell hip hkn
                rw [grid_at hin hkn, st_here] at q3
                have HCA := hide (caughtBy_c A c gm ch L C (stV C t i k) n i k t wk HN.out HL.out (HR.out.below hb) (fun x hx => ⟨(ps[x]'(by omega)).1, (ps[x]'(by omega)).2, (hdr_cell hown (by omega)).1, fun y hy => by
                  have := (hrows.cell (i := x) (by omega) hy).1
                  rwa [grid_at hx hy] at this⟩) (fun x y _ _ => st_fine C ht1 x y) hin hkn)
                have hdg := HCK.out.diag i (by rw [HN.out]; exact hin)
                have hcn := HCK.out.can i k t (by rw [HN.out]; exact hin) (by rw [HN.out]; exact hkn)
                rw [HTT.out, HN.out] at hcn
                have hpt := hrows.put hip hkn (t : Int)
                rw [grid_put hin hkn] at hpt
                have HH2 := hide (own_free1 hown hpt.2 (fun e => HOF.out i hip (by injection (show some gm = some ps[i].1 from e) with e; exact e.symm)))
                have HB2 := hide (hb.grown hpt.2 hb.size (fun z e => by injection e with e; have := (hrows.lt i hip).1; omega))
                have HR2 := hide hpt.1
                have hne : ps[i].1 ≠ gm := HOF.out i hip
                have i0 : (0 : Int) ≤ (i : Int) := by omega
                have i1 : (i : Int) < (n : Int) := by omega
                have k0 : (0 : Int) ≤ (k : Int) := by omega
                have k1 : (k : Int) < (n : Int) := by omega
                have HKN := hide hkn
                have HIN := hide hin
                have HOW := hide hown
                have HRW := hide hrows
                have HB := hide hb
                have HCH := hide hch
                clear hown hrows hb hch hpl hpt
                by_cases hc : cAt C i k = t + 1
                · have hik : i ≠ k := fun e => by rw [← e, hdg] at hc; omega
                  rw [hcn hik ht1 htT, hc, decide_eq_true (by omega : 2 ≤ t + 1), decide_eq_true (Nat.le_refl _)] at HCA
                  rw [show maskV C (t - 1) i k = -1 by unfold maskV; rw [if_neg (by omega)]] at q3
                  have HR3 := hide (show RowsAt (wk.setCell ⟨ps[i].1, k, none⟩ (.int .i64 (t : Int))) W.heap.size n ps (gridM n (stV C t i (k + 1))) by
                    have := HR2.out
                    rwa [grid_congr (fun a b _ _ => st_put hc a b)] at this)
                  have HC2 : Hid (true = true ↔ Chg C n t i (k + 1)) := ⟨fun _ => ⟨i, k, HIN.out, HKN.out, .inr ⟨rfl, by omega⟩, hc⟩, fun _ => rfl⟩
                  clear hcn hdg hik hc
                  generalize ps[i] = pr at *
                  obtain ⟨gr, cr⟩ := pr
                  go_wp2_with fail
                  refine HCA.out.mono ?_
                  rintro e w8 ⟨rfl, rfl⟩
                  go_wp2_with fail
                  exact ⟨⟨true, k + 1, HKN.out, rfl, by go_num, ⟨fun _ => HC2.out.1 trivial, fun _ => rfl⟩, HH2.out, HR3.out, HB2.out⟩, by simp [intOf]; omega⟩
                · by_cases h0 : 1 ≤ cAt C i k ∧ cAt C i k ≤ t
                  · have hm : maskV C (t - 1) i k = (cAt C i k : Int) - 1 := by unfold maskV; rw [if_pos (by omega)]
                    rw [hm] at q3
                    have hge : ¬ ((cAt C i k : Int) - 1 < 0) := by omega
                    have HSM := hide (show gridM n (stV C t i (k + 1)) = gridM n (stV C t i k) from grid_congr (fun a b _ _ => st_same ht1 hc a b))
                    have HCS := hide (chg_same (n := n) hc)
                    clear hcn hdg hc h0 hm
                    generalize (cAt C i k : Int) - 1 = e at *
                    go_wp2_with fail
                    exact ⟨⟨bk, k + 1, HKN.out, rfl, by go_num, by show _ ↔ _; rw [HCS.out]; exact HCH.out, HOW.out, by rw [HSM.out]; exact HRW.out, HB.out⟩, by simp [intOf]; omega⟩
                  · have hik : i ≠ k := fun e => by rw [← e, hdg] at h0; omega
                    have hm : maskV C (t - 1) i k = -1 := by unfold maskV; rw [if_neg (by omega)]
                    rw [hm] at q3
                    rw [hcn hik ht1 htT, show (decide (2 ≤ cAt C i k) && decide (cAt C i k ≤ t + 1)) = false by
                      rw [Bool.and_eq_false_iff]
                      by_cases h2 : 2 ≤ cAt C i k
                      · right; exact decide_eq_false (by omega)
                      · left; exact decide_eq_false h2] at HCA
                    have HSM := hide (show gridM n (stV C t i (k + 1)) = gridM n (stV C t i k) from grid_congr (fun a b _ _ => st_same ht1 hc a b))
                    have HCS := hide (chg_same (n := n) hc)
                    clear hcn hdg hc h0 hm hik
                    go_wp2_with fail
                    refine HCA.out.mono ?_
                    rintro e w8 ⟨rfl, rfl⟩
                    go_wp2_with fail
                    exact ⟨⟨bk, k + 1, HKN.out, rfl, by go_num, by show _ ↔ _; rw [HCS.out]; exact HCH.out, HOW.out, by rw [HSM.out]; exact HRW.out, HB.out⟩, by simp [intOf]; omega⟩
              · obtain rfl : k = n := by omega
                have HSN := hide (show gridM k (stV C t (i + 1) 0) = gridM k (stV C t i k) from grid_congr (fun a b _ hb => (st_next C hb).symm))
                have HHIN := hide hin
                have HOW := hide hown
                have HRW := hide hrows
                have HB := hide hb
                clear hown hrows hb
                go_wp2_with fail
                exact ⟨⟨bk, i + 1, HHIN.out, rfl, by go_num, by show _ ↔ _; rw [← chg_next]; exact hch.out, HOW.out, by rw [HSN.out]; exact HRW.out, HB.out⟩, by simp [intOf]; omega⟩
          · obtain rfl : i = n := by omega
            have HSL := hide (show gridM i (stV C t i 0) = gridM i (maskV C t) from grid_congr (fun a b ha _ => st_last C ha))
            rw [HSL.out] at hrows
            have HOW := hide hown
            have HRW := hide hrows
            have HB := hide hb
            clear hown hrows hb
            cases bf with
            | true =>
              have hlt : t < T := by
                obtain ⟨a, b, ha, hb, _, he⟩ := hch.out.1 rfl
                have := HCK.out.top a b (by rw [HN.out]; exact ha) (by rw [HN.out]; exact hb)
                rw [HTT.out] at this
                omega
              clear hch
              go_wp2_with fail
              exact ⟨⟨t + 1, by omega, hlt, by go_num, HOW.out, HRW.out, HB.out⟩, by simp [intOf]; omega⟩
            | false =>
              have heq : t = T := by
                rcases Nat.lt_or_ge t T with h | h
                · exfalso
                  obtain ⟨a, b, ha, hb, he⟩ := HCK.out.each (t + 1) (by omega) (by rw [HTT.out]; omega)
                  rw [HN.out] at ha hb
                  have := hch.out.2 ⟨a, b, ha, hb, .inl ha, he⟩
                  cases this
                · omega
              have HEQ := hide heq
              clear hch heq
              go_wp2_with fail
              go_ret
              exact ⟨gm, ch, ps, rfl, HOW.out, by rw [HTT.out, ← HEQ.out]; exact HRW.out, HB.out⟩
end Go.Proofs.Ytakphmcelhbaiac

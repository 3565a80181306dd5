
/-
  The model's queens: images, purely and by the model.
-/
import Derived.Test.YtlccohoblplddadQueenE
import Derived.OwnWalk
namespace Go.Proofs.Ytlccohoblplddad
open Go.RowKit
set_option linter.unusedVariables false

/-! ### A row of columns, turned and mirrored -/
def turnTo (n : Nat) (now : List Int) : Nat → List Int
  | 0 => List.replicate n 0
  | k + 1 => (turnTo n now k).set (now[k]?.getD 0).toNat ((n : Int) - 1 - (k : Int))
def nowAt (l : List Int) : Nat → List Int
  | 0 => l
  | t + 1 => turnTo l.length (nowAt l t) l.length
def imagesTo (l : List Int) : Nat → List (List Int)
  | 0 => []
  | t + 1 => imagesTo l t ++ [nowAt l t, (nowAt l t).reverse]
/-- Columns of a board of n. -/
def Cols (n : Nat) (l : List Int) : Prop := l.length = n ∧ ∀ i, i < n → 0 ≤ l[i]?.getD 0 ∧ l[i]?.getD 0 < (n : Int)
theorem turnTo_cols {n : Nat} (h1 : 1 ≤ n) (now : List Int) : ∀ k, k ≤ n → Cols n (turnTo n now k)
  | 0, _ => ⟨by simp [turnTo], fun i hi => by simp [turnTo, hi]; omega⟩
  | k + 1, hk => by
    have ih := turnTo_cols h1 now k (by omega)
    refine ⟨by simp [turnTo, ih.1], fun i hi => ?_⟩
    rw [turnTo, List.getElem?_set]
    split
    · split
      · simp only [Option.getD_some]; omega
      · simp only [Option.getD_none]; omega
    · exact ih.2 i hi
theorem nowAt_cols {l : List Int} (h1 : 1 ≤ l.length) (h : Cols l.length l) : ∀ t, Cols l.length (nowAt l t)
  | 0 => h
  | t + 1 => turnTo_cols h1 _ _ (Nat.le_refl _)
theorem imagesTo_rows {l : List Int} (h1 : 1 ≤ l.length) (h : Cols l.length l) : ∀ t, ∀ x ∈ imagesTo l t, 1 ≤ x.length
  | 0, x, hx => by cases hx
  | t + 1, x, hx => by
    simp only [imagesTo, List.mem_append, List.mem_cons, List.not_mem_nil, or_false] at hx
    have := (nowAt_cols h1 h t).1
    rcases hx with hx | rfl | rfl
    · exact imagesTo_rows h1 h t x hx
    · omega
    · rw [List.length_reverse]; omega
theorem imagesTo_len (l : List Int) : ∀ t, (imagesTo l t).length = 2 * t
  | 0 => rfl
  | t + 1 => by rw [imagesTo, List.length_append, imagesTo_len l t]; simp; omega
theorem back_snoc (l : List Int) (j : Nat) (hj : j < l.length) : l.reverse.take (j + 1) = l.reverse.take j ++ [l[l.length - 1 - j]?.getD 0] := by
  rw [take_snoc _ _ (by rw [List.length_reverse]; exact hj), List.getElem?_reverse hj]
theorem info_of {P : Program} {e : TypeId} {z : Value} {size bytes : Nat} (h : (P.info? e).map (fun i => (i.zero, i.size, i.bytes)) = some (some z, size, bytes)) : ∃ i, P.info? e = some i ∧ i.zero = some z ∧ i.size = size ∧ i.bytes = bytes := by
  cases hi : P.info? e with
  | none => simp [hi] at h
  | some i =>
    simp only [hi, Option.map_some, Option.some.injEq, Prod.mk.injEq] at h
    exact ⟨i, rfl, h.1, h.2.1, h.2.2⟩
theorem own_filled {w : World} {base : Nat} {e : TypeId} {v : Value} {n : Nat} {z : Value} (hz : z.cells = #[z]) (h : w.ownsRow base e 1 v n (madeCells z.cells (n * 1)).toList) : w.ownsRow base e 1 v n (List.replicate n z) := by
  rwa [hz, Nat.mul_one, toList_madeCells_one] at h
theorem ints_put (l : List Int) (i : Nat) (u : Int) : (ints l).set i (.int .i64 u) = ints (l.set i u) := by simp [ints, List.map_set]

set_option maxHeartbeats 4000000 in
set_option maxRecDepth 100000 in
theorem specImages_c (A : Option Addr) (c : Nat) (l : List Int) (w : World) (hr : Row w A (ints l)) (h1 : 1 ≤ l.length) (h6 : l.length ≤ 6) (hco : Cols l.length l) :
    Calls Try.prog 55 #[.slice A l.length c] w (Queens w.heap.size (imagesTo l 4) w) := by
  have HC := hide (fun t => nowAt_cols h1 hco t)
  have HR := hide (fun t => imagesTo_rows h1 hco t)
  have HLN := hide (fun t => imagesTo_len l t)
  have HN0 : Hid (nowAt l 0 = l) := rfl
  have HI0 : Hid (imagesTo l 0 = []) := rfl
  have HNS := hide (fun t => show nowAt l (t + 1) = turnTo l.length (nowAt l t) l.length from rfl)
  have HIS := hide (fun t => show imagesTo l (t + 1) = imagesTo l t ++ [nowAt l t, (nowAt l t).reverse] from rfl)
  clear hco
  obtain ⟨n, hn⟩ : ∃ n, l.length = n := ⟨_, rfl⟩
  obtain ⟨i0, hi0, hz0, hz1, hz2⟩ := info_of (P := Try.prog) (e := 3) (z := .int .i64 0) (size := 1) (bytes := 8) (by kernel_rfl)
  rw [hn] at h1 h6 HC HNS ⊢
  have HN := hide hn
  have oe := World.ownsRow_made (base := w.heap.size) (e := 27) (size := 1) w #[] 0 (Nat.le_refl _) (by simp [maxLen]) rfl
  have be := (Below.refl w.heap.size w).alloc (Nat.le_refl _) (.cells #[] 27)
  have on := World.ownsRow_made (base := w.heap.size + 1) (e := 3) (size := 1) (w.alloc (.cells #[] 27)) #[] 0 (by simp) (by simp [maxLen]) rfl
  have bn := be.alloc be.size (.cells #[] 3)
  have hrn := hr.below bn
  have e1 : (w.alloc (.cells #[] 27)).heap.size = w.heap.size + 1 := by simp
  rw [e1] at on
  have E1 := hide e1
  clear e1
  clear hn
  go_enter Try.func55, Try.ntmps55
  go_wp2_with (first
    | (at_builtin; go_loud (refine put_own rfl (.tmp 14) (.tmp 15) rfl Try.underlying27 elem_int' rfl on rfl (m := n) (news := ints l) (by simp [HN.out]) hrn (one_ints _) (by omega) (by omega) (by simp) ?_)
       intro v2 w2 own2 hg2 ho2))
  have b2 := below_grown bn bn.size on (Nat.le_succ _) hg2
  have own2 : w2.ownsRow (w.heap.size + 1) 3 1 v2 n (ints l) := by simpa using own2
  have oe2 := (oe.alloc (.cells #[] 3)).kept hg2 (Or.inr (by show some w.heap.size ≠ some (w.heap.size + 1); simp))
  obtain ⟨A2, c2, rfl, nc2, cm2, r2, f2⟩ := own_row own2
  have Hstart := hide (show Row w2 A2 (ints (nowAt l 0)) by rw [HN0.out]; exact r2)
  go_loopw [4, 5, 6] (fun v x i wr => ∃ (t : Nat) (vs : List Value) (An : Option Addr) (cn : Nat), t ≤ 4 ∧ x = .slice An n cn ∧ i = .int .i64 (t : Int) ∧ n ≤ cn ∧ cn ≤ maxLen ∧
      wr.ownsRow w.heap.size 27 1 v vs.length vs ∧ Hid (Reads wr w.heap.size vs (imagesTo l t)) ∧ Hid (∀ g, v.ownBlock = some g → Off g vs) ∧
      Row wr An (ints (nowAt l t)) ∧ From w.heap.size An ∧ Hid (∀ g ad, v.ownBlock = some g → An = some ad → ad.block ≠ g) ∧ Below w.heap.size w wr) (fun _ _ i _ => 4 - (intOf i).toNat)
  case atStart =>
    refine ⟨0, [], A2, c2, by omega, rfl, rfl, nc2, cm2, oe2, by rw [HI0.out]; exact Reads.nil _ _, fun g _ i a n c e => by simp at e, Hstart.out, fun ad e => by obtain ⟨g, rfl, hg, _⟩ := f2 ad e; exact Nat.le_trans (Nat.le_succ _) hg, fun g ad hg ha => by
      obtain ⟨g', rfl, hg', _⟩ := f2 ad ha
      have hg : w.heap.size = g := Option.some.inj hg
      show g' ≠ g
      omega, b2⟩
  case round =>
    clear hr hrn hg2 ho2 b2 own2 oe2 r2 f2 Hstart nc2 cm2 E1
    obtain ⟨t, vs, An, cn, ht, rfl, rfl, ncn, ccn, hown, hrd, hoff, hrow, hfrom, hsep, hb⟩ := hrel
    obtain ⟨wo, rfl⟩ : ∃ wo : World, wo = wr := ⟨_, rfl⟩
    have z := hb.size
    have hvl : vs.length ≤ 8 := by rw [hrd.out.1, HLN.out]; omega
    unfold maxLen at ccn
    by_cases hlt : t < 4
    · have hnc := HC.out t
      have HIt := hide (HIS.out t)
      have HNt := hide (HNS.out t)
      obtain ⟨nowl, hnow⟩ : ∃ nowl, nowAt l t = nowl := ⟨_, rfl⟩
      rw [hnow] at hrow hnc HIt HNt
      obtain ⟨hnl, hnb⟩ := hnc
      have NB := hide hnb
      have NL := hide hnl
      clear hnow hnb hnl
      have t4 : decide ((t : Int) < 4) = true := by rw [decide_eq_true_eq]; omega
      have ob := World.ownsRow_made (base := wo.heap.size) (e := 3) (size := 1) wo #[] 0 (Nat.le_refl _) (by simp [maxLen]) rfl
      have bb := (Below.refl wo.heap.size wo).alloc (Nat.le_refl _) (.cells #[] 3)
      obtain ⟨Ao, co, rfl, _⟩ := own_row hown
      go_wp2_with fail
      go_loopw [7, 8] (fun b i wi => ∃ (j : Nat), j ≤ n ∧ i = .int .i64 ((n : Int) - 1 - (j : Int)) ∧ wi.ownsRow wo.heap.size 3 1 b j (ints (nowl.reverse.take j)) ∧ Below wo.heap.size wo wi) (fun _ i _ => (intOf i + 1).toNat)
      case atStart => exact ⟨0, Nat.zero_le _, by simp, by simpa [ints] using ob, bb⟩
      case round =>
        clear ob bb
        obtain ⟨j, hj, rfl, ownb, bi⟩ := hrel
        obtain ⟨wi, rfl⟩ : ∃ wi : World, wi = wr := ⟨_, rfl⟩
        obtain ⟨Ab, cb, rfl, nb, mb, rb, fb⟩ := own_row ownb
        have zi := bi.size
        by_cases hjl : j < n
        · obtain ⟨q, hq⟩ : ∃ q : Nat, n - 1 - j = q := ⟨_, rfl⟩
          have hqi : (n : Int) - 1 - (j : Int) = (q : Int) := by omega
          have hqn : q < n := by omega
          have HJ := hide (back_snoc nowl j (by rw [NL.out]; exact hjl))
          rw [NL.out, hq] at HJ
          obtain ⟨ad, rfl, hca⟩ := (hrow.below bi).int (k := q) (by rw [NL.out]; exact hqn)
          obtain ⟨x, hx⟩ : ∃ x, nowl[q]?.getD 0 = x := ⟨_, rfl⟩
          rw [hx] at hca HJ
          have own2a := ownb.alloc (.cells #[.int .i64 x] 3)
          have b2a := bi.alloc bi.size (.cells #[.int .i64 x] 3)
          have q0 : (0 : Int) ≤ (q : Int) := by omega
          have q1 : (q : Int) < (n : Int) := by omega
          rw [hqi]
          have HQ := hide hqi
          clear hqi hx hq rb fb
          go_wp2_with (first
            | (at_builtin; go_loud (refine put_own rfl (.tmp 28) (.tmp 33) rfl Try.underlying27 elem_int' rfl own2a rfl (m := 1) (news := [.int .i64 x]) rfl (row_new _ _ _ rfl) (by simp [Value.oneCell']) (by omega) (by omega) b2a.size ?_)
               intro v3 w3 own3 hg3 ho3))
          have own3 : w3.ownsRow wo.heap.size 3 1 v3 (j + 1) (ints (nowl.reverse.take (j + 1))) := by rw [HJ.out]; simpa [ints] using own3
          go_round
          case rel => exact ⟨j + 1, hjl, by have := HQ.out; congr 1; push_cast; omega, own3, below_grown b2a b2a.size own2a (Nat.le_refl _) hg3⟩
          case measure => simp [intOf] <;> omega
        · obtain rfl : n = j := by omega
          rw [List.take_of_length_le (by rw [List.length_reverse, NL.out]; exact Nat.le_refl _)] at ownb rb
          rw [show (n : Int) - 1 - (n : Int) = -1 by omega]
          have hownI := own_below hown bi
          have RI := hrow.below bi
          have bwi := below_then hb z bi
          have U : Reads wi w.heap.size [.slice An n cn, .slice Ab n cb] [nowl, nowl.reverse] := by
            have := (Reads.one (c := cn) RI hfrom ⟨by rw [NL.out]; exact ncn, by unfold maxLen; exact ccn⟩).append (Reads.one (B := w.heap.size) (c := cb) rb (fun ad e => by obtain ⟨g, rfl, hg, _⟩ := fb ad e; exact Nat.le_trans z hg) ⟨by rw [List.length_reverse, NL.out]; exact nb, mb⟩)
            simpa only [List.length_reverse, NL.out, List.cons_append, List.nil_append] using this
          have UO := hide (fun g (hg : (Value.slice Ao vs.length co).ownBlock = some g) => show Off g [.slice An n cn, .slice Ab n cb] from fun i a m k e => by
            have hgl := (hown.lt g hg).2
            match i, e with
            | 0, e =>
              simp only [List.getElem?_cons_zero, Option.some.injEq, Value.slice.injEq] at e
              exact hsep.out g a hg e.1
            | 1, e =>
              simp only [List.getElem?_cons_succ, List.getElem?_cons_zero, Option.some.injEq, Value.slice.injEq] at e
              obtain ⟨g', rfl, hg', _⟩ := fb a e.1
              show g' ≠ g
              omega
            | i + 2, e => simp at e)
          have RD := hide ((hrd.out.below bi).append U)
          rw [← HIt.out] at RD
          have RDA := hide (RD.out.below ((Below.refl wi.heap.size wi).alloc (Nat.le_refl _) (.cells #[.slice An n cn, .slice Ab n cb] 27)))
          have oaI := hownI.alloc (.cells #[.slice An n cn, .slice Ab n cb] 27)
          have bA := bwi.alloc bwi.size (.cells #[.slice An n cn, .slice Ab n cb] 27)
          have RIA := hide (RI.alloc (.cells #[.slice An n cn, .slice Ab n cb] 27))
          clear U RD RI rb fb ownb
          go_wp2_with (first
            | (at_builtin; go_loud (refine put_own rfl (.tmp 35) (.tmp 38) rfl Try.underlying24 elem_rows rfl oaI rfl (m := 2) (news := [.slice An n cn, .slice Ab n cb]) rfl (row_new _ _ _ rfl) (by simp [Value.oneCell']) (by omega) (by omega) bA.size ?_)
               intro v5 w5 own5 hg5 ho5
               have b5 := below_grown bA bA.size oaI (Nat.le_refl _) hg5)
            | (at_make; go_loud (refine wpList_make_full _ rfl (.tmp 40) (.tmp 40) 27 rfl w5.heap.size 3 i0 (.int .i64 0) 1 Try.underlying27 hi0 hz0 hz1 .i64 .i64 n n n rfl rfl rfl rfl (by rw [hz2]; omega) (by simp [maxLen]; omega) (Nat.le_refl _) ?_)
               intro w6 own6 hg6
               have own6 := own_filled rfl own6
               have b6 := (Below.refl w5.heap.size w5).grown hg6 (Nat.le_refl _) (fun k h => by cases h)))
          have R5 := hide (RIA.out.grown hg5 (fun ad e => fun h => by
            obtain ⟨g', hg', e'⟩ : ∃ g', (Value.slice Ao vs.length co).ownBlock = some g' ∧ g' = ad.block := ⟨ad.block, h, rfl⟩
            exact hsep.out g' ad hg' e e'.symm))
          have RD5 := hide (RDA.out.grown hg5 (fun g e => (hoff.out g e).append (UO.out g e)))
          have own5 : w5.ownsRow w.heap.size 27 1 v5 (vs ++ [Value.slice An n cn, Value.slice Ab n cb]).length (vs ++ [Value.slice An n cn, Value.slice Ab n cb]) := by rw [List.length_append]; exact own5
          have OFF5 : Hid (∀ g, v5.ownBlock = some g → Off g (vs ++ [Value.slice An n cn, Value.slice Ab n cb])) := fun g e => by
            rcases ho5 with h | h
            · rw [h] at e
              exact (hoff.out g e).append (UO.out g e)
            · rw [h] at e
              injection e with e
              exact RDA.out.off_new (HR.out (t + 1)) (by omega)
          generalize hU : vs ++ [Value.slice An n cn, Value.slice Ab n cb] = us at *
          have z5 := b5.size
          obtain ⟨g, hg⟩ : ∃ g, w5.heap.size = g := ⟨_, rfl⟩
          have HG := hide hg
          rw [hg] at own6 b6 z5 ⊢
          clear hU oaI hownI RIA RDA UO hg5 ho5 hg6 bA hg hown hrd hoff hsep bi bwi hrow
          go_loopw [10] (fun i wk => ∃ k : Nat, k ≤ n ∧ i = .int .i64 (k : Int) ∧ wk.ownsRow g 3 1 (.slice (some ⟨g, 0, none⟩) n n) n (ints (turnTo n nowl k)) ∧ Below g w5 wk) (fun i _ => n - (intOf i).toNat)
          case atStart => exact ⟨0, Nat.zero_le _, rfl, by simpa [ints, turnTo] using own6, b6⟩
          case round =>
            clear own6 b6
            obtain ⟨k, hk, rfl, ownk, bk⟩ := hrel
            obtain ⟨wk, rfl⟩ : ∃ wk : World, wk = wr := ⟨_, rfl⟩
            have zk := bk.size
            have bk' : Below w5.heap.size w5 wk := by rw [HG.out]; exact bk
            by_cases hkl : k < n
            · obtain ⟨ad, rfl, hca⟩ := (R5.out.below bk').int (k := k) (by rw [NL.out]; exact hkl)
              obtain ⟨x0, x1⟩ := NB.out k hkl
              obtain ⟨x, hx⟩ : ∃ x, nowl[k]?.getD 0 = x := ⟨_, rfl⟩
              have HT : Hid (turnTo n nowl (k + 1) = (turnTo n nowl k).set x.toNat ((n : Int) - 1 - (k : Int))) := by show _ = _; rw [← hx]; rfl
              rw [hx] at hca x0 x1
              clear hx
              obtain ⟨y, rfl⟩ := Int.eq_ofNat_of_zero_le x0
              have hyn : y < n := by omega
              have hf := ownk.frozenAt y
              have hc := ownk.cellAt y (by omega)
              rw [List.getElem?_eq_getElem (by rw [ownk.1]; omega)] at hc
              obtain ⟨ost, gst⟩ := ownk.stored y (.int .i64 ((n : Int) - 1 - (k : Int)))
              rw [ints_put] at ost
              have bst := bk.grown gst (by rw [← HG.out]; exact zk) (fun n e => by injection e with e; omega)
              have Ost := hide ost
              have Bst := hide bst
              have k0 : (0 : Int) ≤ (k : Int) := by omega
              have k1 : (k : Int) < (n : Int) := by omega
              clear ost gst bst
              go_wp2_with fail
              go_round
              case rel => exact ⟨k + 1, hkl, rfl, by rw [HT.out]; exact Ost.out, Bst.out⟩
              case measure => simp [intOf]; omega
            · obtain rfl : n = k := by omega
              have RD7 := hide (RD5.out.below bk')
              have own7 := own_below own5 bk'
              have b7 := below_then b5 b5.size bk'
              obtain ⟨A7, c7, e7, _, _, r7, f7⟩ := own_row ownk
              injection e7 with e7 e7' e7''
              subst e7 e7''
              have R7 := hide r7
              have HL5 := hide (fun g e => (own5.lt g e).2)
              rw [HG.out] at HL5
              clear r7 f7
              go_wp2_with fail
              go_round
              case rel => exact ⟨t + 1, us, some ⟨g, 0, none⟩, n, hlt, rfl, rfl, Nat.le_refl _, by simp [maxLen]; omega, own7, RD7.out, OFF5.out, by rw [HNt.out]; exact R7.out, fun ad e => by injection e with e; subst e; exact z5, fun g' ad e e' => by
                have := HL5.out g' e
                injection e' with e'
                subst e'
                show g ≠ g'
                omega, b7⟩
              case measure => simp [intOf]; omega
    · have h4 : Hid (t = 4) := hide (by omega)
      obtain ⟨Ao, co, rfl, _⟩ := own_row hown
      go_wp2_with fail
      go_ret
      exact ⟨_, vs, rfl, hown, by rw [← h4.out]; exact hrd.out, hb⟩
end Go.Proofs.Ytlccohoblplddad

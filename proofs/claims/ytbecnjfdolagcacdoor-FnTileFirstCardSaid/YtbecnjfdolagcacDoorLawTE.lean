
/-
  The walk of the law FnTileFirst, whatever the program's contracts are proved by: its parts.
-/
import Derived.Test.YtbecnjfdolagcacDoorDrawT
import Derived.Test.YtbecnjfdolagcacDoorTileV
import Derived.Test.YtbecnjfdolagcacDoorTileZ
import Derived.Test.YtbecnjfdolagcacDoorExFirst
import Derived.Test.YtbecnjfdolagcacDoorCodeWords
import Derived.Test.YtbecnjfdolagcacDoorMoveH
import Derived.BigQuiet
namespace Go.Proofs.YtbecnjfdolagcacDoor
open Go.RowKit
set_option linter.unusedVariables false

theorem equalInts_d (A C : Option Addr) (n m ca cc : Nat) (xs ys : List Int) (w : World) (hx : xs.length = n) (hy : ys.length = m) (ha : Row w A (ints xs)) (hc : Row w C (ints ys)) (hn : xs.length ≤ maxLen) (he : xs = ys) :
    Calls Tryd.prog 13 #[.slice A n ca, .slice C m cc] w (Plain (.bool true) w) := by
  subst hx hy he
  have := equalInts_c A C xs xs ca cc w ha hc hn hn
  rwa [decide_eq_true rfl] at this
set_option maxHeartbeats 400000 in
theorem isIn_s (A : Option Addr) (l : List Int) (c : Nat) (x : Int) (w : World) (hr : Row w A (ints l)) (hm : l.length ≤ maxLen) :
    Calls Tryd.prog 15 #[.slice A l.length c, .int .i64 x] w fun e w' => e = .returned (.bool (l.contains x)) ∧ w = w' := by
  unfold maxLen at hm
  have HR := hide hr
  clear hr
  go_enter Tryd.func15, Tryd.ntmps15
  go_wp2_with fail
  go_loopw [5] (fun i wr => ∃ k : Nat, k ≤ l.length ∧ i = .int .i64 k ∧ Hid ((l.take k).contains x = false) ∧ w = wr) (fun i _ => l.length - (intOf i).toNat)
  case atStart => exact ⟨0, Nat.zero_le _, rfl, rfl, rfl⟩
  case round =>
    obtain ⟨k, hk, rfl, he, rfl⟩ := hrel
    by_cases hlt : k < l.length
    · obtain ⟨ad, rfl, hca⟩ := HR.out.int hlt
      obtain ⟨y, hy⟩ : ∃ y, l[k]?.getD 0 = y := ⟨_, rfl⟩
      rw [hy] at hca
      have Y := hide hy
      clear hy
      cases hb : (y == x) with
      | true =>
        have HT := hide (show l.contains x = true by
          have h1 : y = x := beq_iff_eq.1 hb
          rw [List.contains_iff_mem, ← h1, ← Y.out, List.getElem?_eq_getElem hlt, Option.getD_some]
          exact List.getElem_mem hlt)
        go_wp2_with fail
        go_ret
        exact ⟨by rw [HT.out]; rfl, rfl⟩
      | false =>
        have HT := hide (show (l.take (k + 1)).contains x = false by
          rw [take_snoc _ _ hlt, ← Bool.not_eq_true, List.contains_iff_mem, List.mem_append, List.mem_singleton, Y.out]
          have h1 := he.out
          rw [← Bool.not_eq_true, List.contains_iff_mem] at h1
          rintro (h | h)
          · exact h1 h
          · rw [h] at hb; simp at hb)
        go_wp2_with fail
        exact ⟨⟨k + 1, hlt, rfl, HT.out, trivial⟩, by simp [intOf]; omega⟩
    · obtain rfl : k = l.length := by omega
      have HT := hide (show l.contains x = false by have := he.out; rwa [List.take_length] at this)
      go_wp2_with fail
      go_ret
      exact ⟨by rw [HT.out]; rfl, rfl⟩
/-- The greatest, from 0 on. -/
def maxTo (l : List Int) (k : Nat) : Int := (l.take k).foldl (fun m x => max m x) 0
theorem maxTo_succ (l : List Int) (k : Nat) (h : k < l.length) : maxTo l (k + 1) = max (maxTo l k) (l[k]?.getD 0) := by
  unfold maxTo
  rw [take_snoc _ _ h, List.foldl_append]
  rfl
set_option maxHeartbeats 400000 in
theorem greatest_c (A : Option Addr) (l : List Int) (c : Nat) (w : World) (hr : Row w A (ints l)) (hm : l.length ≤ maxLen) :
    Calls Tryd.prog 17 #[.slice A l.length c] w (Plain (.int .i64 (maxTo l l.length)) w) := by
  unfold maxLen at hm
  have HR := hide hr
  clear hr
  go_enter Tryd.func17, Tryd.ntmps17
  go_wp2_with fail
  go_loopw [3, 4] (fun a i wr => ∃ k : Nat, k ≤ l.length ∧ i = .int .i64 (k : Int) ∧ a = .int .i64 (maxTo l k) ∧ Below w.heap.size w wr) (fun _ i _ => l.length - (intOf i).toNat)
  case atStart => exact ⟨0, Nat.zero_le _, rfl, rfl, Below.refl _ _⟩
  case round =>
    obtain ⟨k, hk, rfl, rfl, hb⟩ := hrel
    obtain ⟨wo, rfl⟩ : ∃ wo : World, wo = wr := ⟨_, rfl⟩
    by_cases hlt : k < l.length
    · obtain ⟨ad, rfl, hca⟩ := (HR.out.below hb).int hlt
      have hs := hide (maxTo_succ l k hlt)
      generalize l[k]?.getD 0 = x at *
      generalize maxTo l k = m at *
      go_wp2_with fail
      all_goals exact ⟨⟨k + 1, hlt, by go_num, by rw [hs.out], hb⟩, by simp [intOf]; omega⟩
    · obtain rfl : k = l.length := by omega
      go_wp2_with fail
      go_ret
      exact ⟨rfl, hb⟩
/-- How many of the first k have the number x, apart from i; and how many of these are in a list. -/
def cntA (l : List Int) (i : Nat) : Nat → Nat
  | 0 => 0
  | k + 1 => cntA l i k + if k ≠ i ∧ l[k]?.getD 0 = l[i]?.getD 0 then 1 else 0
def cntM (l near : List Int) (i : Nat) : Nat → Nat
  | 0 => 0
  | k + 1 => cntM l near i k + if k ≠ i ∧ l[k]?.getD 0 = l[i]?.getD 0 ∧ near.contains (k : Int) = true then 1 else 0
theorem cntA_one {l : List Int} {i j : Nat} (hj : j ≠ i) (he : l[j]?.getD 0 = l[i]?.getD 0) : ∀ k, k ≤ l.length → (∀ q, q < l.length → l[q]?.getD 0 = l[i]?.getD 0 → q = i ∨ q = j) → cntA l i k = if j < k then 1 else 0
  | 0, _, _ => rfl
  | k + 1, hk, h => by
    unfold cntA
    rw [cntA_one hj he k (by omega) h]
    by_cases e : k = j
    · subst e
      rw [if_neg (Nat.lt_irrefl _), if_pos ⟨hj, he⟩, if_pos (Nat.lt_succ_self _)]
    · have hno : ¬ (k ≠ i ∧ l[k]?.getD 0 = l[i]?.getD 0) := fun hh => by rcases h k (by omega) hh.2 with e2 | e2 <;> omega
      rw [if_neg hno, Nat.add_zero]
      by_cases e3 : j < k
      · rw [if_pos e3, if_pos (by omega)]
      · rw [if_neg e3, if_neg (by omega)]
theorem cntM_one {l near : List Int} {i j : Nat} (hj : j ≠ i) (he : l[j]?.getD 0 = l[i]?.getD 0) (hn : near.contains (j : Int) = true) : ∀ k, k ≤ l.length → (∀ q, q < l.length → l[q]?.getD 0 = l[i]?.getD 0 → q = i ∨ q = j) → cntM l near i k = if j < k then 1 else 0
  | 0, _, _ => rfl
  | k + 1, hk, h => by
    unfold cntM
    rw [cntM_one hj he hn k (by omega) h]
    by_cases e : k = j
    · subst e
      rw [if_neg (Nat.lt_irrefl _), if_pos ⟨hj, he, hn⟩, if_pos (Nat.lt_succ_self _)]
    · have hno : ¬ (k ≠ i ∧ l[k]?.getD 0 = l[i]?.getD 0 ∧ near.contains (k : Int) = true) := fun hh => by rcases h k (by omega) hh.2.1 with e2 | e2 <;> omega
      rw [if_neg hno, Nat.add_zero]
      by_cases e3 : j < k
      · rw [if_pos e3, if_pos (by omega)]
      · rw [if_neg e3, if_neg (by omega)]
theorem cntA_le (l : List Int) (i : Nat) : ∀ k, cntA l i k ≤ k
  | 0 => Nat.le_refl _
  | k + 1 => by have := cntA_le l i k; unfold cntA; split <;> omega
theorem cntM_le (l near : List Int) (i : Nat) : ∀ k, cntM l near i k ≤ k
  | 0 => Nat.le_refl _
  | k + 1 => by have := cntM_le l near i k; unfold cntM; split <;> omega
/-- The greatest of a way's numbers. -/
theorem maxTo_is {l : List Int} {m : Nat} (hm : 0 < m) (htop : ∀ i, i < l.length → l[i]?.getD 0 < (m : Int)) (hall : ∃ i, i < l.length ∧ l[i]?.getD 0 = (m : Int) - 1) : maxTo l l.length = (m : Int) - 1 := by
  have h1 : ∀ k, k ≤ l.length → maxTo l k ≤ (m : Int) - 1 ∧ 0 ≤ maxTo l k ∧ ∀ i, i < k → l[i]?.getD 0 ≤ maxTo l k := fun k => by
    induction k with
    | zero => intro _; exact ⟨by simp [maxTo]; omega, by simp [maxTo], fun i hi => absurd hi (by omega)⟩
    | succ k ih =>
      intro hk
      obtain ⟨a, b, c⟩ := ih (by omega)
      rw [maxTo_succ _ _ (by omega)]
      have := htop k (by omega)
      refine ⟨by omega, by omega, fun i hi => ?_⟩
      by_cases e : i = k
      · subst e; omega
      · have := c i (by omega); omega
  obtain ⟨a, b, c⟩ := h1 l.length (Nat.le_refl _)
  obtain ⟨i, hi, e⟩ := hall
  have := c i hi
  omega
theorem maxTo_none {l : List Int} (h : ∀ i, i < l.length → l[i]?.getD 0 ≤ 0) : ∀ k, k ≤ l.length → maxTo l k = 0
  | 0, _ => by simp [maxTo]
  | k + 1, hk => by
    rw [maxTo_succ _ _ (by omega), maxTo_none h k (by omega)]
    have := h k (by omega)
    omega
theorem out_at {n : Nat} {o : Nat → Int} {k : Nat} (h : k < n) : (outL n o)[k]?.getD 0 = o k := by
  unfold outL
  rw [List.getElem?_map, List.getElem?_range h]
  rfl
/-- What the law asks of a way, of each of its cells and at its end. -/
structure WayIs (w h : Nat) (hs L : List Int) (m : Nat) : Prop where
  len : L.length = w * h
  hole : ∀ i, i < w * h → (L[i]?.getD 0 < 0 ↔ inL hs i = true)
  pair : ∀ i, i < w * h → inL hs i = false → cntA L i (w * h) = 1 ∧ cntM L (reachP (w : Int) (h : Int) false [] (i : Int) straight) i (w * h) = 1
  top : 0 < m → maxTo L (w * h) = (m : Int) - 1
  none_ : m = 0 → maxTo L (w * h) = 0
  num : w * h = hs.length + 2 * m
theorem way_is {w h : Nat} (hw : 1 ≤ w ∧ w ≤ 5) (hh : 1 ≤ h ∧ h ≤ 5) {hs L : List Int} (hd : hs.Nodup) (hmem : ∀ x ∈ hs, 0 ≤ x ∧ x < ((w * h : Nat) : Int)) (hp : 0 < tileT w (w * h) (w * h) (inL hs))
    (hL : outL (w * h) (firstG w (w * h) (w * h) (inL hs) (fun _ => -1) 0).1 = L) : ∃ m, WayIs w h hs L m := by
  have F := first_way (w := w) (h := h) rfl hw.1 hp
  generalize firstG w (w * h) (w * h) (inL hs) (fun _ => -1) 0 = q at *
  obtain ⟨o, m⟩ := q
  simp only at F hL
  have hat : ∀ k, k < w * h → L[k]?.getD 0 = o k := fun k hk => by rw [← hL]; exact out_at hk
  have hlen : L.length = w * h := by rw [← hL, outL_len]
  refine ⟨m, hlen, fun i hi => by rw [hat i hi]; exact F.hole i hi, fun i hi hg => ?_, fun hm => ?_, fun hm => ?_, ?_⟩
  · obtain ⟨j, hj, hji, hadj, he, hl⟩ := F.pair i hi hg
    have h1 : ∀ q, q < L.length → L[q]?.getD 0 = L[i]?.getD 0 → q = i ∨ q = j := fun q hq e => by
      rw [hlen] at hq
      rw [hat q hq, hat i hi] at e
      exact hl q hq e
    have h2 : L[j]?.getD 0 = L[i]?.getD 0 := by rw [hat j hj, hat i hi, he]
    rw [cntA_one hji h2 _ (by omega) h1, if_pos hj, cntM_one hji h2 (by rw [near hw hh hi hj]; exact hadj) _ (by omega) h1, if_pos hj]
    exact ⟨rfl, rfl⟩
  · rw [← hlen]
    refine maxTo_is hm (fun i hi => by rw [hlen] at hi; rw [hat i hi]; exact F.top i hi) ?_
    obtain ⟨i, hi, e⟩ := F.all (m - 1) (by omega)
    exact ⟨i, by omega, by rw [hat i hi, e]; omega⟩
  · refine maxTo_none (fun i hi => ?_) _ (by omega)
    rw [hlen] at hi
    rw [hat i hi]
    have := F.top i hi
    omega
  · have := F.num
    have h3 := free_list hs hd hmem
    omega

set_option maxHeartbeats 8000000 in
set_option maxRecDepth 100000 in
theorem tileFirst_w (T : World → Prop) (hTb : ∀ w w', T w → Below w.heap.size w w' → T w')
    (HI : ∀ (bc br : Int) (A : Option Addr) (c : Nat) (hs : List Int) (W : World), T W → Row W A (ints hs) → hs.length ≤ maxLen → Calls Tryd.prog 11 #[.int .i64 bc, .int .i64 br, .slice A hs.length c] W (FirstIs (firstL bc br hs) W))
    (HK : ∀ (bc br : Int) (A : Option Addr) (c : Nat) (hs : List Int) (W : World), T W → Row W A (ints hs) → hs.length ≤ maxLen → Calls Tryd.prog 14 #[.int .i64 bc, .int .i64 br, .slice A hs.length c] W (Plain (.int .i64 (coversP bc br hs)) W))
    (A : Option Addr) (n c : Nat) (w : World) (hT : T w) (h : Code w A n c) : Calls Tryd.prog 4 #[.slice A n c] w (Plain (.bool true) w) := by
  by_cases hl : 1048576 < (n : Int)
  · go_enter Tryd.func4, Tryd.ntmps4
    go_wp2
    go_ret
    exact ⟨rfl, Below.refl _ _⟩
  · have HC := hide (drawTileFirst_c A n c w h)
    have HT := hide (fun w5 (h5 : Below w.heap.size w w5) => hTb w w5 hT h5)
    have HII := hide HI
    have HKK := hide HK
    clear h hT hTb HI HK
    go_enter Tryd.func4, Tryd.ntmps4
    go_wp2_with fail
    refine HC.out.mono ?_
    rintro e w1 ⟨bc, br, v, hs, rfl, hx, hy, hown, hhl, b1⟩
    obtain ⟨Ah, ch, rfl, _⟩ := own_row hown
    have hm : hs.length ≤ maxLen := by unfold maxLen; omega
    have HRH := hide (own_reads hown)
    have HIs := hide (fun (w5 : World) (h5 : Below w1.heap.size w1 w5) (t5 : T w5) => (HII.out bc br Ah ch hs w5 t5 (HRH.out.below h5) hm).mono fun _ _ => first_any)
    have HSs := hide (fun (w5 : World) (h5 : Below w1.heap.size w1 w5) => (tileFirst_c bc br Ah ch hs w5 (HRH.out.below h5) hm).mono fun _ _ => first_any)
    have HKs := hide (fun (w5 : World) (h5 : Below w1.heap.size w1 w5) (t5 : T w5) => HKK.out bc br Ah ch hs w5 t5 (HRH.out.below h5) hm)
    have hlen1 := firstL_len bc br hs
    have zb := b1.size
    have HT1 := hide (fun w5 (h5 : Below w1.heap.size w1 w5) => HT.out w5 (below_then b1 zb h5))
    have HLM := hide (show ((firstL bc br hs).getD []).length ≤ maxLen by unfold maxLen; omega)
    clear hown
    cases hF : firstL bc br hs with
    | none =>
      rw [hF] at HIs HSs
      simp only [Option.isSome_none, Option.getD_none] at HIs HSs
      by_cases hH : Holes bc br hs
      · have hX : coversP bc br hs = 0 := by
          have : ¬ (0 < coversP bc br hs) := fun hp => by
            unfold firstL at hF
            rw [if_pos ⟨hH, hp⟩] at hF
            cases hF
          unfold coversP at this ⊢
          rw [if_pos hH] at this ⊢
          omega
        rw [hX] at HKs
        clear hlen1 hF hX hH
        go_wp2_with fail
        refine (HIs.out _ (Below.refl _ _) (HT1.out _ (Below.refl _ _))).mono ?_
        rintro e w2 ⟨v2, rfl, o2, b2⟩
        obtain ⟨A2, c2, rfl, _⟩ := own_row o2
        go_wp2_with fail
        refine (HSs.out _ b2).mono ?_
        rintro e w3 ⟨v3, rfl, o3, b3⟩
        obtain ⟨A3, c3, rfl, _⟩ := own_row o3
        have b3 := below_then b2 b2.size b3
        go_wp2_with fail
        refine (equalInts_d _ _ _ _ _ _ [] [] _ rfl rfl (Row.empty _ _) (Row.empty _ _) (by simp) rfl).mono ?_
        rintro e w4 ⟨rfl, b4⟩
        have b4 := below_then b3 b3.size b4
        go_wp2_with fail
        refine (HKs.out _ b4 (HT1.out _ b4)).mono ?_
        rintro e w5 ⟨rfl, b5⟩
        have b5 := below_then b4 b4.size b5
        go_wp2_with fail
        refine (HKs.out _ b5 (HT1.out _ b5)).mono ?_
        rintro e w6 ⟨rfl, b6⟩
        have b6 := below_then b5 b5.size b6
        go_wp2_with fail
        refine (HKs.out _ b6 (HT1.out _ b6)).mono ?_
        rintro e w7 ⟨rfl, b7⟩
        have b7 := below_then b1 zb (below_then b6 b6.size b7)
        go_wp2_with fail
        go_ret
        exact ⟨rfl, b7⟩
      · have hX : coversP bc br hs = -1 := by unfold coversP; rw [if_neg hH]
        rw [hX] at HKs
        clear hlen1 hF hX hH
        go_wp2_with fail
        refine (HIs.out _ (Below.refl _ _) (HT1.out _ (Below.refl _ _))).mono ?_
        rintro e w2 ⟨v2, rfl, o2, b2⟩
        obtain ⟨A2, c2, rfl, _⟩ := own_row o2
        go_wp2_with fail
        refine (HSs.out _ b2).mono ?_
        rintro e w3 ⟨v3, rfl, o3, b3⟩
        obtain ⟨A3, c3, rfl, _⟩ := own_row o3
        have b3 := below_then b2 b2.size b3
        go_wp2_with fail
        refine (equalInts_d _ _ _ _ _ _ [] [] _ rfl rfl (Row.empty _ _) (Row.empty _ _) (by simp) rfl).mono ?_
        rintro e w4 ⟨rfl, b4⟩
        have b4 := below_then b3 b3.size b4
        go_wp2_with fail
        refine (HKs.out _ b4 (HT1.out _ b4)).mono ?_
        rintro e w5 ⟨rfl, b5⟩
        have b5 := below_then b4 b4.size b5
        go_wp2_with fail
        refine (equalInts_d _ _ _ _ _ _ [] [] _ rfl rfl (Row.empty _ _) (Row.empty _ _) (by simp) rfl).mono ?_
        rintro e w6 ⟨rfl, b6⟩
        have b6 := below_then b1 zb (below_then b5 b5.size b6)
        go_wp2_with fail
        go_ret
        exact ⟨rfl, b6⟩
    | some L =>
      have hF' := hF
      unfold firstL at hF'
      by_cases hHc : Holes bc br hs ∧ 0 < coversP bc br hs
      · rw [if_pos hHc] at hF'
        obtain ⟨hH, hcp⟩ := hHc
        injection hF' with hL
        obtain ⟨⟨h1, h2, h3, h4⟩, ha⟩ := id hH
        obtain ⟨x, rfl⟩ := Int.eq_ofNat_of_zero_le (show 0 ≤ bc by omega)
        obtain ⟨y, rfl⟩ := Int.eq_ofNat_of_zero_le (show 0 ≤ br by omega)
        have hxx : 1 ≤ x ∧ x ≤ 5 := by omega
        have hyy : 1 ≤ y ∧ y ≤ 5 := by omega
        have hn25 : x * y ≤ 25 := Nat.mul_le_mul hxx.2 hyy.2
        have hX : coversP (x : Int) (y : Int) hs = ((tileT x (x * y) (x * y) (inL hs) : Nat) : Int) := by unfold coversP; rw [if_pos hH]; rfl
        simp only [Int.toNat_natCast] at hL
        have hmem := asc_mem ha
        rw [← Int.natCast_mul] at hmem
        rw [hX] at hcp HKs
        obtain ⟨m, W⟩ := way_is hxx hyy (asc_nodup ha) hmem (by omega) hL
        have hbl : hs.length ≤ 25 := by have := W.num; omega
        have HRe := hide (fun (i : Nat) (hi : i < x * y) (w5 : World) => reachOf_yes (x : Int) (y : Int) (i : Int) ⟨#[115, 116, 101, 112]⟩ none 0 [] w5 (ss := straight) (far := false) (by kernel_rfl) h1 h2 h3 h4 (by omega) (by rw [← Int.natCast_mul]; omega) (Row.empty _ _) (fun ad e => by cases e) (by simp) (fun q hq => absurd hq (by simp)))
        have Hho := hide W.hole
        have Hpa := hide W.pair
        have Htop := hide W.top
        have Hnone := hide W.none_
        have hLl := hide W.len
        have emul : IntKind.i64.wrap ((x : Int) * (y : Int)) = ((x * y : Nat) : Int) := by rw [Int.natCast_mul]; exact IntWalk.i64_in _ (by rw [← Int.natCast_mul]; omega)
        have hnum := W.num
        have esub : IntKind.i64.wrap (((x * y : Nat) : Int) - (hs.length : Int)) = ((2 * m : Nat) : Int) := (IntWalk.i64_in _ (by omega)).trans (by omega)
        have hm25 : m ≤ 25 := by omega
        have Hcond : Hid ((((x * y : Nat) : Int) == (hs.length : Int)) = decide (m = 0)) := by
          show _ = _
          rw [Bool.eq_iff_iff, beq_iff_eq, decide_eq_true_eq]
          omega
        have equo : Int.tdiv ((2 * m : Nat) : Int) 2 = (m : Int) := by
          rw [Int.tdiv_eq_ediv_of_nonneg (by omega)]
          omega
        clear hnum
        have hcp0 : (0 : Int) < ((tileT x (x * y) (x * y) (inL hs) : Nat) : Int) := hcp
        rw [hF] at HIs HSs HLM
        simp only [Option.isSome_some, Option.getD_some] at HIs HSs HLM
        clear hlen1 hF hH ha hmem hX hL h1 h2 h3 h4 hxx hyy HC HII HKK W hcp
        generalize tileT x (x * y) (x * y) (inL hs) = C at *
        generalize x * y = N' at *
        go_wp2_with fail
        refine (HIs.out _ (Below.refl _ _) (HT1.out _ (Below.refl _ _))).mono ?_
        rintro e w2 ⟨v2, rfl, o2, b2⟩
        obtain ⟨A2, c2, rfl, _⟩ := own_row o2
        have RL := hide (own_reads o2)
        go_wp2_with fail
        refine (HSs.out _ b2).mono ?_
        rintro e w3 ⟨v3, rfl, o3, b3⟩
        obtain ⟨A3, c3, rfl, _⟩ := own_row o3
        have d3 := b3
        have b3 := below_then b2 b2.size b3
        go_wp2_with fail
        refine (equalInts_d _ _ _ _ _ _ L L _ rfl rfl (RL.out.below d3) (own_reads o3) HLM.out rfl).mono ?_
        rintro e w4 ⟨rfl, b4⟩
        have d4 := below_then d3 d3.size b4
        have b4 := below_then b3 b3.size b4
        go_wp2_with fail
        refine (HKs.out _ b4 (HT1.out _ b4)).mono ?_
        rintro e w5 ⟨rfl, b5⟩
        have d5 := below_then d4 d4.size b5
        have b5 := below_then b4 b4.size b5
        go_wp2_with fail
        refine (HKs.out _ b5 (HT1.out _ b5)).mono ?_
        rintro e w6 ⟨rfl, b6⟩
        have d6 := below_then d5 d5.size b6
        have b6 := below_then b5 b5.size b6
        clear o2 o3 b3 b4 b5 d3 d4 d5
        have RL6 := hide (RL.out.below d6)
        have z6 := b6.size
        go_wp2_with fail
        go_loopw [10] (fun a wr => ∃ i : Nat, i ≤ N' ∧ a = .int .i64 (i : Int) ∧ Below w6.heap.size w6 wr) (fun a _ => N' - (intOf a).toNat)
        case atStart => exact ⟨0, Nat.zero_le _, rfl, Below.refl _ _⟩
        case round =>
          obtain ⟨i, hi, rfl, hb⟩ := hrel
          obtain ⟨wo, rfl⟩ : ∃ wo : World, wo = wr := ⟨_, rfl⟩
          have z := hb.size
          by_cases hlt : i < N'
          · obtain ⟨ad, rfl, hca⟩ := (RL6.out.below hb).int (k := i) (by rw [hLl.out]; exact hlt)
            have hho := hide (Hho.out i hlt)
            have hpa := hide (Hpa.out i hlt)
            have HRi := hide (HRe.out i hlt)
            have HIN := hide (fun (w5 : World) (h5 : Below w1.heap.size w1 w5) => show Calls Tryd.prog 15 #[.slice Ah hs.length ch, .int .i64 (i : Int)] w5 fun e w' => e = .returned (.bool (inL hs i)) ∧ w' = w5 from (isIn_s Ah hs ch (i : Int) w5 (HRH.out.below h5) hm).mono fun e w' h => ⟨h.1, h.2.symm⟩)
            have i0 : (0 : Int) ≤ (i : Int) := by omega
            have i1 : (i : Int) < (L.length : Int) := by rw [hLl.out]; omega
            have hbw := below_then b6 z6 hb
            have AccA := hide (fun k => show cntA L i (k + 1) = cntA L i k + if k ≠ i ∧ L[k]?.getD 0 = L[i]?.getD 0 then 1 else 0 from rfl)
            generalize hLi : L[i]?.getD 0 = li at *
            generalize inL hs i = bi at *
            have hcase : (bi = true ∧ li < 0) ∨ (bi = false ∧ 0 ≤ li) := by
              have := hho.out
              cases bi with
              | true => exact .inl ⟨rfl, this.2 rfl⟩
              | false => exact .inr ⟨rfl, Int.not_lt.1 (fun hh => by have := this.1 hh; cases this)⟩
            clear hho
            have HLI := hide hLi
            clear hLi
            rcases hcase with ⟨rfl, hli⟩ | ⟨rfl, hli⟩
            · have hli' : decide (0 ≤ li) = false := decide_eq_false (by omega)
              have hli2 : decide (li ≥ 0) = false := decide_eq_false (by omega)
              go_wp2_with fail
              go_quiet ((go_at_call 15; exact Calls.quiet_of_same (HIN.out _ (below_drewN hbw _))))
              go_wp2_with fail
              refine (HRi.out _).mono ?_
              rintro e w7 ⟨v7, rfl, o7, b7⟩
              have b7' := below_then (below_drewN hb _) z b7
              obtain ⟨A7, c7, rfl, _⟩ := own_row o7
              have RN := hide (own_reads o7)
              have hnl : (reachP (x : Int) (y : Int) false [] (i : Int) straight).length ≤ 1000 := by have := reach_len (x : Int) (y : Int) false [] (i : Int) straight; have h4 : straight.length = 4 := rfl; omega
              generalize reachP (x : Int) (y : Int) false [] (i : Int) straight = NL at *
              clear o7 b7 HRi hca
              have hNL : NL.length ≤ maxLen := by unfold maxLen; omega
              have RLw := hide (RL6.out.below b7')
              go_wp2_with fail
              go_loopw [12, 13, 14] (fun a b q wr => ∃ k : Nat, k ≤ N' ∧ a = .int .i64 ((cntM L NL i k : Nat) : Int) ∧ b = .int .i64 ((cntA L i k : Nat) : Int) ∧ q = .int .i64 (k : Int) ∧ Below w7.heap.size w7 wr) (fun _ _ q _ => N' - (intOf q).toNat)
              case atStart => exact ⟨0, Nat.zero_le _, rfl, rfl, rfl, Below.refl _ _⟩
              case round =>
                obtain ⟨k, hk, rfl, rfl, rfl, hbk⟩ := hrel
                obtain ⟨wi, rfl⟩ : ∃ wi : World, wi = wr := ⟨_, rfl⟩
                by_cases hltk : k < N'
                · obtain ⟨adk, ek, hck⟩ := (RLw.out.below hbk).int (k := k) (by rw [hLl.out]; exact hltk)
                  obtain rfl : ad = adk := by injection ek
                  obtain ⟨adi, ei, hci⟩ := (RLw.out.below hbk).int (k := i) (by rw [hLl.out]; exact hlt)
                  obtain rfl : ad = adi := by injection ei
                  rw [HLI.out] at hci
                  have hA : Hid (cntA L i (k + 1) = cntA L i k + if k ≠ i ∧ L[k]?.getD 0 = L[i]?.getD 0 then 1 else 0) := rfl
                  have hM : Hid (cntM L NL i (k + 1) = cntM L NL i k + if k ≠ i ∧ L[k]?.getD 0 = L[i]?.getD 0 ∧ NL.contains (k : Int) = true then 1 else 0) := rfl
                  have hA1 := cntA_le L i k
                  have hM1 := cntM_le L NL i k
                  rw [HLI.out] at hA hM
                  have HIK := hide (fun (w5 : World) (h5 : Below w7.heap.size w7 w5) => (isIn_s A7 NL c7 (k : Int) w5 (RN.out.below h5) hNL))
                  generalize L[k]?.getD 0 = lk at *
                  generalize cntA L i k = ca at *
                  generalize cntM L NL i k = cm at *
                  have k0 : (0 : Int) ≤ (k : Int) := by omega
                  have k1 : (k : Int) < (L.length : Int) := by rw [hLl.out]; omega
                  have ea : IntKind.i64.wrap ((ca : Int) + 1) = ((ca + 1 : Nat) : Int) := (IntWalk.i64_in _ (by omega)).trans (by omega)
                  have em : IntKind.i64.wrap ((cm : Int) + 1) = ((cm + 1 : Nat) : Int) := (IntWalk.i64_in _ (by omega)).trans (by omega)
                  clear ek ei
                  by_cases hki : k = i
                  · have hne : ((k : Int) != (i : Int)) = false := by rw [hki]; simp
                    have hA2 : Hid (cntA L i (k + 1) = ca) := hA.out.trans (by rw [if_neg (fun hh => hh.1 hki)]; rfl)
                    have hM2 : Hid (cntM L NL i (k + 1) = cm) := hM.out.trans (by rw [if_neg (fun hh => hh.1 hki)]; rfl)
                    have hki' := hide hki
                    clear hki hA hM
                    go_wp2_with fail
                    go_quiet (fail)
                    go_wp2_with fail
                    exact ⟨⟨k + 1, hltk, by rw [hM2.out], by rw [hA2.out], by go_num, below_drewN hbk _⟩, by simp [intOf]; omega⟩
                  · have hne : ((k : Int) != (i : Int)) = true := by rw [bne_iff_ne]; omega
                    by_cases hle : lk = li
                    · have hq : (lk == li) = true := by rw [hle]; simp
                      have HQ := hide hle
                      clear hle
                      have hA2 : Hid (cntA L i (k + 1) = ca + 1) := hA.out.trans (by rw [if_pos ⟨hki, HQ.out⟩])
                      cases hc : NL.contains (k : Int) with
                      | true =>
                        have hM2 : Hid (cntM L NL i (k + 1) = cm + 1) := hM.out.trans (by rw [if_pos ⟨hki, HQ.out, hc⟩])
                        rw [hc] at HIK
                        have hki' := hide hki
                        clear hki hA hM hc
                        go_wp2_with fail
                        go_quiet (fail)
                        go_wp2_with fail
                        refine (HIK.out _ (below_drewN hbk _)).mono ?_
                        rintro e w8 ⟨rfl, rfl⟩
                        go_wp2_with fail
                        exact ⟨⟨k + 1, hltk, by rw [hM2.out]; go_num, by rw [hA2.out]; go_num, by go_num, below_drewN hbk _⟩, by simp [intOf]; omega⟩
                      | false =>
                        have hM2 : Hid (cntM L NL i (k + 1) = cm) := hM.out.trans (by rw [if_neg (fun hh => by have := hh.2.2; rw [hc] at this; cases this)]; rfl)
                        rw [hc] at HIK
                        have hki' := hide hki
                        clear hki hA hM hc
                        go_wp2_with fail
                        go_quiet (fail)
                        go_wp2_with fail
                        refine (HIK.out _ (below_drewN hbk _)).mono ?_
                        rintro e w8 ⟨rfl, rfl⟩
                        go_wp2_with fail
                        exact ⟨⟨k + 1, hltk, by rw [hM2.out], by rw [hA2.out]; go_num, by go_num, below_drewN hbk _⟩, by simp [intOf]; omega⟩
                    · have hq : (lk == li) = false := by simpa using hle
                      have hA2 : Hid (cntA L i (k + 1) = ca) := hA.out.trans (by rw [if_neg (fun hh => hle hh.2)]; rfl)
                      have hM2 : Hid (cntM L NL i (k + 1) = cm) := hM.out.trans (by rw [if_neg (fun hh => hle hh.2.1)]; rfl)
                      have hki' := hide hki
                      clear hki hA hM hle
                      go_wp2_with fail
                      go_quiet (fail)
                      go_wp2_with fail
                      exact ⟨⟨k + 1, hltk, by rw [hM2.out], by rw [hA2.out], by go_num, below_drewN hbk _⟩, by simp [intOf]; omega⟩
                · obtain rfl : N' = k := by omega
                  obtain ⟨adi, ei, hci⟩ := (RLw.out.below hbk).int (k := i) (by rw [hLl.out]; exact hlt)
                  obtain rfl : ad = adi := by injection ei
                  rw [HLI.out] at hci
                  have i1' : (i : Int) < (L.length : Int) := by rw [hLl.out]; omega
                  have hbe := below_then b7' b7'.size hbk
                  have kk : ¬ (N' : Int) < (L.length : Int) := by rw [hLl.out]; omega
                  clear ei
                  go_wp2_with fail
                  exact ⟨⟨i + 1, hlt, by go_num, hbe⟩, by simp [intOf]; omega⟩
            · have hli' : decide (0 ≤ li) = true := decide_eq_true hli
              have hli2 : decide (li ≥ 0) = true := decide_eq_true hli
              go_wp2_with fail
              go_quiet ((go_at_call 15; exact Calls.quiet_of_same (HIN.out _ (below_drewN hbw _))))
              go_wp2_with fail
              refine (HRi.out _).mono ?_
              rintro e w7 ⟨v7, rfl, o7, b7⟩
              have b7' := below_then (below_drewN hb _) z b7
              obtain ⟨A7, c7, rfl, _⟩ := own_row o7
              have RN := hide (own_reads o7)
              have hnl : (reachP (x : Int) (y : Int) false [] (i : Int) straight).length ≤ 1000 := by have := reach_len (x : Int) (y : Int) false [] (i : Int) straight; have h4 : straight.length = 4 := rfl; omega
              generalize reachP (x : Int) (y : Int) false [] (i : Int) straight = NL at *
              clear o7 b7 HRi hca
              have hNL : NL.length ≤ maxLen := by unfold maxLen; omega
              have RLw := hide (RL6.out.below b7')
              go_wp2_with fail
              go_loopw [12, 13, 14] (fun a b q wr => ∃ k : Nat, k ≤ N' ∧ a = .int .i64 ((cntM L NL i k : Nat) : Int) ∧ b = .int .i64 ((cntA L i k : Nat) : Int) ∧ q = .int .i64 (k : Int) ∧ Below w7.heap.size w7 wr) (fun _ _ q _ => N' - (intOf q).toNat)
              case atStart => exact ⟨0, Nat.zero_le _, rfl, rfl, rfl, Below.refl _ _⟩
              case round =>
                obtain ⟨k, hk, rfl, rfl, rfl, hbk⟩ := hrel
                obtain ⟨wi, rfl⟩ : ∃ wi : World, wi = wr := ⟨_, rfl⟩
                by_cases hltk : k < N'
                · obtain ⟨adk, ek, hck⟩ := (RLw.out.below hbk).int (k := k) (by rw [hLl.out]; exact hltk)
                  obtain rfl : ad = adk := by injection ek
                  obtain ⟨adi, ei, hci⟩ := (RLw.out.below hbk).int (k := i) (by rw [hLl.out]; exact hlt)
                  obtain rfl : ad = adi := by injection ei
                  rw [HLI.out] at hci
                  have hA : Hid (cntA L i (k + 1) = cntA L i k + if k ≠ i ∧ L[k]?.getD 0 = L[i]?.getD 0 then 1 else 0) := rfl
                  have hM : Hid (cntM L NL i (k + 1) = cntM L NL i k + if k ≠ i ∧ L[k]?.getD 0 = L[i]?.getD 0 ∧ NL.contains (k : Int) = true then 1 else 0) := rfl
                  have hA1 := cntA_le L i k
                  have hM1 := cntM_le L NL i k
                  rw [HLI.out] at hA hM
                  have HIK := hide (fun (w5 : World) (h5 : Below w7.heap.size w7 w5) => (isIn_s A7 NL c7 (k : Int) w5 (RN.out.below h5) hNL))
                  generalize L[k]?.getD 0 = lk at *
                  generalize cntA L i k = ca at *
                  generalize cntM L NL i k = cm at *
                  have k0 : (0 : Int) ≤ (k : Int) := by omega
                  have k1 : (k : Int) < (L.length : Int) := by rw [hLl.out]; omega
                  have ea : IntKind.i64.wrap ((ca : Int) + 1) = ((ca + 1 : Nat) : Int) := (IntWalk.i64_in _ (by omega)).trans (by omega)
                  have em : IntKind.i64.wrap ((cm : Int) + 1) = ((cm + 1 : Nat) : Int) := (IntWalk.i64_in _ (by omega)).trans (by omega)
                  clear ek ei
                  by_cases hki : k = i
                  · have hne : ((k : Int) != (i : Int)) = false := by rw [hki]; simp
                    have hA2 : Hid (cntA L i (k + 1) = ca) := hA.out.trans (by rw [if_neg (fun hh => hh.1 hki)]; rfl)
                    have hM2 : Hid (cntM L NL i (k + 1) = cm) := hM.out.trans (by rw [if_neg (fun hh => hh.1 hki)]; rfl)
                    have hki' := hide hki
                    clear hki hA hM
                    go_wp2_with fail
                    go_quiet (fail)
                    go_wp2_with fail
                    exact ⟨⟨k + 1, hltk, by rw [hM2.out], by rw [hA2.out], by go_num, below_drewN hbk _⟩, by simp [intOf]; omega⟩
                  · have hne : ((k : Int) != (i : Int)) = true := by rw [bne_iff_ne]; omega
                    by_cases hle : lk = li
                    · have hq : (lk == li) = true := by rw [hle]; simp
                      have HQ := hide hle
                      clear hle
                      have hA2 : Hid (cntA L i (k + 1) = ca + 1) := hA.out.trans (by rw [if_pos ⟨hki, HQ.out⟩])
                      cases hc : NL.contains (k : Int) with
                      | true =>
                        have hM2 : Hid (cntM L NL i (k + 1) = cm + 1) := hM.out.trans (by rw [if_pos ⟨hki, HQ.out, hc⟩])
                        rw [hc] at HIK
                        have hki' := hide hki
                        clear hki hA hM hc
                        go_wp2_with fail
                        go_quiet (fail)
                        go_wp2_with fail
                        refine (HIK.out _ (below_drewN hbk _)).mono ?_
                        rintro e w8 ⟨rfl, rfl⟩
                        go_wp2_with fail
                        exact ⟨⟨k + 1, hltk, by rw [hM2.out]; go_num, by rw [hA2.out]; go_num, by go_num, below_drewN hbk _⟩, by simp [intOf]; omega⟩
                      | false =>
                        have hM2 : Hid (cntM L NL i (k + 1) = cm) := hM.out.trans (by rw [if_neg (fun hh => by have := hh.2.2; rw [hc] at this; cases this)]; rfl)
                        rw [hc] at HIK
                        have hki' := hide hki
                        clear hki hA hM hc
                        go_wp2_with fail
                        go_quiet (fail)
                        go_wp2_with fail
                        refine (HIK.out _ (below_drewN hbk _)).mono ?_
                        rintro e w8 ⟨rfl, rfl⟩
                        go_wp2_with fail
                        exact ⟨⟨k + 1, hltk, by rw [hM2.out], by rw [hA2.out]; go_num, by go_num, below_drewN hbk _⟩, by simp [intOf]; omega⟩
                    · have hq : (lk == li) = false := by simpa using hle
                      have hA2 : Hid (cntA L i (k + 1) = ca) := hA.out.trans (by rw [if_neg (fun hh => hle hh.2)]; rfl)
                      have hM2 : Hid (cntM L NL i (k + 1) = cm) := hM.out.trans (by rw [if_neg (fun hh => hle hh.2.1)]; rfl)
                      have hki' := hide hki
                      clear hki hA hM hle
                      go_wp2_with fail
                      go_quiet (fail)
                      go_wp2_with fail
                      exact ⟨⟨k + 1, hltk, by rw [hM2.out], by rw [hA2.out], by go_num, below_drewN hbk _⟩, by simp [intOf]; omega⟩
                · obtain rfl : N' = k := by omega
                  obtain ⟨adi, ei, hci⟩ := (RLw.out.below hbk).int (k := i) (by rw [hLl.out]; exact hlt)
                  obtain rfl : ad = adi := by injection ei
                  rw [HLI.out] at hci
                  have i1' : (i : Int) < (L.length : Int) := by rw [hLl.out]; omega
                  have hbe := below_then b7' b7'.size hbk
                  have kk : ¬ (N' : Int) < (L.length : Int) := by rw [hLl.out]; omega
                  clear ei
                  obtain ⟨pa, pm⟩ := hpa.out trivial
                  rw [pa, pm]
                  go_wp2_with fail
                  exact ⟨⟨i + 1, hlt, by go_num, hbe⟩, by simp [intOf]; omega⟩
          · obtain rfl : N' = i := by omega
            have hbw := below_then b6 z6 hb
            have RLe := hide (RL6.out.below hb)
            have HGr := hide (fun (w5 : World) (h5 : Below wo.heap.size wo w5) => by
              have := greatest_c A2 L c2 w5 (RLe.out.below h5) HLM.out
              have em : maxTo L L.length = maxTo L N' := by rw [hLl.out]
              rw [em] at this
              exact this)
            have kk : ¬ (N' : Int) < (L.length : Int) := by rw [hLl.out]; omega
            rcases Nat.eq_zero_or_pos m with hm0 | hm0
            · subst hm0
              have hv := Hnone.out rfl
              rw [hv] at HGr
              have hq : ((N' : Int) == (hs.length : Int)) = true := Hcond.out.trans (by simp)
              have hq1 : ((1 : Int) == 0) = false := by decide
              have esub' : IntKind.i64.wrap ((N' : Int) - (hs.length : Int)) = 0 := esub.trans (by simp)
              clear esub equo Hcond hv
              go_wp2_with fail
              refine (HGr.out _ (Below.refl _ _)).mono ?_
              rintro e w8 ⟨rfl, b8⟩
              have b8 := below_then b1 zb (below_then hbw hbw.size b8)
              go_wp2_with fail
              go_ret
              exact ⟨rfl, b8⟩
            · have hv := Htop.out hm0
              rw [hv] at HGr
              have e1 : IntKind.i64.wrap ((m : Int) - 1 + 1) = (m : Int) := (IntWalk.i64_in _ (by omega)).trans (by omega)
              have e2 : (m : Int) - 1 + 1 = (m : Int) := by omega
              have hq : ((m : Int) == (m : Int)) = true := by simp
              have ew : IntKind.i64.wrap (m : Int) = (m : Int) := IntWalk.i64_in _ (by omega)
              obtain ⟨mm, hmm⟩ : ∃ mm : Int, (m : Int) - 1 = mm := ⟨_, rfl⟩
              rw [hmm] at HGr e1 e2
              clear Hcond hv hmm
              go_wp2_with fail
              refine (HGr.out _ (Below.refl _ _)).mono ?_
              rintro e w8 ⟨rfl, b8⟩
              have b8 := below_then b1 zb (below_then hbw hbw.size b8)
              go_wp2_with fail
              go_ret
              exact ⟨rfl, b8⟩
      · rw [if_neg hHc] at hF'
        cases hF'
end Go.Proofs.YtbecnjfdolagcacDoor

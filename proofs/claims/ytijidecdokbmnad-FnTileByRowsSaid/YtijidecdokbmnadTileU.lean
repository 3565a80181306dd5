
/-
  Covers of boards: the model's TileByRows.
-/
import Derived.Test.YtijidecdokbmnadTileS
import Derived.StillTailTactics
namespace Go.Proofs.Ytijidecdokbmnad
open Go.RowKit
set_option linter.unusedVariables false

theorem spr_congr {w : Nat} (hw : 1 ≤ w) {g g' : Nat → Bool} (h : ∀ i, i < w → g i = g' i) (s : Nat) (next : Nat → Nat) : ∀ (j d : Nat), j ≤ w → spr w g s next j d = spr w g' s next j d
  | 0, d, _ => rfl
  | 1, d, _ => by rw [spr_one, spr_one, h (w - 1) (by omega)]
  | j + 2, d, hj => by
    rw [spr_two, spr_two, h (w - (j + 2)) (by omega), h (w - (j + 2) + 1) (by omega), spr_congr hw h s next (j + 1) d (by omega), spr_congr hw h s next (j + 1) _ (by omega), spr_congr hw h s next j d (by omega)]
def nowL (w : Nat) (g : Nat → Bool) (r : Nat) : List Nat := (List.range (2 ^ w)).map (nowT w g r)
def partL (w : Nat) (g : Nat → Bool) (r S : Nat) : List Nat := (List.range (2 ^ w)).map (nextT w (rowG w r g) (nowT w g r) S)
theorem nowL_len (w : Nat) (g : Nat → Bool) (r : Nat) : (nowL w g r).length = 2 ^ w := by simp [nowL]
theorem partL_len (w : Nat) (g : Nat → Bool) (r S : Nat) : (partL w g r S).length = 2 ^ w := by simp [partL]
theorem nowL_at {w : Nat} {g : Nat → Bool} {r s : Nat} (h : s < 2 ^ w) : (nowL w g r)[s]?.getD 0 = nowT w g r s := by
  simp [nowL, List.getElem?_map, List.getElem?_range h]
theorem partL_at {w : Nat} {g : Nat → Bool} {r S t : Nat} (h : t < 2 ^ w) : (partL w g r S)[t]?.getD 0 = nextT w (rowG w r g) (nowT w g r) S t := by
  simp [partL, List.getElem?_map, List.getElem?_range h]
theorem partL_zero (w : Nat) (g : Nat → Bool) (r : Nat) : partL w g r 0 = List.replicate (2 ^ w) 0 := by
  apply List.ext_getElem
  · simp [partL]
  · intro i h1 h2; simp [partL, nextT, sumN]
theorem partL_full (w : Nat) (g : Nat → Bool) (r : Nat) : partL w g r (2 ^ w) = nowL w g (r + 1) := rfl
theorem partL_skip {w : Nat} {g : Nat → Bool} {r S : Nat} (h : nowT w g r S = 0) : partL w g r (S + 1) = partL w g r S := by
  unfold partL
  refine List.map_congr_left fun t _ => ?_
  unfold nextT
  simp only [sumN]
  rw [h]; simp
theorem partL_add {w : Nat} (hw : 1 ≤ w) {g g' : Nat → Bool} {r S : Nat} (hg : ∀ i, i < w → g' i = rowG w r g i) : addT w g' S w 0 (nowT w g r S) (partL w g r S) = partL w g r (S + 1) := by
  symm
  refine addT_same (by rw [partL_len, partL_len]) fun t ht => ?_
  rw [partL_len] at ht
  rw [partL_at ht, partL_at ht, spr_congr hw hg S (ind t) w 0 (Nat.le_refl _)]
  rfl
theorem pow1024 {r : Nat} (h : r ≤ 5) : 1024 ^ r ≤ 1125899906842624 := Nat.le_trans (Nat.pow_le_pow_right (by omega) h) (by decide)
theorem part_room {w : Nat} (hw : w ≤ 5) (g : Nat → Bool) {r S : Nat} (hr : r < 5) (hS : S < 2 ^ w) : RoomT (partL w g r S) (nowT w g r S) w := fun t ht => by
  rw [partL_len] at ht
  rw [partL_at ht]
  have h1 := part_bd hw g r S t (by omega)
  have h2 := pow1024 (r := r + 1) (by omega)
  have h3 := now_bd hw g r S
  have h4 := pow1024 (r := r) (by omega)
  have h5 : 2 ^ w ≤ 32 := Nat.le_trans (Nat.pow_le_pow_right (by omega) hw) (by decide)
  have h6 : nowT w g r S * 2 ^ w ≤ 1125899906842624 * 32 := Nat.mul_le_mul (by omega) h5
  omega
theorem now_zero (w : Nat) (g : Nat → Bool) : (List.replicate (2 ^ w) 0).set 0 1 = nowL w g 0 := by
  apply List.ext_getElem
  · simp [nowL]
  · intro i h1 h2
    rw [List.getElem_set]
    simp only [nowL, List.getElem_map, List.getElem_range, List.getElem_replicate]
    show _ = if i = 0 then 1 else 0
    by_cases e : 0 = i
    · rw [if_pos e, if_pos e.symm]
    · rw [if_neg e, if_neg (fun h => e h.symm)]
theorem made_nats {w : World} {base : Nat} {v : Value} {n : Nat} {z : Value} (hz : z.cells = #[z]) (h : w.ownsRow base 3 1 v n (madeCells z.cells (n * 1)).toList) : w.ownsRow base 3 1 v n (List.replicate n z) := by
  rwa [hz, Nat.mul_one, toList_madeCells_one] at h
theorem natV_rep (n : Nat) : ints (natV (List.replicate n 0)) = List.replicate n (.int .i64 0) := by simp [natV, ints]

theorem row_sub {w : World} {g : Nat} {l : List Bool} (h : Row w (some ⟨g, 0, none⟩) (boolsV l)) (lo k : Nat) : Row w (some ⟨g, lo, none⟩) (boolsV ((l.drop lo).take k)) := fun i hi => by
  simp only [List.length_map, List.length_take, List.length_drop] at hi
  obtain ⟨ad, e, hc⟩ := h (lo + i) (by simp; omega)
  injection e with e
  subst e
  refine ⟨_, rfl, ?_⟩
  have e1 : (⟨g, lo, none⟩ : Addr).add i = (⟨g, 0, none⟩ : Addr).add (lo + i) := by
    unfold Addr.add
    by_cases h0 : i = 0
    · subst h0
      by_cases h1 : lo = 0
      · subst h1; rfl
      · rw [if_pos rfl, if_neg (by omega)]; simp
    · rw [if_neg h0, if_neg (by omega)]; simp
  rw [e1, hc]
  simp
theorem own_free0 {w w' : World} {base e size n : Nat} {v : Value} {xs : List Value} (h : w.ownsRow base e size v n xs) (hg : w.grownBy w' none) : w'.ownsRow base e size v n xs := h.kept hg (by cases hv : v.ownBlock <;> simp)
theorem own_freeS {w w' : World} {base e size n g : Nat} {v : Value} {xs : List Value} (h : w.ownsRow base e size v n xs) (hg : w.grownBy w' (some g)) (hne : v.ownBlock ≠ some g) : w'.ownsRow base e size v n xs := h.kept hg (.inr hne)

set_option maxHeartbeats 4000000 in
set_option maxRecDepth 100000 in
theorem tileByRows_c (bc br : Int) (A : Option Addr) (c : Nat) (hs : List Int) (W : World) (hr : Row W A (ints hs)) (hm : hs.length ≤ maxLen) :
    Calls Try.prog 5 #[.int .i64 bc, .int .i64 br, .slice A hs.length c] W (Plain (.int .i64 (coversP bc br hs)) W) := by
  have HV := hide (validHoles_c bc br A c hs W hr hm)
  by_cases hH : Holes bc br hs
  · rw [decide_eq_true hH] at HV
    obtain ⟨⟨h1, h2, h3, h4⟩, ha⟩ := hH
    obtain ⟨w, rfl⟩ := Int.eq_ofNat_of_zero_le (show 0 ≤ bc by omega)
    obtain ⟨h, rfl⟩ := Int.eq_ofNat_of_zero_le (show 0 ≤ br by omega)
    have w1 : 1 ≤ w := by omega
    have w5 : w ≤ 5 := by omega
    have hh1 : 1 ≤ h := by omega
    have hh5 : h ≤ 5 := by omega
    have hmem := asc_mem ha
    rw [← Int.natCast_mul] at hmem
    have hX : coversP (w : Int) (h : Int) hs = ((nowT w (inL hs) h 0 : Nat) : Int) := by
      unfold coversP
      rw [if_pos ⟨⟨h1, h2, h3, h4⟩, ha⟩, now_end w5, ← tile_rows ⟨w1, w5⟩]
      rfl
    have HO := hide (fun (w5 : World) (h5 : Row w5 A (ints hs)) => holesOf_c (w : Int) (h : Int) (w * h) A c hs w5 ⟨⟨h1, h2, h3, h4⟩, ha⟩ (by rw [Int.natCast_mul]) h5 hm)
    have HF := hide (mask_fn hmem)
    have HL := hide (mask_len (w * h) hs)
    rw [hX]
    clear hX ha hmem h1 h2 h3 h4 hm
    have HP := hide (fun w' => specPower9_c w (by omega) w')
    have HSP := hide (fun gl hgl s hs x A ca base g c hA => spread_c w ⟨w1, w5⟩ gl hgl s hs x A ca base g c hA w (Nat.le_refl _) 0 (Nat.pow_pos (by omega)))
    rw [Nat.sub_self] at HSP
    have hln : (w * h) ≤ 25 := Nat.mul_le_mul w5 hh5
    have HROW := hide (fun r (hr : r < h) => show r * w + w ≤ w * h by
      have := Nat.mul_le_mul_right w (show r + 1 ≤ h from hr)
      rw [Nat.add_mul, Nat.mul_comm h w] at this
      omega)
    have HZ := hide (now_zero w (inL hs))
    have HPZ := hide (fun r => partL_zero w (inL hs) r)
    have HPF := hide (fun r => partL_full w (inL hs) r)
    have HPS := hide (fun r S => partL_skip (w := w) (g := inL hs) (r := r) (S := S))
    have HPA := hide (fun r S g' => partL_add w1 (g := inL hs) (g' := g') (r := r) (S := S))
    have HNL := hide (fun r => nowL_len w (inL hs) r)
    have HPL := hide (fun r S => partL_len w (inL hs) r S)
    have HNA := hide (fun r s => nowL_at (w := w) (g := inL hs) (r := r) (s := s))
    have HPR := hide (fun r S (hr : r < 5) => part_room w5 (inL hs) (r := r) (S := S) hr)
    have HNB := hide (fun r (hr : r ≤ 5) t => Nat.le_trans (now_bd w5 (inL hs) r t) (pow1024 hr))
    obtain ⟨i0, hi0, hz0, hz1, hz2⟩ := info_of (P := Try.prog) (e := 3) (z := .int .i64 0) (size := 1) (bytes := 8) (by kernel_rfl)
    have p1 : 1 ≤ 2 ^ w := Nat.one_le_two_pow
    have p32 : 2 ^ w ≤ 32 := Nat.le_trans (Nat.pow_le_pow_right (by omega) w5) (by decide)
    generalize hn : w * h = n at *
    generalize hP : (2 ^ w : Nat) = P at *
    clear hP
    go_enter Try.func5, Try.ntmps5
    go_wp2_with fail
    refine HV.out.mono ?_
    rintro e w1' ⟨rfl, b1⟩
    have R1 := hide (hr.below b1)
    go_wp2_with fail
    refine (HO.out _ R1.out).mono ?_
    rintro e w2 ⟨g0, rfl, o2, b2⟩
    have b2 := below_then b1 b1.size b2
    have O2 := hide (own_mono o2 b1.size)
    clear o2
    have zb2 := b2.size
    go_wp2_with fail
    refine (HP.out _).mono ?_
    rintro e w3 ⟨rfl, rfl⟩
    go_wp2_with ((at_make; refine wpList_make_full _ rfl (.tmp 22) (.tmp 22) 22 rfl w2.heap.size 3 i0 (.int .i64 0) 1 Try.underlying22 hi0 hz0 hz1 .i64 .i64 P P P rfl rfl rfl rfl (by rw [hz2]; omega) (by simp [maxLen]; omega) (Nat.le_refl _) ?_; intro w4 own4 hg4; have own4 := made_nats rfl own4; rw [← natV_rep] at own4; have hb4 := b2.grown hg4 b2.size (fun k h => by cases h); have O4 := hide (own_free0 O2.out hg4); clear hg4; obtain ⟨c1, c2, c3, c4⟩ := own_nat own4 (k := 0) (by omega) 1; rw [HZ.out] at c3; have C3 := hide c3; have O5 := hide (own_freeS O4.out c4 (fun e => by have := (O2.out.lt _ e).2; omega)); have B5 := hide (hb4.grown c4 hb4.size (fun j e => by injection e with e; omega)); clear c3 c4 own4 hb4))
    go_loopw [8, 9] (fun v i wr => ∃ (r gn : Nat), r ≤ h ∧ i = .int .i64 (r : Int) ∧ v = .slice (some ⟨gn, 0, none⟩) P P ∧ wr.ownsRow W.heap.size 3 1 (.slice (some ⟨gn, 0, none⟩) P P) P (ints (natV (nowL w (inL hs) r))) ∧ wr.ownsRow W.heap.size 4 1 (.slice (some ⟨g0, 0, none⟩) n n) n (boolsV (maskL n hs)) ∧ Below W.heap.size W wr) (fun _ i _ => h - (intOf i).toNat)
    case atStart => exact ⟨0, _, Nat.zero_le _, rfl, rfl, own_mono C3.out zb2, O5.out, B5.out⟩
    case round =>
      clear C3 O4 O5 B5 zb2 O2 R1
      obtain ⟨r, gn, hrh, rfl, rfl, onow, ogone, hb⟩ := hrel
      obtain ⟨wo, rfl⟩ : ∃ wo : World, wo = wr := ⟨_, rfl⟩
      have hlN := (onow.lt gn rfl).2
      have hlG := (ogone.lt g0 rfl).2
      have zo := hb.size
      by_cases hlt : r < h
      · have ON := hide onow
        have OG := hide ogone
        clear onow ogone
        go_wp2_with fail
        refine (HP.out _).mono ?_
        rintro e w3 ⟨rfl, rfl⟩
        go_wp2_with ((at_make; refine wpList_make_full _ rfl (.tmp 32) (.tmp 32) 22 rfl wo.heap.size 3 i0 (.int .i64 0) 1 Try.underlying22 hi0 hz0 hz1 .i64 .i64 P P P rfl rfl rfl rfl (by rw [hz2]; omega) (by simp [maxLen]; omega) (Nat.le_refl _) ?_; intro w4 own4 hg4; have own4 := made_nats rfl own4; rw [← natV_rep, ← HPZ.out r] at own4; have hb4 := hb.grown hg4 hb.size (fun k h => by cases h); have ON4 := hide (own_free0 ON.out hg4); have OG4 := hide (own_free0 OG.out hg4); clear hg4))
        obtain ⟨gx, hgx⟩ : ∃ gx, wo.heap.size = gx := ⟨_, rfl⟩
        rw [hgx] at own4 hlN hlG zo ⊢
        go_loopw [11] (fun i wi => ∃ S : Nat, S ≤ P ∧ i = .int .i64 (S : Int) ∧ wi.ownsRow gx 3 1 (.slice (some ⟨gx, 0, none⟩) P P) P (ints (natV (partL w (inL hs) r S))) ∧ wi.ownsRow W.heap.size 3 1 (.slice (some ⟨gn, 0, none⟩) P P) P (ints (natV (nowL w (inL hs) r))) ∧ wi.ownsRow W.heap.size 4 1 (.slice (some ⟨g0, 0, none⟩) n n) n (boolsV (maskL n hs)) ∧ Below W.heap.size W wi) (fun i _ => P - (intOf i).toNat)
        case atStart => exact ⟨0, Nat.zero_le _, rfl, own4, ON4.out, OG4.out, hb4⟩
        case round =>
          clear own4 ON4 OG4 hb4 ON OG hb hgx
          obtain ⟨S, hS, rfl, onx, onow, ogone, hb⟩ := hrel
          obtain ⟨wi, rfl⟩ : ∃ wi : World, wi = wr := ⟨_, rfl⟩
          by_cases hSl : S < P
          · have hcn := (own_nat onow (k := S) hSl 0).1
            rw [HNA.out r S hSl] at hcn
            have hnb := HNB.out r (by omega) S
            by_cases hz : nowT w (inL hs) r S = 0
            · have HPx := hide (HPS.out r S hz)
              rw [hz] at hcn
              go_wp2_with fail
              refine (HP.out _).mono ?_
              rintro e w7 ⟨rfl, rfl⟩
              go_wp2_with fail
              exact ⟨⟨S + 1, hSl, rfl, by rw [HPx.out]; exact onx, onow, ogone, hb⟩, by simp [intOf]; omega⟩
            · have hroom := HPR.out r S (by omega) hSl
              have hrw := HROW.out r hlt
              obtain ⟨x, hxx⟩ : ∃ x, nowT w (inL hs) r S = x := ⟨_, rfl⟩
              rw [hxx] at hcn hnb hroom hz
              have HXX := hide hxx
              clear hxx
              have hx0 : (0 : Int) < (x : Int) := by omega
              obtain ⟨lo, hlo⟩ : ∃ lo, r * w = lo := ⟨_, rfl⟩
              have e1 : IntKind.i64.wrap ((r : Int) * (w : Int)) = (lo : Int) := (IntWalk.i64_in _ (by rw [← Int.natCast_mul, hlo]; omega)).trans (by rw [← Int.natCast_mul, hlo])
              obtain ⟨r1, hr1⟩ : ∃ r1, r + 1 = r1 := ⟨_, rfl⟩
              have e3 : IntKind.i64.wrap ((r : Int) + 1) = (r1 : Int) := (IntWalk.i64_in _ (by omega)).trans (by omega)
              rw [hlo] at hrw
              obtain ⟨hi, hhi⟩ : ∃ hi, lo + w = hi := ⟨_, rfl⟩
              have e2 : IntKind.i64.wrap ((r1 : Int) * (w : Int)) = (hi : Int) := by
                have : r1 * w = hi := by rw [← hr1, Nat.add_mul, hlo]; omega
                rw [← Int.natCast_mul, this]
                exact IntWalk.i64_in _ (by omega)
              have l1 : lo ≤ hi := by omega
              have l2 : (hi : Int) ≤ (n : Int) := by omega
              have l3 : ¬ n = lo := by omega
              have l4 : hi - lo = w := by omega
              have l5 : (0 : Int) ≤ (hi : Int) := by omega
              have l6 : (lo : Int) ≤ (hi : Int) := by omega
              clear hr1
              go_wp2_with fail
              refine (HP.out _).mono ?_
              rintro e w7 ⟨rfl, rfl⟩
              go_wp2_with fail
              go_still_tail 16, (by kernel_rfl)
              have onxd := onx.drew
              have onowd := onow.drew
              have ogoned := ogone.drew
              have hbd := hb.drew
              change wpList _ _ _ _ _ wi.drew
              clear onx onow ogone hb hcn
              generalize wi.drew = wd at *
              go_wp2_with fail
              refine (HSP.out (((maskL n hs).drop lo).take w) (by rw [List.length_take, List.length_drop, HL.out]; omega) S hSl x (some ⟨g0, lo, none⟩) (n - lo) gx gx P (fun ad e => by injection e with e; subst e; show g0 ≠ gx; omega) _ wd onxd (row_sub (own_reads ogoned) lo w) hroom).mono ?_
              rintro e w8 ⟨rfl, o8, g8⟩
              have HE := HPA.out r S (fnB (((maskL n hs).drop lo).take w)) (fun i hi => by
                unfold fnB
                rw [List.getElem?_take_of_lt hi, List.getElem?_drop]
                have := congrFun HF.out (lo + i)
                unfold fnB at this
                rw [this, ← hlo]
                rfl)
              rw [HXX.out] at HE
              rw [HE] at o8
              have X1 := hide (own_freeS onowd g8 (fun e => by
                have e' : gn = gx := by injection (show some gn = some gx from e)
                omega))
              have X2 := hide (own_freeS ogoned g8 (fun e => by
                have e' : g0 = gx := by injection (show some g0 = some gx from e)
                omega))
              have X3 := hide (hbd.grown g8 hbd.size (fun j e => by injection e with e; omega))
              have X4 := hide o8
              clear onxd onowd ogoned hbd o8 g8 HE hroom
              go_wp2_with fail
              exact ⟨⟨S + 1, hSl, rfl, X4.out, X1.out, X2.out, X3.out⟩, by simp [intOf]; omega⟩
          · obtain rfl : S = P := by omega
            rw [HPF.out r] at onx
            have X1 := hide onx
            have X2 := hide ogone
            have X3 := hide hb
            clear onx onow ogone hb
            go_wp2_with fail
            refine (HP.out _).mono ?_
            rintro e w7 ⟨rfl, rfl⟩
            go_wp2_with fail
            go_round
            case rel => exact ⟨r + 1, gx, hlt, rfl, rfl, own_mono X1.out zo, X2.out, X3.out⟩
            case measure => simp [intOf]; omega
      · obtain rfl : r = h := by omega
        have hc0 := (own_nat onow (k := 0) (by omega) 0).1
        rw [HNA.out r 0 (by omega)] at hc0
        go_wp2_with fail
        go_ret
        exact ⟨rfl, hb⟩
  · rw [decide_eq_false hH] at HV
    have hX : coversP bc br hs = -1 := by unfold coversP; rw [if_neg hH]
    rw [hX]
    clear hX hH hr
    go_enter Try.func5, Try.ntmps5
    go_wp2_with fail
    refine HV.out.mono ?_
    rintro e w1 ⟨rfl, b1⟩
    go_wp2_with fail
    go_ret
    exact ⟨rfl, b1⟩
end Go.Proofs.Ytijidecdokbmnad

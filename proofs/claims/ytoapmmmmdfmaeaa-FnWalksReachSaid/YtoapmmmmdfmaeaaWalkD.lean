
/-
  Walks: the model's WalkCount.
-/
import Derived.Test.YtoapmmmmdfmaeaaWalkB
import Derived.Test.YtoapmmmmdfmaeaaWalkE
import Derived.StillTailTactics
import Derived.OwnWalk
namespace Go.Proofs.Ytoapmmmmdfmaeaa
open Go.RowKit
set_option linter.unusedVariables false

def rowM (n : Nat) (f : Nat → Nat) : List Nat := (List.range n).map f
theorem rowM_len (n : Nat) (f : Nat → Nat) : (rowM n f).length = n := by simp [rowM]
theorem rowM_at {n k : Nat} (f : Nat → Nat) (h : k < n) : (rowM n f)[k]?.getD 0 = f k := by simp [rowM, h]
theorem rowM_congr {n : Nat} {f g : Nat → Nat} (h : ∀ b, b < n → f b = g b) : rowM n f = rowM n g := List.map_congr_left fun b hb => h b (List.mem_range.1 hb)
theorem rowM_set {n k : Nat} {f g : Nat → Nat} (h : ∀ b, b < n → g b = if b = k then g k else f b) : (rowM n f).set k (g k) = rowM n g := by
  refine List.ext_getElem (by simp [rowM]) fun b h1 h2 => ?_
  have hb : b < n := by simpa [rowM] using h2
  rw [List.getElem_set]
  have := h b hb
  by_cases e : k = b
  · subst e; simp [rowM]
  · rw [if_neg (fun h' => e h'.symm)] at this
    simp [rowM, e, this]
/-- The sums of the next move, up to the cell k of row a. -/
def nextF (L : List Nat) (v : Nat → Nat) (a k b : Nat) : Nat := if b < k then sm (fun c => v c * goesN L c b) (a + 1) else sm (fun c => v c * goesN L c b) a
theorem next_zero (L : List Nat) (v : Nat → Nat) (n : Nat) : rowM n (nextF L v 0 0) = List.replicate n 0 := by
  refine List.ext_getElem (by simp [rowM]) fun b h1 h2 => ?_
  simp [rowM, nextF, sm]
theorem next_row (L : List Nat) (v : Nat → Nat) (a n : Nat) : rowM n (nextF L v a n) = rowM n (nextF L v (a + 1) 0) := rowM_congr fun b hb => by
  unfold nextF
  rw [if_pos hb, if_neg (by omega)]
theorem next_step (L : List Nat) (v : Nat → Nat) (n : Nat) {a k : Nat} : (rowM n (nextF L v a k)).set k (nextF L v a (k + 1) k) = rowM n (nextF L v a (k + 1)) := rowM_set fun b hb => by
  unfold nextF
  by_cases e : b = k
  · subst e; rw [if_pos rfl]
  · rw [if_neg e]
    by_cases e2 : b < k
    · rw [if_pos e2, if_pos (by omega)]
    · rw [if_neg e2, if_neg (by omega)]
theorem next_here (L : List Nat) (v : Nat → Nat) (a k : Nat) : nextF L v a k k = sm (fun c => v c * goesN L c k) a ∧ nextF L v a (k + 1) k = sm (fun c => v c * goesN L c k) a + v a * goesN L a k := by
  unfold nextF
  exact ⟨if_neg (by omega), if_pos (by omega)⟩
theorem next_le {L : List Nat} {v : Nat → Nat} {B : Nat} (hv : ∀ c, v c ≤ B) (a k : Nat) : sm (fun c => v c * goesN L c k) a ≤ a * B := sm_le fun c _ => by
  have := goes_le L c k
  calc v c * goesN L c k ≤ B * 1 := Nat.mul_le_mul (hv c) this
    _ = B := Nat.mul_one _
theorem made_infoW {P : Program} {e : TypeId} {z : Value} {size bytes : Nat} (h : (P.info? e).map (fun i => (i.zero, i.size, i.bytes)) = some (some z, size, bytes)) : ∃ i, P.info? e = some i ∧ i.zero = some z ∧ i.size = size ∧ i.bytes = bytes := by
  cases hi : P.info? e with
  | none => simp [hi] at h
  | some i =>
    simp only [hi, Option.map_some, Option.some.injEq, Prod.mk.injEq] at h
    exact ⟨i, rfl, h.1, h.2.1, h.2.2⟩
theorem made_intsW {w : World} {base : Nat} {e : TypeId} {v : Value} {n : Nat} {z : Value} (hz : z.cells = #[z]) (h : w.ownsRow base e 1 v n (madeCells z.cells (n * 1)).toList) : w.ownsRow base e 1 v n (List.replicate n z) := by
  rwa [hz, Nat.mul_one, toList_madeCells_one] at h
theorem ints_zeros (n : Nat) : (List.replicate n (Value.int .i64 0)) = ints (natI (List.replicate n 0)) := by simp [ints, natI]
def walkCV (bc br : Int) (s : List UInt8) (i k moves : Int) : Int := match smallK bc br s with
  | some (ss, far) => if (0 ≤ i ∧ i < bc * br) ∧ (0 ≤ k ∧ k < bc * br) ∧ (0 ≤ moves ∧ moves ≤ 8) then (walkN (setsP bc br far ss) i.toNat moves.toNat k.toNat : Int) else -1
  | none => -1
set_option maxHeartbeats 4000000 in
set_option maxRecDepth 100000 in
theorem specWalkCount_c (bc br : Int) (s : ByteArray) (i k moves : Int) (W : World) : Calls Try.prog 7 #[.int .i64 bc, .int .i64 br, .string s, .int .i64 i, .int .i64 k, .int .i64 moves] W (Plain (.int .i64 (walkCV bc br s.toList i k moves)) W) := by
  have HV := hide (fun w5 => validWalk_c bc br s i k w5)
  have HM := hide (fun w5 => inRange_c moves 0 8 w5)
  unfold walkCV
  by_cases hv : ((smallK bc br s.toList).isSome && decide (0 ≤ i ∧ i < bc * br) && decide (0 ≤ k ∧ k < bc * br)) = true
  · rw [hv] at HV
    simp only [Bool.and_eq_true, decide_eq_true_eq] at hv
    obtain ⟨⟨hv, hi⟩, hk⟩ := hv
    obtain ⟨⟨ss, far⟩, hsm⟩ := Option.isSome_iff_exists.1 hv
    rw [hsm]
    simp only
    by_cases hm : 0 ≤ moves ∧ moves ≤ 8
    · rw [if_pos ⟨hi, hk, hm⟩]
      rw [decide_eq_true hm] at HM
      obtain ⟨hS, hkk⟩ := smallK_some hsm
      obtain ⟨a, b, n, hW⟩ := walk_of hS hkk
      have HSR := hide (fun w5 => reaches_c bc br s ss far w5 hkk hS)
      have hsz := hW.size
      have hn9 := hW.nine
      have hn1 := hW.one
      have hlen := hW.len
      have h9s := hW.sets
      have e0 : IntKind.i64.wrap (bc * br) = (n : Int) := (IntWalk.i64_in _ (by omega)).trans hsz
      obtain ⟨i, rfl⟩ := Int.eq_ofNat_of_zero_le hi.1
      obtain ⟨k, rfl⟩ := Int.eq_ofNat_of_zero_le hk.1
      obtain ⟨M, rfl⟩ := Int.eq_ofNat_of_zero_le hm.1
      have hin : i < n := by omega
      have hkn : k < n := by omega
      have hM8 : M ≤ 8 := by omega
      simp only [Int.toNat_natCast]
      clear hi hk hm hv hsm hS hkk hW hsz
      generalize setsP bc br far ss = L at *
      have HB := hide (fun a b (ha : a < n) (hb : b < n) w5 => specBit9_c (L[a]?.getD 0) b (h9s.bd a) (by omega) w5)
      have HWL := hide (fun m c (hm : m ≤ 8) => Nat.le_trans (walk_le L i h9s.len m c) (pow9_le hm))
      have HWS : Hid (∀ m b, walkN L i (m + 1) b = sm (fun c => walkN L i m c * goesN L c b) L.length) := fun m b => rfl
      have HW0 : Hid ((List.replicate n 0).set i 1 = rowM n (walkN L i 0)) := by
        have hz : List.replicate n 0 = rowM n (fun _ => 0) := by
          refine List.ext_getElem (by simp [rowM]) fun b h1 h2 => ?_
          simp [rowM]
        show _ = _
        rw [hz]
        have h1 : walkN L i 0 i = 1 := if_pos rfl
        have := rowM_set (n := n) (k := i) (f := fun _ => 0) (g := walkN L i 0) (fun b hb => by
          by_cases e : b = i
          · subst e; rw [if_pos rfl]
          · rw [if_neg e]; exact if_neg e)
        rwa [h1] at this
      have hgo : ∀ a b, bitN (L[a]?.getD 0) b = goesN L a b := fun a b => rfl
      have HGO := hide hgo
      obtain ⟨i0, hi0, hz0, hz1, hz2⟩ := made_infoW (P := Try.prog) (e := 3) (z := .int .i64 0) (size := 1) (bytes := 8) (by kernel_rfl)
      clear h9s hgo
      go_enter Try.func7, Try.ntmps7
      go_wp2_with fail
      refine (HV.out _).mono ?_
      rintro e w1 ⟨rfl, b1⟩
      go_wp2_with fail
      refine (HM.out _).mono ?_
      rintro e w2 ⟨rfl, rfl⟩
      go_wp2_with fail
      refine (HSR.out _).mono ?_
      rintro e w3 ⟨v3, rfl, o3, b3⟩
      have b13 := below_then b1 b1.size b3
      rw [hlen] at o3
      obtain ⟨gl, cl, rfl, _, _, hRL, _, hgl⟩ := own_one o3 (by omega)
      have hz3 := b13.size
      have HIN := hide hin
      have HKN := hide hkn
      have i1 : (0 : Int) ≤ (i : Int) := by omega
      have i2 : (i : Int) < (n : Int) := by omega
      clear HV HM HSR b1 b3 o3
      go_wp2_with ((at_make; go_loud (refine wpList_make_full _ rfl (.tmp 36) (.tmp 36) 27 rfl w3.heap.size 3 i0 (.int .i64 0) 1 Try.underlying27 hi0 hz0 hz1 .i64 .i64 n n n rfl rfl rfl rfl (by rw [hz2]; omega) (by simp [maxLen]; omega) (Nat.le_refl _) ?_; intro w4 own4 hg4; have own4 := made_intsW rfl own4; rw [ints_zeros] at own4; have hRL4 := hRL.grown hg4 (fun ad e h => by cases h); have hb4 := b13.grown hg4 hz3 (fun k h => by cases h); have hs4 := hg4.size; obtain ⟨q1, q2, q3, q4⟩ := own_nat own4 HIN.out 1; rw [HW0.out] at q3; have hRL5 := hide (hRL4.grown q4 (fun ad e h => by injection e with e; subst e; injection h with h; simp only at h; omega)); have hb5 := hide (hb4.grown q4 hb4.size (fun z h => by injection h with h; omega)); have Q3 := hide q3; have hs5 : w4.heap.size = (w4.setCell ⟨w3.heap.size, i, none⟩ (.int .i64 ((1 : Nat) : Int))).heap.size := (by simp); clear hg4 own4 hRL4 hb4 q3 q4)))
      go_loopw [5, 14] (fun mv av wr => ∃ m g : Nat, m ≤ M ∧ mv = .int .i64 ((M - m : Nat) : Int) ∧ av = .slice (some ⟨g, 0, none⟩) n n ∧ wr.ownsRow W.heap.size 3 1 (.slice (some ⟨g, 0, none⟩) n n) n (ints (natI (rowM n (walkN L i m)))) ∧ Row wr (some ⟨gl, 0, none⟩) (ints (natI L)) ∧ gl < wr.heap.size ∧ Below W.heap.size W wr) (fun mv _ _ => (intOf mv).toNat)
      case atStart => exact ⟨0, _, Nat.zero_le _, by simp, rfl, own_mono Q3.out hz3, hRL5.out, by simp; omega, hb5.out⟩
      case round =>
        clear Q3 hRL5 hb5 hs5 hs4 q1 q2
        obtain ⟨m, g, hm, rfl, rfl, hown, hrl, hgl, hb⟩ := hrel
        obtain ⟨wo, rfl⟩ : ∃ wo : World, wo = wr := ⟨_, rfl⟩
        by_cases hlt : m < M
        · have hmm : (M - m : Nat) = M - (m + 1) + 1 := by omega
          obtain ⟨r, hr⟩ : ∃ r, M - (m + 1) = r := ⟨_, rfl⟩
          rw [hr] at hmm
          rw [hmm]
          have er : IntKind.i64.wrap (((r + 1 : Nat) : Int) - 1) = (r : Int) := (IntWalk.i64_in _ (by omega)).trans (by omega)
          have hr0 : (0 : Int) < ((r + 1 : Nat) : Int) := by omega
          have er2 : IntKind.i64.wrap (r : Int) = (r : Int) := IntWalk.i64_in _ (by omega)
          have HRR := hide hr
          have HVL := hide (fun c => HWL.out m c (by omega))
          have HWSm := hide (HWS.out m)
          have hgn := (hown.lt g rfl).2
          have hz := hb.size
          have RN := hide (own_reads hown)
          have HRL := hide hrl
          have HBo := hide hb
          clear hr hmm hown hrl hb
          obtain ⟨v, hv⟩ : ∃ v, walkN L i m = v := ⟨_, rfl⟩
          rw [hv] at HVL HWSm RN
          have HN0 := hide (next_zero L v n)
          have HNR := hide (fun a => next_row L v a n)
          have HNS := hide (fun a k => next_step L v n (a := a) (k := k))
          have HNH := hide (next_here L v)
          have HNL := hide (fun a k => next_le (L := L) HVL.out a k)
          have HNE := hide (show rowM n (nextF L v n 0) = rowM n (walkN L i (m + 1)) from rowM_congr fun b hb => by
            rw [HWSm.out b, hlen]
            exact if_neg (by omega))
          clear hv HWSm
          go_wp2_with ((at_make; go_loud (refine wpList_make_full _ rfl (.tmp 47) (.tmp 47) 27 rfl wo.heap.size 3 i0 (.int .i64 0) 1 Try.underlying27 hi0 hz0 hz1 .i64 .i64 n n n rfl rfl rfl rfl (by rw [hz2]; omega) (by simp [maxLen]; omega) (Nat.le_refl _) ?_; intro w6 own6 hg6; have own6 := made_intsW rfl own6; rw [ints_zeros, ← HN0.out] at own6; have RL6 := hide (HRL.out.grown hg6 (fun ad e h => by cases h)); have RN6 := hide (RN.out.grown hg6 (fun ad e h => by cases h)); have hb6 := hide (HBo.out.grown hg6 hz (fun k h => by cases h)); have hs6 := hg6.size; clear hg6)))
          obtain ⟨gx, hgx⟩ : ∃ gx, wo.heap.size = gx := ⟨_, rfl⟩
          rw [hgx] at own6 hgn hgl hs6 hz
          rw [hgx]
          clear hgx RN HRL HBo
          go_loopw [16] (fun xv wr => ∃ a : Nat, a ≤ n ∧ xv = .int .i64 (a : Int) ∧ wr.ownsRow gx 3 1 (.slice (some ⟨gx, 0, none⟩) n n) n (ints (natI (rowM n (nextF L v a 0)))) ∧ Row wr (some ⟨gl, 0, none⟩) (ints (natI L)) ∧ Row wr (some ⟨g, 0, none⟩) (ints (natI (rowM n v))) ∧ Below W.heap.size W wr) (fun xv _ => n - (intOf xv).toNat)
          case atStart => exact ⟨0, Nat.zero_le _, rfl, own6, RL6.out, RN6.out, hb6.out⟩
          case round =>
            clear own6 RL6 RN6 hb6 hs6
            obtain ⟨a, ha, rfl, hown, hrl, hrn, hb⟩ := hrel
            obtain ⟨wa, rfl⟩ : ∃ wa : World, wa = wr := ⟨_, rfl⟩
            by_cases han : a < n
            · have a1 : (a : Int) < (n : Int) := by omega
              have HAN := hide han
              go_wp2_with fail
              go_loopw [17] (fun yv wr => ∃ b : Nat, b ≤ n ∧ yv = .int .i64 (b : Int) ∧ wr.ownsRow gx 3 1 (.slice (some ⟨gx, 0, none⟩) n n) n (ints (natI (rowM n (nextF L v a b)))) ∧ Row wr (some ⟨gl, 0, none⟩) (ints (natI L)) ∧ Row wr (some ⟨g, 0, none⟩) (ints (natI (rowM n v))) ∧ Below W.heap.size W wr) (fun yv _ => n - (intOf yv).toNat)
              case atStart => exact ⟨0, Nat.zero_le _, rfl, hown, hrl, hrn, hb⟩
              case round =>
                clear hown hrl hrn hb
                obtain ⟨b, hbn, rfl, hown, hrl, hrn, hb⟩ := hrel
                obtain ⟨wb, rfl⟩ : ∃ wb : World, wb = wr := ⟨_, rfl⟩
                by_cases hbl : b < n
                · have b1 : (b : Int) < (n : Int) := by omega
                  have b0 : (0 : Int) ≤ (b : Int) := by omega
                  have a0 : (0 : Int) ≤ (a : Int) := by omega
                  have HBL := hide hbl
                  have hcl := row_nat hrl hlen HAN.out
                  have hcn := row_nat hrn (rowM_len n v) HAN.out
                  rw [rowM_at v HAN.out] at hcn
                  obtain ⟨e1, e2⟩ := HNH.out a b
                  have hle := HNL.out a b
                  have hva := HVL.out a
                  have hgo := goes_le L a b
                  obtain ⟨hcx, hfx, _, _⟩ := own_nat hown hbl 0
                  rw [rowM_at _ hbl, e1] at hcx
                  have hns := HNS.out a b
                  rw [e2] at hns
                  have HBt := hide (fun w5 => HB.out a b HAN.out HBL.out w5)
                  rw [HGO.out a b] at HBt
                  have hpb : v a * goesN L a b ≤ 43046721 * 1 := Nat.mul_le_mul hva hgo
                  have hab : a * 43046721 ≤ 9 * 43046721 := Nat.mul_le_mul (by omega) (Nat.le_refl _)
                  have em : IntKind.i64.wrap (((v a : Nat) : Int) * ((goesN L a b : Nat) : Int)) = ((v a * goesN L a b : Nat) : Int) := (IntWalk.i64_in _ (by rw [← Int.natCast_mul]; omega)).trans (Int.natCast_mul _ _).symm
                  generalize goesN L a b = gb at *
                  generalize sm (fun c => v c * goesN L c b) a = old at *
                  generalize v a * gb = pr at *
                  generalize v a = va at *
                  generalize L[a]?.getD 0 = la at *
                  have es : IntKind.i64.wrap ((old : Int) + (pr : Int)) = ((old + pr : Nat) : Int) := (IntWalk.i64_in _ (by omega)).trans (by omega)
                  obtain ⟨nw, hnw⟩ : ∃ nw, old + pr = nw := ⟨_, rfl⟩
                  rw [hnw] at es hns
                  have HNX := hide hns
                  have HOW := hide hown
                  have HRL := hide hrl
                  have HRN := hide hrn
                  have HB4 := hide hb
                  clear e1 e2 hle hva hgo hpb hab hnw hns hown hrl hrn hb
                  go_wp2_with fail
                  refine wp_region_still_tail 19 (by kernel_rfl) (by kernel_rfl) ?_
                  simp only [List.take_succ_cons, List.take_zero, List.drop_succ_cons, List.drop_zero]
                  repeat still_step
                  still_call ((HBt.out _).mono (fun _ _ h => ⟨h.1, h.2.symm⟩))
                  repeat still_step
                  try refine wpStill_nil ?_
                  have hcxd : wb.drew.cell? ⟨gx, b, none⟩ = some (.int .i64 (old : Int)) := hcx
                  have hfxd : wb.drew.frozen? ⟨gx, b, none⟩ = false := hfx
                  have hod := HOW.out.drew
                  have hld := HRL.out.drew
                  have hnd := HRN.out.drew
                  have hbd := HB4.out.drew
                  change wpList _ _ _ _ _ wb.drew
                  clear HOW HRL HRN HB4 hcx hfx hcl hcn
                  generalize wb.drew = wd at *
                  obtain ⟨_, _, hox, hgr⟩ := own_nat hod HBL.out nw
                  rw [HNX.out] at hox
                  have X1 := hide hox
                  have X2 := hide (hld.grown hgr (fun ad e h => by injection e with e; subst e; injection h with h; simp only at h; omega))
                  have X3 := hide (hnd.grown hgr (fun ad e h => by injection e with e; subst e; injection h with h; simp only at h; omega))
                  have X4 := hide (hbd.grown hgr hbd.size (fun z h => by injection h with h; omega))
                  clear hox hgr hod hld hnd hbd
                  go_wp2_with fail
                  exact ⟨⟨b + 1, HBL.out, by go_num, X1.out, X2.out, X3.out, X4.out⟩, by simp [intOf]; omega⟩
                · obtain rfl : b = n := by omega
                  rw [HNR.out a] at hown
                  have HOW := hide hown
                  clear hown
                  go_wp2_with fail
                  exact ⟨⟨a + 1, HAN.out, by go_num, HOW.out, hrl, hrn, hb⟩, by simp [intOf]; omega⟩
            · obtain rfl : a = n := by omega
              have HOW := hide (show wa.ownsRow W.heap.size 3 1 (.slice (some ⟨gx, 0, none⟩) a a) a (ints (natI (rowM a (walkN L i (m + 1))))) by rw [← HNE.out]; exact own_mono hown (by omega))
              have hgs := (hown.lt gx rfl).2
              clear hown
              go_wp2_with fail
              exact ⟨⟨m + 1, gx, hlt, by rw [HRR.out], rfl, HOW.out, hrl, by omega, hb⟩, by simp [intOf]⟩
        · obtain rfl : m = M := by omega
          rw [Nat.sub_self]
          have hck := row_nat (own_reads hown) (rowM_len n _) HKN.out
          rw [rowM_at _ HKN.out] at hck
          have k0 : (0 : Int) ≤ (k : Int) := by omega
          have k1 : (k : Int) < (n : Int) := by omega
          go_wp2_with fail
          go_ret
          exact ⟨rfl, hb⟩
    · rw [decide_eq_false hm] at HM
      rw [if_neg (fun h => hm h.2.2)]
      clear hi hk hm hv hsm
      go_enter Try.func7, Try.ntmps7
      go_wp2_with fail
      refine (HV.out _).mono ?_
      rintro e w1 ⟨rfl, b1⟩
      go_wp2_with fail
      refine (HM.out _).mono ?_
      rintro e w2 ⟨rfl, rfl⟩
      go_wp2_with fail
      go_ret
      exact ⟨rfl, b1⟩
  · have hvf : ((smallK bc br s.toList).isSome && decide (0 ≤ i ∧ i < bc * br) && decide (0 ≤ k ∧ k < bc * br)) = false := by simpa using hv
    rw [hvf] at HV
    have hgoal : (match smallK bc br s.toList with | some (ss, far) => if (0 ≤ i ∧ i < bc * br) ∧ (0 ≤ k ∧ k < bc * br) ∧ (0 ≤ moves ∧ moves ≤ 8) then (walkN (setsP bc br far ss) i.toNat moves.toNat k.toNat : Int) else -1 | none => -1) = -1 := by
      cases hsm : smallK bc br s.toList with
      | none => rfl
      | some p =>
        rw [hsm, Option.isSome_some, Bool.true_and, Bool.and_eq_true, decide_eq_true_eq, decide_eq_true_eq] at hv
        exact if_neg (fun h => hv ⟨h.1, h.2.1⟩)
    rw [hgoal]
    clear hv hvf hgoal HM
    go_enter Try.func7, Try.ntmps7
    go_wp2_with fail
    refine (HV.out _).mono ?_
    rintro e w1 ⟨rfl, b1⟩
    go_wp2_with fail
    go_ret
    exact ⟨rfl, b1⟩
end Go.Proofs.Ytoapmmmmdfmaeaa


/-
  The program's rooks by rows.
-/
import Derived.Test.YtlccohoblplddadRookA
import Derived.Test.YtlccohoblplddadOnes
import Derived.Test.YtlccohoblplddadSeatD
import Derived.OwnWalk
namespace Go.Proofs.Ytlccohoblplddad
open Go.RowKit Go.Maps
set_option linter.unusedVariables false

def natsP (l : List Int) : List Nat := l.map Int.toNat
def countsP (l : List Int) : List Int := (List.range (l.length + 1)).map fun k => ((rk (natsP l) 0 k : Nat) : Int)
theorem nats_len (l : List Int) : (natsP l).length = l.length := by simp [natsP]
theorem nats_at {l : List Int} (h : Seats l) {k : Nat} (hk : k < l.length) : l[k]?.getD 0 = (((natsP l)[k]?.getD 0 : Nat) : Int) ∧ (natsP l)[k]?.getD 0 < 2 ^ l.length := by
  obtain ⟨h0, h1⟩ := h.2 k hk
  have e : (natsP l)[k]?.getD 0 = (l[k]?.getD 0).toNat := by
    rw [natsP, List.getElem?_map, List.getElem?_eq_getElem hk]; rfl
  rw [e]
  have hp := (pow_bd (n := l.length) (by have := h.1.2; omega)).1
  unfold fullP at h1
  omega
theorem pow32 {n : Nat} (h : n ≤ 5) : 2 ^ n ≤ 32 := Nat.le_trans (Nat.pow_le_pow_right (by omega) h) (by decide)
theorem six5 {k : Nat} (h : k ≤ 5) : 6 ^ k ≤ 7776 := Nat.le_trans (Nat.pow_le_pow_right (by omega) h) (by decide)
theorem take_snocN (xs : List Nat) (k : Nat) (h : k < xs.length) : xs.take (k + 1) = xs.take k ++ [xs[k]?.getD 0] := by
  rw [List.take_succ_eq_append_getElem h]; simp [List.getElem?_eq_getElem h]
theorem Wrows_bd : ∀ (rs : List Nat) (W : Nat → Nat) (B : Nat), (∀ u, u < 32 → W u ≤ B) → ∀ u, u < 32 → Wrows rs W u ≤ 6 ^ rs.length * B
  | [], W, B, h, u, hu => by rw [Wrows]; simpa using h u hu
  | r :: rs, W, B, h, u, hu => by
    rw [Wrows, List.length_cons, Nat.pow_succ, Nat.mul_assoc]
    exact Wrows_bd rs _ _ (fun v hv => stepW_bd r W B h v hv) u hu
theorem W0_bd (u : Nat) (_ : u < 32) : W0 u ≤ 1 := by unfold W0; split <;> omega
theorem cntW_strike (W : Nat → Nat) (left : Lit → Bool) (x : Nat) (hx : x < 32) (hl : left (.int .i64 (x : Int)) = true) (k : Nat) :
    sum32 (fun t => if pc t = k then restW W (fun z => left z && !z.sameKey (.int .i64 (x : Int))) t else 0) = sum32 (fun t => if pc t = k then restW W left t else 0) + if pc x = k then W x else 0 := by
  have h1 : ∀ t, t < 32 → (if pc t = k then restW W (fun z => left z && !z.sameKey (.int .i64 (x : Int))) t else 0) = (if pc t = k then restW W left t else 0) + (if t = x then (if pc x = k then W x else 0) else 0) := fun t _ => by
    rw [restW_strike W left x hl]
    by_cases e : t = x
    · subst e; by_cases h : pc t = k <;> simp [h]
    · by_cases h : pc t = k <;> simp [h, e]
  rw [sum32_congr h1, sum32_add, sum32_one x _ hx]

/-- A key and its element laid into the call's own map, as a map that is written out is made. -/
theorem insert_own {P : Program} (w : World) {ops : Array Oper} {rest : List Oper} {o : Oper} {a : Act} {Q : Exit → Act → World → Prop}
    (hg : o.guard = none) (m x v : Operand) (t : TypeId) (hop : o.op = Op.insert t m x v)
    (k e : TypeId) (K : Keyed P k) (ht : P.underlying t = some (.map k e)) (R : Value → Option (DataW Unit × List MemPlace)) (b n : Nat) (D : DataW Unit)
    (hm : a.eval m = .map (some b)) (hown : w.ownsMap P k R b n D) (hn : n < maxLen) (key val : Value) (kl : Lit) (hx : a.eval x = key) (hv : a.eval v = val) (hkey : keyOf P k key = some kl)
    (d : DataW Unit) (ps : List MemPlace) (hval : R val = some (d, ps))
    (hK : ∀ w', w'.ownsMap P k R b (n + 1) (D.put kl d) → w.grownBy w' (some b) → wpList P ops Q rest (a.put o.dst undef) w') :
    wpList P ops Q (o :: rest) a w := by
  refine wpList_plain hg fun K' hK' => ?_
  obtain ⟨w', hrun, r1, r2⟩ := hown.update K ht hn hkey hval
  unfold Oper.wp
  simp [execOp, hop, hm, hx, hv, hrun, Result.andThen]
  exact hK' _ _ (hK w' r1 r2)

set_option maxHeartbeats 2000000 in
set_option maxRecDepth 100000 in
theorem rooksByRow_c (A : Option Addr) (c : Nat) (l : List Int) (w : World) (hr : Row w A (ints l)) (hs : Seats l) :
    Calls Try.prog 43 #[.slice A l.length c] w (Owns 3 1 (l.length + 1) (ints (countsP l)) w) := by
  obtain ⟨h1, h5⟩ := hs.1
  have HN := hide (fun (k : Nat) (hk : k < l.length) => nats_at hs hk)
  have HRL := hide (nats_len l)
  have HC := hide (show countsP l = (List.range (l.length + 1)).map (fun k => ((sum32 (fun t => if pc t = k then Wrows (natsP l) W0 t else 0) : Nat) : Int)) by
    unfold countsP
    exact List.map_congr_left fun k _ => by rw [Wrows_end])
  have HP := hide (pow32 h5)
  clear hs
  generalize countsP l = res at *
  generalize natsP l = R at *
  obtain ⟨i0, hi0, hz0, hz1, hz2⟩ := made_of (P := Try.prog) (e := 3) (z := .int .i64 0) (size := 1) (bytes := 8) (by kernel_rfl)
  have hmm := @run_makeMap Try.prog
  have hmade := hide (World.ownsMap_made w Try.prog 3 (plainElem (H := Unit) Try.prog 3))
  go_enter Try.func43, Try.ntmps43
  go_wp2_with (first
    | (refine insert_own _ rfl _ _ _ 56 rfl 3 3 mlaw Try.underlying56 (plainElem Try.prog 3) w.heap.size 0 _ rfl hmade.out (by unfold maxLen; omega) _ _ _ rfl rfl (keyOf_int_mk Try.underlying3 (by decide)) _ [] (plainElem_int Try.underlying3 (by decide)) ?_; intro w1 own1 hg1)
    | go_in)
  have hb1 := ((Below.refl w.heap.size w).alloc (Nat.le_refl _) (.map #[] 0)).grown hg1 (by simp) (fun j hj => by cases hj; exact Nat.le_refl _)
  have hv1 : Hid (View (DataW.put (.map []) (.int .i64 0) (.lit (.int .i64 1))) W0 0) :=
    ((View.empty 0).put (x := 0) (by omega) (by decide) 1).congr fun u hu => rfl
  clear hmade hg1
  go_loopw [3, 13] (fun m i wr => ∃ (k b nk : Nat) (D : DataW Unit), k ≤ l.length ∧ i = .int .i64 (k : Int) ∧ m = .map (some b) ∧ w.heap.size ≤ b ∧ OwnsM wr b nk D ∧ Hid (nk ≤ 6 ^ k) ∧ Hid (View D (Wrows (R.take k) W0) k) ∧ Below w.heap.size w wr) (fun _ i _ => l.length - (intOf i).toNat)
  case atStart => exact ⟨0, w.heap.size, 1, _, Nat.zero_le _, rfl, rfl, Nat.le_refl _, own1, Nat.le_refl _, hv1, hb1⟩
  case round =>
    obtain ⟨k, b, nk, D, hk, rfl, rfl, hbl, hown, hnk, hv, hb⟩ := hrel
    obtain ⟨wo, rfl⟩ : ∃ wo : World, wo = wr := ⟨_, rfl⟩
    have z := hb.size
    have hnb : nk ≤ 10000 := Nat.le_trans hnk.out (Nat.le_trans (six5 (by omega)) (by omega))
    by_cases hlt : k < l.length
    · obtain ⟨ad, rfl, hca⟩ := (hr.below hb).int hlt
      obtain ⟨hx1, hx2⟩ := HN.out k hlt
      have hx3 : R[k]?.getD 0 < 32 := Nat.lt_of_lt_of_le hx2 HP.out
      have hsn := hide (take_snocN R k (by rw [HRL.out]; exact hlt))
      generalize R[k]?.getD 0 = x at *
      rw [hx1] at hca
      clear hx1 hx2
      have hW := hide (show ∀ u, u < 32 → Wrows (R.take k) W0 u ≤ 6 ^ k from fun u hu => by
        have := Wrows_bd (R.take k) W0 1 W0_bd u hu
        rwa [List.length_take, HRL.out, Nat.min_eq_left hk, Nat.mul_one] at this)
      have hc := hide (withRow_c b nk k x (6 ^ k) D _ wo hown hv.out hx3 hW.out (Nat.le_trans (six5 (by omega)) (by omega)) hnb)
      have hnk2 : Hid (6 * nk ≤ 6 ^ (k + 1)) := by have := hnk.out; show 6 * nk ≤ 6 ^ (k + 1); rw [Nat.pow_succ]; omega
      clear hnk
      go_wp2_with fail
      refine hc.out.mono ?_
      rintro e w2 ⟨D', rfl, own2, hv2, b2⟩
      have hv2 := hide hv2
      go_wp2_with fail
      exact ⟨⟨k + 1, wo.heap.size, 6 * nk, D', hlt, rfl, rfl, z, own2, hnk2, by rw [hsn.out, Wrows_snoc]; exact hv2, below_then hb z b2⟩, by simp [intOf]; omega⟩
    · have hkl : Hid (k = l.length) := hide (by omega)
      have hv' : Hid (View D (Wrows R W0) l.length) := by
        have := hv.out
        rw [hkl.out, List.take_of_length_le (by rw [HRL.out]; exact Nat.le_refl _)] at this
        exact this
      have hWb := hide (show ∀ u, u < 32 → Wrows R W0 u ≤ 7776 from fun u hu => by
        have := Wrows_bd R W0 1 W0_bd u hu
        rw [HRL.out, Nat.mul_one] at this
        exact Nat.le_trans this (six5 h5))
      clear hv hnk HN HRL HP hv1
      generalize Wrows R W0 = W at *
      have hblt := hown.lt
      have hsz := size_le hown
      have hl1 : Hid ((l.length : Int) + 1 = ((l.length + 1 : Nat) : Int)) := by show (l.length : Int) + 1 = ((l.length + 1 : Nat) : Int); omega
      go_wp2_with (first
        | (at_make; refine wpList_make_full _ rfl (.tmp 23) (.tmp 23) 27 rfl wo.heap.size 3 i0 (.int .i64 0) 1 Try.underlying27 hi0 hz0 hz1 .i64 .i64 _ _ (l.length + 1) rfl rfl hl1.out hl1.out (by rw [hz2]; omega) (by simp [maxLen]; omega) (Nat.le_refl _) ?_
           intro w3 own3 hg3
           have own3 := made_own rfl own3
           have b3 := hb.grown hg3 z (fun k h => by cases h)
           have hown3 := hown.kept hg3 (by simp))
        | (at_range; refine wpList_range_own _ rfl _ 56 rfl 3 3 mlaw Try.underlying56 _ b nk _ rfl hown3 ?_; intro w4 hrg4 hg4 hs4)
        | go_in)
      try go_frame
      obtain ⟨g, hg⟩ : ∃ g, wo.heap.size = g := ⟨_, rfl⟩
      have glt := (own3.lt wo.heap.size rfl).2
      rw [hg] at own3 glt hblt z ⊢
      have own4 := own3.kept hg4 (.inr (fun e => by cases e))
      have b4 := b3.grown hg4 b3.size (fun j hj => by cases hj)
      obtain ⟨it, hit⟩ : ∃ it, w3.heap.size = it := ⟨_, rfl⟩
      rw [hit] at hrg4 hs4 glt ⊢
      clear hg3 hg4 own3 b3 hown3
      go_loopw [7] (fun _ wr => ∃ (left : Lit → Bool) (cnt : Nat) (Z : List Int), wr.ranges Try.prog 3 (plainElem Try.prog 3) b it nk D left cnt ∧ wr.ownsRow g 3 1 (.slice (some ⟨g, 0, none⟩) (l.length + 1) (l.length + 1)) (l.length + 1) (ints Z) ∧
          Hid (Z.length = l.length + 1 ∧ ∀ j, j ≤ l.length → Z[j]?.getD 0 = ((sum32 (fun t => if pc t = j then restW W left t else 0) : Nat) : Int)) ∧ Hid (∀ kl, left kl = true → Maps.has D kl = true) ∧ Below w.heap.size w wr) (fun _ wr => wr.rangeLeft b it)
      case atStart =>
        refine ⟨_, _, List.replicate (l.length + 1) 0, hrg4, by simpa [ints] using own4, ⟨by simp, fun j hj => ?_⟩, fun kl h => h, b4⟩
        rw [List.getElem?_replicate, if_pos (by omega)]
        have : sum32 (fun t => if pc t = j then restW W (Maps.has D) t else 0) = sum32 (fun _ => 0) := sum32_congr fun t ht => by
          unfold restW
          cases hh : Maps.has D (.int .i64 (t : Int)) with
          | true => simp
          | false => rw [hv'.out.none ht hh]; simp
        rw [this]
        rfl
      case round =>
        clear own4 b4 hrg4
        obtain ⟨left, cnt, Z, hrg, hownZ, hZ, hlD, hbr⟩ := hrel
        obtain ⟨wi, rfl⟩ : ∃ wi : World, wi = wr := ⟨_, rfl⟩
        go_wp2_with (first
          | (at_next; refine wpList_next_ranges_ii _ rfl _ rfl 3 3 .i64 .i64 mlaw Try.underlying3 Try.underlying3 b it nk _ _ _ rfl hrg ?_ ?_)
          | go_in)
        · intro hc0 hl0
          go_wp2
          go_ret
          refine ⟨_, rfl, ?_, hbr⟩
          have e : res = Z := by
            rw [HC.out]
            apply List.ext_getElem
            · rw [List.length_map, List.length_range, hZ.out.1]
            · intro i i1 i2
              have hi : i ≤ l.length := by rw [hZ.out.1] at i2; omega
              have h3 := hZ.out.2 i hi
              have hs : sum32 (fun t => if pc t = i then restW W left t else 0) = sum32 (fun t => if pc t = i then W t else 0) := sum32_congr fun t _ => by
                simp only [restW, hl0, Bool.false_eq_true, if_false]
              rw [hs, List.getElem?_eq_getElem i2, Option.getD_some] at h3
              simp only [List.getElem_map, List.getElem_range]
              exact h3.symm
          rw [e]
          exact own_mono hownZ (by omega)
        · intro x c w1 cnt1 hwx hwc hlx hat hrg1 hlt1 hg1 hs1 hen
          obtain ⟨t, ht, hpt, ekl⟩ := hv'.out.2.2 _ (hlD.out _ hlx)
          obtain rfl : x = (t : Int) := by injection ekl
          obtain rfl : c = ((W t : Nat) : Int) := hv'.out.val ht (hat _)
          have hWt := hWb.out t ht
          have hstr := hide (fun j => cntW_strike W left t ht hlx j)
          have hone := hide (fun w5 => sizeOf_c t ht w5)
          have hlD1 : Hid (∀ kl, (left kl && !kl.sameKey (.int .i64 (t : Int))) = true → Maps.has D kl = true) := fun kl h => hlD.out kl (by simp only [Bool.and_eq_true] at h; exact h.1)
          have hZp := hZ.out.2 (pc t) hpt
          have hZb := sum32_le (f := fun t' => if pc t' = pc t then restW W left t' else 0) (B := 7776) (fun t' ht' => by
            split
            · exact Nat.le_trans (restW_le _ _ _) (hWb.out t' ht')
            · omega)
          have hit2 := hrg.lt
          have own1 := hownZ.kept hg1 (.inr (fun e => by simp only [Value.ownBlock, Option.some.injEq] at e; omega))
          have b1 := hbr.grown hg1 hbr.size (fun j hj => by cases hj; omega)
          have hcz := own1.cellAt (pc t) (by omega)
          have hfz := own1.frozenAt (pc t)
          rw [show (ints Z)[pc t]? = some (.int .i64 (Z[pc t]?.getD 0)) from by rw [ints, List.getElem?_map, List.getElem?_eq_getElem (by rw [hZ.out.1]; omega)]; rfl, hZp] at hcz
          clear hat ekl hlx hZp
          generalize hS : sum32 (fun t' => if pc t' = pc t then restW W left t' else 0) = S at *
          obtain ⟨ost, gst⟩ := own1.stored (pc t) (.int .i64 ((S : Int) + (W t : Int)))
          rw [ints_set2] at ost
          have hrg2 := hrg1.kept gst (fun e => by injection e with e; omega) (fun e => by injection e with e; omega)
          have bst := b1.grown gst b1.size (fun j e => by injection e with e; omega)
          have Ost := hide ost
          have Bst := hide bst
          have hZ' : Hid ((Z.set (pc t) ((S : Int) + (W t : Int))).length = l.length + 1 ∧ ∀ j, j ≤ l.length → (Z.set (pc t) ((S : Int) + (W t : Int)))[j]?.getD 0 = ((sum32 (fun t' => if pc t' = j then restW W (fun z => left z && !z.sameKey (.int .i64 (t : Int))) t' else 0) : Nat) : Int)) := ⟨by rw [List.length_set]; exact hZ.out.1, fun j hj => by
            rw [hstr.out]
            by_cases e : pc t = j
            · subst e
              rw [List.getElem?_set_self (by rw [hZ.out.1]; omega), hS]
              simp
            · rw [List.getElem?_set_ne e, hZ.out.2 j hj]
              simp [e]⟩
          have hmeas := hide (show (wi.rangeLeft b it) = cnt from hrg.left_eq)
          have hrg2h := hide hrg2
          clear ost gst bst hrg1 own1 b1 hS hrg2
          generalize W t = cn at *
          generalize pc t = p at *
          have p0 : (0 : Int) ≤ (p : Int) := by omega
          have p1 : (p : Int) < ((l.length + 1 : Nat) : Int) := by omega
          have p2 : (p : Int) < (l.length : Int) + 1 := by omega
          go_wp2_with fail
          refine (hone.out _).mono ?_
          rintro e w5 ⟨rfl, rfl⟩
          go_wp2_with fail
          go_roundw
          case rel => exact ⟨_, cnt1, _, hrg2h.out, Ost.out, hZ', hlD1, Bst.out⟩
          case measure => rw [hrg2h.out.left_eq, hmeas.out]; exact hlt1
theorem implRookCounts_c (A : Option Addr) (c : Nat) (l : List Int) (w : World) (hr : Row w A (ints l)) (hm : l.length ≤ maxLen) :
    Calls Try.prog 24 #[.slice A l.length c] w (Owns 3 1 (if Seats l then countsP l else []).length (ints (if Seats l then countsP l else [])) w) := by
  have HV := hide (implValidSeats_c A c l w hr hm)
  by_cases hs : Seats l
  · rw [decide_eq_true hs] at HV
    rw [if_pos hs]
    have HO := hide (fun (w5 : World) (h5 : Row w5 A (ints l)) => rooksByRow_c A c l w5 h5 hs)
    have hl := hide (show (countsP l).length = l.length + 1 by simp [countsP])
    clear hs hm
    generalize countsP l = res at *
    go_enter Try.func24, Try.ntmps24
    go_wp2_with fail
    refine HV.out.mono ?_
    rintro e w1 ⟨rfl, b1⟩
    go_wp2_with fail
    refine (HO.out _ (hr.below b1)).mono ?_
    rintro e w2 ⟨v, rfl, own, b2⟩
    go_wp2_with fail
    go_ret
    exact ⟨v, rfl, by rw [hl.out]; exact own_mono own b1.size, below_then b1 b1.size b2⟩
  · rw [decide_eq_false hs] at HV
    rw [if_neg hs]
    clear hs hm hr
    go_enter Try.func24, Try.ntmps24
    go_wp2_with fail
    refine HV.out.mono ?_
    rintro e w1 ⟨rfl, b1⟩
    go_wp2_with fail
    go_ret
    exact ⟨_, rfl, ⟨rfl, .inl ⟨rfl, rfl⟩⟩, b1⟩
end Go.Proofs.Ytlccohoblplddad

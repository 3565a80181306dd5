
/-
  Rows of rooks in a map: withRow.
-/
import Derived.Test.YtlccohoblplddadSeatA
import Derived.Test.YtlccohoblplddadRookP
import Derived.Maps.RangeWalk
import Derived.Maps.OwnOps
import Derived.Maps.Views
namespace Go.Proofs.Ytlccohoblplddad
open Go.RowKit Go.Maps
set_option linter.unusedVariables false

theorem mlaw : Keyed Try.prog 3 := int_keyed Try.underlying3
theorem mzero (w : World) : (zeroValue 3).run Try.prog w = .ok (.int .i64 0) w := by kernel_rfl
abbrev OwnsM (w : World) (b n : Nat) (D : DataW Unit) : Prop := w.ownsMap Try.prog 3 (plainElem Try.prog 3) b n D
/-- What the map reads as: the weights of the 32 sets of columns; no set of more than m. -/
def View (D : DataW Unit) (W : Nat → Nat) (m : Nat) : Prop :=
  IsMap D ∧ (∀ t : Nat, t < 32 → D.atKey (.int .i64 (t : Int)) (.lit (.int .i64 0)) = .lit (.int .i64 ((W t : Nat) : Int))) ∧ (∀ kl, Maps.has D kl = true → ∃ t : Nat, t < 32 ∧ pc t ≤ m ∧ kl = .int .i64 (t : Int))
theorem View.congr {D : DataW Unit} {W W' : Nat → Nat} {m : Nat} (h : View D W m) (he : ∀ t, t < 32 → W t = W' t) : View D W' m :=
  ⟨h.1, fun t ht => by rw [h.2.1 t ht, he t ht], h.2.2⟩
theorem View.more {D : DataW Unit} {W : Nat → Nat} {m m' : Nat} (h : View D W m) (hm : m ≤ m') : View D W m' :=
  ⟨h.1, h.2.1, fun kl hk => by obtain ⟨t, h1, h2, h3⟩ := h.2.2 kl hk; exact ⟨t, h1, by omega, h3⟩⟩
theorem View.empty (m : Nat) : View (.map []) (fun _ => 0) m := ⟨isMap_empty, fun t _ => rfl, fun kl h => by cases h⟩
theorem key_ne {x y : Nat} (h : x ≠ y) : (Lit.int .i64 (x : Int)) ≠ .int .i64 (y : Int) := fun e => h (by injection e with _ e; omega)
theorem View.put {D : DataW Unit} {W : Nat → Nat} {m : Nat} (h : View D W m) {x : Nat} (hx : x < 32) (hp : pc x ≤ m) (y : Nat) :
    View (D.put (.int .i64 (x : Int)) (.lit (.int .i64 (y : Int)))) (fun t => if t = x then y else W t) m := by
  obtain ⟨h1, h2, h3⟩ := h
  refine ⟨h1.put _ _, fun t ht => ?_, fun kl hk => ?_⟩
  · by_cases e : t = x
    · subst e
      rw [atKey_put_same h1 (k := Lit.int .i64 (t : Int)) (show WideAt.IsKeyLit (Lit.int .i64 (t : Int)) from trivial)]
      simp
    · rw [atKey_put_other (key_ne e), h2 t ht]
      simp [e]
  · by_cases e : kl = .int .i64 (x : Int)
    · exact ⟨x, hx, hp, e⟩
    · rw [has_put_other e] at hk
      exact h3 kl hk
theorem View.val {D : DataW Unit} {W : Nat → Nat} {m : Nat} (h : View D W m) {t : Nat} (ht : t < 32) {c : Int} (hc : D.atKey (.int .i64 (t : Int)) (.lit (.int .i64 0)) = .lit (.int .i64 c)) : c = ((W t : Nat) : Int) := by
  rw [h.2.1 t ht] at hc
  injection hc with hc
  injection hc with _ hc
  exact hc.symm
theorem View.none {D : DataW Unit} {W : Nat → Nat} {m : Nat} (h : View D W m) {t : Nat} (ht : t < 32) (hn : Maps.has D (.int .i64 (t : Int)) = false) : W t = 0 := by
  have := h.2.1 t ht
  rw [atKey_of_not_has hn] at this
  injection this with this
  injection this with _ this
  omega
theorem size_le {w : World} {b n : Nat} {D : DataW Unit} (h : OwnsM w b n D) : Maps.size D ≤ n := by
  obtain ⟨es, clock, _, _, hs, rfl⟩ := h
  simp only [Maps.size, length_sorted, List.length_map, Array.length_toList]
  exact hs
/-- The weights of those that are no longer to come. -/
def restW (W : Nat → Nat) (left : Lit → Bool) (t : Nat) : Nat := if left (.int .i64 (t : Int)) then 0 else W t
theorem restW_strike (W : Nat → Nat) (left : Lit → Bool) (x : Nat) (hl : left (.int .i64 (x : Int)) = true) (t : Nat) :
    restW W (fun z => left z && !z.sameKey (.int .i64 (x : Int))) t = restW W left t + if t = x then W x else 0 := by
  unfold restW
  by_cases e : t = x
  · subst e
    have : (Lit.int .i64 (t : Int)).sameKey (.int .i64 (t : Int)) = true := by simp [Lit.sameKey]
    simp [this, hl]
  · simp only [sameKey_ne (key_ne e)]
    simp [e]
theorem stepW_congr {r : Nat} {W W' : Nat → Nat} (h : ∀ t, t < 32 → W t = W' t) (u : Nat) (hu : u < 32) : stepW r W u = stepW r W' u := by
  unfold stepW
  rw [h u hu]
  refine congrArg (_ + ·) (sum5_congr fun c hc => ?_)
  rw [h _ ((by decide +kernel : ∀ t : Fin 32, ∀ c : Fin 5, t.val ^^^ 2 ^ c.val < 32) ⟨u, hu⟩ ⟨c, hc⟩)]
theorem stepW_zero (r u : Nat) : stepW r (fun _ => 0) u = 0 := by
  unfold stepW
  rw [sum5_congr (g := fun _ => 0) (fun c _ => by simp), sum5_zero]
theorem restW_le (W : Nat → Nat) (left : Lit → Bool) (t : Nat) : restW W left t ≤ W t := by unfold restW; split <;> omega

/-! ### The bits of small numbers -/
theorem bits_start : ∀ r x : Fin 32, bits .andNot .i64 (r.val : Int) (x.val : Int) = ((r.val &&& (31 ^^^ x.val) : Nat) : Int) ∧ (r.val &&& (31 ^^^ x.val)) < 32 ∧ ∀ d : Fin 5, (r.val &&& (31 ^^^ x.val)).testBit d.val = (r.val.testBit d.val && !x.val.testBit d.val) := by decide +kernel
theorem bits_low : ∀ f : Fin 32, 0 < f.val → ∃ e : Fin 5, f.val.testBit e.val = true ∧ bits .and .i64 (f.val : Int) (-(f.val : Int)) = ((2 ^ e.val : Nat) : Int) ∧ bits .and .i64 (f.val : Int) ((f.val : Int) - 1) = ((f.val ^^^ 2 ^ e.val : Nat) : Int) ∧ f.val ^^^ 2 ^ e.val < f.val ∧ pc (f.val ^^^ 2 ^ e.val) + 1 = pc f.val := by decide +kernel
theorem bits_or : ∀ x : Fin 32, ∀ e : Fin 5, bits .or .i64 (x.val : Int) ((2 ^ e.val : Nat) : Int) = ((x.val ||| 2 ^ e.val : Nat) : Int) := by decide +kernel
theorem pc_le : ∀ t : Fin 32, pc t.val ≤ 5 := by decide +kernel

set_option maxHeartbeats 2000000 in
set_option maxRecDepth 100000 in
theorem withRow_c (b n m r B : Nat) (D : DataW Unit) (W : Nat → Nat) (w : World) (hown : OwnsM w b n D) (hv : View D W m) (hr : r < 32) (hB : ∀ u, u < 32 → W u ≤ B) (hB2 : B ≤ 10000) (hn : n ≤ 10000) :
    Calls Try.prog 56 #[.map (some b), .int .i64 (r : Int)] w fun e w' => ∃ D', e = .returned (.map (some w.heap.size)) ∧ OwnsM w' w.heap.size (6 * n) D' ∧ View D' (stepW r W) (m + 1) ∧ Below w.heap.size w w' := by
  have hmm := @run_makeMap Try.prog
  have hbl := hown.lt
  have hsz := size_le hown
  have e1 : (w.alloc (.map #[] 0)).heap.size = w.heap.size + 1 := by simp
  have HV := hide hv
  have HB := hide hB
  clear hv hB
  go_enter Try.func56, Try.ntmps56
  go_wp2_with (first
    | (at_range; refine wpList_range_own _ rfl _ 56 rfl 3 3 mlaw Try.underlying56 _ b n _ rfl (hown.alloc _) ?_; intro w0 hrg0 hg0 hs0)
    | go_in)
  go_frame
  rw [e1] at hrg0 hs0 ⊢
  go_loopw [6] (fun _ wr => ∃ (left : Lit → Bool) (cnt : Nat) (Dn : DataW Unit) (nn : Nat), wr.ranges Try.prog 3 (plainElem Try.prog 3) b (w.heap.size + 1) n D left cnt ∧ cnt ≤ n ∧
      OwnsM wr w.heap.size nn Dn ∧ nn + 6 * cnt ≤ 6 * n ∧ Hid (View Dn (stepW r (restW W left)) (m + 1)) ∧ Hid (∀ kl, left kl = true → Maps.has D kl = true) ∧ Below w.heap.size w wr)
    (fun _ wr => wr.rangeLeft b (w.heap.size + 1))
  case atStart =>
    refine ⟨_, _, .map [], 0, hrg0, hsz, (World.ownsMap_made _ _ _ _).kept hg0 (by simp), by omega, ?_, fun kl h => h, ((Below.refl _ _).alloc (Nat.le_refl _) _).grown hg0 (by simp) (fun j hj => by cases hj)⟩
    refine (View.empty (m + 1)).congr fun u hu => ?_
    rw [stepW_congr (W' := fun _ => 0) (fun t ht => by
      unfold restW
      cases hh : Maps.has D (.int .i64 (t : Int)) with
      | true => rfl
      | false => exact HV.out.none ht hh) u hu, stepW_zero]
  case round =>
    obtain ⟨left, cnt, Dn, nn, hrg, hcs, hout, hnn, hvn, hlD, hnx⟩ := hrel
    go_wp2_with (first
      | (at_next; refine wpList_next_ranges_ii _ rfl _ rfl 3 3 .i64 .i64 mlaw Try.underlying3 Try.underlying3 b (w.heap.size + 1) n _ _ _ rfl hrg ?_ ?_)
      | go_in)
    · intro hc0 hl0
      go_wp2
      go_ret
      refine ⟨Dn, rfl, hout.mono (by omega), hvn.out.congr fun u hu => stepW_congr (fun t _ => ?_) u hu, hnx⟩
      unfold restW
      rw [hl0]
      rfl
    · intro x c w1 cnt1 hwx hwc hlx hat hrg1 hlt hg1 hs1 hen
      obtain ⟨t, ht, hpt, ekl⟩ := HV.out.2.2 _ (hlD.out _ hlx)
      obtain rfl : x = (t : Int) := by injection ekl
      obtain rfl : c = ((W t : Nat) : Int) := HV.out.val ht (hat _)
      have hWt := HB.out t ht
      have hbase := hide (fun u hu => stepW_bd r (restW W left) B (fun t ht => Nat.le_trans (restW_le _ _ _) (HB.out t ht)) u hu)
      have hfin := hide (fun u (hu : u < 32) => addW_end (restW W left) (W t) t r ht u hu)
      have hstr := hide (fun u => restW_strike W left t hlx u)
      obtain ⟨hb0, hf0, hd0⟩ := bits_start ⟨r, hr⟩ ⟨t, ht⟩
      simp only at hb0 hf0 hd0
      generalize hf0e : r &&& (31 ^^^ t) = f0 at *
      have hpf := pc_le ⟨f0, hf0⟩
      simp only at hpf
      have hst0 := hide (fun u => addW_first (stepW r (restW W left)) (W t) t r f0 (fun d hd => hd0 ⟨d, hd⟩) u)
      have hmem0 : Hid (∀ d, d < 5 → f0.testBit d = true → r.testBit d = true ∧ t.testBit d = false) := fun d hd h => by
        have := hd0 ⟨d, hd⟩
        simp only at this
        rw [this] at h
        simpa using h
      have hlD1 : Hid (∀ kl, (left kl && !kl.sameKey (.int .i64 (t : Int))) = true → Maps.has D kl = true) := fun kl h => hlD.out kl (by simp only [Bool.and_eq_true] at h; exact h.1)
      have hout1 := hout.kept hg1 (by simp)
      have hnx1 := hnx.grown hg1 hnx.size (fun j hj => by cases hj; exact Nat.le_succ _)
      clear hat hd0 hf0e ekl hlx
      generalize hbW : stepW r (restW W left) = base at *
      clear hbW
      generalize W t = cn at *
      go_wp2_with (first
        | (at_lookup; refine wpList_lookup_own_int _ rfl _ _ 56 rfl 3 3 .i64 mlaw Try.underlying56 Try.underlying3 (mzero _) w.heap.size nn _ rfl hout1 _ _ rfl (keyOf_int_mk Try.underlying3 hwx) ?_
           intro y hy hwy
           have hyv := hide (hvn.out.val ht hy)
           have hyb : 0 ≤ y ∧ y ≤ 60000 := by have := hbase.out t ht; rw [hyv.out]; omega
           obtain ⟨hyb1, hyb2⟩ := hyb)
        | (at_mapUpdate; refine wpList_mapUpdate_own _ rfl _ _ _ 56 rfl 3 3 mlaw Try.underlying56 _ w.heap.size _ _ rfl hout1 (by unfold maxLen; omega) _ _ _ rfl rfl (keyOf_int_mk Try.underlying3 hwx) _ [] (plainElem_int Try.underlying3 (WalkArith.wf_i64 (by omega))) ?_; intro w2 hout2 hg2)
        | go_in)
      have hrg2 := hrg1.kept hg2 (fun e => by have := Option.some.inj e; omega) (fun e => by have := Option.some.inj e; omega)
      have hnx2 := hnx1.grown hg2 (by have := hnx.size; omega) (fun j hj => by cases hj; exact Nat.le_refl _)
      have hv0 : Hid (View (Dn.put (.int .i64 (t : Int)) (.lit (.int .i64 (y + (cn : Int))))) (addW base cn t r f0) (m + 1)) := by
        have e : y + (cn : Int) = ((base t + cn : Nat) : Int) := by rw [hyv.out]; push_cast; rfl
        show View _ _ _
        rw [e]
        exact (hvn.out.put ht (by omega) _).congr fun u hu => by
          rw [hst0.out]
          by_cases h : u = t
          · subst h; simp
          · simp [h]
      clear hout1 hnx1 hout
      go_loopw [8] (fun v wi => ∃ (f ni : Nat) (Di : DataW Unit), f < 32 ∧ v = .int .i64 (f : Int) ∧ Hid (∀ d, d < 5 → f.testBit d = true → r.testBit d = true ∧ t.testBit d = false) ∧ OwnsM wi w.heap.size ni Di ∧ ni + pc f ≤ nn + 6 ∧ Hid (View Di (addW base cn t r f) (m + 1)) ∧
          wi.ranges Try.prog 3 (plainElem Try.prog 3) b (w.heap.size + 1) n D (fun z => left z && !z.sameKey (.int .i64 (t : Int))) cnt1 ∧ Below w.heap.size w wi) (fun v _ => (intOf v).toNat)
      case atStart => exact ⟨f0, nn + 1, _, hf0, rfl, hmem0, hout2, by omega, hv0, hrg2, hnx2⟩
      case round =>
        clear hout2 hv0 hrg2 hnx2 hg2 hb0 hf0 hmem0 hst0 hpf hrg1 hg1 hs1 hen
        obtain ⟨f, ni, Di, hf, rfl, hmem, houti, hni, hvi, hrgi, hnxi⟩ := hrel
        by_cases hpos : 0 < f
        · obtain ⟨⟨e, he⟩, l1, l2, l3, l4, l5⟩ := bits_low ⟨f, hf⟩ hpos
          simp only at l1 l2 l3 l4 l5
          obtain ⟨q1, q2⟩ := hmem.out e he l1
          have l6 := bits_or ⟨t, ht⟩ ⟨e, he⟩
          simp only at l6
          have hq := or_lt t e ht he
          have hpq : pc (t ||| 2 ^ e) ≤ m + 1 := by rw [pc_or t e ht he q2]; omega
          have hstep := hide (fun u => addW_step base cn t r f e he l1 q1 q2 u)
          have hmem' : Hid (∀ d, d < 5 → (f ^^^ 2 ^ e).testBit d = true → r.testBit d = true ∧ t.testBit d = false) := fun d hd h => by
            rw [Nat.testBit_xor, Nat.testBit_two_pow] at h
            by_cases hde : e = d
            · subst hde; simp [l1] at h
            · exact hmem.out d hd (by simpa [hde] using h)
          have hvb : addW base cn t r f (t ||| 2 ^ e) ≤ 6 * B + 6 * B := by
            have h1 := hbase.out _ hq
            have h2 : sum5 (fun d => if r.testBit d && !t.testBit d && !f.testBit d && decide (t ||| 2 ^ e = t ||| 2 ^ d) then cn else 0) ≤ sum5 (fun _ => cn) := sum5_le fun d _ => by split <;> omega
            simp only [sum5] at h2
            unfold addW
            simp only [sum5]
            split <;> omega
          have hf' : f ^^^ 2 ^ e < 32 := by omega
          generalize 2 ^ e = P at *
          generalize hqe : t ||| P = q at *
          generalize f ^^^ P = f' at *
          clear hqe l1 q1 q2 hmem
          have hpos' : (0 : Int) < (f : Int) := by omega
          have hwq : (Lit.int .i64 (q : Int)).wf = true := WalkArith.wf_i64 (by omega)
          go_wp2_with (first
            | (at_lookup; refine wpList_lookup_own_int _ rfl _ _ 56 rfl 3 3 .i64 mlaw Try.underlying56 Try.underlying3 (mzero _) w.heap.size ni _ rfl houti _ _ rfl (keyOf_int_mk Try.underlying3 hwq) ?_
               intro y2 hy2 hwy2
               have hyv2 := hide (hvi.out.val hq hy2)
               have hyb2' : 0 ≤ y2 ∧ y2 ≤ 120000 := by rw [hyv2.out]; omega
               obtain ⟨hyb3, hyb4⟩ := hyb2')
            | (at_mapUpdate; refine wpList_mapUpdate_own _ rfl _ _ _ 56 rfl 3 3 mlaw Try.underlying56 _ w.heap.size _ _ rfl houti (by unfold maxLen; omega) _ _ _ rfl rfl (keyOf_int_mk Try.underlying3 hwq) _ [] (plainElem_int Try.underlying3 (WalkArith.wf_i64 (by omega))) ?_; intro w3 hout3 hg3)
            | go_in)
          have hrg3 := hrgi.kept hg3 (fun e => by have := Option.some.inj e; omega) (fun e => by have := Option.some.inj e; omega)
          refine ⟨⟨f', ni + 1, _, hf', rfl, hmem', hout3, by omega, ?_, hrg3, hnxi.grown hg3 hnxi.size (fun j hj => by cases hj; exact Nat.le_refl _)⟩, by simp [intOf]; omega⟩
          have e : y2 + (cn : Int) = ((addW base cn t r f q + cn : Nat) : Int) := by rw [hyv2.out]; push_cast; rfl
          show View _ _ _
          rw [e]
          exact (hvi.out.put hq hpq _).congr fun u hu => by
            rw [hstep.out]
            by_cases h : u = q
            · subst h; simp
            · simp [h]
        · obtain rfl : f = 0 := by omega
          go_wp2_with fail
          go_roundw
          case rel =>
            refine ⟨_, cnt1, Di, ni, hrgi, by omega, houti, by omega, ?_, hlD1, hnxi⟩
            refine hvi.out.congr fun u hu => ?_
            rw [hfin.out u hu]
            exact stepW_congr (fun t' _ => (hstr.out t').symm) u hu
          case measure => rw [hrgi.left_eq, hrg.left_eq]; exact hlt
end Go.Proofs.Ytlccohoblplddad

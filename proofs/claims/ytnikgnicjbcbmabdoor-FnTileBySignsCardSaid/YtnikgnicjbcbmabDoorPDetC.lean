
/-
  The program's TileBySigns.
-/
import Derived.Test.YtnikgnicjbcbmabDoorPDetB
import Derived.Test.YtnikgnicjbcbmabDoorSpecC
import Derived.Deep.RegionLaw
namespace Go.Proofs.YtnikgnicjbcbmabDoor
open Go.RowKit
set_option linter.unusedVariables false

/-- The rows so far: the first i whole, the i-th one j numbers long, none behind it. -/
structure RowsTo (w : World) (B gR n : Nat) (L : Nat → List Int) (vs : List Value) (i j : Nat) : Prop where
  len : vs.length = n
  row : ∀ k, k < i → ∃ v, vs[k]? = some v ∧ w.ownsRow B 3 1 v (L k).length (ints (L k)) ∧ v.ownBlock ≠ some gR
  cur : i < n → ∃ v, vs[i]? = some v ∧ w.ownsRow B 3 1 v j (ints ((L i).take j)) ∧ v.ownBlock ≠ some gR ∧ ∀ k u, k < i → vs[k]? = some u → ∀ b, u.ownBlock = some b → v.ownBlock ≠ some b
  rest : ∀ k, i < k → k < n → vs[k]? = some (.slice none 0 0)
theorem RowsTo.start {w : World} {B gR n : Nat} {L : Nat → List Int} : RowsTo w B gR n L (List.replicate n (.slice none 0 0)) 0 0 :=
  ⟨by simp, fun k hk => absurd hk (by omega), fun hn => ⟨.slice none 0 0, by simp [hn], by simpa [ints] using World.ownsRow_nil _ _ _ _, (fun e => by cases e), fun k u hk => absurd hk (by omega)⟩, fun k h1 h2 => by simp [h2]⟩
theorem RowsTo.below {w w' : World} {B gR n : Nat} {L : Nat → List Int} {vs : List Value} {i j : Nat} (h : RowsTo w B gR n L vs i j) (hb : Below w.heap.size w w') : RowsTo w' B gR n L vs i j :=
  ⟨h.len, fun k hk => by obtain ⟨v, e1, e2, e3⟩ := h.row k hk; exact ⟨v, e1, own_below e2 hb, e3⟩, fun hi => by obtain ⟨v, e1, e2, e3, e4⟩ := h.cur hi; exact ⟨v, e1, own_below e2 hb, e3, e4⟩, h.rest⟩
theorem RowsTo.drew {w : World} {B gR n : Nat} {L : Nat → List Int} {vs : List Value} {i j : Nat} (h : RowsTo w B gR n L vs i j) : RowsTo w.drew B gR n L vs i j := ⟨h.len, h.row, h.cur, h.rest⟩
theorem RowsTo.cast {w : World} {B gR n : Nat} {L : Nat → List Int} {vs : List Value} {i j j' : Nat} (h : RowsTo w B gR n L vs i j) (e : j = j') : RowsTo w B gR n L vs i j' := e ▸ h
/-- The row is whole: on to the next one. -/
theorem RowsTo.next {w : World} {B gR n : Nat} {L : Nat → List Int} {vs : List Value} {i : Nat} (h : RowsTo w B gR n L vs i (L i).length) (hi : i < n) : RowsTo w B gR n L vs (i + 1) 0 := by
  obtain ⟨v, e1, e2, e3, e4⟩ := h.cur hi
  refine ⟨h.len, fun k hk => ?_, fun hn => ⟨.slice none 0 0, h.rest _ (by omega) hn, by simpa [ints] using World.ownsRow_nil _ _ _ _, (fun e => by cases e), fun k u _ _ b _ e => by cases e⟩, fun k h1 h2 => h.rest k (by omega) h2⟩
  by_cases e : k = i
  · subst e
    exact ⟨v, e1, by rw [List.take_of_length_le (Nat.le_refl _)] at e2; exact e2, e3⟩
  · exact h.row k (by omega)
/-- One number put to the row. -/
theorem RowsTo.put {w w' : World} {B gR n : Nat} {L : Nat → List Int} {vs : List Value} {i j : Nat} {v v' : Value} {x : Int} (h : RowsTo w B gR n L vs i j) (hi : i < n) (hv : vs[i]? = some v) (hj : (L i).take (j + 1) = (L i).take j ++ [x])
    (ho : w'.ownsRow B 3 1 v' (j + 1) (ints ((L i).take j) ++ [.int .i64 x])) (hg : w.grownBy w' v.ownBlock) (hb : v'.ownBlock = v.ownBlock ∨ v'.ownBlock = some w.heap.size) (hgR : gR < w.heap.size) (u : Value) :
    RowsTo (w'.setCell ⟨gR, i, none⟩ u) B gR n L (vs.set i v') i (j + 1) := by
  obtain ⟨v0, e1, e2, e3, e4⟩ := h.cur hi
  rw [hv] at e1
  obtain rfl := Option.some.inj e1
  have hne : v'.ownBlock ≠ some gR := by
    rcases hb with hb | hb
    · rw [hb]; exact e3
    · rw [hb]; intro e; injection e with e; omega
  have keep : ∀ {n : Nat} {u0 : Value} {xs : List Value}, w'.ownsRow B 3 1 u0 n xs → u0.ownBlock ≠ some gR → (w'.setCell ⟨gR, i, none⟩ u).ownsRow B 3 1 u0 n xs := fun h0 hn0 =>
    h0.kept (row := some gR) ⟨rfl, rfl, rfl, by simp, fun k _ hk => Below.heap_setCell w' _ u k (fun e => hk (by rw [e]))⟩ (.inr hn0)
  refine ⟨by simp [h.len], fun k hk => ?_, fun _ => ⟨v', by simp [h.len, hi], ?_, hne, fun k u0 hk hu b hub => ?_⟩, fun k h1 h2 => by rw [List.getElem?_set_ne (by omega)]; exact h.rest k h1 h2⟩
  · obtain ⟨u0, f1, f2, f3⟩ := h.row k hk
    refine ⟨u0, by rw [List.getElem?_set_ne (by omega)]; exact f1, keep (f2.kept hg ?_) f3, f3⟩
    cases hu : u0.ownBlock with
    | none => exact .inl rfl
    | some b => exact .inr fun e => e4 k u0 hk f1 b hu e.symm
  · rw [hj]
    have := keep ho hne
    simpa [ints] using this
  · rw [List.getElem?_set_ne (by omega)] at hu
    rcases hb with hb | hb
    · rw [hb]; exact e4 k u0 hk hu b hub
    · rw [hb]
      intro e
      injection e with e
      obtain ⟨u1, f1, f2, _⟩ := h.row k hk
      rw [hu] at f1
      obtain rfl := Option.some.inj f1
      have := (f2.lt b hub).2
      omega
/-- All rows, as the determinant reads them. -/
theorem RowsTo.all {w : World} {B gR n m : Nat} {L : Nat → List Int} {vs : List Value} (h : RowsTo w B gR n L vs n 0) (hm : 1 ≤ m) (hL : ∀ k, k < n → (L k).length = m) : InRows w vs m ((List.range n).map L) := by
  refine ⟨by simp [h.len], fun i hi => ?_⟩
  simp only [List.length_map, List.length_range] at hi
  obtain ⟨v, e1, e2, e3⟩ := h.row i hi
  rw [hL i hi] at e2
  obtain ⟨g, c, rfl, _, _, hr, _⟩ := own_one e2 (by omega)
  exact ⟨_, c, e1, by simpa [List.getElem?_map, List.getElem?_range hi] using hr, by simpa [List.getElem?_map, List.getElem?_range hi] using hL i hi⟩
theorem own_filled {w : World} {base : Nat} {e : TypeId} {v : Value} {n : Nat} {z : Value} (hz : z.cells = #[z]) (h : w.ownsRow base e 1 v n (madeCells z.cells (n * 1)).toList) : w.ownsRow base e 1 v n (List.replicate n z) := by
  rwa [hz, Nat.mul_one, toList_madeCells_one] at h
/-- The signs of a cell with the others. -/
def signL (w : Nat) (es os : List Nat) (k : Nat) : List Int := os.map (signOf w (es[k]?.getD 0))
theorem signL_len (w : Nat) (es os : List Nat) (k : Nat) : (signL w es os k).length = os.length := by simp [signL]
theorem signL_take (w : Nat) (es os : List Nat) (k j : Nat) (h : j < os.length) : (signL w es os k).take (j + 1) = (signL w es os k).take j ++ [signOf w (es[k]?.getD 0) (os[j]?.getD 0)] := by
  rw [take_snoc _ _ (by rw [signL_len]; exact h)]
  simp [signL, List.getElem?_eq_getElem h]
theorem signL_all (w : Nat) (es os : List Nat) : (List.range es.length).map (signL w es os) = es.map fun a => os.map (signOf w a) := by
  apply List.ext_getElem
  · simp
  · intro i h1 h2
    simp only [List.length_map, List.length_range] at h1
    simp [signL, List.getElem?_eq_getElem h1]
theorem nI_at {l : List Nat} {k : Nat} (h : k < l.length) : (nI l)[k]?.getD 0 = ((l[k]?.getD 0 : Nat) : Int) := by simp [nI, List.getElem?_eq_getElem h]
theorem evens_in {w n x : Nat} (h : x ∈ evens w n) : x < n := List.mem_range.1 (List.mem_filter.1 h).1
theorem odds_in {w n x : Nat} (h : x ∈ odds w n) : x < n := List.mem_range.1 (List.mem_filter.1 h).1
theorem getD_in {l : List Nat} {k : Nat} (h : k < l.length) : l[k]?.getD 0 ∈ l := by
  rw [List.getElem?_eq_getElem h]; exact List.getElem_mem h
theorem colours_odd : ∀ a : Fin 5, ∀ b : Fin 5, ((a.val + 1) * (b.val + 1)) % 2 = 1 → (evens (a.val + 1) ((a.val + 1) * (b.val + 1))).length ≠ (odds (a.val + 1) ((a.val + 1) * (b.val + 1))).length := by decide +kernel

set_option maxHeartbeats 4000000 in
set_option maxRecDepth 100000 in
theorem implTileBySigns_even (w h n : Nat) (W : World) (hT : Tab W) (hw : 1 ≤ w ∧ w ≤ 5) (hh : 1 ≤ h ∧ h ≤ 5) (hel : (evens w (w * h)).length = n) (hol : (odds w (w * h)).length = n) (hn : 1 ≤ n ∧ n ≤ 10) (v : Int) (hM : ∀ r ∈ signsM w h, OneIn r)
    (hv : (if lapP n (signsM w h) (2 ^ n - 1) < 0 then -lapP n (signsM w h) (2 ^ n - 1) else lapP n (signsM w h) (2 ^ n - 1)) = v) :
    Calls Tryd.prog 6 #[.int .i64 (w : Int), .int .i64 (h : Int)] W (Plain (.int .i64 v) W) := by
  obtain ⟨i0, hi0, hz0, hz1, hz2⟩ := info_of (P := Tryd.prog) (e := 35) (z := .slice none 0 0) (size := 1) (bytes := 24) (by kernel_rfl)
  have h25 : w * h ≤ 25 := Nat.mul_le_mul hw.2 hh.2
  have HB := hide (fun w5 => boardOf_yes (w : Int) (h : Int) w5 (by omega) (by omega) (by omega) (by omega))
  have HY := hide (fun w5 => byColour_c w h w5 hw hh)
  have hML : (signsM w h).length = n := by unfold signsM; simp [hel]
  have hMeq : (List.range (evens w (w * h)).length).map (signL w (evens w (w * h)) (odds w (w * h))) = signsM w h := signL_all w _ _
  rw [hel] at hMeq
  have HSG := hide (fun (k j : Nat) (hk : k < n) (hj : j < n) w5 => signOf_c w h ((evens w (w * h))[k]?.getD 0) ((odds w (w * h))[j]?.getD 0) w5 hw hh (evens_in (getD_in (by omega))) (odds_in (getD_in (by omega))))
  have hp10 := pow_ten (n := n) (m := n) hn.2 hn.2
  have HBd := hide (show -10000000000 ≤ lapP n (signsM w h) (2 ^ n - 1) ∧ lapP n (signsM w h) (2 ^ n - 1) ≤ 10000000000 by
    have := lapP_bd n (signsM w h) hM (2 ^ n - 1)
    rw [hML] at this
    omega)
  have HD := hide (fun (A : Option Addr) (c : Nat) (vs : List Value) (w5 : World) (t5 : Tab w5) (h5 : Row w5 A vs) (h6 : InRows w5 vs n (signsM w h)) (h7 : vs.length ≤ c) (h8 : c ≤ maxLen) => show Calls Tryd.prog 15 #[.slice A n c, .int .i64 ((2 ^ n - 1 : Nat) : Int)] w5 _ by
    have := determinant_c n hn.2 (signsM w h) (by omega) hM A c vs (2 ^ n - 1) w5 t5 h5 h6 h7 h8 (by have := Nat.one_le_two_pow (n := n); omega)
    rwa [hML] at this)
  have HF := hide (fun w6 => allOf_c n (by omega) w6)
  have hEi : ∀ k, k < n → (evens w (w * h))[k]?.getD 0 < 25 := fun k hk => Nat.lt_of_lt_of_le (evens_in (getD_in (by omega))) h25
  have hOi : ∀ k, k < n → (odds w (w * h))[k]?.getD 0 < 25 := fun k hk => Nat.lt_of_lt_of_le (odds_in (getD_in (by omega))) h25
  have HEi := hide hEi
  have HOi := hide hOi
  have hel' : (nI (evens w (w * h))).length = n := by rw [nI_len, hel]
  have hol' : (nI (odds w (w * h))).length = n := by rw [nI_len, hol]
  have HEA := hide (fun k (hk : k < n) => nI_at (l := evens w (w * h)) (k := k) (by omega))
  have HOA := hide (fun k (hk : k < n) => nI_at (l := odds w (w * h)) (k := k) (by omega))
  have HST := hide (fun k j (hj : j < n) => signL_take w (evens w (w * h)) (odds w (w * h)) k j (by omega))
  have HSL := hide (fun k => show (signL w (evens w (w * h)) (odds w (w * h)) k).length = n by rw [signL_len, hol])
  have HMQ := hide hMeq
  unfold TwoRows at HY
  simp only [hel, hol] at HY
  generalize evens w (w * h) = es at *
  generalize odds w (w * h) = os at *
  generalize hMM : signsM w h = M at *
  have HMM := hide hMM
  have hvv := hide hv
  have hmx : max (lapP n M (2 ^ n - 1)) (-lapP n M (2 ^ n - 1)) = v := by have := HBd.out; split at hv <;> omega
  have hneg : IntKind.i64.wrap (-lapP n M (2 ^ n - 1)) = -lapP n M (2 ^ n - 1) := IntWalk.i64_in _ (by have := HBd.out; omega)
  generalize lapP n M (2 ^ n - 1) = dv at *
  clear hMM hv hM hMeq hel hol hEi hOi hp10 HBd
  obtain ⟨n1, n10⟩ := hn
  go_enter Tryd.func6, Tryd.ntmps6
  go_wp2_with fail
  refine (HB.out _).mono ?_
  rintro e w1 ⟨rfl, d1⟩
  have bx := Box.new w1 32 #[.int .i64 (w : Int), .int .i64 (h : Int)]
  have z1 := d1.size
  have d1 := d1.alloc z1 (.cells #[.int .i64 (w : Int), .int .i64 (h : Int)] 32)
  have k0 := bx.cell 0
  have k1 := bx.cell 1
  go_wp2_with fail
  refine (HY.out _).mono ?_
  rintro e w2 ⟨ve, vo, rfl, oe, oo, _, d2⟩
  obtain ⟨Ae, ce, rfl, _, _, re, _⟩ := own_row oe
  obtain ⟨Ao, co, rfl, _, _, ro, _⟩ := own_row oo
  have RE := hide re
  have RO := hide ro
  have bx := bx.then d2
  have d2 := below_then d1 d1.size d2
  have hT2 := hide (hT.below d2)
  clear re ro oe oo k0 k1 d1
  have hnn : ((n : Int) != (n : Int)) = false := by simp
  go_wp2_with ((at_make; refine wpList_make_full _ rfl (.tmp 34) (.tmp 34) 38 rfl w2.heap.size 35 i0 (.slice none 0 0) 1 Tryd.underlying38 hi0 hz0 hz1 .i64 .i64 n n n rfl rfl rfl rfl (by rw [hz2]; omega) (by simp [maxLen]; omega) (Nat.le_refl _) ?_; intro w3 hown3 hg3))
  have b3 : Below w2.heap.size w2 w3 := (Below.refl _ _).grown hg3 (Nat.le_refl _) (fun k h => by cases h)
  have o3 := own_filled rfl hown3
  clear hi0 hz0 hz1 hz2 hown3 hg3
  have zlt : w2.heap.size < w3.heap.size := (o3.lt _ rfl).2
  go_loopw [38] (fun i wr => ∃ (k : Nat) (vs : List Value), k ≤ n ∧ i = .int .i64 (k : Int) ∧ wr.ownsRow w2.heap.size 35 1 (.slice (some ⟨w2.heap.size, 0, none⟩) n n) n vs ∧ RowsTo wr w2.heap.size w2.heap.size n (signL w es os) vs k 0 ∧ Below w2.heap.size w2 wr ∧ w2.heap.size < wr.heap.size) (fun i _ => n - (intOf i).toNat)
  case atStart => exact ⟨0, _, Nat.zero_le _, rfl, o3, RowsTo.start, b3, zlt⟩
  case round =>
    obtain ⟨k, vs, hk, rfl, hown, hrows, hb, hz⟩ := hrel
    obtain ⟨wo, rfl⟩ : ∃ wo : World, wo = wr := ⟨_, rfl⟩
    have z := hb.size
    clear o3 b3 zlt
    by_cases hlt : k < n
    · obtain ⟨ade, rfl, hce⟩ := (RE.out.below hb).int (k := k) (by rw [hel']; exact hlt)
      rw [HEA.out k hlt] at hce
      have hei := HEi.out k hlt
      have HSGk := hide (fun j (hj : j < n) w5 => HSG.out k j hlt hj w5)
      have HSTk := hide (fun j (hj : j < n) => HST.out k j hj)
      have k0 : (0 : Int) ≤ (k : Int) := by omega
      have k1 : (k : Int) < (n : Int) := by omega
      generalize es[k]?.getD 0 = ev at *
      go_wp2_with fail
      go_loopw [45] (fun j wr => ∃ (q : Nat) (vs : List Value), q ≤ n ∧ j = .int .i64 (q : Int) ∧ wr.ownsRow w2.heap.size 35 1 (.slice (some ⟨w2.heap.size, 0, none⟩) n n) n vs ∧ RowsTo wr w2.heap.size w2.heap.size n (signL w es os) vs k q ∧ Below w2.heap.size w2 wr ∧ w2.heap.size < wr.heap.size) (fun j _ => n - (intOf j).toNat)
      case atStart => exact ⟨0, vs, Nat.zero_le _, rfl, hown, hrows, hb, hz⟩
      case round =>
        clear hown hrows hb hz z hce
        obtain ⟨q, vs, hq, rfl, hown, hrows, hb, hz⟩ := hrel
        obtain ⟨wi, rfl⟩ : ∃ wi : World, wi = wr := ⟨_, rfl⟩
        have z := hb.size
        by_cases hlt2 : q < n
        · obtain ⟨ado, rfl, hco⟩ := (RO.out.below hb).int (k := q) (by rw [hol']; exact hlt2)
          rw [HOA.out q hlt2] at hco
          have hoi := HOi.out q hlt2
          have HSGq := hide (fun w5 => HSGk.out q hlt2 w5)
          have hst := hide (HSTk.out q hlt2)
          have q0 : (0 : Int) ≤ (q : Int) := by omega
          have q1 : (q : Int) < (n : Int) := by omega
          generalize os[q]?.getD 0 = ov at *
          generalize signOf w ev ov = sg at *
          obtain ⟨vi, hvi, oi, ni, ai⟩ := hrows.cur hlt
          obtain ⟨Ai, ci, rfl, _⟩ := own_row oi
          have hcell := hown.cellAt k (by have := hown.1; simp at this; omega)
          rw [hvi] at hcell
          have hfree := hown.frozenAt k
          have hni : (Value.slice Ai q ci).ownBlock ≠ some w2.heap.size := ni
          have bxo := bx.below hb (by have := bx.in_; omega)
          have k0 := bxo.cell 0
          have k1 := bxo.cell 1
          have hown' := hide hown
          have hrows' := hide hrows
          have oi' := hide oi
          have hni' := hide hni
          clear hown hrows oi ni ai hni
          have hvl : vs.length = n := hrows'.out.len
          have hvk : vs[k]'(by omega) = .slice Ai q ci := by rw [List.getElem?_eq_getElem (by omega)] at hvi; exact Option.some.inj hvi
          have HVI := hide hvi
          clear hvi
          go_wp2_with fail
          go_region_law (first
            | (refine step_put (by rfl) (.tmp 54) (.tmp 59) (by rfl) Tryd.underlying35 elem_int' (v := .slice Ai q ci) (A := some ⟨w4.heap.size, 0, none⟩) (m := 1) (c := 1) (xs := ints ((signL w es os k).take q)) (news := [.int .i64 sg]) (B := w2.heap.size) (by rfl) (o4.out.alloc _) (by rfl) (by rfl) (row_new w4 _ _ rfl) (by simp [Value.oneCell']) (by omega) (by omega) (by simp; omega) ?_
               intro v5 w5 own5 hg5 ho5
               obtain ⟨A5, c5', rfl, _⟩ := own_row own5
               have H5 := hide ((H4.out.alloc (.cells #[.int .i64 sg] 3)).kept hg5 (.inr (fun e => hni'.out e.symm)))
               have c5 := H5.out.cellAt k (by omega)
               rw [HVI.out] at c5
               have f5 := H5.out.frozenAt k
               have O5 := hide own5
               have G5 := hide hg5
               have HO5 := hide ho5
               clear own5 hg5 ho5)
            | (go_simp; go_at_call 14; refine (HSGq.out _).mono ?_
               rintro e w4 ⟨rfl, d4⟩
               have H4 := hide (own_below (w := wi.drew) hown'.out d4)
               have c4 := H4.out.cellAt k (by omega)
               rw [HVI.out] at c4
               have o4 := hide (own_below (w := wi.drew) oi'.out d4)
               have r4 := hide (RowsTo.below (w := wi.drew) (w' := w4) hrows'.out.drew d4)
               have e4 := hide (below_then (w := wi.drew) hb.drew z d4)
               have z4 : w2.heap.size < w4.heap.size := Nat.lt_of_lt_of_le hz d4.size
               clear d4))
          all_goals
            have R5 := hide ((r4.out.below ((Below.refl _ _).alloc (Nat.le_refl _) (.cells #[.int .i64 sg] 3))).put hlt HVI.out hst.out O5.out G5.out HO5.out (by simp; omega) (.slice A5 (q + 1) c5'))
            have H6 := hide (H5.out.stored k (.slice A5 (q + 1) c5')).1
            have z5 := G5.out.size
            have B5 := hide ((below_grown (e4.out.alloc e4.out.size (.cells #[.int .i64 sg] 3)) (by simp; omega) (o4.out.alloc (.cells #[.int .i64 sg] 3)) (Nat.le_refl _) G5.out).setCell (p := ⟨w2.heap.size, k, none⟩) (Nat.le_refl _) (.slice A5 (q + 1) c5'))
            have Z5 := hide (show w2.heap.size < (w5.setCell ⟨w2.heap.size, k, none⟩ (.slice A5 (q + 1) c5')).heap.size by simp at z5 ⊢; omega)
            clear z5 H5 O5 G5 HO5 r4 e4 o4 H4 c4 z4 c5 f5
            go_wp2_with fail
            exact ⟨⟨q + 1, _, hlt2, by go_num, H6.out, R5.out, B5.out, Z5.out⟩, by simp [intOf]; omega⟩
        · obtain rfl : q = n := by omega
          have hrows := (hrows.cast (HSL.out k).symm).next hlt
          go_wp2_with fail
          exact ⟨⟨k + 1, vs, hlt, by go_num, hown, hrows, hb, hz⟩, by simp [intOf]; omega⟩
    · obtain rfl : k = n := by omega
      have hin := hrows.all n1 (fun j _ => HSL.out j)
      rw [HMQ.out] at hin
      have HIN := hide hin
      have HHD := hide (own_reads hown)
      have hvl := hide hrows.len
      have HB3 := hide hb
      clear hin hown hrows hb
      go_wp2_with fail
      refine (HF.out _).mono ?_
      rintro e w' ⟨rfl, rfl⟩
      go_wp2_with fail
      refine (HD.out _ _ _ _ (hT2.out.below HB3.out) HHD.out HIN.out (by have := hvl.out; omega) (by unfold maxLen; omega)).mono ?_
      rintro e w6 ⟨rfl, m, rfl⟩
      go_wp2_with fail
      go_ret
      exact ⟨rfl, below_drewN (below_then d2 d2.size HB3.out) _⟩

/-- Of every board: the signs' determinant. -/
theorem lap_is {w h : Nat} (hw : 1 ≤ w ∧ w ≤ 5) (hh : 1 ≤ h ∧ h ≤ 5) (he : (w * h) % 2 = 0) : (signsM w h).length ≤ 10 ∧ (∀ r ∈ signsM w h, OneIn r) ∧ (if lapP (signsM w h).length (signsM w h) (2 ^ (signsM w h).length - 1) < 0 then -lapP (signsM w h).length (signsM w h) (2 ^ (signsM w h).length - 1) else lapP (signsM w h).length (signsM w h) (2 ^ (signsM w h).length - 1)) = ((rowsT w h (fun _ => false) h 0 : Nat) : Int) := by
  have h0 := lap_ok ⟨w - 1, by omega⟩ ⟨h - 1, by omega⟩
  simp only [show w - 1 + 1 = w by omega, show h - 1 + 1 = h by omega] at h0
  unfold lapOk at h0
  rw [Bool.or_eq_true, Bool.and_eq_true, Bool.and_eq_true] at h0
  rcases h0 with h0 | ⟨⟨h1, h2⟩, h3⟩
  · rw [beq_iff_eq] at h0; omega
  · refine ⟨of_decide_eq_true h1, fun r hr x hx => ?_, beq_iff_eq.1 h3⟩
    have := List.all_eq_true.1 h2 r hr
    rw [Bool.and_eq_true] at this
    exact of_decide_eq_true (List.all_eq_true.1 this.2 x hx)

set_option maxHeartbeats 1000000 in
theorem implTileBySigns_c (bc br : Int) (W : World) (hT : Tab W) : Calls Tryd.prog 6 #[.int .i64 bc, .int .i64 br] W (Plain (.int .i64 (signsP bc br)) W) := by
  by_cases hB : Brd bc br
  · have hsp : signsP bc br = ((rowsT bc.toNat br.toNat (fun _ => false) br.toNat 0 : Nat) : Int) := by unfold signsP; rw [if_pos hB]
    obtain ⟨h1, h2, h3, h4⟩ := hB
    obtain ⟨w, rfl⟩ := Int.eq_ofNat_of_zero_le (show 0 ≤ bc by omega)
    obtain ⟨h, rfl⟩ := Int.eq_ofNat_of_zero_le (show 0 ≤ br by omega)
    have hw : 1 ≤ w ∧ w ≤ 5 := by omega
    have hh : 1 ≤ h ∧ h ≤ 5 := by omega
    rw [hsp]
    simp only [Int.toNat_natCast]
    have hso := signs_is hw hh
    by_cases he : (w * h) % 2 = 0
    · obtain ⟨l1, l2, l3⟩ := lap_is hw hh he
      obtain ⟨_, _, _, e3, e4⟩ := hso.det he
      have hml : (signsM w h).length = (evens w (w * h)).length := by unfold signsM; simp
      exact implTileBySigns_even w h (signsM w h).length W hT hw hh hml.symm e3 ⟨e4, l1⟩ _ l2 l3
    · have hne := colours_odd ⟨w - 1, by omega⟩ ⟨h - 1, by omega⟩
      simp only [show w - 1 + 1 = w by omega, show h - 1 + 1 = h by omega] at hne
      have hne := hne (by omega)
      rw [hso.odd (by omega)]
      have HB := hide (fun w5 => boardOf_yes (w : Int) (h : Int) w5 h1 h2 h3 h4)
      have HY := hide (fun w5 => byColour_c w h w5 hw hh)
      have hnn : (((evens w (w * h)).length : Int) != ((odds w (w * h)).length : Int)) = true := by simpa using fun e => hne (by omega)
      clear hne hso he hsp
      unfold TwoRows at HY
      generalize evens w (w * h) = es at *
      generalize odds w (w * h) = os at *
      go_enter Tryd.func6, Tryd.ntmps6
      go_wp2_with fail
      refine (HB.out _).mono ?_
      rintro e w1 ⟨rfl, d1⟩
      have bx := Box.new w1 32 #[.int .i64 (w : Int), .int .i64 (h : Int)]
      have z1 := d1.size
      have d1 := d1.alloc z1 (.cells #[.int .i64 (w : Int), .int .i64 (h : Int)] 32)
      have k0 := bx.cell 0
      have k1 := bx.cell 1
      go_wp2_with fail
      refine (HY.out _).mono ?_
      rintro e w2 ⟨ve, vo, rfl, oe, oo, _, d2⟩
      obtain ⟨Ae, ce, rfl, _⟩ := own_row oe
      obtain ⟨Ao, co, rfl, _⟩ := own_row oo
      have d2 := below_then d1 d1.size d2
      go_wp2_with fail
      go_ret
      exact ⟨rfl, d2⟩
  · have HB := hide (fun w5 => boardOf_no bc br w5 hB)
    have hsp : signsP bc br = -1 := by unfold signsP; rw [if_neg hB]
    rw [hsp]
    clear hsp hB
    go_enter Tryd.func6, Tryd.ntmps6
    go_wp2_with fail
    refine (HB.out _).mono ?_
    rintro e w1 ⟨rfl, d1⟩
    go_wp2_with fail
    go_ret
    exact ⟨rfl, d1.alloc d1.size _⟩
end Go.Proofs.YtnikgnicjbcbmabDoor


/-
  The model's slides: swapped, SlideOn, odd, OddSwaps.
-/
import Derived.Test.YtnfcklclgcgloabSlideA
namespace Go.Proofs.Ytnfcklclgcgloab
open Go.RowKit
set_option linter.unusedVariables false

theorem at_ints {l : List Int} {k : Nat} (h : k < l.length) : (ints l)[k]? = some (.int .i64 (l[k]?.getD 0)) := by
  simp [List.getElem?_eq_getElem h]
theorem set_ints (l : List Int) (i : Nat) (u : Int) : (ints l).set i (.int .i64 u) = ints (l.set i u) := by simp [ints, List.map_set]

theorem swap_mid {w w1 : World} {l : List Int} {i k : Nat} {x y : Int} {ad : Addr} {v1 : Value} (hck : w.cell? (ad.add k) = some (.int .i64 x)) (hci : w.cell? (ad.add i) = some (.int .i64 y)) (hi : i < l.length) (hk : k < l.length) (i0 : (0 : Int) ≤ (i : Int)) (i1 : (i : Int) < (l.length : Int))
    (mk0 : (w.alloc (.cells #[] 3)).ownsRow w.heap.size 3 1 (.slice (some ⟨w.heap.size, 0, none⟩) 0 0) 0 []) (own1 : w1.ownsRow w.heap.size 3 1 v1 (0 + l.length) ([] ++ ints l)) (hg1 : (w.alloc (.cells #[] 3)).grownBy w1 (some w.heap.size)) :
    ∃ g c1, v1 = .slice (some ⟨g, 0, none⟩) (0 + l.length) c1 ∧ Below w.heap.size w w1 ∧ w1.cell? (ad.add k) = some (.int .i64 x) ∧ w1.cell? ⟨g, i, none⟩ = some (.int .i64 (l[i]?.getD 0)) ∧ w1.frozen? ⟨g, i, none⟩ = false ∧
      (w1.setCell ⟨g, i, none⟩ (.int .i64 x)).cell? (ad.add i) = some (.int .i64 y) ∧ (∃ z, (w1.setCell ⟨g, i, none⟩ (.int .i64 x)).cell? ⟨g, k, none⟩ = some (.int .i64 z)) ∧ (w1.setCell ⟨g, i, none⟩ (.int .i64 x)).frozen? ⟨g, k, none⟩ = false ∧
      Hid (((w1.setCell ⟨g, i, none⟩ (.int .i64 x)).setCell ⟨g, k, none⟩ (.int .i64 y)).ownsRow w.heap.size 3 1 (.slice (some ⟨g, 0, none⟩) l.length c1) l.length (ints ((l.set i x).set k y)) ∧ Below w.heap.size w ((w1.setCell ⟨g, i, none⟩ (.int .i64 x)).setCell ⟨g, k, none⟩ (.int .i64 y))) := by
  have b1 := below_grown ((Below.refl _ _).alloc (Nat.le_refl _) _) (by simp) mk0 (Nat.le_refl _) hg1
  rw [List.nil_append] at own1
  obtain ⟨g, c1, rfl, _, _, _, hg, hgs⟩ := own_one own1 (by omega)
  rw [Nat.zero_add] at own1
  have cf := own1.frozenAt i
  have ci0 := own1.cellAt i (by omega)
  rw [at_ints hi] at ci0
  obtain ⟨o2, g2⟩ := own1.stored i (.int .i64 x)
  rw [set_ints] at o2
  have c2 := o2.cellAt k (by omega)
  have f2 := o2.frozenAt k
  rw [at_ints (by simpa using hk)] at c2
  obtain ⟨o3, g3⟩ := o2.stored k (.int .i64 y)
  rw [set_ints] at o3
  have b3 := (b1.grown g2 b1.size (fun n e => by injection e with e; omega)).grown g3 (Nat.le_trans b1.size g2.size) (fun n e => by injection e with e; omega)
  have hci' : w1.cell? (ad.add i) = some (.int .i64 y) := (b1.cell (World.block_lt_of_cell? _ _ hci)).trans hci
  have hck' : w1.cell? (ad.add k) = some (.int .i64 x) := (b1.cell (World.block_lt_of_cell? _ _ hck)).trans hck
  have hne : g ≠ ad.block := by
    have := World.block_lt_of_cell? _ _ hci
    rw [addr_block] at this
    omega
  exact ⟨g, c1, rfl, b1, hck', ci0, cf, (World.cell?_setCell_other w1 _ _ _ (fun e => by have := congrArg Addr.block e; rw [addr_block] at this; exact hne this)).trans hci', ⟨_, c2⟩, f2, o3, b3⟩

set_option maxHeartbeats 1000000 in
theorem swapped_c (A : Option Addr) (l : List Int) (c n i k : Nat) (w : World) (hn : l.length = n) (hr : Row w A (ints l)) (hm : l.length ≤ 1000) (hi : i < n) (hk : k < n) :
    Calls Try.prog 23 #[.slice A n c, .int .i64 (i : Int), .int .i64 (k : Int)] w (Owns 3 1 n (ints (swapP l i k)) w) := by
  subst hn
  have HE := hide (show swapP l i k = (l.set i (l[k]?.getD 0)).set k (l[i]?.getD 0) from rfl)
  generalize hx : l[k]?.getD 0 = x at *
  generalize hy : l[i]?.getD 0 = y at *
  have i0 : (0 : Int) ≤ (i : Int) := by omega
  have i1 : (i : Int) < (l.length : Int) := by omega
  have k0 : (0 : Int) ≤ (k : Int) := by omega
  have k1 : (k : Int) < (l.length : Int) := by omega
  have mk0 := World.ownsRow_made (base := w.heap.size) (e := 3) (size := 1) w #[] 0 (Nat.le_refl _) (by simp [maxLen]) rfl
  have hba : Below w.heap.size w (w.alloc (.cells #[] 3)) := (Below.refl _ _).alloc (Nat.le_refl _) _
  obtain ⟨ad, rfl, hci⟩ := hr.int hi
  obtain ⟨ad', e, hck⟩ := hr.int hk
  obtain rfl : ad = ad' := by injection e
  rw [hx] at hck
  rw [hy] at hci
  have HX := hide hx
  have HY := hide hy
  clear hx hy e
  go_enter Try.func23, Try.ntmps23
  have HK := hide (fun (v1 : Value) (w1 : World) (own1 : w1.ownsRow w.heap.size 3 1 v1 (0 + l.length) ([] ++ ints l)) (hg1 : (w.alloc (.cells #[] 3)).grownBy w1 (some w.heap.size)) => swap_mid hck hci hi hk i0 i1 mk0 own1 hg1)
  clear mk0 hci hck HX HY
  go_wp2_with ((at_builtin; refine put_own rfl (.tmp 8) (.tmp 9) rfl Try.underlying23 elem_int0 rfl (World.ownsRow_made (base := w.heap.size) (e := 3) (size := 1) w #[] 0 (Nat.le_refl _) (by simp [maxLen]) rfl) rfl (m := l.length) (news := ints l) (by simp) (hr.below hba) (fun u hu => by obtain ⟨q, _, rfl⟩ := List.mem_map.1 hu; rfl) (by omega) (by omega) (by simp) ?_; intro v1 w1 own1 hg1 ho1; (obtain ⟨g, c1, rfl, b1, hck1, ci0, cf, hci2, ⟨z, ck2⟩, f2, hO⟩ := HK.out v1 w1 own1 hg1); clear own1 hg1 ho1))
  go_ret
  obtain ⟨o3, b3⟩ := hO.out
  exact ⟨_, rfl, by rw [HE.out]; exact o3, b3⟩

/-- How many of the first j are greater than the one at i. -/
def cntG (l : List Int) (i : Nat) : Nat → Nat
  | 0 => 0
  | j + 1 => cntG l i j + if l[j]?.getD 0 > l[i]?.getD 0 then 1 else 0
/-- How many pairs, the second one ahead of i, are the wrong way round. -/
def invA (l : List Int) : Nat → Nat
  | 0 => 0
  | i + 1 => invA l i + cntG l i i
theorem cntG_le (l : List Int) (i : Nat) : ∀ j, cntG l i j ≤ j
  | 0 => Nat.le_refl _
  | j + 1 => by have := cntG_le l i j; unfold cntG; split <;> omega
theorem invA_le (l : List Int) : ∀ i, i ≤ 6 → invA l i ≤ 6 * i
  | 0, _ => Nat.le_refl _
  | i + 1, h => by have := invA_le l i (by omega); have := cntG_le l i i; unfold invA; omega
def invFact (l : List Int) : Bool := invA l l.length == invP l
theorem inv0 : (injL 0 0).all invFact = true := by decide +kernel
theorem inv1 : (injL 1 1).all invFact = true := by decide +kernel
theorem inv2 : (injL 2 2).all invFact = true := by decide +kernel
theorem inv3 : (injL 3 3).all invFact = true := by decide +kernel
theorem inv4 : (injL 4 4).all invFact = true := by decide +kernel
theorem inv5 : (injL 5 5).all invFact = true := by decide +kernel
theorem inv6 : (injL 6 6).all invFact = true := by decide +kernel
theorem inv_is {l : List Int} (h : Ordr l) : invA l l.length = invP l := by
  have hm := ord_inj h
  have h6 := h.1
  have : invFact l = true := by
    obtain e | e | e | e | e | e | e : l.length = 0 ∨ l.length = 1 ∨ l.length = 2 ∨ l.length = 3 ∨ l.length = 4 ∨ l.length = 5 ∨ l.length = 6 := by omega
    all_goals rw [e] at hm
    · exact List.all_eq_true.1 inv0 _ hm
    · exact List.all_eq_true.1 inv1 _ hm
    · exact List.all_eq_true.1 inv2 _ hm
    · exact List.all_eq_true.1 inv3 _ hm
    · exact List.all_eq_true.1 inv4 _ hm
    · exact List.all_eq_true.1 inv5 _ hm
    · exact List.all_eq_true.1 inv6 _ hm
  exact beq_iff_eq.1 this
set_option maxHeartbeats 1000000 in
theorem odd_q (A : Option Addr) (l : List Int) (c n : Nat) (w : World) (hn : l.length = n) (hr : Row w A (ints l)) (ho : Ordr l) :
    Calls Try.prog 26 #[.slice A n c] w fun e w' => e = .returned (.int .i64 ((oddP l : Nat) : Int)) ∧ ∃ m, w' = w.drewN m := by
  subst hn
  have h6 := ho.1
  have HE := hide (show ((oddP l : Nat) : Int) = ((invA l l.length % 2 : Nat) : Int) by rw [inv_is ho]; rfl)
  have HLE := hide (fun i hi => invA_le l i hi)
  have HGL := hide (fun i j => cntG_le l i j)
  clear ho
  go_enter Try.func26, Try.ntmps26
  go_wp2_with fail
  go_loopw [3, 4] (fun a i wr => ∃ k : Nat, k ≤ l.length ∧ i = .int .i64 (k : Int) ∧ a = .int .i64 ((invA l k : Nat) : Int) ∧ ∃ m, wr = w.drewN m) (fun _ i _ => l.length - (intOf i).toNat)
  case atStart => exact ⟨0, Nat.zero_le _, rfl, rfl, 0, rfl⟩
  case round =>
    obtain ⟨k, hk, rfl, rfl, m, rfl⟩ := hrel
    have hle := HLE.out k (by omega)
    by_cases hlt : k < l.length
    · have HS := hide (show invA l (k + 1) = invA l k + cntG l k k from rfl)
      generalize invA l k = a at *
      go_wp2_with fail
      go_loopw [3, 5] (fun b j wr => ∃ q : Nat, q ≤ k ∧ j = .int .i64 (q : Int) ∧ b = .int .i64 ((a + cntG l k q : Nat) : Int) ∧ ∃ m, wr = w.drewN m) (fun _ j _ => k - (intOf j).toNat)
      case atStart => exact ⟨0, Nat.zero_le _, rfl, rfl, m, rfl⟩
      case round =>
        obtain ⟨q, hq, rfl, rfl, m', rfl⟩ := hrel
        have hgl := HGL.out k q
        by_cases hlt2 : q < k
        · have hsq : Hid (cntG l k (q + 1) = cntG l k q + if l[q]?.getD 0 > l[k]?.getD 0 then 1 else 0) := rfl
          obtain ⟨ad, rfl, hc1⟩ := hr.int (k := q) (by omega)
          obtain ⟨ad', e, hc2⟩ := hr.int (k := k) hlt
          obtain rfl : ad = ad' := by injection e
          generalize l[q]?.getD 0 = x at *
          generalize l[k]?.getD 0 = y at *
          generalize cntG l k q = g at *
          have q0 : (0 : Int) ≤ (q : Int) := by omega
          have q1 : (q : Int) < (l.length : Int) := by omega
          have k0 : (0 : Int) ≤ (k : Int) := by omega
          have k1 : (k : Int) < (l.length : Int) := by omega
          have q2 : (q : Int) < (k : Int) := by omega
          clear e
          by_cases hxy : x > y
          · rw [if_pos hxy] at hsq
            have hyx : y < x := hxy
            have ea : IntKind.i64.wrap (((a + g : Nat) : Int) + 1) = ((a + (g + 1) : Nat) : Int) := by rw [IntWalk.i64_in _ (by omega)]; omega
            clear hxy
            go_wp2_with fail
            go_quiet (fail)
            go_wp2_with fail
            exact ⟨⟨q + 1, hlt2, by go_num, congrArg (Value.int .i64) (by rw [hsq.out]; omega), m' + nq, rfl⟩, by simp [intOf]; omega⟩
          · rw [if_neg hxy, Nat.add_zero] at hsq
            have hyx : ¬ y < x := hxy
            clear hxy
            go_wp2_with fail
            go_quiet (fail)
            go_wp2_with fail
            exact ⟨⟨q + 1, hlt2, by go_num, congrArg (Value.int .i64) (by rw [hsq.out]; omega), m' + nq, rfl⟩, by simp [intOf]; omega⟩
        · obtain rfl : q = k := by omega
          go_wp2_with fail
          exact ⟨⟨q + 1, hlt, by go_num, by rw [HS.out], m', rfl⟩, by simp [intOf]; omega⟩
    · obtain rfl : k = l.length := by omega
      have t1 : Int.tmod ((invA l l.length : Nat) : Int) 2 = ((invA l l.length % 2 : Nat) : Int) := rfl
      generalize invA l l.length % 2 = z at *
      go_wp2_with fail
      go_ret
      exact ⟨by rw [HE.out]; rfl, m, rfl⟩

theorem odd_c (A : Option Addr) (l : List Int) (c n : Nat) (w : World) (hn : l.length = n) (hr : Row w A (ints l)) (ho : Ordr l) :
    Calls Try.prog 26 #[.slice A n c] w (Plain (.int .i64 ((oddP l : Nat) : Int)) w) :=
  (odd_q A l c n w hn hr ho).mono fun e w' ⟨h, m, hm⟩ => ⟨h, hm ▸ below_drewN (Below.refl _ _) m⟩
set_option maxHeartbeats 1000000 in
theorem specOddSwaps_c (bc br : Int) (A C : Option Addr) (ca cc : Nat) (a b : List Int) (w : World) (ha : Row w A (ints a)) (hb : Row w C (ints b)) (h1 : a.length ≤ ca) (h2 : ca ≤ maxLen) (h3 : b.length ≤ cc) (h4 : cc ≤ maxLen) :
    Calls Try.prog 11 #[.int .i64 bc, .int .i64 br, .slice A a.length ca, .slice C b.length cc] w (Plain (.int .i64 (oddSwapsP bc br a b)) w) := by
  have HA := hide ha
  have HB := hide hb
  by_cases sa : SlideIs bc br a
  · by_cases sb : SlideIs bc br b
    · have HV1 := hide (fun w5 (h5 : Below w.heap.size w w5) => validSlide_yes rfl (HA.out.below h5) h1 h2 sa)
      have HV2 := hide (fun w5 (h5 : Below w.heap.size w w5) => validSlide_yes rfl (HB.out.below h5) h3 h4 sb)
      have HO1 := hide (fun w5 (h5 : Below w.heap.size w w5) => odd_c A a ca a.length w5 rfl (HA.out.below h5) sa.ord)
      have HO2 := hide (fun w5 (h5 : Below w.heap.size w w5) => odd_c C b cc b.length w5 rfl (HB.out.below h5) sb.ord)
      have HE := hide (show oddSwapsP bc br a b = (((oddP a + oddP b) % 2 : Nat) : Int) by unfold oddSwapsP; rw [if_pos ⟨sa, sb⟩])
      have o1 := odd_le a
      have o2 := odd_le b
      clear sa sb ha hb
      generalize oddP a = x at *
      generalize oddP b = y at *
      have e1 : IntKind.i64.wrap ((x : Int) + (y : Int)) = ((x + y : Nat) : Int) := (IntWalk.i64_in _ (by omega)).trans (by omega)
      have t1 : Int.tmod ((x + y : Nat) : Int) 2 = (((x + y) % 2 : Nat) : Int) := rfl
      have e2 : IntKind.i64.wrap (((x + y) % 2 : Nat) : Int) = (((x + y) % 2 : Nat) : Int) := IntWalk.i64_in _ (by omega)
      generalize (x + y) % 2 = z at *
      generalize x + y = xy at *
      rw [HE.out]
      go_enter Try.func11, Try.ntmps11
      go_wp2_with fail
      refine (HV1.out _ (Below.refl _ _)).mono ?_
      rintro e w1 ⟨rfl, b1⟩
      go_wp2_with fail
      refine (HV2.out _ b1).mono ?_
      rintro e w2 ⟨rfl, b2⟩
      have b2 := below_then b1 b1.size b2
      go_wp2_with fail
      refine (HO1.out _ b2).mono ?_
      rintro e w3 ⟨rfl, b3⟩
      have b3 := below_then b2 b2.size b3
      go_wp2_with fail
      refine (HO2.out _ b3).mono ?_
      rintro e w4 ⟨rfl, b4⟩
      have b4 := below_then b3 b3.size b4
      go_wp2_with fail
      go_ret
      exact ⟨rfl, b4⟩
    · have HV1 := hide (fun w5 (h5 : Below w.heap.size w w5) => validSlide_yes rfl (HA.out.below h5) h1 h2 sa)
      have HV2 := hide (fun w5 (h5 : Below w.heap.size w w5) => validSlide_no rfl (HB.out.below h5) h3 h4 sb)
      have HE := hide (show oddSwapsP bc br a b = -1 by unfold oddSwapsP; rw [if_neg (fun h => sb h.2)])
      rw [HE.out]
      clear sa sb ha hb
      go_enter Try.func11, Try.ntmps11
      go_wp2_with fail
      refine (HV1.out _ (Below.refl _ _)).mono ?_
      rintro e w1 ⟨rfl, b1⟩
      go_wp2_with fail
      refine (HV2.out _ b1).mono ?_
      rintro e w2 ⟨rfl, b2⟩
      have b2 := below_then b1 b1.size b2
      go_wp2_with fail
      go_ret
      exact ⟨rfl, b2⟩
  · have HV1 := hide (fun w5 (h5 : Below w.heap.size w w5) => validSlide_no rfl (HA.out.below h5) h1 h2 sa)
    have HE := hide (show oddSwapsP bc br a b = -1 by unfold oddSwapsP; rw [if_neg (fun h => sa h.1)])
    rw [HE.out]
    clear sa ha hb
    go_enter Try.func11, Try.ntmps11
    go_wp2_with fail
    refine (HV1.out _ (Below.refl _ _)).mono ?_
    rintro e w1 ⟨rfl, b1⟩
    go_wp2_with fail
    go_ret
    exact ⟨rfl, b1⟩

/-- What SlideOn hands back. -/
def SlidIs (o : Option (List Int)) (w : World) (e : Ending) (w' : World) : Prop := ∃ v, e = .returned (.tuple #[v, .bool o.isSome]) ∧ w'.ownsRow w.heap.size 3 1 v (o.getD []).length (ints (o.getD [])) ∧ Below w.heap.size w w'
theorem slid_none {w w' : World} (h : Below w.heap.size w w') : SlidIs none w (.returned (.tuple #[.slice none 0 0, .bool false])) w' := ⟨_, rfl, World.ownsRow_nil _ _ _ _, h⟩
theorem reach_near_len (w h c : Nat) : (reachP (w : Int) (h : Int) false [] (c : Int) straight).length ≤ 20 := by
  have := reach_len (w : Int) (h : Int) false [] (c : Int) straight
  simpa [straight] using this
end Go.Proofs.Ytnfcklclgcgloab

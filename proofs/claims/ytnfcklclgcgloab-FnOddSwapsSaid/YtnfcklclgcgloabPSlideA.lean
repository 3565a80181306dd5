
/-
  The program's slides: isOrder, gap, apart.
-/
import Derived.Test.YtnfcklclgcgloabSix
import Derived.Test.YtnfcklclgcgloabSlideB
import Derived.Test.YtnfcklclgcgloabMoveC
import Derived.Test.YtnfcklclgcgloabShelf
import Derived.BigRegion
namespace Go.Proofs.Ytnfcklclgcgloab
open Go.RowKit
set_option linter.unusedVariables false

theorem info_of {P : Program} {e : TypeId} {z : Value} {size bytes : Nat} (h : (P.info? e).map (fun i => (i.zero, i.size, i.bytes)) = some (some z, size, bytes)) : ∃ i, P.info? e = some i ∧ i.zero = some z ∧ i.size = size ∧ i.bytes = bytes := by
  cases hi : P.info? e with
  | none => simp [hi] at h
  | some i =>
    simp only [hi, Option.map_some, Option.some.injEq, Prod.mk.injEq] at h
    exact ⟨i, rfl, h.1, h.2.1, h.2.2⟩
theorem own_filled {w : World} {base : Nat} {e : TypeId} {v : Value} {n : Nat} {z : Value} (hz : z.cells = #[z]) (h : w.ownsRow base e 1 v n (madeCells z.cells (n * 1)).toList) : w.ownsRow base e 1 v n (List.replicate n z) := by
  rwa [hz, Nat.mul_one, toList_madeCells_one] at h
/-! ### Orders -/
abbrev boolsV (l : List Bool) : List Value := l.map Value.bool
theorem boolsV_at {l : List Bool} {k : Nat} (h : k < l.length) : (boolsV l)[k]? = some (.bool (l[k]?.getD false)) := by
  rw [boolsV, List.getElem?_map, List.getElem?_eq_getElem h]; rfl
theorem boolsV_set (l : List Bool) (i : Nat) (u : Bool) : (boolsV l).set i (.bool u) = boolsV (l.set i u) := by simp [boolsV, List.map_set]
/-- Which numbers the first k are. -/
def metI (l : List Int) (k : Nat) : List Bool := (List.range l.length).map fun (j : Nat) => decide ((j : Int) ∈ l.take k)
theorem metI_len (l : List Int) (k : Nat) : (metI l k).length = l.length := by simp [metI]
theorem metI_at (l : List Int) (k j : Nat) (h : j < l.length) : (metI l k)[j]?.getD false = decide ((j : Int) ∈ l.take k) := by
  simp [metI, List.getElem?_map, List.getElem?_range h]
theorem metI_zero (l : List Int) : metI l 0 = List.replicate l.length false := by
  apply List.ext_getElem
  · simp [metI]
  · intro i h1 h2; simp [metI]
theorem metI_succ (l : List Int) (k x : Nat) (hk : k < l.length) (hx : l[k]?.getD 0 = (x : Int)) : (metI l k).set x true = metI l (k + 1) := by
  apply List.ext_getElem
  · simp [metI]
  · intro j j1 j2
    rw [List.getElem_set]
    simp only [metI, List.getElem_map, List.getElem_range, take_snoc l k hk, List.mem_append, List.mem_singleton, hx]
    by_cases h : x = j
    · subst h; simp
    · rw [if_neg h]
      have : ¬ ((j : Int) = (x : Int)) := by omega
      simp [this]
set_option maxHeartbeats 1000000 in
theorem isOrder_c (A : Option Addr) (c : Nat) (l : List Int) (w : World) (hr : Row w A (ints l)) (hm : l.length ≤ 6) :
    Calls Try.prog 34 #[.slice A l.length c] w (Plain (.bool (decide (OnceTo l l.length))) w) := by
  obtain ⟨i0, hi0, hz0, hz1, hz2⟩ := info_of (P := Try.prog) (e := 4) (z := .bool false) (size := 1) (bytes := 1) (by kernel_rfl)
  have HZ : Hid (boolsV (metI l 0) = List.replicate l.length (.bool false)) := by show _ = _; rw [metI_zero]; simp [boolsV]
  have HL := hide (fun k => metI_len l k)
  have HA := hide (fun k j h => metI_at l k j h)
  have HS := hide (fun k x h1 h2 => metI_succ l k x h1 h2)
  go_enter Try.func34, Try.ntmps34
  go_wp2_with ((at_make; refine wpList_make_full _ rfl (.tmp 7) (.tmp 7) 68 rfl w.heap.size 4 i0 (.bool false) 1 Try.underlying68 hi0 hz0 hz1 .i64 .i64 l.length l.length l.length rfl rfl rfl rfl (by rw [hz2]; omega) (by simp [maxLen]; omega) (Nat.le_refl _) ?_; intro w1 hown1 hg1))
  have b1 : Below w.heap.size w w1 := (Below.refl _ _).grown hg1 (Nat.le_refl _) (fun k h => by cases h)
  have o1 : w1.ownsRow w.heap.size 4 1 (.slice (some ⟨w.heap.size, 0, none⟩) l.length l.length) l.length (boolsV (metI l 0)) := by
    rw [HZ.out]; exact own_filled rfl hown1
  clear hi0 hz0 hz1 hz2 hown1 hg1
  go_loopw [11] (fun i wr => ∃ k : Nat, k ≤ l.length ∧ i = .int .i64 (k : Int) ∧ Hid (OnceTo l k) ∧ wr.ownsRow w.heap.size 4 1 (.slice (some ⟨w.heap.size, 0, none⟩) l.length l.length) l.length (boolsV (metI l k)) ∧ Below w.heap.size w wr) (fun i _ => l.length - (intOf i).toNat)
  case atStart => exact ⟨0, Nat.zero_le _, rfl, fun i hi => absurd hi (by omega), o1, b1⟩
  case round =>
    obtain ⟨k, hk, rfl, hon, own, bw⟩ := hrel
    obtain ⟨wo, rfl⟩ : ∃ wo : World, wo = wr := ⟨_, rfl⟩
    by_cases hlt : k < l.length
    · obtain ⟨ad, rfl, hca⟩ := (hr.below bw).int hlt
      have HNO := hide (fun (h : ¬ ((0 ≤ l[k]?.getD 0 ∧ l[k]?.getD 0 ≤ (l.length : Int) - 1) ∧ ¬ l[k]?.getD 0 ∈ l.take k)) => show decide (OnceTo l l.length) = false from decide_eq_false (fun ho => h (ho k hlt)))
      have HYE := hide (fun (h : (0 ≤ l[k]?.getD 0 ∧ l[k]?.getD 0 ≤ (l.length : Int) - 1) ∧ ¬ l[k]?.getD 0 ∈ l.take k) => show OnceTo l (k + 1) from fun i hi => by
        by_cases e : i = k
        · subst e; exact h
        · exact hon.out i (by omega))
      have HSk := hide (fun x h => HS.out k x hlt h)
      obtain ⟨y, hy⟩ : ∃ y, l[k]?.getD 0 = y := ⟨_, rfl⟩
      rw [hy] at hca HNO HYE HSk
      have k0 : (0 : Int) ≤ (k : Int) := by omega
      have k1 : (k : Int) < (l.length : Int) := by omega
      clear hy
      by_cases y0 : 0 ≤ y
      · by_cases y1 : y < (l.length : Int)
        · obtain ⟨x, hx⟩ := Int.eq_ofNat_of_zero_le y0
          subst hx
          have hxl : x < l.length := by omega
          have hcell := own.cellAt x (by omega)
          rw [boolsV_at (by rw [HL.out]; omega), HA.out k x hxl] at hcell
          have hf := own.frozenAt x
          obtain ⟨ost, gst⟩ := own.stored x (.bool true)
          rw [boolsV_set, HSk.out x rfl] at ost
          have bst := bw.grown gst bw.size (fun n e => by injection e with e; omega)
          have Ost := hide ost
          have Bst := hide bst
          clear ost gst bst own
          cases hmem : decide ((x : Int) ∈ l.take k) with
          | true =>
            have HF := hide (HNO.out (fun h => h.2 (of_decide_eq_true hmem)))
            rw [hmem] at hcell
            clear hmem
            go_wp2_with fail
            go_ret
            exact ⟨ret_bool HF.out.symm, bw⟩
          | false =>
            have HT := hide (HYE.out ⟨⟨y0, by omega⟩, of_decide_eq_false hmem⟩)
            rw [hmem] at hcell
            clear hmem
            go_wp2_with fail
            exact ⟨⟨k + 1, hlt, rfl, HT.out, Ost.out, Bst.out⟩, by simp [intOf]; omega⟩
        · have HF := hide (HNO.out (fun h => y1 (by omega)))
          go_wp2_with fail
          go_ret
          exact ⟨ret_bool HF.out.symm, bw⟩
      · have HF := hide (HNO.out (fun h => y0 h.1.1))
        go_wp2_with fail
        go_ret
        exact ⟨ret_bool HF.out.symm, bw⟩
    · have hkl : Hid (k = l.length) := hide (by omega)
      have HT := hide (show decide (OnceTo l l.length) = true from decide_eq_true (by rw [← hkl.out]; exact hon.out))
      go_wp2_with fail
      go_ret
      exact ⟨ret_bool HT.out.symm, bw⟩

/-! ### The gap -/
theorem index6_c (g : Nat) (t : TypeId) (f : Nat → Int) (x : Int) (k : Nat) (w : World) (hb : Box w g t (sixF f)) (hk : k < 6) (hx : f k = x) (hne : ∀ j, j < k → f j ≠ x) :
    Calls Try.prog 40 #[.slice (some ⟨g, 0, none⟩) 6 6, .int .i64 x] w fun e w' => e = .returned (.int .i64 (k : Int)) ∧ w = w' := by
  have hi := Lib.idxOf_hit ((List.range 6).map f) 6 k x hk (by simp) (by rw [zs_at f hk]; exact hx) (fun j hj => by rw [zs_at f (by omega)]; exact hne j hj)
  have := Try.slices_Index_int g 0 6 6 ((List.range 6).map f) x w (by simp) (by omega) (fun j hj => by
    have hj6 : j < 6 := by simpa using hj
    rw [Nat.zero_add, hb.cell j, sixF_at f hj6, zs_at f hj6])
  rw [hi] at this
  exact this.mono fun e w' ⟨h1, h2⟩ => ⟨h1, h2.symm⟩
theorem gap_c (l : List Int) (w : World) (ho : Ordr l) (h0 : 0 < l.length) : Calls Try.prog 30 #[slideV l] w (Plain (.int .i64 ((gapP l : Nat) : Int)) w) := by
  have hg := gap_lt ho h0
  have h6 := ho.1
  have HI := hide (fun (g : Nat) (w5 : World) (h5 : Box w5 g 40 (sixF (atF l))) => index6_c g 40 (atF l) 0 (gapP l) w5 h5 (by omega) (gap_at ho h0) (fun j hj he => by
    have := place_is (l := l) (x := 0) (k := j) (by omega) he
    by_cases h : ∃ i, i < j ∧ l[i]?.getD 0 = 0
    · obtain ⟨i, hi, e⟩ := h
      have := List.not_of_lt_findIdx (p := (· == (0 : Int))) (xs := l) (i := i) (show i < List.findIdx _ l from Nat.lt_trans hi hj)
      rw [List.getElem?_eq_getElem (by omega), Option.getD_some] at e
      simp [e] at this
    · have := this (fun i hi e => h ⟨i, hi, e⟩)
      have e2 : gapP l = j := this
      omega))
  clear ho
  generalize gapP l = G at *
  have bx := Box.new w 40 (sixF (atF l))
  go_enter Try.func30, Try.ntmps30
  go_wp2_with fail
  refine (HI.out _ _ bx).mono ?_
  rintro e w' ⟨rfl, rfl⟩
  go_wp2_with fail
  go_ret
  exact ⟨rfl, (Below.refl _ _).alloc (Nat.le_refl _) _⟩

set_option maxHeartbeats 1000000 in
theorem apart_c (x y a b : Nat) (w : World) (hx : 1 ≤ x ∧ x ≤ 5) (ha : a < 25) (hb : b < 25) :
    Calls Try.prog 29 #[boardV (x : Int) (y : Int), .int .i64 (a : Int), .int .i64 (b : Int)] w (Plain (.int .i64 ((apN x a b : Nat) : Int)) w) := by
  have HE := hide (show ((apN x a b : Nat) : Int) = (((a / x - b / x) + (b / x - a / x) : Nat) : Int) + (((a % x - b % x) + (b % x - a % x) : Nat) : Int) by unfold apN; push_cast; rfl)
  have t1 : Int.tdiv (a : Int) (x : Int) = ((a / x : Nat) : Int) := rfl
  have t2 : Int.tmod (a : Int) (x : Int) = ((a % x : Nat) : Int) := rfl
  have t3 : Int.tdiv (b : Int) (x : Int) = ((b / x : Nat) : Int) := rfl
  have t4 : Int.tmod (b : Int) (x : Int) = ((b % x : Nat) : Int) := rfl
  have t1' : (a : Int) / (x : Int) = ((a / x : Nat) : Int) := rfl
  have t2' : (a : Int) % (x : Int) = ((a % x : Nat) : Int) := rfl
  have t3' : (b : Int) / (x : Int) = ((b / x : Nat) : Int) := rfl
  have t4' : (b : Int) % (x : Int) = ((b % x : Nat) : Int) := rfl
  have d1 := Nat.div_le_self a x
  have d2 := Nat.mod_le a x
  have d3 := Nat.div_le_self b x
  have d4 := Nat.mod_le b x
  generalize apN x a b = R at *
  generalize a / x = p at *
  generalize a % x = q at *
  generalize b / x = r at *
  generalize b % x = s at *
  have x0 : (x : Int) ≠ 0 := by omega
  have x00 : ¬ x = 0 := by omega
  have w1 : IntKind.i64.wrap (p : Int) = (p : Int) := IntWalk.i64_in _ (by omega)
  have w2 : IntKind.i64.wrap (q : Int) = (q : Int) := IntWalk.i64_in _ (by omega)
  have w3 : IntKind.i64.wrap (r : Int) = (r : Int) := IntWalk.i64_in _ (by omega)
  have w4 : IntKind.i64.wrap (s : Int) = (s : Int) := IntWalk.i64_in _ (by omega)
  obtain ⟨u, hu⟩ : ∃ u : Int, (p : Int) - (r : Int) = u := ⟨_, rfl⟩
  obtain ⟨v, hv⟩ : ∃ v : Int, (q : Int) - (s : Int) = v := ⟨_, rfl⟩
  have e1 : IntKind.i64.wrap ((p : Int) - (r : Int)) = u := (IntWalk.i64_in _ (by omega)).trans hu
  have e2 : IntKind.i64.wrap ((q : Int) - (s : Int)) = v := (IntWalk.i64_in _ (by omega)).trans hv
  have e3 : IntKind.i64.wrap (-u) = -u := IntWalk.i64_in _ (by omega)
  have e4 : IntKind.i64.wrap (-v) = -v := IntWalk.i64_in _ (by omega)
  have hre := HE.out
  have eM : IntKind.i64.wrap (max u (-u) + max v (-v)) = (R : Int) := (IntWalk.i64_in _ (by omega)).trans (by omega)
  clear hre
  clear HE hu hv d1 d2 d3 d4
  have bx := Box.new w 38 #[.int .i64 (x : Int), .int .i64 (y : Int)]
  have c0 := bx.cell 0
  have c1 := bx.cell 1
  go_enter Try.func29, Try.ntmps29
  go_wp2_with fail
  go_quiet (fail)
  go_wp2_with fail
  go_ret
  exact ⟨rfl, below_drewN ((Below.refl _ _).alloc (Nat.le_refl _) _) _⟩

/-! ### A move -/
end Go.Proofs.Ytnfcklclgcgloab

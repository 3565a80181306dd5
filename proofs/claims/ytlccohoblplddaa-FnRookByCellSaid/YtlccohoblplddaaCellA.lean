
/-
  The program's small words for rooks cell by cell.
-/
import Derived.Test.YtlccohoblplddaaCellP
import Derived.Test.YtlccohoblplddaaSeatD
import Derived.Test.YtlccohoblplddaaSpRookB
import Derived.Lib.SliceRun
namespace Go.Proofs.Ytlccohoblplddaa
open Go.RowKit
set_option linter.unusedVariables false

abbrev natI (R : List Nat) : List Int := R.map fun (r : Nat) => (r : Int)
theorem natI_at (R : List Nat) (k : Nat) : (natI R)[k]?.getD 0 = ((R[k]?.getD 0 : Nat) : Int) := by
  rw [natI, List.getElem?_map]
  cases R[k]? <;> simp
theorem small_at {R : List Nat} {n : Nat} (hn : 0 < n) (h : ∀ x ∈ R, x < n) (k : Nat) : R[k]?.getD 0 < n := by
  cases hk : R[k]? with
  | none => simpa using hn
  | some y => exact h y (List.mem_of_getElem? hk)
theorem clr_not : ∀ x : Fin 32, ∀ e : Fin 5, bits .andNot .i64 (x.val : Int) ((2 ^ e.val : Nat) : Int) = ((clr e.val x.val : Nat) : Int) := by decide +kernel
theorem low_of {x : Nat} (hx : x < 32) (h0 : 0 < x) : ∃ e, e < 5 ∧ x.testBit e = true ∧ bits .and .i64 (x : Int) (-(x : Int)) = ((2 ^ e : Nat) : Int) ∧ ∀ d, d < e → x.testBit d = false := by
  obtain ⟨e, h⟩ := (by decide +kernel : ∀ f : Fin 32, 0 < f.val → ∃ e : Fin 5, f.val.testBit e.val = true ∧ bits .and .i64 (f.val : Int) (-(f.val : Int)) = ((2 ^ e.val : Nat) : Int) ∧ ∀ d : Fin 5, d.val < e.val → f.val.testBit d.val = false) ⟨x, hx⟩ h0
  exact ⟨e.val, e.isLt, h.1, h.2.1, fun d hd => h.2.2 ⟨d, by have := e.isLt; omega⟩ hd⟩

theorem nez_c (x : Int) (b : Bool) (h : (x != 0) = b) (w : World) : Calls Try.prog 36 #[.int .i64 x] w fun e w' => e = .returned (.bool b) ∧ w = w' := by
  subst h
  go_enter Try.func36, Try.ntmps36
  go_wp2
  go_ret
  exact ⟨rfl, rfl⟩
/-- The first row with a cell. -/
def First (R : List Nat) (w : World) (e : Ending) (w' : World) : Prop :=
  ∃ i : Int, e = .returned (.int .i64 i) ∧ ((i = -1 ∧ ∀ j, j < R.length → R[j]?.getD 0 = 0) ∨ ∃ j : Nat, i = (j : Int) ∧ j < R.length ∧ 0 < R[j]?.getD 0 ∧ ∀ j', j' < j → R[j']?.getD 0 = 0) ∧ w = w'
set_option maxHeartbeats 400000 in
theorem indexFunc_c (A : Option Addr) (c : Nat) (R : List Nat) (w : World) (hr : Row w A (ints (natI R))) (hm : R.length ≤ 5) :
    Calls Try.prog 35 #[.slice A R.length c, .func (.func 36) #[] #[]] w (First R w) := by
  have hln : (natI R).length = R.length := by simp
  go_enter Try.func35, Try.ntmps35
  go_wp2_with fail
  go_loopw [8] (fun i wr => ∃ k : Nat, k ≤ R.length ∧ i = .int .i64 (k : Int) ∧ Hid (∀ j, j < k → R[j]?.getD 0 = 0) ∧ w = wr) (fun i _ => R.length - (intOf i).toNat)
  case atStart => exact ⟨0, Nat.zero_le _, rfl, fun j hj => absurd hj (by omega), rfl⟩
  case round =>
    obtain ⟨k, hk, rfl, hz, rfl⟩ := hrel
    by_cases hlt : k < R.length
    · obtain ⟨ad, rfl, hca⟩ := hr.int (k := k) (by simpa using hlt)
      rw [natI_at] at hca
      obtain ⟨x, hx⟩ : ∃ x, R[k]?.getD 0 = x := ⟨_, rfl⟩
      rw [hx] at hca
      have X := hide hx
      clear hx
      have k0 : (0 : Int) ≤ (k : Int) := by omega
      have k1 : (k : Int) < (R.length : Int) := by omega
      by_cases h0 : x = 0
      · have HN := hide (fun w5 => nez_c (x : Int) false (by subst h0; rfl) w5)
        have H0 := hide h0
        clear h0
        go_wp2_with fail
        refine (HN.out _).mono ?_
        rintro e w1 ⟨rfl, rfl⟩
        go_wp2_with fail
        exact ⟨⟨k + 1, hlt, rfl, fun j hj => by
          by_cases e : j = k
          · subst e; rw [X.out, H0.out]
          · exact hz.out j (by omega), trivial⟩, by simp [intOf]; omega⟩
      · have HN := hide (fun w5 => nez_c (x : Int) true (by simp [bne_iff_ne]; omega) w5)
        have H0 := hide h0
        clear h0
        go_wp2_with fail
        refine (HN.out _).mono ?_
        rintro e w1 ⟨rfl, rfl⟩
        go_wp2_with fail
        go_ret
        exact ⟨(k : Int), rfl, .inr ⟨k, rfl, hlt, by rw [X.out]; have := H0.out; omega, hz.out⟩, rfl⟩
    · have hkl : Hid (k = R.length) := hide (by omega)
      go_wp2_with fail
      go_ret
      exact ⟨-1, rfl, .inl ⟨rfl, fun j hj => hz.out j (by have := hkl.out; omega)⟩, rfl⟩

theorem clone_c (ad : Addr) (c : Nat) (l : List Int) (w : World) (hr : Row w (some ad) (ints l)) (hm : l.length ≤ 5) :
    Calls Try.prog 42 #[.slice (some ad) l.length c] w (Owns 3 1 l.length (ints l) w) := by
  have oe := World.ownsRow_made (base := w.heap.size) (e := 3) (size := 1) w #[] 0 (Nat.le_refl _) (by simp [maxLen]) rfl
  have hb := (Below.refl w.heap.size w).alloc (Nat.le_refl _) (.cells #[] 3)
  have hr2 := hr.below hb
  have q22 : ∀ (w : World) (a : Option Addr) (n c n' c' : Nat), (binOp .eql 22 (.slice a n c) (.slice none n' c')).run Try.prog w = .ok (.bool a.isNone) w := fun w a n c n' c' => Lib.run_eql_slice_nil w _ _ a n c n' c' Try.underlying22
  go_enter Try.func42, Try.ntmps42
  go_wp2_with ((at_builtin; refine put_own rfl (.tmp 5) (.tmp 6) rfl Try.underlying22 elem_int' rfl oe rfl (m := l.length) (news := ints l) (by simp) hr2 (one_ints _) (by omega) (by omega) hb.size ?_; intro v2 w2 own2 hg2 ho2))
  go_ret
  exact ⟨v2, rfl, by simpa using own2, below_grown hb hb.size oe (Nat.le_refl _) hg2⟩

theorem cell_ints (R : List Nat) (i e : Nat) : (natI R).set i ((clr e (R[i]?.getD 0) : Nat) : Int) = natI (cellP R i e) := by simp [natI, cellP, List.map_set]
set_option maxHeartbeats 400000 in
theorem withoutCell_c (ad : Addr) (c i e : Nat) (R : List Nat) (w : World) (hr : Row w (some ad) (ints (natI R))) (hm : R.length ≤ 5) (hi : i < R.length) (he : e < 5) (hR : ∀ x ∈ R, x < 32) :
    Calls Try.prog 37 #[.slice (some ad) R.length c, .int .i64 (i : Int), .int .i64 ((2 ^ e : Nat) : Int)] w (Owns 3 1 R.length (ints (natI (cellP R i e))) w) := by
  have HC := hide (clone_c ad c (natI R) w hr (by simpa using hm))
  rw [show (natI R).length = R.length by simp] at HC
  have hx := small_at (by omega) hR i
  have hbit := clr_not ⟨R[i]?.getD 0, hx⟩ ⟨e, he⟩
  simp only at hbit
  have hset := hide (cell_ints R i e)
  have hv := hide (natI_at R i)
  have hll := hide (show (natI R).length = R.length by simp)
  have hpe := (pow_bd (n := e) (by omega)).2
  generalize natI R = l at *
  generalize clr e (R[i]?.getD 0) = y at *
  generalize R[i]?.getD 0 = x at *
  generalize 2 ^ e = P at *
  have i0 : (0 : Int) ≤ (i : Int) := by omega
  have i1 : (i : Int) < (R.length : Int) := by omega
  go_enter Try.func37, Try.ntmps37
  go_wp2_with fail
  refine HC.out.mono ?_
  rintro e1 w1 ⟨v1, rfl, o1, b1⟩
  obtain ⟨g, c1, rfl, _, _, _, g1, g2⟩ := own_one o1 (by omega)
  have hc := o1.cellAt i (by omega)
  rw [at_ints (by rw [hll.out]; exact hi), hv.out] at hc
  have hf := o1.frozenAt i
  obtain ⟨ost, gst⟩ := o1.stored i (.int .i64 (y : Int))
  rw [ints_set3, hset.out] at ost
  have bst := b1.grown gst b1.size (fun n e => by injection e with e; omega)
  have Ost := hide ost
  have Bst := hide bst
  clear ost gst bst
  go_wp2_with fail
  go_ret
  exact ⟨_, rfl, Ost.out, Bst.out⟩

theorem clr_zero (e : Nat) : clr e 0 = 0 := by simp [clr]
/-- The first k rows have lost the column. -/
def linesTo (R : List Nat) (i e k : Nat) : List Nat := (List.range R.length).map fun j => if j < k then clr e ((R.set i 0)[j]?.getD 0) else (R.set i 0)[j]?.getD 0
theorem linesTo_zero (R : List Nat) (i e : Nat) : linesTo R i e 0 = R.set i 0 := by
  apply List.ext_getElem
  · simp [linesTo]
  · intro j j1 j2
    simp only [linesTo, List.getElem_map, List.getElem_range, Nat.not_lt_zero, if_false]
    rw [List.getElem?_eq_getElem j2, Option.getD_some]
theorem linesTo_all (R : List Nat) (i e : Nat) : linesTo R i e R.length = linesP R i e := by
  apply List.ext_getElem
  · simp [linesTo, linesP]
  · intro j j1 j2
    have hj : j < R.length := by simpa [linesTo] using j1
    have hj2 : j < (R.set i 0).length := by simpa using hj
    simp only [linesTo, linesP, List.getElem_map, List.getElem_range, if_pos hj, List.getElem?_eq_getElem hj2, Option.getD_some]
theorem linesTo_len (R : List Nat) (i e k : Nat) : (linesTo R i e k).length = R.length := by simp [linesTo]
theorem linesTo_at (R : List Nat) (i e k : Nat) (hk : k < R.length) : (linesTo R i e k)[k]?.getD 0 = (R.set i 0)[k]?.getD 0 := by
  simp [linesTo, List.getElem?_map, List.getElem?_range hk]
theorem linesTo_succ (R : List Nat) (i e k : Nat) (hk : k < R.length) : (linesTo R i e k).set k (clr e ((R.set i 0)[k]?.getD 0)) = linesTo R i e (k + 1) := by
  apply List.ext_getElem
  · simp [linesTo]
  · intro j j1 j2
    rw [List.getElem_set]
    simp only [linesTo, List.getElem_map, List.getElem_range]
    by_cases h : k = j
    · subst h; simp
    · rw [if_neg h]
      have : (j < k) = (j < k + 1) := by apply propext; omega
      simp only [this]
theorem natI_set (R : List Nat) (i x : Nat) : (natI R).set i ((x : Nat) : Int) = natI (R.set i x) := by simp [natI, List.map_set]
set_option maxHeartbeats 1000000 in
theorem withoutLines_c (ad : Addr) (c i e : Nat) (R : List Nat) (w : World) (hr : Row w (some ad) (ints (natI R))) (hm : R.length ≤ 5) (hi : i < R.length) (he : e < 5) (hR : ∀ x ∈ R, x < 32) :
    Calls Try.prog 38 #[.slice (some ad) R.length c, .int .i64 (i : Int), .int .i64 ((2 ^ e : Nat) : Int)] w (Owns 3 1 R.length (ints (natI (linesP R i e))) w) := by
  have HC := hide (clone_c ad c (natI R) w hr (by simpa using hm))
  rw [show (natI R).length = R.length by simp] at HC
  have hbit := hide (fun (x : Nat) (hx : x < 32) => show bits .andNot .i64 (x : Int) ((2 ^ e : Nat) : Int) = ((clr e x : Nat) : Int) from clr_not ⟨x, hx⟩ ⟨e, he⟩)
  have hsm := hide (fun k => small_at (by omega) (fun x hx => by
    rcases List.mem_or_eq_of_mem_set hx with h | h
    · exact hR x h
    · omega : ∀ x ∈ R.set i 0, x < 32) k)
  have hset := hide (show (natI R).set i 0 = natI (linesTo R i e 0) by rw [linesTo_zero]; exact natI_set R i 0)
  have hall := hide (linesTo_all R i e)
  have hpe := (pow_bd (n := e) (by omega)).2
  have hll := hide (show (natI R).length = R.length by simp)
  generalize natI R = l at *
  generalize hP : 2 ^ e = P at *
  clear hP
  have i0 : (0 : Int) ≤ (i : Int) := by omega
  have i1 : (i : Int) < (R.length : Int) := by omega
  clear hR
  go_enter Try.func38, Try.ntmps38
  go_wp2_with fail
  refine HC.out.mono ?_
  rintro e1 w1 ⟨v1, rfl, o1, b1⟩
  obtain ⟨g, c1, rfl, _, _, _, g1, g2⟩ := own_one o1 (by omega)
  have hc := o1.cellAt i (by omega)
  rw [at_ints (by rw [hll.out]; exact hi)] at hc
  have hf := o1.frozenAt i
  obtain ⟨ost, gst⟩ := o1.stored i (.int .i64 0)
  rw [ints_set3, hset.out] at ost
  have bst := b1.grown gst b1.size (fun n e => by injection e with e; omega)
  have Ost := hide ost
  have Bst := hide bst
  clear ost gst bst
  go_wp2_with fail
  generalize w1.setCell ⟨g, i, none⟩ (Value.int .i64 0) = w2 at *
  go_loopw [16] (fun j wr => ∃ k : Nat, k ≤ R.length ∧ j = .int .i64 (k : Int) ∧ wr.ownsRow w.heap.size 3 1 (.slice (some ⟨g, 0, none⟩) R.length c1) R.length (ints (natI (linesTo R i e k))) ∧ Below w.heap.size w wr) (fun j _ => R.length - (intOf j).toNat)
  case atStart => exact ⟨0, Nat.zero_le _, rfl, Ost.out, Bst.out⟩
  case round =>
    obtain ⟨k, hk, rfl, hown, hb⟩ := hrel
    obtain ⟨wo, rfl⟩ : ∃ wo : World, wo = wr := ⟨_, rfl⟩
    have z := hb.size
    by_cases hlt : k < R.length
    · have hck := hown.cellAt k (by omega)
      rw [at_ints (by simp [linesTo]; omega), natI_at, linesTo_at _ _ _ _ hlt] at hck
      have hfk := hown.frozenAt k
      have hx := hsm.out k
      have hsuc := hide (show (natI (linesTo R i e k)).set k ((clr e ((R.set i 0)[k]?.getD 0) : Nat) : Int) = natI (linesTo R i e (k + 1)) by rw [natI_set, linesTo_succ _ _ _ _ hlt])
      obtain ⟨x, hxe⟩ : ∃ x, (R.set i 0)[k]?.getD 0 = x := ⟨_, rfl⟩
      rw [hxe] at hck hx hsuc
      clear hxe
      have hb1 := hbit.out x hx
      generalize clr e x = y at *
      obtain ⟨ost, gst⟩ := hown.stored k (.int .i64 (y : Int))
      rw [ints_set3, hsuc.out] at ost
      have bst := hb.grown gst z (fun n e => by injection e with e; omega)
      have Ost2 := hide ost
      have Bst2 := hide bst
      clear ost gst bst
      have k0 : (0 : Int) ≤ (k : Int) := by omega
      have k1 : (k : Int) < (R.length : Int) := by omega
      go_wp2_with fail
      exact ⟨⟨k + 1, hlt, rfl, Ost2.out, Bst2.out⟩, by simp [intOf]; omega⟩
    · obtain rfl : k = R.length := by omega
      rw [hall.out] at hown
      go_wp2_with fail
      go_ret
      exact ⟨_, rfl, hown, hb⟩
end Go.Proofs.Ytlccohoblplddaa

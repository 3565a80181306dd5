
/-
  The program's images: Reverse, upsideDown, exchanged, isOrder.
-/
import Derived.Test.YtlccohoblplddadPRows
import Derived.Test.YtlccohoblplddadQueenG
import Derived.Test.YtlccohoblplddadShelf
import Derived.Lib.OwnBridge
namespace Go.Proofs.Ytlccohoblplddad
open Go.RowKit
set_option linter.unusedVariables false

theorem at_intsI {l : List Int} {k : Nat} (h : k < l.length) : (ints l)[k]? = some (.int .i64 (l[k]?.getD 0)) := by
  simp [List.getElem?_eq_getElem h]
theorem set_intsI (l : List Int) (i : Nat) (u : Int) : (ints l).set i (.int .i64 u) = ints (l.set i u) := by simp [ints, List.map_set]
theorem reverse_c (B : Nat) (A : Option Addr) (c : Nat) (l : List Int) (w : World) (hown : w.ownsRow B 3 1 (.slice A l.length c) l.length (ints l)) (hm : l.length ≤ 6) (hb : B ≤ w.heap.size) :
    Calls Try.prog 64 #[.slice A l.length c] w fun e w' => e = .returned (.tuple #[]) ∧ w'.ownsRow B 3 1 (.slice A l.length c) l.length (ints l.reverse) ∧ Below B w w' := by
  by_cases h0 : l = []
  · subst h0
    refine (Try.slices_Reverse_int_empty A c w).mono ?_
    rintro e w' ⟨rfl, rfl⟩
    exact ⟨rfl, hown, Below.refl _ _⟩
  · obtain ⟨g, cap, e, hg, _, _, _, _, hH⟩ := Lib.holds_of_ownsRow (enc := Value.int .i64) hown (fun e => h0 (List.eq_nil_of_length_eq_zero (by injection e)))
    injection e with e1 _ e3
    subst e1
    subst e3
    refine (Try.slices_Reverse_int g 0 c l w hH (by omega)).mono ?_
    rintro e w' ⟨rfl, q, rfl⟩
    have ho := Lib.ownsRow_putRow (q := q) (ys := l.reverse) hown (by simp) (Nat.le_refl _)
    rw [List.take_of_length_le (by simp)] at ho
    exact ⟨rfl, ho, Lib.below_putRow (Below.refl _ _) hg⟩
theorem upsideDown_c (A : Option Addr) (c : Nat) (l : List Int) (w : World) (hr : Row w A (ints l)) (hm : l.length ≤ 6) :
    Calls Try.prog 60 #[.slice A l.length c] w (Owns 3 1 l.length (ints l.reverse) w) := by
  have HC := hide (cloneAny_c A c l w hr hm)
  have HR := hide (fun A' c' w5 h5 (b5 : w.heap.size ≤ w5.heap.size) => reverse_c w.heap.size A' c' l w5 h5 hm b5)
  generalize ints l.reverse = out at *
  go_enter Try.func60, Try.ntmps60
  go_wp2_with fail
  refine HC.out.mono ?_
  rintro e w1 ⟨v1, rfl, o1, b1⟩
  obtain ⟨A1, c1, rfl, _⟩ := own_row o1
  go_wp2_with fail
  refine (HR.out A1 c1 w1 o1 b1.size).mono ?_
  rintro e w2 ⟨rfl, o2, b2⟩
  have B2 := hide (b1.trans b2)
  clear b1 b2
  go_wp2_with fail
  go_ret
  exact ⟨_, rfl, o2, B2.out⟩

/-- Rows and columns exchanged, the first k. -/
def exTo (n : Nat) (l : List Int) : Nat → List Int
  | 0 => List.replicate n 0
  | k + 1 => (exTo n l k).set (l[k]?.getD 0).toNat (k : Int)
theorem exTo_len (n : Nat) (l : List Int) : ∀ k, (exTo n l k).length = n
  | 0 => by simp [exTo]
  | k + 1 => by rw [exTo, List.length_set]; exact exTo_len n l k
set_option maxHeartbeats 1000000 in
theorem exchanged_c (A : Option Addr) (c : Nat) (l : List Int) (w : World) (hr : Row w A (ints l)) (hm : l.length ≤ 6) (hc : Cols l.length l) :
    Calls Try.prog 61 #[.slice A l.length c] w (Owns 3 1 l.length (ints (exTo l.length l l.length)) w) := by
  obtain ⟨i0, hi0, hz0, hz1, hz2⟩ := info_of (P := Try.prog) (e := 3) (z := .int .i64 0) (size := 1) (bytes := 8) (by kernel_rfl)
  have HS := hide (fun k => show exTo l.length l (k + 1) = (exTo l.length l k).set (l[k]?.getD 0).toNat (k : Int) from rfl)
  have HL := hide (fun k => exTo_len l.length l k)
  have HC := hide hc.2
  have HZ : Hid (ints (exTo l.length l 0) = List.replicate l.length (.int .i64 0)) := by show _ = _; simp [exTo, ints]
  clear hc
  go_enter Try.func61, Try.ntmps61
  go_wp2_with ((at_make; refine wpList_make_full _ rfl (.tmp 7) (.tmp 7) 27 rfl w.heap.size 3 i0 (.int .i64 0) 1 Try.underlying27 hi0 hz0 hz1 .i64 .i64 l.length l.length l.length rfl rfl rfl rfl (by rw [hz2]; omega) (by simp [maxLen]; omega) (Nat.le_refl _) ?_; intro w1 hown1 hg1))
  have b1 : Below w.heap.size w w1 := (Below.refl _ _).grown hg1 (Nat.le_refl _) (fun k h => by cases h)
  have o1 : w1.ownsRow w.heap.size 3 1 (.slice (some ⟨w.heap.size, 0, none⟩) l.length l.length) l.length (ints (exTo l.length l 0)) := by
    rw [HZ.out]; exact own_filled rfl hown1
  clear hi0 hz0 hz1 hz2 hown1 hg1
  go_loopw [11] (fun i wr => ∃ k : Nat, k ≤ l.length ∧ i = .int .i64 (k : Int) ∧ wr.ownsRow w.heap.size 3 1 (.slice (some ⟨w.heap.size, 0, none⟩) l.length l.length) l.length (ints (exTo l.length l k)) ∧ Below w.heap.size w wr) (fun i _ => l.length - (intOf i).toNat)
  case atStart => exact ⟨0, Nat.zero_le _, rfl, o1, b1⟩
  case round =>
    obtain ⟨k, hk, rfl, own, bw⟩ := hrel
    obtain ⟨wo, rfl⟩ : ∃ wo : World, wo = wr := ⟨_, rfl⟩
    by_cases hlt : k < l.length
    · obtain ⟨ad, rfl, hca⟩ := (hr.below bw).int hlt
      obtain ⟨c0, c1⟩ := HC.out k hlt
      obtain ⟨x, hx⟩ := Int.eq_ofNat_of_zero_le c0
      have HSk := hide (HS.out k)
      rw [hx] at hca c1 HSk
      have hxl : x < l.length := by omega
      have hcell := own.cellAt x (by omega)
      rw [at_intsI (by rw [HL.out]; omega)] at hcell
      have hf := own.frozenAt x
      obtain ⟨ost, gst⟩ := own.stored x (.int .i64 (k : Int))
      rw [set_intsI, show (exTo l.length l k).set x (k : Int) = exTo l.length l (k + 1) from by rw [HSk.out]; simp] at ost
      have bst := bw.grown gst bw.size (fun n e => by injection e with e; omega)
      have Ost := hide ost
      have Bst := hide bst
      have k0 : (0 : Int) ≤ (k : Int) := by omega
      have k1 : (k : Int) < (l.length : Int) := by omega
      have x0 : (0 : Int) ≤ (x : Int) := by omega
      have x1 : (x : Int) < (l.length : Int) := by omega
      clear ost gst bst own hx
      go_wp2_with fail
      exact ⟨⟨k + 1, hlt, rfl, Ost.out, Bst.out⟩, by simp [intOf]; omega⟩
    · obtain rfl : k = l.length := by omega
      have Own := hide own
      clear own
      go_wp2_with fail
      go_ret
      exact ⟨_, rfl, Own.out, bw⟩

/-! ### Orders -/
abbrev boolsV (l : List Bool) : List Value := l.map Value.bool
theorem boolsV_at {l : List Bool} {k : Nat} (h : k < l.length) : (boolsV l)[k]? = some (.bool (l[k]?.getD false)) := by
  rw [boolsV, List.getElem?_map, List.getElem?_eq_getElem h]; rfl
theorem boolsV_set (l : List Bool) (i : Nat) (u : Bool) : (boolsV l).set i (.bool u) = boolsV (l.set i u) := by simp [boolsV, List.map_set]
/-- Which numbers the first k are. -/
def metI (l : List Int) (k : Nat) : List Bool := (List.range l.length).map fun (j : Nat) => decide ((j : Int) ∈ l.take k)
theorem metI_len (l : List Int) (k : Nat) : (metI l k).length = l.length := by simp [metI]
theorem metI_at (l : List Int) (k j : Nat) (h : j < l.length) : (metI l k)[j]?.getD false = decide ((j : Int) ∈ l.take k) := by
  simp [metI, List.getElem?_map, List.getElem?_range h]
theorem metI_zero (l : List Int) : metI l 0 = List.replicate l.length false := by
  apply List.ext_getElem
  · simp [metI]
  · intro i h1 h2; simp [metI]
theorem metI_succ (l : List Int) (k x : Nat) (hk : k < l.length) (hx : l[k]?.getD 0 = (x : Int)) : (metI l k).set x true = metI l (k + 1) := by
  apply List.ext_getElem
  · simp [metI]
  · intro j j1 j2
    rw [List.getElem_set]
    simp only [metI, List.getElem_map, List.getElem_range, take_snoc l k hk, List.mem_append, List.mem_singleton, hx]
    by_cases h : x = j
    · subst h; simp
    · rw [if_neg h]
      have : ¬ ((j : Int) = (x : Int)) := by omega
      simp [this]
set_option maxHeartbeats 1000000 in
theorem isOrder_c (A : Option Addr) (c : Nat) (l : List Int) (w : World) (hr : Row w A (ints l)) (hm : l.length ≤ 6) :
    Calls Try.prog 41 #[.slice A l.length c] w (Plain (.bool (decide (OnceTo l l.length))) w) := by
  obtain ⟨i0, hi0, hz0, hz1, hz2⟩ := info_of (P := Try.prog) (e := 4) (z := .bool false) (size := 1) (bytes := 1) (by kernel_rfl)
  have HZ : Hid (boolsV (metI l 0) = List.replicate l.length (.bool false)) := by show _ = _; rw [metI_zero]; simp [boolsV]
  have HL := hide (fun k => metI_len l k)
  have HA := hide (fun k j h => metI_at l k j h)
  have HS := hide (fun k x h1 h2 => metI_succ l k x h1 h2)
  go_enter Try.func41, Try.ntmps41
  go_wp2_with ((at_make; refine wpList_make_full _ rfl (.tmp 7) (.tmp 7) 55 rfl w.heap.size 4 i0 (.bool false) 1 Try.underlying55 hi0 hz0 hz1 .i64 .i64 l.length l.length l.length rfl rfl rfl rfl (by rw [hz2]; omega) (by simp [maxLen]; omega) (Nat.le_refl _) ?_; intro w1 hown1 hg1))
  have b1 : Below w.heap.size w w1 := (Below.refl _ _).grown hg1 (Nat.le_refl _) (fun k h => by cases h)
  have o1 : w1.ownsRow w.heap.size 4 1 (.slice (some ⟨w.heap.size, 0, none⟩) l.length l.length) l.length (boolsV (metI l 0)) := by
    rw [HZ.out]; exact own_filled rfl hown1
  clear hi0 hz0 hz1 hz2 hown1 hg1
  go_loopw [11] (fun i wr => ∃ k : Nat, k ≤ l.length ∧ i = .int .i64 (k : Int) ∧ Hid (OnceTo l k) ∧ wr.ownsRow w.heap.size 4 1 (.slice (some ⟨w.heap.size, 0, none⟩) l.length l.length) l.length (boolsV (metI l k)) ∧ Below w.heap.size w wr) (fun i _ => l.length - (intOf i).toNat)
  case atStart => exact ⟨0, Nat.zero_le _, rfl, fun i hi => absurd hi (by omega), o1, b1⟩
  case round =>
    obtain ⟨k, hk, rfl, hon, own, bw⟩ := hrel
    obtain ⟨wo, rfl⟩ : ∃ wo : World, wo = wr := ⟨_, rfl⟩
    by_cases hlt : k < l.length
    · obtain ⟨ad, rfl, hca⟩ := (hr.below bw).int hlt
      have HNO := hide (fun (h : ¬ ((0 ≤ l[k]?.getD 0 ∧ l[k]?.getD 0 ≤ (l.length : Int) - 1) ∧ ¬ l[k]?.getD 0 ∈ l.take k)) => show decide (OnceTo l l.length) = false from decide_eq_false (fun ho => h (ho k hlt)))
      have HYE := hide (fun (h : (0 ≤ l[k]?.getD 0 ∧ l[k]?.getD 0 ≤ (l.length : Int) - 1) ∧ ¬ l[k]?.getD 0 ∈ l.take k) => show OnceTo l (k + 1) from fun i hi => by
        by_cases e : i = k
        · subst e; exact h
        · exact hon.out i (by omega))
      have HSk := hide (fun x h => HS.out k x hlt h)
      obtain ⟨y, hy⟩ : ∃ y, l[k]?.getD 0 = y := ⟨_, rfl⟩
      rw [hy] at hca HNO HYE HSk
      have k0 : (0 : Int) ≤ (k : Int) := by omega
      have k1 : (k : Int) < (l.length : Int) := by omega
      clear hy
      by_cases y0 : 0 ≤ y
      · by_cases y1 : y < (l.length : Int)
        · obtain ⟨x, hx⟩ := Int.eq_ofNat_of_zero_le y0
          subst hx
          have hxl : x < l.length := by omega
          have hcell := own.cellAt x (by omega)
          rw [boolsV_at (by rw [HL.out]; omega), HA.out k x hxl] at hcell
          have hf := own.frozenAt x
          obtain ⟨ost, gst⟩ := own.stored x (.bool true)
          rw [boolsV_set, HSk.out x rfl] at ost
          have bst := bw.grown gst bw.size (fun n e => by injection e with e; omega)
          have Ost := hide ost
          have Bst := hide bst
          clear ost gst bst own
          cases hmem : decide ((x : Int) ∈ l.take k) with
          | true =>
            have HF := hide (HNO.out (fun h => h.2 (of_decide_eq_true hmem)))
            rw [hmem] at hcell
            clear hmem
            go_wp2_with fail
            go_ret
            exact ⟨ret_bool HF.out.symm, bw⟩
          | false =>
            have HT := hide (HYE.out ⟨⟨y0, by omega⟩, of_decide_eq_false hmem⟩)
            rw [hmem] at hcell
            clear hmem
            go_wp2_with fail
            exact ⟨⟨k + 1, hlt, rfl, HT.out, Ost.out, Bst.out⟩, by simp [intOf]; omega⟩
        · have HF := hide (HNO.out (fun h => y1 (by omega)))
          go_wp2_with fail
          go_ret
          exact ⟨ret_bool HF.out.symm, bw⟩
      · have HF := hide (HNO.out (fun h => y0 h.1.1))
        go_wp2_with fail
        go_ret
        exact ⟨ret_bool HF.out.symm, bw⟩
    · have hkl : Hid (k = l.length) := hide (by omega)
      have HT := hide (show decide (OnceTo l l.length) = true from decide_eq_true (by rw [← hkl.out]; exact hon.out))
      go_wp2_with fail
      go_ret
      exact ⟨ret_bool HT.out.symm, bw⟩
end Go.Proofs.Ytlccohoblplddad

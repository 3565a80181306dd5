
/-
  The program's chases: CatchMost, AlwaysCaught.
-/
import Derived.Test.YtakphmcelhbaiacPChaseE
namespace Go.Proofs.Ytakphmcelhbaiac
open Go.RowKit Go.Maps
set_option linter.unusedVariables false
set_option maxRecDepth 100000

theorem optI_low (o : Option Nat) : -1 ≤ optI o := by cases o <;> simp [optI]
set_option maxHeartbeats 2000000 in
theorem implCatchMost_c (bc br : Int) (s : ByteArray) (W : World) : Calls Try.prog 28 #[.int .i64 bc, .int .i64 br, .string s] W (Plain (.int .i64 (mostV bc br s.toList)) W) := by
  unfold mostV
  cases hk : smallK bc br s.toList with
  | none =>
    have H := hide (chaseOf_no bc br s W hk)
    clear hk
    go_enter Try.func28, Try.ntmps28
    go_wp2_with fail
    refine H.out.mono ?_
    rintro e w1 ⟨rfl, b1⟩
    go_wp2_with fail
    go_ret
    exact ⟨rfl, b1⟩
  | some p =>
    obtain ⟨ss, far⟩ := p
    obtain ⟨hS, hkk⟩ := smallK_some hk
    have H := hide (chaseOf_yes bc br s W hkk hS)
    obtain ⟨n, hC⟩ := chase_of hS hkk
    have hok := cat_ok hC.tab
    have h9s := hC.sets
    have hlen := hC.len
    have hn1 := hC.one
    have hn9 := hC.nine
    have hsz := hC.size
    simp only
    clear hk hS hkk hC
    generalize setsP bc br far ss = L at *
    generalize catN L = C at *
    subst hlen
    rw [hsz, Int.toNat_natCast]
    clear hsz
    have HM := hide (fun (A : Option Addr) (c : Nat) (w5 : World) (hr : Row w5 A (ints (natI (nearS L)))) => pcatches_c A c L C w5 hn1 h9s hok hr)
    have HF := hide (fun (A : Option Addr) (c i bm nm : Nat) (D : DataW Unit) (w5 : World) (hi : i < L.length) (hm : OwnsP w5 bm nm D) (hv : ViewP D L.length (FV C (topN C))) => mostFrom_p A c L C i bm nm D w5 hok hn9 hi hm hv)
    have HBS : Hid (∀ i, bestTo C L.length (i + 1) = if hasZ C L.length i then bestTo C L.length i else match bestTo C L.length i with
      | none => some (mostTo C i L.length)
      | some b => some (min b (mostTo C i L.length))) := fun i => rfl
    clear hok h9s
    go_enter Try.func28, Try.ntmps28
    go_wp2_with fail
    refine H.out.mono ?_
    rintro e w1 ⟨A1, c1, rfl, o1, b1⟩
    have R1 := hide (own_reads o1)
    clear o1
    go_wp2_with fail
    refine (HM.out _ _ _ R1.out).mono ?_
    rintro e w4 ⟨bm, nm, D, rfl, om, hv, b4⟩
    have b14 := below_then b1 b1.size b4
    have HFF := hide (fun i (hi : i < L.length) => HF.out A1 c1 i bm nm D w4 hi om hv)
    clear HF HM R1 om hv b4
    go_wp2_with fail
    go_loopw [10, 27] (fun bv v wr => ∃ i : Nat, i ≤ L.length ∧ v = .int .i64 (i : Int) ∧ bv = .int .i64 (optI (bestTo C L.length i)) ∧ w4 = wr) (fun _ v _ => L.length - (intOf v).toNat)
    case atStart => exact ⟨0, Nat.zero_le _, rfl, rfl, rfl⟩
    case round =>
      obtain ⟨i, hi, rfl, rfl, rfl⟩ := hrel
      by_cases hlt : i < L.length
      · have HLT := hide hlt
        have i1 : (i : Int) < (L.length : Int) := by omega
        have HFi := hide (HFF.out i hlt)
        unfold MostIs at HFi
        have HS1 := hide (HBS.out i)
        cases hz : hasZ C L.length i with
        | true =>
          rw [hz] at HFi HS1
          clear hz
          generalize mostTo C i L.length = m at *
          simp only [if_true, Bool.not_true] at HFi
          have HB := hide (show optI (bestTo C L.length (i + 1)) = optI (bestTo C L.length i) from congrArg optI HS1.out)
          clear HS1
          generalize optI (bestTo C L.length i) = bb at *
          go_wp2_with fail
          refine HFi.out.mono ?_
          rintro e w8 ⟨rfl, rfl⟩
          go_wp2_with fail
          exact ⟨⟨i + 1, HLT.out, by go_num, by rw [HB.out], trivial⟩, by simp [intOf]; omega⟩
        | false =>
          rw [hz] at HFi HS1
          clear hz
          obtain ⟨m, hm⟩ : ∃ m, mostTo C i L.length = m := ⟨_, rfl⟩
          rw [hm] at HFi HS1
          clear hm
          simp only [Bool.false_eq_true, if_false, Bool.not_false] at HFi
          cases hbt : bestTo C L.length i with
          | none =>
            rw [hbt] at HS1
            have HB := hide (show optI (bestTo C L.length (i + 1)) = (m : Int) from congrArg optI HS1.out)
            have ho : optI none = -1 := rfl
            clear hbt HS1
            rw [ho]
            go_wp2_with fail
            refine HFi.out.mono ?_
            rintro e w8 ⟨rfl, rfl⟩
            go_wp2_with fail
            exact ⟨⟨i + 1, HLT.out, by go_num, by rw [HB.out], trivial⟩, by simp [intOf]; omega⟩
          | some b =>
            rw [hbt] at HS1
            have ho : optI (some b) = (b : Int) := rfl
            have hb0 : ¬ ((b : Int) < 0) := by omega
            clear hbt
            rw [ho]
            by_cases hmb : m < b
            · have hmb' : (m : Int) < (b : Int) := by omega
              have HB := hide (show optI (bestTo C L.length (i + 1)) = (m : Int) from (congrArg optI HS1.out).trans (by show ((min b m : Nat) : Int) = (m : Int); omega))
              clear hmb HS1 ho
              go_wp2_with fail
              refine HFi.out.mono ?_
              rintro e w8 ⟨rfl, rfl⟩
              go_wp2_with fail
              exact ⟨⟨i + 1, HLT.out, by go_num, by rw [HB.out], trivial⟩, by simp [intOf]; omega⟩
            · have hmb' : ¬ ((m : Int) < (b : Int)) := by omega
              have HB := hide (show optI (bestTo C L.length (i + 1)) = (b : Int) from (congrArg optI HS1.out).trans (by show ((min b m : Nat) : Int) = (b : Int); omega))
              clear hmb HS1 ho
              go_wp2_with fail
              refine HFi.out.mono ?_
              rintro e w8 ⟨rfl, rfl⟩
              go_wp2_with fail
              exact ⟨⟨i + 1, HLT.out, by go_num, by rw [HB.out], trivial⟩, by simp [intOf]; omega⟩
      · obtain rfl : i = L.length := by omega
        generalize optI (bestTo C L.length L.length) = bb at *
        go_wp2_with fail
        go_ret
        exact ⟨rfl, b14⟩
set_option maxHeartbeats 400000 in
theorem implAlwaysCaught_c (bc br : Int) (s : ByteArray) (W : World) (h : decide (0 ≤ mostV bc br s.toList) = alwaysV bc br s.toList) : Calls Try.prog 11 #[.int .i64 bc, .int .i64 br, .string s] W (Plain (.bool (alwaysV bc br s.toList)) W) := by
  have H := hide (implCatchMost_c bc br s W)
  rw [← h]
  generalize mostV bc br s.toList = x at *
  clear h
  go_enter Try.func11, Try.ntmps11
  go_wp2_with fail
  refine H.out.mono ?_
  rintro e w1 ⟨rfl, b1⟩
  go_wp2_with fail
  go_ret
  exact ⟨by first | rfl | simp, b1⟩
end Go.Proofs.Ytakphmcelhbaiac

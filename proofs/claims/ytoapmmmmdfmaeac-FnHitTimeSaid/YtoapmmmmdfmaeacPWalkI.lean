
/-
  Walks by chance: the program's HitTime.
-/
import Derived.Test.YtoapmmmmdfmaeacPWalkG
import Derived.Test.YtoapmmmmdfmaeacPWalkH
import Derived.Test.YtoapmmmmdfmaeacWalkG
namespace Go.Proofs.Ytoapmmmmdfmaeac
open Go.RowKit
set_option linter.unusedVariables false

set_option maxHeartbeats 2000000 in
set_option maxRecDepth 100000 in
theorem implHitTime_c (bc br : Int) (s : ByteArray) (i k : Int) (W : World) : Calls Try.prog 7 #[.int .i64 bc, .int .i64 br, .string s, .int .i64 i, .int .i64 k] W (Plain (optF (hitV bc br s.toList i k)) W) := by
  have bx0 := Box.new W 26 #[.int .i64 0, .int .i64 0]
  have hb0 := (Below.refl W.heap.size W).alloc (Nat.le_refl _) (.cells #[.int .i64 0, .int .i64 0] 26)
  have r0 := row_new (W.alloc (.cells #[.int .i64 0, .int .i64 0] 26)) #[.int .i64 i, .int .i64 k] 3 (n := W.heap.size + 1) (by simp)
  have bx1 := bx0.alloc (.cells #[.int .i64 i, .int .i64 k] 3)
  have hb1 := hb0.alloc hb0.size (.cells #[.int .i64 i, .int .i64 k] 3)
  unfold hitV
  cases hk : smallK bc br s.toList with
  | none =>
    have HC := hide (chance2_no hk r0)
    clear hk r0 bx0 hb0
    go_enter Try.func7, Try.ntmps7
    go_wp2_with fail
    refine HC.out.mono ?_
    rintro e w1 ⟨rfl, b1⟩
    obtain ⟨c0, f0, c1, f1, c2, f2, bx, hb⟩ := frac_put (bx1.then b1) (below_then hb1 hb1.size b1) (Nat.le_refl _) (.int .i64 0) (.int .i64 0)
    clear bx1 b1
    go_wp2_with fail
    refine bodyPost_ret (res_frac2 rfl _ _ W.heap.size (.int .i64 0) (.int .i64 0) rfl bx) rfl ?_
    exact ⟨rfl, hb⟩
  | some p =>
    obtain ⟨ss, far⟩ := p
    obtain ⟨hS, hkk⟩ := smallK_some hk
    obtain ⟨a, b, n, hW⟩ := walk_of hS hkk
    have hsz := hW.size
    have hn9 := hW.nine
    have hlen := hW.len
    have h9s := hW.sets
    have HC := hide (chance2_yes hkk hS hlen r0)
    simp only
    rw [hsz]
    by_cases hc : (0 ≤ i ∧ i < (n : Int)) ∧ (0 ≤ k ∧ k < (n : Int))
    · rw [if_pos hc]
      rw [decide_eq_true hc, Bool.true_and] at HC
      cases hh : hitOf (setsP bc br far ss) with
      | none =>
        rw [hh] at HC
        rw [Option.map_none]
        rw [show (none : Option (List (List (Nat × Nat)))).isSome = false from rfl] at HC
        clear hk hS hkk hW hh hlen h9s hc hsz r0 bx0 hb0
        go_enter Try.func7, Try.ntmps7
        go_wp2_with fail
        refine HC.out.mono ?_
        rintro e w1 ⟨A1, c1, rfl, o1, b1⟩
        obtain ⟨c0, f0, c1, f1, c2, f2, bx, hb⟩ := frac_put (bx1.then b1) (below_then hb1 hb1.size b1) (Nat.le_refl _) (.int .i64 0) (.int .i64 0)
        clear bx1 b1 o1
        go_wp2_with fail
        refine bodyPost_ret (res_frac2 rfl _ _ W.heap.size (.int .i64 0) (.int .i64 0) rfl bx) rfl ?_
        exact ⟨rfl, hb⟩
      | some M =>
        rw [hh] at HC
        rw [Option.map_some]
        rw [show (some M).isSome = true from rfl] at HC
        obtain ⟨⟨hc1, hc2⟩, ⟨hc3, hc4⟩⟩ := hc
        obtain ⟨i, rfl⟩ := Int.eq_ofNat_of_zero_le hc1
        obtain ⟨k, rfl⟩ := Int.eq_ofNat_of_zero_le hc3
        have hin : i < n := by omega
        have hkn : k < n := by omega
        rw [Int.toNat_natCast, Int.toNat_natCast]
        have HT := hide (fun A c w5 hr => timesTo_c sizeOf_9 A c n k _ M w5 hlen hkn h9s (elim_of hh (by rw [hlen]; exact hkn)) hr)
        clear hk hS hkk hW hh hsz hc1 hc2 hc3 hc4 h9s r0 bx0 hb0
        generalize setsP bc br far ss = L at *
        have HCN : Hid (∀ c : Nat, Value.slice none L.length c = Value.slice none L.length c) := fun _ => rfl
        have i0 : (0 : Int) ≤ (i : Int) := by omega
        have i1 : (i : Int) < (n : Int) := by omega
        go_enter Try.func7, Try.ntmps7
        go_wp2_with fail
        refine HC.out.mono ?_
        rintro e w1 ⟨A1, c1, rfl, o1, b1⟩
        rw [hlen] at o1
        have R1 := hide (own_reads o1)
        have bx2 := bx1.then b1
        have hb2 := below_then hb1 hb1.size b1
        clear bx1 hb1 b1 o1
        go_wp2_with fail
        refine (HT.out _ _ _ R1.out).mono ?_
        rintro e w2 ⟨g, rfl, o2, b2⟩
        obtain ⟨t0, t1, _, _⟩ := frs_cell o2 hin
        generalize hAt M i k = f at *
        obtain ⟨c0, f0, c1, f1, c2, f2, bx, hb⟩ := frac_put (bx2.then b2) (below_then hb2 hb2.size b2) (Nat.le_refl _) (.int .i64 (f.1 : Int)) (.int .i64 (f.2 : Int))
        clear bx2 b2 o2
        go_wp2_with fail
        refine bodyPost_ret (res_frac2 rfl _ _ W.heap.size (.int .i64 (f.1 : Int)) (.int .i64 (f.2 : Int)) rfl bx) rfl ?_
        exact ⟨rfl, hb⟩
    · rw [if_neg hc]
      rw [decide_eq_false hc, Bool.false_and] at HC
      clear hk hS hkk hW hlen h9s hc hsz r0 bx0 hb0
      go_enter Try.func7, Try.ntmps7
      go_wp2_with fail
      refine HC.out.mono ?_
      rintro e w1 ⟨A1, c1, rfl, o1, b1⟩
      obtain ⟨c0, f0, c1, f1, c2, f2, bx, hb⟩ := frac_put (bx1.then b1) (below_then hb1 hb1.size b1) (Nat.le_refl _) (.int .i64 0) (.int .i64 0)
      clear bx1 b1 o1
      go_wp2_with fail
      refine bodyPost_ret (res_frac2 rfl _ _ W.heap.size (.int .i64 0) (.int .i64 0) rfl bx) rfl ?_
      exact ⟨rfl, hb⟩
end Go.Proofs.Ytoapmmmmdfmaeac

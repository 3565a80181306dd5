
/-
  Walks by chance: the model's HitTime and BackTime.
-/
import Derived.Test.YtoapmmmmdfmaeacWalkF
import Derived.Deep.RegionWith
namespace Go.Proofs.Ytoapmmmmdfmaeac
open Go.RowKit
set_option linter.unusedVariables false

theorem row_setW {w : World} {A : Option Addr} {cs : List Value} {g : Nat} (h : Row w A cs) (hne : ∀ ad, A = some ad → ad.block ≠ g) (i : Nat) (u : Value) : Row (w.setCell ⟨g, i, none⟩ u) A cs :=
  h.grown (row := some g) ⟨rfl, rfl, rfl, by simp, fun j _ hj => Below.heap_setCell w ⟨g, i, none⟩ u j (fun e => hj (by rw [e]))⟩ (fun ad e h' => hne ad e (by injection h' with h'; exact h'.symm))
def hitV (bc br : Int) (s : List UInt8) (i k : Int) : Option (Nat × Nat) := match smallK bc br s with
  | some (ss, far) => if (0 ≤ i ∧ i < bc * br) ∧ (0 ≤ k ∧ k < bc * br) then (hitOf (setsP bc br far ss)).map fun M => hAt M i.toNat k.toNat else none
  | none => none
def backV (bc br : Int) (s : List UInt8) (cell : Int) : Option (Nat × Nat) := match smallK bc br s with
  | some (ss, far) => if 0 ≤ cell ∧ cell < bc * br then (hitOf (setsP bc br far ss)).map fun M => backP (setsP bc br far ss) M cell.toNat else none
  | none => none
set_option maxHeartbeats 2000000 in
theorem specHitTime_c (bc br : Int) (s : ByteArray) (i k : Int) (W : World) : Calls Try.prog 8 #[.int .i64 bc, .int .i64 br, .string s, .int .i64 i, .int .i64 k] W (Plain (optF (hitV bc br s.toList i k)) W) := by
  have HV := hide (fun w5 => validWalk_c bc br s i k w5)
  have bx0 := Box.new W 26 #[.int .i64 0, .int .i64 0]
  have hb0 := (Below.refl W.heap.size W).alloc (Nat.le_refl _) (.cells #[.int .i64 0, .int .i64 0] 26)
  unfold hitV
  cases hk : smallK bc br s.toList with
  | none =>
    rw [hk] at HV
    have hv : ((none : Option (List (Int × Int) × Bool)).isSome && decide (0 ≤ i ∧ i < bc * br) && decide (0 ≤ k ∧ k < bc * br)) = false := rfl
    rw [hv] at HV
    clear hk hv
    go_enter Try.func8, Try.ntmps8
    go_wp2_with fail
    refine (HV.out _).mono ?_
    rintro e w1 ⟨rfl, b1⟩
    obtain ⟨c0, f0, c1, f1, c2, f2, bx, hb⟩ := frac_put (bx0.then b1) (below_then hb0 hb0.size b1) (Nat.le_refl _) (.int .i64 0) (.int .i64 0)
    clear bx0 b1
    go_wp2_with fail
    refine bodyPost_ret (res_frac2 rfl _ _ W.heap.size (.int .i64 0) (.int .i64 0) rfl bx) rfl ?_
    exact ⟨rfl, hb⟩
  | some p =>
    obtain ⟨ss, far⟩ := p
    rw [hk, Option.isSome_some, Bool.true_and, ← Bool.decide_and] at HV
    obtain ⟨hS, hkk⟩ := smallK_some hk
    obtain ⟨a, b, n, hW⟩ := walk_of hS hkk
    simp only
    by_cases hc : (0 ≤ i ∧ i < bc * br) ∧ (0 ≤ k ∧ k < bc * br)
    · rw [decide_eq_true hc] at HV
      rw [if_pos hc]
      have HWH := hide (fun w5 => whole_c bc br s ss far _ a b n w5 hkk hS hW)
      have HSR := hide (fun w5 => reaches_c bc br s ss far w5 hkk hS)
      have hsz := hW.size
      have hn9 := hW.nine
      have hn1 := hW.one
      have e0 : IntKind.i64.wrap (bc * br) = (n : Int) := (IntWalk.i64_in _ (by omega)).trans hsz
      cases hh : hitOf (setsP bc br far ss) with
      | none =>
        have hbn := board_none hW.board (by rw [← hW.eqc, ← hW.eqr]; exact hh)
        rw [hW.sz] at hbn
        rw [Option.map_none]
        clear hk hS hkk hW HSR hh hsz
        cases hwb : wholeB a b ss far with
        | false =>
          rw [hwb] at HWH
          clear hwb hbn
          go_enter Try.func8, Try.ntmps8
          go_wp2_with fail
          refine (HV.out _).mono ?_
          rintro e w1 ⟨rfl, b1⟩
          have bx1 := bx0.then b1
          have hb1 := below_then hb0 hb0.size b1
          go_wp2_with fail
          refine (HWH.out _).mono ?_
          rintro e w2 ⟨rfl, b2⟩
          obtain ⟨c0, f0, c1, f1, c2, f2, bx, hb⟩ := frac_put (bx1.then b2) (below_then hb1 hb1.size b2) (Nat.le_refl _) (.int .i64 0) (.int .i64 0)
          clear bx0 bx1 b1 b2
          go_wp2_with fail
          refine bodyPost_ret (res_frac2 rfl _ _ W.heap.size (.int .i64 0) (.int .i64 0) rfl bx) rfl ?_
          exact ⟨rfl, hb⟩
        | true =>
          have hn : n = 1 := by
            rcases hbn with h | h
            · exact h
            · rw [hwb] at h; cases h
          subst hn
          rw [hwb] at HWH
          clear hwb hbn
          go_enter Try.func8, Try.ntmps8
          go_wp2_with fail
          refine (HV.out _).mono ?_
          rintro e w1 ⟨rfl, b1⟩
          have bx1 := bx0.then b1
          have hb1 := below_then hb0 hb0.size b1
          go_wp2_with fail
          refine (HWH.out _).mono ?_
          rintro e w2 ⟨rfl, b2⟩
          obtain ⟨c0, f0, c1, f1, c2, f2, bx, hb⟩ := frac_put (bx1.then b2) (below_then hb1 hb1.size b2) (Nat.le_refl _) (.int .i64 0) (.int .i64 0)
          clear bx0 bx1 b1 b2
          go_wp2_with fail
          refine bodyPost_ret (res_frac2 rfl _ _ W.heap.size (.int .i64 0) (.int .i64 0) rfl bx) rfl ?_
          exact ⟨rfl, hb⟩
      | some M =>
        obtain ⟨hwb, h2⟩ := board_some hW.board (by rw [← hW.eqc, ← hW.eqr]; exact hh)
        rw [hW.sz] at h2
        rw [Option.map_some]
        have hH := hit_is hh
        obtain ⟨⟨hc1, hc2⟩, ⟨hc3, hc4⟩⟩ := hc
        obtain ⟨i, rfl⟩ := Int.eq_ofNat_of_zero_le hc1
        obtain ⟨k, rfl⟩ := Int.eq_ofNat_of_zero_le hc3
        have hin : i < n := by omega
        have hkn : k < n := by omega
        have h9s := hW.sets
        have hlen := hW.len
        rw [hwb] at HWH
        rw [Int.toNat_natCast, Int.toNat_natCast]
        clear hk hS hkk hW hh hwb hsz hc1 hc2 hc3 hc4
        generalize setsP bc br far ss = L at *
        have HT := hide (fun (A : Option Addr) (c : Nat) (w5 : World) (hr : Row w5 A (ints (natI L))) => hitTime_c A c L M i k n w5 hlen h9s hH hin hkn hr)
        have hne : ((n : Int) == 1) = false := by rw [beq_eq_false_iff_ne]; omega
        rw [hlen] at HSR
        clear hH h9s hlen
        generalize hAt M i k = f at *
        go_enter Try.func8, Try.ntmps8
        go_wp2_with fail
        refine (HV.out _).mono ?_
        rintro e w1 ⟨rfl, b1⟩
        have bx1 := bx0.then b1
        have hb1 := below_then hb0 hb0.size b1
        clear bx0 hb0 b1
        go_wp2_with fail
        refine (HWH.out _).mono ?_
        rintro e w2 ⟨rfl, b2⟩
        have bx2 := bx1.then b2
        have hb2 := below_then hb1 hb1.size b2
        clear bx1 hb1 b2
        go_wp2_with fail
        refine (HSR.out _).mono ?_
        rintro e w3 ⟨v3, rfl, o3, b3⟩
        obtain ⟨A3, c3, rfl, _⟩ := own_row o3
        have bx3 := bx2.then b3
        have hb3 := below_then hb2 hb2.size b3
        have R3 := hide (own_reads o3)
        clear bx2 hb2 b3 o3
        go_wp2_with fail
        refine (HT.out _ _ _ R3.out).mono ?_
        rintro e w6 ⟨rfl, b6⟩
        obtain ⟨q0, f0, q1, f1, q2, f2, bx, hb⟩ := frac_put (bx3.then b6) (below_then hb3 hb3.size b6) (Nat.le_refl _) (.int .i64 (f.1 : Int)) (.int .i64 (f.2 : Int))
        clear bx3 b6
        go_wp2_with fail
        refine bodyPost_ret (res_frac2 rfl _ _ W.heap.size (.int .i64 (f.1 : Int)) (.int .i64 (f.2 : Int)) rfl bx) rfl ?_
        exact ⟨rfl, hb⟩
    · rw [decide_eq_false hc] at HV
      rw [if_neg hc]
      clear hk hS hkk hW hc
      go_enter Try.func8, Try.ntmps8
      go_wp2_with fail
      refine (HV.out _).mono ?_
      rintro e w1 ⟨rfl, b1⟩
      obtain ⟨c0, f0, c1, f1, c2, f2, bx, hb⟩ := frac_put (bx0.then b1) (below_then hb0 hb0.size b1) (Nat.le_refl _) (.int .i64 0) (.int .i64 0)
      clear bx0 b1
      go_wp2_with fail
      refine bodyPost_ret (res_frac2 rfl _ _ W.heap.size (.int .i64 0) (.int .i64 0) rfl bx) rfl ?_
      exact ⟨rfl, hb⟩
end Go.Proofs.Ytoapmmmmdfmaeac

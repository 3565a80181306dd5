
/-
  Walks by chance: the model's HitTime and BackTime.
-/
import Derived.Test.YtoapmmmmdfmaeabWalkF
import Derived.Deep.RegionWith
namespace Go.Proofs.Ytoapmmmmdfmaeab
open Go.RowKit
set_option linter.unusedVariables false

theorem row_setW {w : World} {A : Option Addr} {cs : List Value} {g : Nat} (h : Row w A cs) (hne : ∀ ad, A = some ad → ad.block ≠ g) (i : Nat) (u : Value) : Row (w.setCell ⟨g, i, none⟩ u) A cs :=
  h.grown (row := some g) ⟨rfl, rfl, rfl, by simp, fun j _ hj => Below.heap_setCell w ⟨g, i, none⟩ u j (fun e => hj (by rw [e]))⟩ (fun ad e h' => hne ad e (by injection h' with h'; exact h'.symm))
def hitV (bc br : Int) (s : List UInt8) (i k : Int) : Option (Nat × Nat) := match smallK bc br s with
  | some (ss, far) => if (0 ≤ i ∧ i < bc * br) ∧ (0 ≤ k ∧ k < bc * br) then (hitOf (setsP bc br far ss)).map fun M => hAt M i.toNat k.toNat else none
  | none => none
def backV (bc br : Int) (s : List UInt8) (cell : Int) : Option (Nat × Nat) := match smallK bc br s with
  | some (ss, far) => if 0 ≤ cell ∧ cell < bc * br then (hitOf (setsP bc br far ss)).map fun M => backP (setsP bc br far ss) M cell.toNat else none
  | none => none
set_option maxHeartbeats 2000000 in
theorem specHitTime_c (bc br : Int) (s : ByteArray) (i k : Int) (W : World) : Calls Try.prog 16 #[.int .i64 bc, .int .i64 br, .string s, .int .i64 i, .int .i64 k] W (Plain (optF (hitV bc br s.toList i k)) W) := by
  have HV := hide (fun w5 => validWalk_c bc br s i k w5)
  have bx0 := Box.new W 26 #[.int .i64 0, .int .i64 0]
  have hb0 := (Below.refl W.heap.size W).alloc (Nat.le_refl _) (.cells #[.int .i64 0, .int .i64 0] 26)
  unfold hitV
  cases hk : smallK bc br s.toList with
  | none =>
    rw [hk] at HV
    have hv : ((none : Option (List (Int × Int) × Bool)).isSome && decide (0 ≤ i ∧ i < bc * br) && decide (0 ≤ k ∧ k < bc * br)) = false := rfl
    rw [hv] at HV
    clear hk hv
    go_enter Try.func16, Try.ntmps16
    go_wp2_with fail
    refine (HV.out _).mono ?_
    rintro e w1 ⟨rfl, b1⟩
    obtain ⟨c0, f0, c1, f1, c2, f2, bx, hb⟩ := frac_put (bx0.then b1) (below_then hb0 hb0.size b1) (Nat.le_refl _) (.int .i64 0) (.int .i64 0)
    clear bx0 b1
    go_wp2_with fail
    refine bodyPost_ret (res_frac2 rfl _ _ W.heap.size (.int .i64 0) (.int .i64 0) rfl bx) rfl ?_
    exact ⟨rfl, hb⟩
  | some p =>
    obtain ⟨ss, far⟩ := p
    rw [hk, Option.isSome_some, Bool.true_and, ← Bool.decide_and] at HV
    obtain ⟨hS, hkk⟩ := smallK_some hk
    obtain ⟨a, b, n, hW⟩ := walk_of hS hkk
    simp only
    by_cases hc : (0 ≤ i ∧ i < bc * br) ∧ (0 ≤ k ∧ k < bc * br)
    · rw [decide_eq_true hc] at HV
      rw [if_pos hc]
      have HWH := hide (fun w5 => whole_c bc br s ss far _ a b n w5 hkk hS hW)
      have HSR := hide (fun w5 => reaches_c bc br s ss far w5 hkk hS)
      have hsz := hW.size
      have hn9 := hW.nine
      have hn1 := hW.one
      have e0 : IntKind.i64.wrap (bc * br) = (n : Int) := (IntWalk.i64_in _ (by omega)).trans hsz
      cases hh : hitOf (setsP bc br far ss) with
      | none =>
        have hbn := board_none hW.board (by rw [← hW.eqc, ← hW.eqr]; exact hh)
        rw [hW.sz] at hbn
        rw [Option.map_none]
        clear hk hS hkk hW HSR hh hsz
        cases hwb : wholeB a b ss far with
        | false =>
          rw [hwb] at HWH
          clear hwb hbn
          go_enter Try.func16, Try.ntmps16
          go_wp2_with fail
          refine (HV.out _).mono ?_
          rintro e w1 ⟨rfl, b1⟩
          have bx1 := bx0.then b1
          have hb1 := below_then hb0 hb0.size b1
          go_wp2_with fail
          refine (HWH.out _).mono ?_
          rintro e w2 ⟨rfl, b2⟩
          obtain ⟨c0, f0, c1, f1, c2, f2, bx, hb⟩ := frac_put (bx1.then b2) (below_then hb1 hb1.size b2) (Nat.le_refl _) (.int .i64 0) (.int .i64 0)
          clear bx0 bx1 b1 b2
          go_wp2_with fail
          refine bodyPost_ret (res_frac2 rfl _ _ W.heap.size (.int .i64 0) (.int .i64 0) rfl bx) rfl ?_
          exact ⟨rfl, hb⟩
        | true =>
          have hn : n = 1 := by
            rcases hbn with h | h
            · exact h
            · rw [hwb] at h; cases h
          subst hn
          rw [hwb] at HWH
          clear hwb hbn
          go_enter Try.func16, Try.ntmps16
          go_wp2_with fail
          refine (HV.out _).mono ?_
          rintro e w1 ⟨rfl, b1⟩
          have bx1 := bx0.then b1
          have hb1 := below_then hb0 hb0.size b1
          go_wp2_with fail
          refine (HWH.out _).mono ?_
          rintro e w2 ⟨rfl, b2⟩
          obtain ⟨c0, f0, c1, f1, c2, f2, bx, hb⟩ := frac_put (bx1.then b2) (below_then hb1 hb1.size b2) (Nat.le_refl _) (.int .i64 0) (.int .i64 0)
          clear bx0 bx1 b1 b2
          go_wp2_with fail
          refine bodyPost_ret (res_frac2 rfl _ _ W.heap.size (.int .i64 0) (.int .i64 0) rfl bx) rfl ?_
          exact ⟨rfl, hb⟩
      | some M =>
        obtain ⟨hwb, h2⟩ := board_some hW.board (by rw [← hW.eqc, ← hW.eqr]; exact hh)
        rw [hW.sz] at h2
        rw [Option.map_some]
        have hH := hit_is hh
        obtain ⟨⟨hc1, hc2⟩, ⟨hc3, hc4⟩⟩ := hc
        obtain ⟨i, rfl⟩ := Int.eq_ofNat_of_zero_le hc1
        obtain ⟨k, rfl⟩ := Int.eq_ofNat_of_zero_le hc3
        have hin : i < n := by omega
        have hkn : k < n := by omega
        have h9s := hW.sets
        have hlen := hW.len
        rw [hwb] at HWH
        rw [Int.toNat_natCast, Int.toNat_natCast]
        clear hk hS hkk hW hh hwb hsz hc1 hc2 hc3 hc4
        generalize setsP bc br far ss = L at *
        have HT := hide (fun (A : Option Addr) (c : Nat) (w5 : World) (hr : Row w5 A (ints (natI L))) => hitTime_c A c L M i k n w5 hlen h9s hH hin hkn hr)
        have hne : ((n : Int) == 1) = false := by rw [beq_eq_false_iff_ne]; omega
        rw [hlen] at HSR
        clear hH h9s hlen
        generalize hAt M i k = f at *
        go_enter Try.func16, Try.ntmps16
        go_wp2_with fail
        refine (HV.out _).mono ?_
        rintro e w1 ⟨rfl, b1⟩
        have bx1 := bx0.then b1
        have hb1 := below_then hb0 hb0.size b1
        clear bx0 hb0 b1
        go_wp2_with fail
        refine (HWH.out _).mono ?_
        rintro e w2 ⟨rfl, b2⟩
        have bx2 := bx1.then b2
        have hb2 := below_then hb1 hb1.size b2
        clear bx1 hb1 b2
        go_wp2_with fail
        refine (HSR.out _).mono ?_
        rintro e w3 ⟨v3, rfl, o3, b3⟩
        obtain ⟨A3, c3, rfl, _⟩ := own_row o3
        have bx3 := bx2.then b3
        have hb3 := below_then hb2 hb2.size b3
        have R3 := hide (own_reads o3)
        clear bx2 hb2 b3 o3
        go_wp2_with fail
        refine (HT.out _ _ _ R3.out).mono ?_
        rintro e w6 ⟨rfl, b6⟩
        obtain ⟨q0, f0, q1, f1, q2, f2, bx, hb⟩ := frac_put (bx3.then b6) (below_then hb3 hb3.size b6) (Nat.le_refl _) (.int .i64 (f.1 : Int)) (.int .i64 (f.2 : Int))
        clear bx3 b6
        go_wp2_with fail
        refine bodyPost_ret (res_frac2 rfl _ _ W.heap.size (.int .i64 (f.1 : Int)) (.int .i64 (f.2 : Int)) rfl bx) rfl ?_
        exact ⟨rfl, hb⟩
    · rw [decide_eq_false hc] at HV
      rw [if_neg hc]
      clear hk hS hkk hW hc
      go_enter Try.func16, Try.ntmps16
      go_wp2_with fail
      refine (HV.out _).mono ?_
      rintro e w1 ⟨rfl, b1⟩
      obtain ⟨c0, f0, c1, f1, c2, f2, bx, hb⟩ := frac_put (bx0.then b1) (below_then hb0 hb0.size b1) (Nat.le_refl _) (.int .i64 0) (.int .i64 0)
      clear bx0 b1
      go_wp2_with fail
      refine bodyPost_ret (res_frac2 rfl _ _ W.heap.size (.int .i64 0) (.int .i64 0) rfl bx) rfl ?_
      exact ⟨rfl, hb⟩
set_option maxHeartbeats 2000000 in
theorem specBackTime_c (bc br : Int) (s : ByteArray) (cell : Int) (W : World) : Calls Try.prog 12 #[.int .i64 bc, .int .i64 br, .string s, .int .i64 cell] W (Plain (optF (backV bc br s.toList cell)) W) := by
  have HV := hide (fun w5 => validWalk_c bc br s cell cell w5)
  have bx0 := Box.new W 26 #[.int .i64 0, .int .i64 0]
  have hb0 := (Below.refl W.heap.size W).alloc (Nat.le_refl _) (.cells #[.int .i64 0, .int .i64 0] 26)
  unfold backV
  cases hk : smallK bc br s.toList with
  | none =>
    rw [hk] at HV
    have hv : ((none : Option (List (Int × Int) × Bool)).isSome && decide (0 ≤ cell ∧ cell < bc * br) && decide (0 ≤ cell ∧ cell < bc * br)) = false := rfl
    rw [hv] at HV
    clear hk hv
    go_enter Try.func12, Try.ntmps12
    go_wp2_with fail
    refine (HV.out _).mono ?_
    rintro e w1 ⟨rfl, b1⟩
    obtain ⟨c0, f0, c1, f1, c2, f2, bx, hb⟩ := frac_put (bx0.then b1) (below_then hb0 hb0.size b1) (Nat.le_refl _) (.int .i64 0) (.int .i64 0)
    clear bx0 b1
    go_wp2_with fail
    refine bodyPost_ret (res_frac2 rfl _ _ W.heap.size (.int .i64 0) (.int .i64 0) rfl bx) rfl ?_
    exact ⟨rfl, hb⟩
  | some p =>
    obtain ⟨ss, far⟩ := p
    rw [hk, Option.isSome_some, Bool.true_and, Bool.and_self] at HV
    obtain ⟨hS, hkk⟩ := smallK_some hk
    obtain ⟨a, b, n, hW⟩ := walk_of hS hkk
    simp only
    by_cases hc : 0 ≤ cell ∧ cell < bc * br
    · rw [decide_eq_true hc] at HV
      rw [if_pos hc]
      have HWH := hide (fun w5 => whole_c bc br s ss far _ a b n w5 hkk hS hW)
      have HSR := hide (fun w5 => reaches_c bc br s ss far w5 hkk hS)
      have hsz := hW.size
      have hn9 := hW.nine
      have hn1 := hW.one
      have e0 : IntKind.i64.wrap (bc * br) = (n : Int) := (IntWalk.i64_in _ (by omega)).trans hsz
      cases hh : hitOf (setsP bc br far ss) with
      | none =>
        have hbn := board_none hW.board (by rw [← hW.eqc, ← hW.eqr]; exact hh)
        rw [hW.sz] at hbn
        rw [Option.map_none]
        clear hk hS hkk hW HSR hh hsz
        cases hwb : wholeB a b ss far with
        | false =>
          rw [hwb] at HWH
          clear hwb hbn
          go_enter Try.func12, Try.ntmps12
          go_wp2_with fail
          refine (HV.out _).mono ?_
          rintro e w1 ⟨rfl, b1⟩
          have bx1 := bx0.then b1
          have hb1 := below_then hb0 hb0.size b1
          go_wp2_with fail
          refine (HWH.out _).mono ?_
          rintro e w2 ⟨rfl, b2⟩
          obtain ⟨c0, f0, c1, f1, c2, f2, bx, hb⟩ := frac_put (bx1.then b2) (below_then hb1 hb1.size b2) (Nat.le_refl _) (.int .i64 0) (.int .i64 0)
          clear bx0 bx1 b1 b2
          go_wp2_with fail
          refine bodyPost_ret (res_frac2 rfl _ _ W.heap.size (.int .i64 0) (.int .i64 0) rfl bx) rfl ?_
          exact ⟨rfl, hb⟩
        | true =>
          have hn : n = 1 := by
            rcases hbn with h | h
            · exact h
            · rw [hwb] at h; cases h
          subst hn
          rw [hwb] at HWH
          clear hwb hbn
          go_enter Try.func12, Try.ntmps12
          go_wp2_with fail
          refine (HV.out _).mono ?_
          rintro e w1 ⟨rfl, b1⟩
          have bx1 := bx0.then b1
          have hb1 := below_then hb0 hb0.size b1
          go_wp2_with fail
          refine (HWH.out _).mono ?_
          rintro e w2 ⟨rfl, b2⟩
          obtain ⟨c0, f0, c1, f1, c2, f2, bx, hb⟩ := frac_put (bx1.then b2) (below_then hb1 hb1.size b2) (Nat.le_refl _) (.int .i64 0) (.int .i64 0)
          clear bx0 bx1 b1 b2
          go_wp2_with fail
          refine bodyPost_ret (res_frac2 rfl _ _ W.heap.size (.int .i64 0) (.int .i64 0) rfl bx) rfl ?_
          exact ⟨rfl, hb⟩
      | some M =>
        obtain ⟨hwb, h2⟩ := board_some hW.board (by rw [← hW.eqc, ← hW.eqr]; exact hh)
        rw [hW.sz] at h2
        rw [Option.map_some]
        have hH := hit_is hh
        have hch := chance_of hh
        unfold chanceOk at hch
        simp only [Bool.and_eq_true, decide_eq_true_eq] at hch
        obtain ⟨⟨⟨⟨⟨_, _⟩, hbk⟩, _⟩, _⟩, hal⟩ := hch
        obtain ⟨c, rfl⟩ := Int.eq_ofNat_of_zero_le hc.1
        have hcn : c < n := by omega
        have h9s := hW.sets
        have hlen := hW.len
        rw [hwb] at HWH
        rw [Int.toNat_natCast]
        clear hk hS hkk hW hh hwb hsz hc
        generalize setsP bc br far ss = L at *
        have hbo := List.all_eq_true.1 hbk c (List.mem_range.2 (by omega))
        unfold backOk at hbo
        simp only [Bool.and_eq_true, decide_eq_true_eq] at hbo
        obtain ⟨⟨⟨⟨⟨⟨p1, p9⟩, hst⟩, hpt⟩, hbp⟩, _⟩, _⟩ := hbo
        have HT := hide (fun (b : Nat) (hb : b < n) (A : Option Addr) (cc : Nat) (w5 : World) (hr : Row w5 A (ints (natI L))) => hitTime_c A cc L M b c n w5 hlen h9s hH hb hcn hr)
        have HBT := hide (fun b (hb : b < n) w5 => specBit9_c (L[c]?.getD 0) b (h9s.bd c) (by omega) w5)
        have HPC := hide (fun w5 => bits9_c (L[c]?.getD 0) (h9s.bd c) w5)
        have HOK := hide (fun b (hb : b ≤ n) => List.all_eq_true.1 hst b (List.mem_range.2 (by omega)))
        have HHK := hide (fun b (hb : b < n) => okF_is ((Bool.and_eq_true _ _).mp (List.all_eq_true.1 (List.all_eq_true.1 hal b (List.mem_range.2 (by omega))) c (List.mem_range.2 (by omega)))).1)
        have HPT := hide (fun b (hb : b < n) (h1 : bitN (L[c]?.getD 0) b = 1) => show okF (partP (hAt M b c) (pcN 9 (L[c]?.getD 0))) = true by
          have := List.all_eq_true.1 hpt b (List.mem_range.2 (by omega))
          rw [h1] at this
          simpa using this)
        have HS : Hid (∀ b, backTo L M c (b + 1) = if bitN (L[c]?.getD 0) b = 1 then plusP (backTo L M c b) (partP (hAt M b c) (pcN 9 (L[c]?.getD 0))) else backTo L M c b) := fun b => rfl
        have HBP : Hid (backP L M c = plusP (backTo L M c n) (1, 1)) := by show _ = _; unfold backP; rw [hlen]
        have HF01 := hide (fun w5 => show Calls Try.prog 30 #[.int .i64 0, .int .i64 1] w5 (Plain (fracV (0, 1)) w5) from frac_c 0 1 w5 (by omega) (by omega))
        have HF11 := hide (fun w5 => show Calls Try.prog 30 #[.int .i64 1, .int .i64 1] w5 (Plain (fracV (1, 1)) w5) from frac_c 1 1 w5 (by omega) (by omega))
        have HFP := hide (fun (x : Nat × Nat) (m : Nat) (h1 : x.1 ≤ 1000000000) (h2 : 1 ≤ x.2 ∧ x.2 ≤ 1000000000) (h3 : 1 ≤ m ∧ m ≤ 9) w5 => show Calls Try.prog 30 #[.int .i64 (x.1 : Int), .int .i64 ((x.2 * m : Nat) : Int)] w5 (Plain (fracV (partP x m)) w5) from by
          have hm : x.2 * m ≤ 1000000000 * 9 := Nat.mul_le_mul h2.2 h3.2
          have hp : 1 ≤ x.2 * m := Nat.mul_pos h2.1 h3.1
          exact frac_c x.1 (x.2 * m) w5 (by omega) (by omega))
        have HPL := hide (fun a b w5 ha hb => plus_c a b w5 ha hb)
        have hne : ((n : Int) == 1) = false := by rw [beq_eq_false_iff_ne]; omega
        have HCN := hide hcn
        have HLEN := hide hlen
        rw [hlen] at HSR
        have hz0 : W.heap.size < (W.alloc (.cells #[.int .i64 0, .int .i64 0] 26)).heap.size := by simp
        clear hH hbk hal hst hpt hbp h9s hlen
        rw [HBP.out]
        clear HBP
        obtain ⟨B, hB⟩ : ∃ B, backTo L M c = B := ⟨_, rfl⟩
        rw [hB] at HOK HS
        rw [hB]
        have HB0 : Hid (B 0 = (0, 1)) := by show _ = _; rw [← hB]; rfl
        clear hB
        generalize pcN 9 (L[c]?.getD 0) = m at *
        have k0 : (0 : Int) ≤ (c : Int) := by omega
        have k1 : (c : Int) < (n : Int) := by omega
        go_enter Try.func12, Try.ntmps12
        go_wp2_with fail
        refine (HV.out _).mono ?_
        rintro e w1 ⟨rfl, b1⟩
        have bx1 := bx0.then b1
        have hb1 := below_then hb0 hb0.size b1
        clear bx0 hb0 b1
        go_wp2_with fail
        refine (HWH.out _).mono ?_
        rintro e w2 ⟨rfl, b2⟩
        have bx2 := bx1.then b2
        have hb2 := below_then hb1 hb1.size b2
        clear bx1 hb1 b2
        go_wp2_with fail
        refine (HSR.out _).mono ?_
        rintro e w3 ⟨v3, rfl, o3, b3⟩
        obtain ⟨A3, c3, rfl, _⟩ := own_row o3
        have bx3 := bx2.then b3
        have hb3 := below_then hb2 hb2.size b3
        have R3 := hide (own_reads o3)
        clear bx2 hb2 b3 o3
        go_wp2_with fail
        refine (HF01.out _).mono ?_
        rintro e w4 ⟨rfl, b4⟩
        have R3b := R3.out.below b4
        obtain ⟨ad, rfl, hck0⟩ := R3b.int (k := c) (by rw [natI_len, HLEN.out]; exact HCN.out)
        have hadb := World.block_lt_of_cell? w4 _ hck0
        rw [addr_block] at hadb
        have bx4 := (bx3.then b4).alloc (.cells #[.int .i64 0, .int .i64 1] 26)
        have hb4 := (below_then hb3 hb3.size b4).alloc (below_then hb3 hb3.size b4).size (.cells #[.int .i64 0, .int .i64 1] 26)
        have R4 := hide (R3b.alloc (.cells #[.int .i64 0, .int .i64 1] 26))
        have bs4 := Box.new w4 26 #[.int .i64 0, .int .i64 1]
        have zs4 := (bx3.then b4).in_
        obtain ⟨_, ⟨rfl⟩, hck⟩ := R4.out.int (k := c) (by rw [natI_len, HLEN.out]; exact HCN.out)
        rw [natI_at] at hck
        clear bx3 hb3 R3 R3b b4 hck0
        go_wp2_with fail
        refine (HPC.out _).mono ?_
        rintro e w5 ⟨rfl, rfl⟩
        go_wp2_with fail
        obtain ⟨gs, hgs⟩ : ∃ gs, w4.heap.size = gs := ⟨_, rfl⟩
        rw [hgs] at bs4 zs4 hadb
        rw [hgs]
        clear hgs hck
        go_loopw [13] (fun bv wr => ∃ b : Nat, b ≤ n ∧ bv = .int .i64 (b : Int) ∧ Box wr gs 26 #[.int .i64 ((B b).1 : Int), .int .i64 ((B b).2 : Int)] ∧ Box wr W.heap.size 26 #[.int .i64 0, .int .i64 0] ∧ Row wr (some ad) (ints (natI L)) ∧ Below W.heap.size W wr) (fun bv _ => n - (intOf bv).toNat)
        case atStart => exact ⟨0, Nat.zero_le _, rfl, by rw [HB0.out]; exact bs4, bx4, R4.out, hb4⟩
        case round =>
          clear bs4 bx4 R4 hb4
          obtain ⟨b, hbn, rfl, bs, bx, hrow, hb⟩ := hrel
          obtain ⟨wo, rfl⟩ : ∃ wo : World, wo = wr := ⟨_, rfl⟩
          by_cases hbl : b < n
          · have b1 : (b : Int) < (n : Int) := by omega
            have HBL := hide hbl
            obtain ⟨_, ⟨rfl⟩, hck⟩ := hrow.int (k := c) (by rw [natI_len, HLEN.out]; exact HCN.out)
            rw [natI_at] at hck
            have HBb := hide (HBT.out b hbl)
            have HSb := hide (HS.out b)
            rcases bitN_two (L[c]?.getD 0) b with hbt | hbt
            · rw [hbt] at HBb HSb
              have HSE := hide (show B (b + 1) = B b by rw [HSb.out]; rfl)
              clear HSb hbt
              go_wp2_with fail
              refine (HBb.out _).mono ?_
              rintro e w6 ⟨rfl, rfl⟩
              go_wp2_with fail
              exact ⟨⟨b + 1, HBL.out, by go_num, by rw [HSE.out]; exact bs, bx, hrow, hb⟩, by simp [intOf]; omega⟩
            · have hpo := HPT.out b hbl hbt
              rw [hbt] at HBb HSb
              have HSE := hide (show B (b + 1) = plusP (B b) (partP (hAt M b c) m) by rw [HSb.out]; rfl)
              have hok := HOK.out b hbn
              obtain ⟨⟨x1, x2⟩, x3⟩ := HHK.out b hbl
              have HTb := hide (fun A cc w5 hr => HT.out b hbl A cc w5 hr)
              obtain ⟨f, hf⟩ : ∃ f, hAt M b c = f := ⟨_, rfl⟩
              rw [hf] at hpo HSE x1 x2 x3 HTb
              have HFx := hide (fun w5 => HFP.out f m x3 ⟨x1, x2⟩ ⟨p1, p9⟩ w5)
              have HPx := hide (fun w5 => HPL.out (B b) (partP f m) w5 hok hpo)
              have hmm : f.2 * m ≤ 1000000000 * 9 := Nat.mul_le_mul x2 p9
              have em : IntKind.i64.wrap ((f.2 : Int) * (m : Int)) = ((f.2 * m : Nat) : Int) := (IntWalk.i64_in _ (by rw [← Int.natCast_mul]; omega)).trans (Int.natCast_mul _ _).symm
              obtain ⟨fp, hfp⟩ : ∃ fp, f.2 * m = fp := ⟨_, rfl⟩
              rw [hfp] at em HFx
              obtain ⟨f1, f2⟩ := f
              simp only at em HFx x1 x2 x3
              clear HSb hbt hf hok hpo hmm hfp
              generalize partP (f1, f2) m = pv at *
              obtain ⟨bv, hbv⟩ : ∃ bv, B b = bv := ⟨_, rfl⟩
              rw [hbv] at bs HPx HSE
              clear hbv
              generalize plusP bv pv = nv at *
              go_wp2_with fail
              refine (HBb.out _).mono ?_
              rintro e w6 ⟨rfl, rfl⟩
              go_wp2_with fail
              refine (HTb.out _ _ _ hrow).mono ?_
              rintro e w7 ⟨rfl, b7⟩
              have bs7 := (bs.then b7).alloc (.cells #[.int .i64 (f1 : Int), .int .i64 (f2 : Int)] 26)
              have bx7 := (bx.then b7).alloc (.cells #[.int .i64 (f1 : Int), .int .i64 (f2 : Int)] 26)
              have hr7 := (hrow.below b7).alloc (.cells #[.int .i64 (f1 : Int), .int .i64 (f2 : Int)] 26)
              have hb7 := (below_then hb hb.size b7).alloc (below_then hb hb.size b7).size (.cells #[.int .i64 (f1 : Int), .int .i64 (f2 : Int)] 26)
              have bn7 := Box.new w7 26 #[.int .i64 (f1 : Int), .int .i64 (f2 : Int)]
              clear bs bx hrow hb b7 hck
              go_wp2_with fail
              generalize w7.alloc (.cells #[.int .i64 (f1 : Int), .int .i64 (f2 : Int)] 26) = wA at *
              obtain ⟨gx, hgx⟩ : ∃ gx, w7.heap.size = gx := ⟨_, rfl⟩
              rw [hgx] at bn7
              rw [hgx]
              have s0 := bs7.cell 0
              have s1 := bs7.cell 1
              have n0 := bn7.cell 0
              have n1 := bn7.cell 1
              clear HV HWH HSR HT HBT HPC HOK HHK HPT HS HF01 HF11 HFP HPL HB0 HTb HBb hne e0 hn1 h2 HLEN HCN k0 k1 hz0 p1 p9 x1 x2 x3
              go_region_with (first
                | (go_at_call 30; refine (HFx.out _).mono ?_; rintro e w8 ⟨rfl, b8⟩; have bs8 := Box.then (w := wA.drew) bs7 b8; have bx8 := Box.then (w := wA.drew) bx7 b8; have hr8 := Row.below (w := wA.drew) hr7 b8; have hb8 := below_then (w := wA.drew) hb7.drew hb7.drew.size b8; have t0 := bs8.cell 0; have t1 := bs8.cell 1)
                | (go_at_call 36; refine (HPx.out _).mono ?_; rintro e w9 ⟨rfl, b9⟩; have bs9 := bs8.then b9; have bx9 := bx8.then b9; have hr9 := hr8.below b9; have hb9 := below_then hb8 hb8.size b9; obtain ⟨c0, g0, c1, g1, c2, g2, bsx, hbx⟩ := frac_put bs9 hb9 (Nat.le_of_lt zs4) (.int .i64 (nv.1 : Int)) (.int .i64 (nv.2 : Int))))
              all_goals go_wp2_with fail
              all_goals exact ⟨⟨b + 1, HBL.out, by go_num, by rw [HSE.out]; exact bsx, (bx9.other (p := ⟨gs, 0, none⟩) (by simp only; omega) _).other (p := ⟨gs, 1, none⟩) (by simp only; omega) _, row_setW (row_setW hr9 (fun ad' e => by injection e with e; subst e; omega) 0 _) (fun ad' e => by injection e with e; subst e; omega) 1 _, hbx⟩, by simp [intOf]; omega⟩
          · obtain rfl : b = n := by omega
            have HPx := hide (fun w5 => HPL.out (B b) (1, 1) w5 (HOK.out b (Nat.le_refl _)) (by decide))
            obtain ⟨nv, hnv⟩ : ∃ nv, plusP (B b) (1, 1) = nv := ⟨_, rfl⟩
            rw [hnv] at HPx
            have HNV := hide hnv
            clear hnv
            obtain ⟨bv, hbv⟩ : ∃ bv, B b = bv := ⟨_, rfl⟩
            rw [hbv] at bs HPx
            clear hbv
            have s0 := bs.cell 0
            have s1 := bs.cell 1
            go_wp2_with fail
            clear HV HWH HSR HT HBT HPC HOK HHK HPT HS HF01 HFP HPL HB0 hne e0 hn9 hn1 h2 HLEN HCN k0 k1 hz0 p1 p9
            go_region_with (first
              | (go_at_call 30; refine (HF11.out _).mono ?_; rintro e w8 ⟨rfl, b8⟩; have bs8 := Box.then (w := wo.drew) bs b8; have bx8 := Box.then (w := wo.drew) bx b8; have hb8 := below_then (w := wo.drew) hb.drew hb.drew.size b8; have t0 := bs8.cell 0; have t1 := bs8.cell 1)
              | (go_at_call 36; refine (HPx.out _).mono ?_; rintro e w9 ⟨rfl, b9⟩; have bx9 := bx8.then b9; have hb9 := below_then hb8 hb8.size b9; obtain ⟨c0, g0, c1, g1, c2, g2, bsx, hbx⟩ := frac_put bx9 hb9 (Nat.le_refl _) (.int .i64 (nv.1 : Int)) (.int .i64 (nv.2 : Int))))
            all_goals go_wp2_with fail
            all_goals refine bodyPost_ret (res_frac2 rfl _ _ W.heap.size (.int .i64 (nv.1 : Int)) (.int .i64 (nv.2 : Int)) rfl bsx) rfl ?_
            all_goals exact ⟨by rw [HNV.out]; rfl, hbx⟩
    · rw [decide_eq_false hc] at HV
      rw [if_neg hc]
      clear hk hS hkk hW hc
      go_enter Try.func12, Try.ntmps12
      go_wp2_with fail
      refine (HV.out _).mono ?_
      rintro e w1 ⟨rfl, b1⟩
      obtain ⟨c0, f0, c1, f1, c2, f2, bx, hb⟩ := frac_put (bx0.then b1) (below_then hb0 hb0.size b1) (Nat.le_refl _) (.int .i64 0) (.int .i64 0)
      clear bx0 b1
      go_wp2_with fail
      refine bodyPost_ret (res_frac2 rfl _ _ W.heap.size (.int .i64 0) (.int .i64 0) rfl bx) rfl ?_
      exact ⟨rfl, hb⟩
end Go.Proofs.Ytoapmmmmdfmaeab

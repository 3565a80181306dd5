
/-
  Walks by chance: the model's ShareOf.
-/
import Derived.Test.YtoapmmmmdfmaeaaWalkB
namespace Go.Proofs.Ytoapmmmmdfmaeaa
open Go.RowKit
set_option linter.unusedVariables false

theorem frac_put {W w : World} {g : Nat} {x y : Value} (bx : Box w g 32 #[x, y]) (hb : Below W.heap.size W w) (hg : W.heap.size ≤ g) (u v : Value) :
    w.cell? ⟨g, 0, none⟩ = some x ∧ w.frozen? ⟨g, 0, none⟩ = false ∧ (w.setCell ⟨g, 0, none⟩ u).cell? ⟨g, 1, none⟩ = some y ∧ (w.setCell ⟨g, 0, none⟩ u).frozen? ⟨g, 1, none⟩ = false ∧ w.cell? ⟨g, 1, none⟩ = some y ∧ w.frozen? ⟨g, 1, none⟩ = false ∧
      Box ((w.setCell ⟨g, 0, none⟩ u).setCell ⟨g, 1, none⟩ v) g 32 #[u, v] ∧ Below W.heap.size W ((w.setCell ⟨g, 0, none⟩ u).setCell ⟨g, 1, none⟩ v) := by
  have b2 := bx.set 0 u
  have b3 := b2.set 1 v
  exact ⟨bx.cell 0, bx.free 0, by simpa using b2.cell 1, b2.free 1, bx.cell 1, bx.free 1, by simpa using b3, below_setW (below_setW hb hb.size hg 0 _) (by simpa using hb.size) hg 1 _⟩
set_option maxHeartbeats 2000000 in
theorem specShareOf_c (bc br : Int) (s : ByteArray) (cell : Int) (W : World) : Calls Try.prog 12 #[.int .i64 bc, .int .i64 br, .string s, .int .i64 cell] W (Plain (optF (shareV bc br s.toList cell)) W) := by
  have HV := hide (fun w5 => validWalk_c bc br s cell cell w5)
  have bx0 := Box.new W 32 #[.int .i64 0, .int .i64 0]
  have hb0 := (Below.refl W.heap.size W).alloc (Nat.le_refl _) (.cells #[.int .i64 0, .int .i64 0] 32)
  unfold shareV
  cases hk : smallK bc br s.toList with
  | none =>
    rw [hk] at HV
    have hv : ((none : Option (List (Int × Int) × Bool)).isSome && decide (0 ≤ cell ∧ cell < bc * br) && decide (0 ≤ cell ∧ cell < bc * br)) = false := rfl
    rw [hv] at HV
    clear hk hv
    go_enter Try.func12, Try.ntmps12
    go_wp2_with fail
    refine (HV.out _).mono ?_
    rintro e w1 ⟨rfl, b1⟩
    obtain ⟨c0, f0, c1, f1, c2, f2, bx, hb⟩ := frac_put (bx0.then b1) (below_then hb0 hb0.size b1) (Nat.le_refl _) (.int .i64 0) (.int .i64 0)
    clear bx0 b1
    go_wp2_with fail
    refine bodyPost_ret (res_frac2 rfl _ _ W.heap.size (.int .i64 0) (.int .i64 0) rfl bx) rfl ?_
    exact ⟨rfl, hb⟩
  | some p =>
    obtain ⟨ss, far⟩ := p
    rw [hk, Option.isSome_some, Bool.true_and, Bool.and_self] at HV
    obtain ⟨hS, hkk⟩ := smallK_some hk
    obtain ⟨a, b, n, hW⟩ := walk_of hS hkk
    simp only
    by_cases hc : 0 ≤ cell ∧ cell < bc * br
    · rw [decide_eq_true hc] at HV
      rw [if_pos hc]
      have HWH := hide (fun w5 => whole_c bc br s ss far _ a b n w5 hkk hS hW)
      have HSR := hide (fun w5 => reaches_c bc br s ss far w5 hkk hS)
      have hsz := hW.size
      have hn9 := hW.nine
      have hn1 := hW.one
      have e0 : IntKind.i64.wrap (bc * br) = (n : Int) := (IntWalk.i64_in _ (by omega)).trans hsz
      cases hh : hitOf (setsP bc br far ss) with
      | none =>
        have hbn := board_none hW.board (by rw [← hW.eqc, ← hW.eqr]; exact hh)
        rw [hW.sz] at hbn
        rw [Option.map_none]
        clear hk hS hkk hW HSR hh hsz
        cases hwb : wholeB a b ss far with
        | false =>
          rw [hwb] at HWH
          clear hwb hbn
          go_enter Try.func12, Try.ntmps12
          go_wp2_with fail
          refine (HV.out _).mono ?_
          rintro e w1 ⟨rfl, b1⟩
          have bx1 := bx0.then b1
          have hb1 := below_then hb0 hb0.size b1
          go_wp2_with fail
          refine (HWH.out _).mono ?_
          rintro e w2 ⟨rfl, b2⟩
          obtain ⟨c0, f0, c1, f1, c2, f2, bx, hb⟩ := frac_put (bx1.then b2) (below_then hb1 hb1.size b2) (Nat.le_refl _) (.int .i64 0) (.int .i64 0)
          clear bx0 bx1 b1 b2
          go_wp2_with fail
          refine bodyPost_ret (res_frac2 rfl _ _ W.heap.size (.int .i64 0) (.int .i64 0) rfl bx) rfl ?_
          exact ⟨rfl, hb⟩
        | true =>
          have hn : n = 1 := by
            rcases hbn with h | h
            · exact h
            · rw [hwb] at h; cases h
          subst hn
          rw [hwb] at HWH
          clear hwb hbn
          go_enter Try.func12, Try.ntmps12
          go_wp2_with fail
          refine (HV.out _).mono ?_
          rintro e w1 ⟨rfl, b1⟩
          have bx1 := bx0.then b1
          have hb1 := below_then hb0 hb0.size b1
          go_wp2_with fail
          refine (HWH.out _).mono ?_
          rintro e w2 ⟨rfl, b2⟩
          obtain ⟨c0, f0, c1, f1, c2, f2, bx, hb⟩ := frac_put (bx1.then b2) (below_then hb1 hb1.size b2) (Nat.le_refl _) (.int .i64 0) (.int .i64 0)
          clear bx0 bx1 b1 b2
          go_wp2_with fail
          refine bodyPost_ret (res_frac2 rfl _ _ W.heap.size (.int .i64 0) (.int .i64 0) rfl bx) rfl ?_
          exact ⟨rfl, hb⟩
      | some M =>
        obtain ⟨hwb, h2⟩ := board_some hW.board (by rw [← hW.eqc, ← hW.eqr]; exact hh)
        rw [hW.sz] at h2
        rw [Option.map_some]
        have hch := chance_of hh
        unfold chanceOk at hch
        simp only [Bool.and_eq_true, decide_eq_true_eq] at hch
        obtain ⟨⟨⟨⟨⟨d1, d81⟩, hbk⟩, _⟩, _⟩, _⟩ := hch
        obtain ⟨c, rfl⟩ := Int.eq_ofNat_of_zero_le hc.1
        have hcn : c < n := by omega
        have h9s := hW.sets
        have hlen := hW.len
        rw [hwb] at HWH
        rw [Int.toNat_natCast]
        clear hk hS hkk hW hh hwb hbk hsz hc
        generalize setsP bc br far ss = L at *
        subst hlen
        have HD := hide (fun (A : Option Addr) (cc : Nat) (w5 : World) (hr : Row w5 A (ints (natI L))) => degreeSum_c A cc L w5 hr h9s)
        have HB := hide (fun w5 => bits9_c (L[c]?.getD 0) (h9s.bd c) w5)
        have hbl := bits9_le (h9s.bd c)
        have HF := hide (fun w5 => frac_c (pcN 9 (L[c]?.getD 0)) (degTo L L.length) w5 (by omega) ⟨d1, by omega⟩)
        have HSV : Hid (shareP L c = fracP (pcN 9 (L[c]?.getD 0)) (degTo L L.length)) := rfl
        have hne : ((L.length : Int) == 1) = false := by rw [beq_eq_false_iff_ne]; omega
        have HCN := hide hcn
        rw [HSV.out]
        clear HSV h9s
        generalize degTo L L.length = dg at *
        generalize fracP (pcN 9 (L[c]?.getD 0)) dg = f at *
        generalize pcN 9 (L[c]?.getD 0) = pc at *
        have k0 : (0 : Int) ≤ (c : Int) := by omega
        have k1 : (c : Int) < (L.length : Int) := by omega
        go_enter Try.func12, Try.ntmps12
        go_wp2_with fail
        refine (HV.out _).mono ?_
        rintro e w1 ⟨rfl, b1⟩
        have bx1 := bx0.then b1
        have hb1 := below_then hb0 hb0.size b1
        clear bx0 hb0 b1
        go_wp2_with fail
        refine (HWH.out _).mono ?_
        rintro e w2 ⟨rfl, b2⟩
        have bx2 := bx1.then b2
        have hb2 := below_then hb1 hb1.size b2
        clear bx1 hb1 b2
        go_wp2_with fail
        refine (HSR.out _).mono ?_
        rintro e w3 ⟨v3, rfl, o3, b3⟩
        obtain ⟨A3, c3, rfl, _⟩ := own_row o3
        have bx3 := bx2.then b3
        have hb3 := below_then hb2 hb2.size b3
        have R3 := hide (own_reads o3)
        obtain ⟨ad, rfl, hck⟩ := R3.out.int (k := c) (by rw [natI_len]; exact HCN.out)
        rw [natI_at] at hck
        generalize L[c]?.getD 0 = lc at *
        clear bx2 hb2 b3 o3
        go_wp2_with fail
        refine (HB.out _).mono ?_
        rintro e w4 ⟨rfl, rfl⟩
        go_wp2_with fail
        refine (HD.out _ _ _ R3.out).mono ?_
        rintro e w5 ⟨rfl, rfl⟩
        go_wp2_with fail
        refine (HF.out _).mono ?_
        rintro e w6 ⟨rfl, b6⟩
        obtain ⟨q0, f0, q1, f1, q2, f2, bx, hb⟩ := frac_put (bx3.then b6) (below_then hb3 hb3.size b6) (Nat.le_refl _) (.int .i64 (f.1 : Int)) (.int .i64 (f.2 : Int))
        clear bx3 b6 hck
        go_wp2_with fail
        refine bodyPost_ret (res_frac2 rfl _ _ W.heap.size (.int .i64 (f.1 : Int)) (.int .i64 (f.2 : Int)) rfl bx) rfl ?_
        exact ⟨rfl, hb⟩
    · rw [decide_eq_false hc] at HV
      rw [if_neg hc]
      clear hk hS hkk hW hc
      go_enter Try.func12, Try.ntmps12
      go_wp2_with fail
      refine (HV.out _).mono ?_
      rintro e w1 ⟨rfl, b1⟩
      obtain ⟨c0, f0, c1, f1, c2, f2, bx, hb⟩ := frac_put (bx0.then b1) (below_then hb0 hb0.size b1) (Nat.le_refl _) (.int .i64 0) (.int .i64 0)
      clear bx0 b1
      go_wp2_with fail
      refine bodyPost_ret (res_frac2 rfl _ _ W.heap.size (.int .i64 0) (.int .i64 0) rfl bx) rfl ?_
      exact ⟨rfl, hb⟩
end Go.Proofs.Ytoapmmmmdfmaeaa

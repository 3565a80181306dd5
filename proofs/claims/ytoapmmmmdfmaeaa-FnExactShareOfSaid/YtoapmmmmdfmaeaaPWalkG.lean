
/-
  Walks by chance: the program's chanceOf and ShareOf.
-/
import Derived.Test.YtoapmmmmdfmaeaaPWalkF
import Derived.Test.YtoapmmmmdfmaeaaPWalkM
import Derived.Test.YtoapmmmmdfmaeaaElimM
import Derived.Test.YtoapmmmmdfmaeaaWalkC
namespace Go.Proofs.Ytoapmmmmdfmaeaa
open Go.RowKit
set_option linter.unusedVariables false

set_option maxHeartbeats 1000000 in
set_option maxRecDepth 100000 in
theorem chanceOf_no (bc br : Int) (s : ByteArray) (A : Option Addr) (c : Nat) (cs : List Int) (w : World) (h : smallK bc br s.toList = none) (hr : Row w A (ints cs)) (hm : cs.length ≤ 2) :
    Calls Try.prog 35 #[.int .i64 bc, .int .i64 br, .string s, .slice A cs.length c] w (Plain (.tuple #[.slice none 0 0, .bool false]) w) := by
  have HS := hide (walkOf_no bc br s A c cs w h hr hm)
  clear h hr
  go_enter Try.func35, Try.ntmps35
  go_wp2_with fail
  refine HS.out.mono ?_
  rintro e w1 ⟨rfl, b1⟩
  go_wp2_with fail
  go_ret2
  exact ⟨rfl, b1⟩
set_option maxHeartbeats 1000000 in
set_option maxRecDepth 100000 in
theorem chanceOf_yes (bc br : Int) (s : ByteArray) (A : Option Addr) (c n : Nat) (cs : List Int) (w : World) {ss : List (Int × Int)} {far : Bool} (hk : kindL s.toList = some (ss, far)) (hS : Small bc br) (hn : (setsP bc br far ss).length = n) (hr : Row w A (ints cs)) (hm : cs.length ≤ 2) :
    Calls Try.prog 35 #[.int .i64 bc, .int .i64 br, .string s, .slice A cs.length c] w (WalkIs (setsP bc br far ss) (cellsTo cs n cs.length && (hitOf (setsP bc br far ss)).isSome) w) := by
  obtain ⟨a, b, n', hW⟩ := walk_of hS hk
  have hC := chance_is hS hk hW
  have HB := hide hC.both
  have HS := hide (walkOf_yes bc br s A c n cs w hk hS hn hr hm)
  obtain ⟨h1, h2, h3, h4, h9⟩ := hS
  have HP := hide (fun w5 => implPieces_yes bc br s w5 hk h1 h2 h3 h4)
  have HA := hide (fun w5 => implAllMoves_yes bc br s w5 hk h1 h2 h3 h4)
  clear hk hr hC hW
  generalize setsP bc br far ss = L at *
  generalize cellsTo cs n cs.length = x at *
  generalize (partsI (fun n => movesP bc br far ss (n : Int)) (bc * br).toNat (bc * br).toNat).2 = p at *
  generalize sumP bc br far ss (bc * br).toNat = q at *
  generalize (hitOf L).isSome = y at *
  clear hn
  cases x with
  | false =>
    clear HP HA HB
    rw [Bool.false_and]
    go_enter Try.func35, Try.ntmps35
    go_wp2_with fail
    refine HS.out.mono ?_
    rintro e w1 ⟨A1, c1, rfl, o1, b1⟩
    go_wp2_with fail
    go_ret2
    exact ⟨A1, c1, rfl, o1, b1⟩
  | true =>
    rw [Bool.true_and]
    by_cases hp : (p : Int) = 1
    · have hpb : ((p : Int) == 1) = true := by rw [beq_iff_eq]; exact hp
      obtain ⟨d, hd⟩ : ∃ d, decide (0 < q) = d := ⟨_, rfl⟩
      have hyd : y = d := by rw [← HB.out, decide_eq_true hp, hd]; rfl
      subst hyd
      clear HB hp
      go_enter Try.func35, Try.ntmps35
      go_wp2_with fail
      refine HS.out.mono ?_
      rintro e w1 ⟨A1, c1, rfl, o1, b1⟩
      go_wp2_with fail
      refine (HP.out _).mono ?_
      rintro e w2 ⟨rfl, b2⟩
      go_wp2_with fail
      refine (HA.out _).mono ?_
      rintro e w3 ⟨rfl, b3⟩
      have o3 := hide (own_below (own_below o1 b2) b3)
      have hb3 := hide (below_then (below_then b1 b1.size b2) (Nat.le_trans b1.size b2.size) b3)
      clear o1 b1 b2 b3
      go_wp2_with fail
      go_ret2
      exact ⟨A1, c1, rfl, o3.out, hb3.out⟩
    · have hpb : ((p : Int) == 1) = false := by rw [beq_eq_false_iff_ne]; exact hp
      have hyd : y = false := by rw [← HB.out, decide_eq_false hp]; rfl
      subst hyd
      clear HB HA hp
      go_enter Try.func35, Try.ntmps35
      go_wp2_with fail
      refine HS.out.mono ?_
      rintro e w1 ⟨A1, c1, rfl, o1, b1⟩
      go_wp2_with fail
      refine (HP.out _).mono ?_
      rintro e w2 ⟨rfl, b2⟩
      have o3 := hide (own_below o1 b2)
      have hb3 := hide (below_then b1 b1.size b2)
      clear o1 b1 b2
      go_wp2_with fail
      go_ret2
      exact ⟨A1, c1, rfl, o3.out, hb3.out⟩
theorem cells_one (x : Int) (n : Nat) : cellsTo [x] n 1 = decide (0 ≤ x ∧ x < (n : Int)) := by simp [cellsTo]
theorem cells_two (x y : Int) (n : Nat) : cellsTo [x, y] n 2 = decide ((0 ≤ x ∧ x < (n : Int)) ∧ (0 ≤ y ∧ y < (n : Int))) := by simp [cellsTo]
theorem chance1_no {bc br : Int} {s : ByteArray} {x : Int} {w : World} {g : Nat} (h : smallK bc br s.toList = none) (hr : Row w (some ⟨g, 0, none⟩) #[.int .i64 x].toList) :
    Calls Try.prog 35 #[.int .i64 bc, .int .i64 br, .string s, .slice (some ⟨g, 0, none⟩) 1 1] w (Plain (.tuple #[.slice none 0 0, .bool false]) w) := chanceOf_no bc br s _ 1 [x] w h hr (by simp)
theorem chance2_no {bc br : Int} {s : ByteArray} {x y : Int} {w : World} {g : Nat} (h : smallK bc br s.toList = none) (hr : Row w (some ⟨g, 0, none⟩) #[.int .i64 x, .int .i64 y].toList) :
    Calls Try.prog 35 #[.int .i64 bc, .int .i64 br, .string s, .slice (some ⟨g, 0, none⟩) 2 2] w (Plain (.tuple #[.slice none 0 0, .bool false]) w) := chanceOf_no bc br s _ 2 [x, y] w h hr (by simp)
theorem chance1_yes {bc br : Int} {s : ByteArray} {x : Int} {w : World} {g n : Nat} {ss : List (Int × Int)} {far : Bool} (hk : kindL s.toList = some (ss, far)) (hS : Small bc br) (hn : (setsP bc br far ss).length = n) (hr : Row w (some ⟨g, 0, none⟩) #[.int .i64 x].toList) :
    Calls Try.prog 35 #[.int .i64 bc, .int .i64 br, .string s, .slice (some ⟨g, 0, none⟩) 1 1] w (WalkIs (setsP bc br far ss) (decide (0 ≤ x ∧ x < (n : Int)) && (hitOf (setsP bc br far ss)).isSome) w) := by
  have := chanceOf_yes bc br s _ 1 n [x] w hk hS hn hr (by simp)
  rwa [show [x].length = 1 from rfl, cells_one] at this
theorem chance2_yes {bc br : Int} {s : ByteArray} {x y : Int} {w : World} {g n : Nat} {ss : List (Int × Int)} {far : Bool} (hk : kindL s.toList = some (ss, far)) (hS : Small bc br) (hn : (setsP bc br far ss).length = n) (hr : Row w (some ⟨g, 0, none⟩) #[.int .i64 x, .int .i64 y].toList) :
    Calls Try.prog 35 #[.int .i64 bc, .int .i64 br, .string s, .slice (some ⟨g, 0, none⟩) 2 2] w (WalkIs (setsP bc br far ss) (decide ((0 ≤ x ∧ x < (n : Int)) ∧ (0 ≤ y ∧ y < (n : Int))) && (hitOf (setsP bc br far ss)).isSome) w) := by
  have := chanceOf_yes bc br s _ 2 n [x, y] w hk hS hn hr (by simp)
  rwa [show [x, y].length = 2 from rfl, cells_two] at this
set_option maxHeartbeats 2000000 in
set_option maxRecDepth 100000 in
theorem implShareOf_c (bc br : Int) (s : ByteArray) (cell : Int) (W : World) : Calls Try.prog 13 #[.int .i64 bc, .int .i64 br, .string s, .int .i64 cell] W (Plain (optF (shareV bc br s.toList cell)) W) := by
  have bx0 := Box.new W 32 #[.int .i64 0, .int .i64 0]
  have hb0 := (Below.refl W.heap.size W).alloc (Nat.le_refl _) (.cells #[.int .i64 0, .int .i64 0] 32)
  have r0 := row_new (W.alloc (.cells #[.int .i64 0, .int .i64 0] 32)) #[.int .i64 cell] 3 (n := W.heap.size + 1) (by simp)
  have bx1 := bx0.alloc (.cells #[.int .i64 cell] 3)
  have hb1 := hb0.alloc hb0.size (.cells #[.int .i64 cell] 3)
  unfold shareV
  cases hk : smallK bc br s.toList with
  | none =>
    have HC := hide (chance1_no hk r0)
    clear hk r0 bx0 hb0
    go_enter Try.func13, Try.ntmps13
    go_wp2_with fail
    refine HC.out.mono ?_
    rintro e w1 ⟨rfl, b1⟩
    obtain ⟨c0, f0, c1, f1, c2, f2, bx, hb⟩ := frac_put (bx1.then b1) (below_then hb1 hb1.size b1) (Nat.le_refl _) (.int .i64 0) (.int .i64 0)
    clear bx1 b1
    go_wp2_with fail
    refine bodyPost_ret (res_frac2 rfl _ _ W.heap.size (.int .i64 0) (.int .i64 0) rfl bx) rfl ?_
    exact ⟨rfl, hb⟩
  | some p =>
    obtain ⟨ss, far⟩ := p
    obtain ⟨hS, hkk⟩ := smallK_some hk
    obtain ⟨a, b, n, hW⟩ := walk_of hS hkk
    have hsz := hW.size
    have hn9 := hW.nine
    have hn1 := hW.one
    have hlen := hW.len
    have h9s := hW.sets
    have hC := chance_is hS hkk hW
    have HC := hide (chance1_yes hkk hS hlen r0)
    have HA := hide (fun w5 => implAllMoves_yes bc br s w5 hkk hS.1 hS.2.1 hS.2.2.1 hS.2.2.2.1)
    simp only
    rw [hsz]
    rw [hC.sum] at HA
    by_cases hc : 0 ≤ cell ∧ cell < (n : Int)
    · rw [if_pos hc]
      rw [decide_eq_true hc, Bool.true_and] at HC
      cases hh : hitOf (setsP bc br far ss) with
      | none =>
        rw [hh] at HC
        rw [Option.map_none]
        rw [show (none : Option (List (List (Nat × Nat)))).isSome = false from rfl] at HC
        clear hk hS hkk hW hC HA hh hlen h9s hc hsz r0 bx0 hb0
        go_enter Try.func13, Try.ntmps13
        go_wp2_with fail
        refine HC.out.mono ?_
        rintro e w1 ⟨A1, c1, rfl, o1, b1⟩
        obtain ⟨c0, f0, c1, f1, c2, f2, bx, hb⟩ := frac_put (bx1.then b1) (below_then hb1 hb1.size b1) (Nat.le_refl _) (.int .i64 0) (.int .i64 0)
        clear bx1 b1 o1
        go_wp2_with fail
        refine bodyPost_ret (res_frac2 rfl _ _ W.heap.size (.int .i64 0) (.int .i64 0) rfl bx) rfl ?_
        exact ⟨rfl, hb⟩
      | some M =>
        rw [hh] at HC
        rw [Option.map_some]
        rw [show (some M).isSome = true from rfl] at HC
        obtain ⟨hc1, hc2⟩ := hc
        obtain ⟨k, rfl⟩ := Int.eq_ofNat_of_zero_le hc1
        have hkn : k < n := by omega
        obtain ⟨_, _, _, hq1, hq2⟩ := backs_of hh (c := k) (by rw [hlen]; exact hkn)
        rw [Int.toNat_natCast, ← hq2]
        have hd81 := hC.small
        have HZ := hide (fun w5 => sizeOf_9 _ (h9s.bd k) w5)
        have HX := hide (h9s.bd k)
        have HNL := hide (natI_len (setsP bc br far ss))
        rw [hlen] at HNL
        clear hk hS hkk hW hC hh hsz hc1 hc2 h9s r0 bx0 hb0 hq2
        generalize setsP bc br far ss = L at *
        have HQ := hide (fun w5 => pOverC (pcN 9 (L[k]?.getD 0), 1) (degTo L L.length, 1) w5 hq1)
        generalize quoC (pcN 9 (L[k]?.getD 0), 1) (degTo L L.length, 1) = f at *
        generalize degTo L L.length = dg at *
        obtain ⟨x, hx⟩ : ∃ x, L[k]?.getD 0 = x := ⟨_, rfl⟩
        rw [hx] at HZ HQ
        have HX := hide hx
        generalize pcN 9 x = pc at *
        have k0 : (0 : Int) ≤ (k : Int) := by omega
        have k1 : (k : Int) < (n : Int) := by omega
        clear hq1 hx
        go_enter Try.func13, Try.ntmps13
        go_wp2_with fail
        refine HC.out.mono ?_
        rintro e w1 ⟨A1, c1, rfl, o1, b1⟩
        rw [hlen] at o1
        obtain ⟨ad, rfl, hck⟩ := (own_reads o1).int (k := k) (by rw [HNL.out]; exact hkn)
        rw [natI_at, HX.out] at hck
        have bx2 := bx1.then b1
        have hb2 := below_then hb1 hb1.size b1
        clear bx1 hb1 b1 o1
        go_wp2_with fail
        refine (HZ.out _).mono ?_
        rintro e w2 ⟨rfl, rfl⟩
        go_wp2_with fail
        refine (pWhole_c _ _).mono ?_
        rintro e w3 ⟨rfl, b3⟩
        have bx3 := bx2.then b3
        have hb3 := below_then hb2 hb2.size b3
        clear bx2 hb2 b3
        go_wp2_with fail
        refine (HA.out _).mono ?_
        rintro e w4 ⟨rfl, b4⟩
        have bx4 := bx3.then b4
        have hb4 := below_then hb3 hb3.size b4
        clear bx3 hb3 b4
        go_wp2_with fail
        refine (pWhole_c _ _).mono ?_
        rintro e w5 ⟨rfl, b5⟩
        have bx5 := bx4.then b5
        have hb5 := below_then hb4 hb4.size b5
        clear bx4 hb4 b5
        go_wp2_with fail
        refine (HQ.out _).mono ?_
        rintro e w6 ⟨rfl, b6⟩
        obtain ⟨c0, f0, c1, f1, c2, f2, bx, hb⟩ := frac_put (bx5.then b6) (below_then hb5 hb5.size b6) (Nat.le_refl _) (.int .i64 (f.1 : Int)) (.int .i64 (f.2 : Int))
        clear bx5 b6
        go_wp2_with fail
        refine bodyPost_ret (res_frac2 rfl _ _ W.heap.size (.int .i64 (f.1 : Int)) (.int .i64 (f.2 : Int)) rfl bx) rfl ?_
        exact ⟨rfl, hb⟩
    · rw [if_neg hc]
      rw [decide_eq_false hc, Bool.false_and] at HC
      clear hk hS hkk hW hC HA hlen h9s hc hsz r0 bx0 hb0
      go_enter Try.func13, Try.ntmps13
      go_wp2_with fail
      refine HC.out.mono ?_
      rintro e w1 ⟨A1, c1, rfl, o1, b1⟩
      obtain ⟨c0, f0, c1, f1, c2, f2, bx, hb⟩ := frac_put (bx1.then b1) (below_then hb1 hb1.size b1) (Nat.le_refl _) (.int .i64 0) (.int .i64 0)
      clear bx1 b1 o1
      go_wp2_with fail
      refine bodyPost_ret (res_frac2 rfl _ _ W.heap.size (.int .i64 0) (.int .i64 0) rfl bx) rfl ?_
      exact ⟨rfl, hb⟩
end Go.Proofs.Ytoapmmmmdfmaeaa

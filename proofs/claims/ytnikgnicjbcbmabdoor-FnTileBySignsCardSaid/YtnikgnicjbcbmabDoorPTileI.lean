
/-
  Rows of cells as arrays: cellsIn, without.
-/
import Derived.Test.YtnikgnicjbcbmabDoorPTileH
import Derived.Test.YtnikgnicjbcbmabDoorPTileB
namespace Go.Proofs.YtnikgnicjbcbmabDoor
open Go.RowKit
set_option linter.unusedVariables false

def bitsF (f : Nat → Bool) : Array Value := #[.bool (f 0), .bool (f 1), .bool (f 2), .bool (f 3), .bool (f 4)]
abbrev cellsV (s : Nat) : Value := .agg (bitsF s.testBit)
theorem bitsF_set (f : Nat → Bool) (b : Bool) {k : Nat} (h : k < 5) : (bitsF f).setIfInBounds k (.bool b) = bitsF (fun i => if i = k then b else f i) := by
  obtain rfl | rfl | rfl | rfl | rfl : k = 0 ∨ k = 1 ∨ k = 2 ∨ k = 3 ∨ k = 4 := by omega
  all_goals simp [bitsF]
theorem bitsF_at (f : Nat → Bool) {k : Nat} (h : k < 5) : (bitsF f)[k]? = some (.bool (f k)) := by
  obtain rfl | rfl | rfl | rfl | rfl : k = 0 ∨ k = 1 ∨ k = 2 ∨ k = 3 ∨ k = 4 := by omega
  all_goals rfl
theorem bitsF_congr {f g : Nat → Bool} (h : ∀ i, i < 5 → f i = g i) : bitsF f = bitsF g := by
  unfold bitsF
  rw [h 0 (by omega), h 1 (by omega), h 2 (by omega), h 3 (by omega), h 4 (by omega)]
theorem box5 {w : World} {g : Nat} {t : TypeId} {f : Nat → Bool} (h : Box w g t (bitsF f)) :
    w.cell? ⟨g, 0, none⟩ = some (.bool (f 0)) ∧ w.cell? ⟨g, 1, none⟩ = some (.bool (f 1)) ∧ w.cell? ⟨g, 2, none⟩ = some (.bool (f 2)) ∧ w.cell? ⟨g, 3, none⟩ = some (.bool (f 3)) ∧ w.cell? ⟨g, 4, none⟩ = some (.bool (f 4)) :=
  ⟨h.cell 0, h.cell 1, h.cell 2, h.cell 3, h.cell 4⟩
theorem box10 {w : World} {g : Nat} {t : TypeId} {f : Nat → Bool} (h : Box w g t (bitsF f)) :
    w.cell? ⟨g, 0, none⟩ = some (.bool (f 0)) ∧ w.cell? ⟨g, 1, none⟩ = some (.bool (f 1)) ∧ w.cell? ⟨g, 2, none⟩ = some (.bool (f 2)) ∧ w.cell? ⟨g, 3, none⟩ = some (.bool (f 3)) ∧ w.cell? ⟨g, 4, none⟩ = some (.bool (f 4)) ∧
    w.frozen? ⟨g, 0, none⟩ = false ∧ w.frozen? ⟨g, 1, none⟩ = false ∧ w.frozen? ⟨g, 2, none⟩ = false ∧ w.frozen? ⟨g, 3, none⟩ = false ∧ w.frozen? ⟨g, 4, none⟩ = false :=
  ⟨h.cell 0, h.cell 1, h.cell 2, h.cell 3, h.cell 4, h.free 0, h.free 1, h.free 2, h.free 3, h.free 4⟩
theorem box5_set {w : World} {g : Nat} {t : TypeId} {f : Nat → Bool} (h : Box w g t (bitsF f)) {k : Nat} (hk : k < 5) (b : Bool) :
    w.cell? ⟨g, k, none⟩ = some (.bool (f k)) ∧ w.frozen? ⟨g, k, none⟩ = false ∧ Box (w.setCell ⟨g, k, none⟩ (.bool b)) g t (bitsF fun i => if i = k then b else f i) :=
  ⟨(h.cell k).trans (bitsF_at f hk), h.free k, by rw [← bitsF_set f b hk]; exact h.set k (.bool b)⟩

/-- Five cells stored, one after the other: what the walk asks of each store and of the end. -/
theorem end5 {w : World} {g : Nat} {t : TypeId} {f0 : Nat → Bool} (h : Box w g t (bitsF f0)) (f : Nat → Bool) :
    w.cell? ⟨g, 0, none⟩ = some (.bool (f0 0)) ∧ w.frozen? ⟨g, 0, none⟩ = false ∧
    (w.setCell ⟨g, 0, none⟩ (.bool (f 0))).cell? ⟨g, 1, none⟩ = some (.bool (f0 1)) ∧ (w.setCell ⟨g, 0, none⟩ (.bool (f 0))).frozen? ⟨g, 1, none⟩ = false ∧
    ((w.setCell ⟨g, 0, none⟩ (.bool (f 0))).setCell ⟨g, 1, none⟩ (.bool (f 1))).cell? ⟨g, 2, none⟩ = some (.bool (f0 2)) ∧ ((w.setCell ⟨g, 0, none⟩ (.bool (f 0))).setCell ⟨g, 1, none⟩ (.bool (f 1))).frozen? ⟨g, 2, none⟩ = false ∧
    (((w.setCell ⟨g, 0, none⟩ (.bool (f 0))).setCell ⟨g, 1, none⟩ (.bool (f 1))).setCell ⟨g, 2, none⟩ (.bool (f 2))).cell? ⟨g, 3, none⟩ = some (.bool (f0 3)) ∧ (((w.setCell ⟨g, 0, none⟩ (.bool (f 0))).setCell ⟨g, 1, none⟩ (.bool (f 1))).setCell ⟨g, 2, none⟩ (.bool (f 2))).frozen? ⟨g, 3, none⟩ = false ∧
    ((((w.setCell ⟨g, 0, none⟩ (.bool (f 0))).setCell ⟨g, 1, none⟩ (.bool (f 1))).setCell ⟨g, 2, none⟩ (.bool (f 2))).setCell ⟨g, 3, none⟩ (.bool (f 3))).cell? ⟨g, 4, none⟩ = some (.bool (f0 4)) ∧ ((((w.setCell ⟨g, 0, none⟩ (.bool (f 0))).setCell ⟨g, 1, none⟩ (.bool (f 1))).setCell ⟨g, 2, none⟩ (.bool (f 2))).setCell ⟨g, 3, none⟩ (.bool (f 3))).frozen? ⟨g, 4, none⟩ = false ∧
    (((((w.setCell ⟨g, 0, none⟩ (.bool (f 0))).setCell ⟨g, 1, none⟩ (.bool (f 1))).setCell ⟨g, 2, none⟩ (.bool (f 2))).setCell ⟨g, 3, none⟩ (.bool (f 3))).setCell ⟨g, 4, none⟩ (.bool (f 4))).cell? ⟨g, 0, none⟩ = some (.bool (f 0)) ∧ (((((w.setCell ⟨g, 0, none⟩ (.bool (f 0))).setCell ⟨g, 1, none⟩ (.bool (f 1))).setCell ⟨g, 2, none⟩ (.bool (f 2))).setCell ⟨g, 3, none⟩ (.bool (f 3))).setCell ⟨g, 4, none⟩ (.bool (f 4))).cell? ⟨g, 1, none⟩ = some (.bool (f 1)) ∧ (((((w.setCell ⟨g, 0, none⟩ (.bool (f 0))).setCell ⟨g, 1, none⟩ (.bool (f 1))).setCell ⟨g, 2, none⟩ (.bool (f 2))).setCell ⟨g, 3, none⟩ (.bool (f 3))).setCell ⟨g, 4, none⟩ (.bool (f 4))).cell? ⟨g, 2, none⟩ = some (.bool (f 2)) ∧ (((((w.setCell ⟨g, 0, none⟩ (.bool (f 0))).setCell ⟨g, 1, none⟩ (.bool (f 1))).setCell ⟨g, 2, none⟩ (.bool (f 2))).setCell ⟨g, 3, none⟩ (.bool (f 3))).setCell ⟨g, 4, none⟩ (.bool (f 4))).cell? ⟨g, 3, none⟩ = some (.bool (f 3)) ∧ (((((w.setCell ⟨g, 0, none⟩ (.bool (f 0))).setCell ⟨g, 1, none⟩ (.bool (f 1))).setCell ⟨g, 2, none⟩ (.bool (f 2))).setCell ⟨g, 3, none⟩ (.bool (f 3))).setCell ⟨g, 4, none⟩ (.bool (f 4))).cell? ⟨g, 4, none⟩ = some (.bool (f 4)) ∧ Box (((((w.setCell ⟨g, 0, none⟩ (.bool (f 0))).setCell ⟨g, 1, none⟩ (.bool (f 1))).setCell ⟨g, 2, none⟩ (.bool (f 2))).setCell ⟨g, 3, none⟩ (.bool (f 3))).setCell ⟨g, 4, none⟩ (.bool (f 4))) g t (bitsF f) := by
  have b0 : Box w g t #[.bool (f0 0), .bool (f0 1), .bool (f0 2), .bool (f0 3), .bool (f0 4)] := h
  have b1 : Box (w.setCell ⟨g, 0, none⟩ (.bool (f 0))) g t #[.bool (f 0), .bool (f0 1), .bool (f0 2), .bool (f0 3), .bool (f0 4)] := b0.set 0 (.bool (f 0))
  have b2 : Box ((w.setCell ⟨g, 0, none⟩ (.bool (f 0))).setCell ⟨g, 1, none⟩ (.bool (f 1))) g t #[.bool (f 0), .bool (f 1), .bool (f0 2), .bool (f0 3), .bool (f0 4)] := b1.set 1 (.bool (f 1))
  have b3 : Box (((w.setCell ⟨g, 0, none⟩ (.bool (f 0))).setCell ⟨g, 1, none⟩ (.bool (f 1))).setCell ⟨g, 2, none⟩ (.bool (f 2))) g t #[.bool (f 0), .bool (f 1), .bool (f 2), .bool (f0 3), .bool (f0 4)] := b2.set 2 (.bool (f 2))
  have b4 : Box ((((w.setCell ⟨g, 0, none⟩ (.bool (f 0))).setCell ⟨g, 1, none⟩ (.bool (f 1))).setCell ⟨g, 2, none⟩ (.bool (f 2))).setCell ⟨g, 3, none⟩ (.bool (f 3))) g t #[.bool (f 0), .bool (f 1), .bool (f 2), .bool (f 3), .bool (f0 4)] := b3.set 3 (.bool (f 3))
  have b5 : Box (((((w.setCell ⟨g, 0, none⟩ (.bool (f 0))).setCell ⟨g, 1, none⟩ (.bool (f 1))).setCell ⟨g, 2, none⟩ (.bool (f 2))).setCell ⟨g, 3, none⟩ (.bool (f 3))).setCell ⟨g, 4, none⟩ (.bool (f 4))) g t #[.bool (f 0), .bool (f 1), .bool (f 2), .bool (f 3), .bool (f 4)] := b4.set 4 (.bool (f 4))
  exact ⟨b0.cell 0, b0.free 0, b1.cell 1, b1.free 1, b2.cell 2, b2.free 2, b3.cell 3, b3.free 3, b4.cell 4, b4.free 4, b5.cell 0, b5.cell 1, b5.cell 2, b5.cell 3, b5.cell 4, b5⟩
theorem end5_below {w W : World} {B g : Nat} (f : Nat → Bool) (hb : Below B W w) (hg : B ≤ g) : Below B W (((((w.setCell ⟨g, 0, none⟩ (.bool (f 0))).setCell ⟨g, 1, none⟩ (.bool (f 1))).setCell ⟨g, 2, none⟩ (.bool (f 2))).setCell ⟨g, 3, none⟩ (.bool (f 3))).setCell ⟨g, 4, none⟩ (.bool (f 4))) := ((((hb.setCell hg _).setCell hg _).setCell hg _).setCell hg _).setCell hg _
set_option maxHeartbeats 1000000 in
set_option maxRecDepth 100000 in
theorem cellsIn_c (w h row set : Nat) (W : World) (hw : 1 ≤ w ∧ w ≤ 5) (hr : row ≤ 5) (hs : set < 33554432) :
    Calls Tryd.prog 32 #[boardV (w : Int) (h : Int), .int .i64 (row : Int), .int .i64 (set : Int)] W (Plain (cellsV (rowS w set row)) W) := by
  have bx0 := (Box.new W 32 #[.int .i64 (w : Int), .int .i64 (h : Int)])
  have hend : Hid (bitsF (fun i => decide (i < w) && set.testBit (row * w + i)) = bitsF (rowS w set row).testBit) := bitsF_congr fun i _ => (rowS_bit w set row i).symm
  rw [cellsV, ← hend.out]
  clear hend
  obtain ⟨w1, w5⟩ := hw
  go_enter Tryd.func32, Tryd.ntmps32
  go_wp2_with fail
  have bx1 := ((bx0.alloc (.cells (bitsF fun _ => false) 60)).alloc (.cells (bitsF fun _ => false) 60))
  have br1 := (Box.new (W.alloc (.cells #[.int .i64 (w : Int), .int .i64 (h : Int)] 32)) 60 (bitsF fun _ => false)).alloc (.cells (bitsF fun _ => false) 60)
  have bc1 := Box.new ((W.alloc (.cells #[.int .i64 (w : Int), .int .i64 (h : Int)] 32)).alloc (.cells (bitsF fun _ => false) 60)) 60 (bitsF fun _ => false)
  have b1 : Below W.heap.size W (((W.alloc (.cells #[.int .i64 (w : Int), .int .i64 (h : Int)] 32)).alloc (.cells (bitsF fun _ => false) 60)).alloc (.cells (bitsF fun _ => false) 60)) := (((Below.refl _ _).alloc (Nat.le_refl _) _).alloc (by simp) _).alloc (by simp; omega) _
  simp only [World.size_alloc] at br1 bc1
  go_loopw [11] (fun i wr => ∃ k : Nat, k ≤ w ∧ i = .int .i64 (k : Int) ∧ Below W.heap.size W wr ∧ Box wr W.heap.size 32 #[.int .i64 (w : Int), .int .i64 (h : Int)] ∧ Box wr (W.heap.size + 1) 60 (bitsF fun _ => false) ∧
      Box wr (W.heap.size + 1 + 1) 60 (bitsF fun i => decide (i < k) && set.testBit (row * w + i))) (fun i _ => w - (intOf i).toNat)
  case atStart => exact ⟨0, Nat.zero_le _, rfl, b1, bx1, br1, bc1⟩
  case round =>
    obtain ⟨k, hk, rfl, hb, bx, br, bc⟩ := hrel
    obtain ⟨wo, rfl⟩ : ∃ wo : World, wo = wr := ⟨_, rfl⟩
    have z := hb.size
    have c0 := bx.cell 0
    have c1 := bx.cell 1
    by_cases hlt : k < w
    · obtain ⟨d1, d2, d3⟩ := box5_set bc (k := k) (by omega) (set.testBit (row * w + k))
      have hpm : row * w ≤ 5 * 5 := Nat.mul_le_mul hr w5
      have em : IntKind.i64.wrap ((row : Int) * (w : Int)) = ((row * w : Nat) : Int) := by rw [Int.natCast_mul]; exact IntWalk.i64_in _ (by rw [← Int.natCast_mul]; omega)
      have hbt := bit_test set (row * w + k) (by omega)
      have hd : Hid (bitsF (fun i => if i = k then set.testBit (row * w + k) else decide (i < k) && set.testBit (row * w + i)) = bitsF (fun i => decide (i < k + 1) && set.testBit (row * w + i))) := bitsF_congr fun i _ => by
        by_cases e : i = k
        · subst e; simp
        · rw [if_neg e]
          congr 1
          rw [decide_eq_decide]
          omega
      rw [hd.out] at d3
      generalize row * w = pm at *
      have e4 : IntKind.i64.wrap ((pm : Int) + (k : Int)) = ((pm + k : Nat) : Int) := (IntWalk.i64_in _ (by omega)).trans (by omega)
      have q64 : ((pm + k : Nat) : Int) < 64 := by omega
      generalize pm + k = q at *
      have q0 : (0 : Int) ≤ (q : Int) := by omega
      have k0 : (0 : Int) ≤ (k : Int) := by omega
      have k5 : (k : Int) < 5 := by omega
      have bx' := bx.other (p := ⟨W.heap.size + 1 + 1, k, none⟩) (by simp; omega) (.bool (set.testBit q))
      have br' := br.other (p := ⟨W.heap.size + 1 + 1, k, none⟩) (by simp) (.bool (set.testBit q))
      have hb' := hb.setCell (p := ⟨W.heap.size + 1 + 1, k, none⟩) (by simp; omega) (.bool (set.testBit q))
      go_wp2_with fail
      exact ⟨⟨k + 1, hlt, by go_num, hb', bx', br', d3⟩, by simp [intOf]; omega⟩
    · obtain rfl : k = w := by omega
      obtain ⟨F, hF⟩ : ∃ F, (fun i => decide (i < k) && set.testBit (row * k + i)) = F := ⟨_, rfl⟩
      rw [hF] at bc
      have HFq := hide hF
      clear hF
      obtain ⟨c0', c1', c2', c3', c4'⟩ := box5 bc
      obtain ⟨t0, f0, t1, f1, t2, f2, t3, f3, t4, f4, r0, r1, r2, r3, r4, _⟩ := end5 br F
      have hbe := end5_below F hb (g := W.heap.size + 1) (by omega)
      go_wp2_with fail
      refine bodyPost_ret (v := .agg (bitsF F)) (by simp [results, Tryd.results32, go_sem, r0, r1, r2, r3, r4, bitsF]) rfl ⟨by rw [HFq.out], hbe⟩

theorem index5 (f : Nat → Bool) {k : Nat} (h : k < 5) : ∀ w : World, (Instr.index 60 (.agg #[.bool (f 0), .bool (f 1), .bool (f 2), .bool (f 3), .bool (f 4)]) (.int .i64 (k : Int))).run Tryd.prog w = .ok (.bool (f k)) w := fun w => by
  obtain rfl | rfl | rfl | rfl | rfl : k = 0 ∨ k = 1 ∨ k = 2 ∨ k = 3 ∨ k = 4 := by omega
  all_goals kernel_rfl
set_option maxHeartbeats 1000000 in
set_option maxRecDepth 100000 in
theorem without_f (cf sf : Nat → Bool) (W : World) : Calls Tryd.prog 34 #[.agg (bitsF cf), .agg (bitsF sf)] W (Plain (.agg (bitsF fun i => cf i && !sf i)) W) := by
  have bx0 := ((Box.new W 60 (bitsF cf)).alloc (.cells (bitsF sf) 60)).alloc (.cells #[.bool false, .bool false, .bool false, .bool false, .bool false] 60)
  have bs0 := (Box.new (W.alloc (.cells (bitsF cf) 60)) 60 (bitsF sf)).alloc (.cells #[.bool false, .bool false, .bool false, .bool false, .bool false] 60)
  have br0 := Box.new ((W.alloc (.cells (bitsF cf) 60)).alloc (.cells (bitsF sf) 60)) 60 (bitsF fun _ => false)
  have b0 : Below W.heap.size W (((W.alloc (.cells (bitsF cf) 60)).alloc (.cells (bitsF sf) 60)).alloc (.cells #[.bool false, .bool false, .bool false, .bool false, .bool false] 60)) := (((Below.refl _ _).alloc (Nat.le_refl _) _).alloc (by simp) _).alloc (by simp; omega) _
  simp only [World.size_alloc] at bs0 br0
  obtain ⟨d0, d1, d2, d3, d4⟩ := box5 bs0
  have hst : Hid (bitsF cf = bitsF (fun i => if i < 0 then cf i && !sf i else cf i)) := bitsF_congr fun i _ => by rw [if_neg (by omega)]
  rw [hst.out] at bx0
  clear hst
  go_enter Tryd.func34, Tryd.ntmps34
  go_wp2_with fail
  go_loopw [8] (fun i wr => ∃ k : Nat, k ≤ 5 ∧ i = .int .i64 (k : Int) ∧ Below W.heap.size W wr ∧ Box wr W.heap.size 60 (bitsF fun i => if i < k then cf i && !sf i else cf i) ∧ Box wr (W.heap.size + 1 + 1) 60 (bitsF fun _ => false)) (fun i _ => 5 - (intOf i).toNat)
  case atStart => exact ⟨0, Nat.zero_le _, rfl, b0, bx0, br0⟩
  case round =>
    obtain ⟨k, hk, rfl, hb, bx, br⟩ := hrel
    obtain ⟨wo, rfl⟩ : ∃ wo : World, wo = wr := ⟨_, rfl⟩
    have z := hb.size
    by_cases hlt : k < 5
    · obtain ⟨p1, p2, p3⟩ := box5_set bx hlt false
      have hb' := hb.setCell (p := ⟨W.heap.size, k, none⟩) (by simp) (.bool false)
      have br' := br.other (p := ⟨W.heap.size, k, none⟩) (by simp; omega) (.bool false)
      have hyes : Hid (sf k = true → bitsF (fun i => if i = k then false else if i < k then cf i && !sf i else cf i) = bitsF (fun i => if i < k + 1 then cf i && !sf i else cf i)) := fun h => bitsF_congr fun i _ => by
        by_cases e : i = k
        · subst e; simp [h]
        · rw [if_neg e]
          by_cases e2 : i < k
          · rw [if_pos e2, if_pos (by omega)]
          · rw [if_neg e2, if_neg (by omega)]
      have hno : Hid (sf k = false → bitsF (fun i => if i < k then cf i && !sf i else cf i) = bitsF (fun i => if i < k + 1 then cf i && !sf i else cf i)) := fun h => bitsF_congr fun i _ => by
        by_cases e : i = k
        · subst e; simp [h]
        · by_cases e2 : i < k
          · rw [if_pos e2, if_pos (by omega)]
          · rw [if_neg e2, if_neg (by omega)]
      have k0 : (0 : Int) ≤ (k : Int) := by omega
      have k5 : (k : Int) < 5 := by omega
      have hix := index5 sf hlt
      cases hk : sf k with
      | true =>
        rw [hk] at hix
        rw [hyes.out hk] at p3
        clear hyes hno hk
        go_wp2_with fail
        exact ⟨⟨k + 1, hlt, by go_num, hb', p3, br'⟩, by simp [intOf]; omega⟩
      | false =>
        rw [hk] at hix
        rw [hno.out hk] at bx
        clear hyes hno hk
        go_wp2_with fail
        exact ⟨⟨k + 1, hlt, by go_num, hb, bx, br⟩, by simp [intOf]; omega⟩
    · obtain rfl : k = 5 := by omega
      have he : Hid (bitsF (fun i => if i < 5 then cf i && !sf i else cf i) = bitsF fun i => cf i && !sf i) := bitsF_congr fun i hi => by rw [if_pos hi]
      rw [he.out] at bx
      obtain ⟨F, hF⟩ : ∃ F, (fun i => cf i && !sf i) = F := ⟨_, rfl⟩
      rw [hF] at bx
      have HFq := hide hF
      clear hF
      obtain ⟨c0', c1', c2', c3', c4'⟩ := box5 bx
      obtain ⟨t0, f0, t1, f1, t2, f2, t3, f3, t4, f4, r0, r1, r2, r3, r4, _⟩ := end5 br F
      have hbe := end5_below F hb (g := W.heap.size + 1 + 1) (by omega)
      go_wp2_with fail
      refine bodyPost_ret (v := .agg (bitsF F)) (by simp [results, Tryd.results34, go_sem, r0, r1, r2, r3, r4, bitsF]) rfl ⟨by rw [HFq.out], hbe⟩
theorem without_c (c s : Nat) (W : World) : Calls Tryd.prog 34 #[cellsV c, cellsV s] W (Plain (cellsV (dif c s)) W) := by
  have h : bitsF (dif c s).testBit = bitsF (fun i => c.testBit i && !s.testBit i) := bitsF_congr fun i _ => dif_bit c s i
  rw [show cellsV (dif c s) = .agg (bitsF (dif c s).testBit) from rfl, h]
  exact without_f c.testBit s.testBit W
end Go.Proofs.YtnikgnicjbcbmabDoor


/-
  The program's tilesOf: the board and its cells that are no holes.
-/
import Derived.Test.YtnikgnicjbcbmabDoorPTileB
import Derived.Test.YtnikgnicjbcbmabDoorTileO
namespace Go.Proofs.YtnikgnicjbcbmabDoor
open Go.RowKit
set_option linter.unusedVariables false

theorem boardEnd {w : World} {g : Nat} {t : TypeId} {x y u v : Value} (h : Box w g t #[x, y]) :
    w.cell? ⟨g, 0, none⟩ = some x ∧ w.frozen? ⟨g, 0, none⟩ = false ∧ (w.setCell ⟨g, 0, none⟩ u).cell? ⟨g, 0, none⟩ = some u ∧ (w.setCell ⟨g, 0, none⟩ u).cell? ⟨g, 1, none⟩ = some y ∧ (w.setCell ⟨g, 0, none⟩ u).frozen? ⟨g, 1, none⟩ = false ∧
    ((w.setCell ⟨g, 0, none⟩ u).setCell ⟨g, 1, none⟩ v).cell? ⟨g, 0, none⟩ = some u ∧ ((w.setCell ⟨g, 0, none⟩ u).setCell ⟨g, 1, none⟩ v).cell? ⟨g, 1, none⟩ = some v :=
  ⟨h.cell 0, h.free 0, (h.set 0 u).cell 0, (h.set 0 u).cell 1, (h.set 0 u).free 1, ((h.set 0 u).set 1 v).cell 0, ((h.set 0 u).set 1 v).cell 1⟩

set_option maxHeartbeats 1000000 in
theorem tilesOf_no1 (bc br : Int) (A : Option Addr) (c : Nat) (hs : List Int) (W : World) (hn : ¬ Brd bc br) :
    Calls Tryd.prog 19 #[.int .i64 bc, .int .i64 br, .slice A hs.length c] W (Plain (.tuple #[boardV 0 0, .int .i64 0, .bool false]) W) := by
  have box0 := Box.new W 32 #[.int .i64 0, .int .i64 0]
  have HB := hide (fun w5 => boardOf_no bc br w5 hn)
  clear hn
  go_enter Tryd.func19, Tryd.ntmps19
  go_wp2_with fail
  refine (HB.out _).mono ?_
  rintro e w1 ⟨rfl, hb1⟩
  obtain ⟨c1, c2, c3, c4, c5, c6, c7⟩ := boardEnd (u := .int .i64 0) (v := .int .i64 0) (box0.then hb1)
  have bxe := (((box0.then hb1).set 0 (.int .i64 0)).set 1 (.int .i64 0)).alloc (.cells #[.int .i64 0, .int .i64 0] 32)
  have d0 := bxe.cell 0
  have d1 := bxe.cell 1
  simp only [List.setIfInBounds_toArray] at d0 d1
  have z1 : W.heap.size < w1.heap.size := by have := hb1.size; simp at this; omega
  go_wp2_with fail
  refine bodyPost_ret (v := .tuple #[boardV 0 0, .int .i64 0, .bool false]) (by simp [results, Tryd.results19, go_sem, d0, d1]) rfl ⟨rfl, ?_⟩
  exact (((below_then ((Below.refl _ _).alloc (Nat.le_refl _) _) (by simp) hb1).setCell (Nat.le_refl _) _).setCell (Nat.le_refl _) _).alloc (by simp; omega) _

set_option maxHeartbeats 1000000 in
theorem tilesOf_no2 (bc br : Int) (A : Option Addr) (c : Nat) (hs : List Int) (W : World) (hr : Row W A (ints hs)) (hm : hs.length ≤ maxLen) (hB : Brd bc br) (hn : ¬ AscTo (bc * br) hs hs.length) :
    Calls Tryd.prog 19 #[.int .i64 bc, .int .i64 br, .slice A hs.length c] W (Plain (.tuple #[boardV 0 0, .int .i64 0, .bool false]) W) := by
  obtain ⟨h1, h2, h3, h4⟩ := hB
  have box0 := Box.new W 32 #[.int .i64 0, .int .i64 0]
  have HB := hide (fun w5 => boardOf_yes bc br w5 h1 h2 h3 h4)
  have HA := hide (fun w5 (h5 : Row w5 A (ints hs)) => by
    have := asc_c bc br A c hs w5 h1 h2 h3 h4 h5 hm
    rw [decide_eq_false hn] at this
    exact this)
  have HR := hide hr
  clear hn hr
  go_enter Tryd.func19, Tryd.ntmps19
  go_wp2_with fail
  refine (HB.out _).mono ?_
  rintro e w1 ⟨rfl, hb1⟩
  have box1 := (box0.then hb1).alloc (.cells #[.int .i64 bc, .int .i64 br] 32)
  have hb1 : Below W.heap.size W w1 := below_then ((Below.refl _ _).alloc (Nat.le_refl _) _) (by simp) hb1
  go_wp2_with fail
  refine (HA.out _ ((HR.out.below hb1).alloc _)).mono ?_
  rintro e w2 ⟨rfl, hb2⟩
  obtain ⟨c1, c2, c3, c4, c5, c6, c7⟩ := boardEnd (u := .int .i64 0) (v := .int .i64 0) (box1.then hb2)
  go_wp2_with fail
  refine bodyPost_ret (v := .tuple #[boardV 0 0, .int .i64 0, .bool false]) (by simp [results, Tryd.results19, go_sem, c6, c7]) rfl ⟨rfl, ?_⟩
  exact ((below_then (hb1.alloc hb1.size _) (by have := hb1.size; simp; omega) hb2).setCell (Nat.le_refl _) _).setCell (Nat.le_refl _) _

set_option maxHeartbeats 4000000 in
set_option maxRecDepth 100000 in
theorem tilesOf_yes (w h : Nat) (A : Option Addr) (c : Nat) (hs : List Int) (W : World) (hr : Row W A (ints hs)) (hw : 1 ≤ w ∧ w ≤ 5) (hh : 1 ≤ h ∧ h ≤ 5) (ha : AscTo ((w : Int) * (h : Int)) hs hs.length) (hm : hs.length ≤ 1000) :
    Calls Tryd.prog 19 #[.int .i64 (w : Int), .int .i64 (h : Int), .slice A hs.length c] W (Plain (.tuple #[boardV (w : Int) (h : Int), .int .i64 ((setOf (w * h) hs : Nat) : Int), .bool true]) W) := by
  have h25 : w * h ≤ 25 := Nat.mul_le_mul hw.2 hh.2
  have w1 : (1 : Int) ≤ (w : Int) := by omega
  have w5 : (w : Int) ≤ 5 := by omega
  have h1 : (1 : Int) ≤ (h : Int) := by omega
  have h5 : (h : Int) ≤ 5 := by omega
  have box0 := Box.new W 32 #[.int .i64 0, .int .i64 0]
  have HB := hide (fun w5' => boardOf_yes (w : Int) (h : Int) w5' w1 w5 h1 h5)
  have HA := hide (fun w6 (h6 : Row w6 A (ints hs)) => by
    have := asc_c (w : Int) (h : Int) A c hs w6 w1 w5 h1 h5 h6 (by unfold maxLen; omega)
    rw [decide_eq_true ha] at this
    exact this)
  have HZ := hide (fun w6 => by
    have := size_c (w : Int) (h : Int) w6 w1 w5 h1 h5
    rw [← Int.natCast_mul] at this
    exact this)
  have hcell : ∀ i, i < hs.length → 0 ≤ hs[i]?.getD 0 ∧ hs[i]?.getD 0 < 25 := fun i hi => by
    have := (ha i hi).1
    rw [← Int.natCast_mul] at this
    omega
  have HU := hide (fun w6 (h6 : Row w6 A (ints hs)) => sumOf25_c A c hs w6 h6 hcell hm)
  have HF := hide (fun w6 => allOf_c (w * h) h25 w6)
  have HR := hide hr
  have hob : orS hs < 2 ^ 25 := by have := orS_bd hs hcell hs.length (Nat.le_refl _); rwa [List.take_length] at this
  have ht : 2 ^ (w * h) ≤ 33554432 := Nat.pow_le_pow_right (n := 2) (by omega) h25
  have ed := i64_difN (2 ^ (w * h) - 1) (orS hs) (by omega) (by omega)
  have hS : Hid (setOf (w * h) hs = dif (2 ^ (w * h) - 1) (orS hs)) := rfl
  generalize setOf (w * h) hs = S at *
  generalize (2 ^ (w * h) - 1 : Nat) = F at *
  generalize orS hs = O at *
  generalize dif F O = D at *
  obtain rfl := hS.out
  generalize w * h = n at *
  clear ha hr hcell hS ht
  go_enter Tryd.func19, Tryd.ntmps19
  go_wp2_with fail
  refine (HB.out _).mono ?_
  rintro e w1 ⟨rfl, hb1⟩
  have box1 := (box0.then hb1).alloc (.cells #[.int .i64 (w : Int), .int .i64 (h : Int)] 32)
  have boxb := Box.new w1 32 #[.int .i64 (w : Int), .int .i64 (h : Int)]
  have hb1 : Below W.heap.size W w1 := below_then ((Below.refl _ _).alloc (Nat.le_refl _) _) (by simp) hb1
  go_wp2_with fail
  refine (HA.out _ ((HR.out.below hb1).alloc _)).mono ?_
  rintro e w2 ⟨rfl, hb2⟩
  have box2 := box1.then hb2
  have boxb2 := boxb.then hb2
  have b0 := boxb2.cell 0
  have b1 := boxb2.cell 1
  have hb2 := below_then (hb1.alloc hb1.size _) (by have := hb1.size; simp; omega) hb2
  have hr2 := HR.out.below hb2
  clear hb1 box0 box1 boxb HB HA
  go_wp2_with fail
  go_region_with
    (first
      | (go_at_call 24; refine (HZ.out _).mono ?_
         rintro e w3 ⟨rfl, hb3⟩
         have r3 := hr2.drew.below hb3
         have e0 := (Box.then (w := w2.drew) boxb2 hb3).cell 0
         have e1 := (Box.then (w := w2.drew) boxb2 hb3).cell 1
         have hb3' := below_then hb2.drew hb2.drew.size hb3
         obtain ⟨c1, c2, c3, c4, c5, c6, c7⟩ := boardEnd (u := .int .i64 (w : Int)) (v := .int .i64 (h : Int)) (Box.then (w := w2.drew) box2 hb3))
      | (go_at_call 16; refine (HF.out _).mono ?_; rintro e w4 ⟨rfl, rfl⟩)
      | (go_at_call 31; refine (HU.out _ r3).mono ?_; rintro e w5 ⟨rfl, rfl⟩)
      | (go_at_call 31; refine (HU.out _ hr2.drew).mono ?_; rintro e w5 ⟨rfl, rfl⟩))
  all_goals go_wp2_with fail
  all_goals refine bodyPost_ret (v := .tuple #[boardV (w : Int) (h : Int), .int .i64 (S : Int), .bool true]) (by simp [results, Tryd.results19, go_sem, c6, c7]) rfl ⟨rfl, ?_⟩
  all_goals exact (hb3'.setCell (Nat.le_refl _) _).setCell (Nat.le_refl _) _
end Go.Proofs.YtnikgnicjbcbmabDoor

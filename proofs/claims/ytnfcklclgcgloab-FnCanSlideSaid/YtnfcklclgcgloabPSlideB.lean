
/-
  The program's slides: slideOf, ValidSlide, SlideOn.
-/
import Derived.Test.YtnfcklclgcgloabPSlideA
import Derived.Laws.CopyOwn
namespace Go.Proofs.Ytnfcklclgcgloab
open Go.RowKit
set_option linter.unusedVariables false

theorem size_int6 : (Try.prog.info? 3).map (·.size) = some 1 := by kernel_rfl
theorem isOrder_no {A : Option Addr} {c n : Nat} {l : List Int} {w : World} (hn : l.length = n) (hr : Row w A (ints l)) (hm : n ≤ 6) (h : ¬ OnceTo l l.length) : Calls Try.prog 34 #[.slice A n c] w (Plain (.bool false) w) := by
  subst hn
  have := isOrder_c A c l w hr hm
  rwa [decide_eq_false h] at this
theorem isOrder_yes {A : Option Addr} {c n : Nat} {l : List Int} {w : World} (hn : l.length = n) (hr : Row w A (ints l)) (hm : n ≤ 6) (h : OnceTo l l.length) : Calls Try.prog 34 #[.slice A n c] w (Plain (.bool true) w) := by
  subst hn
  have := isOrder_c A c l w hr hm
  rwa [decide_eq_true h] at this
/-- The list laid over six zeros. -/
theorem splice6 {l : List Int} (h : l.length ≤ 6) : (#[Value.int .i64 0, Value.int .i64 0, Value.int .i64 0, Value.int .i64 0, Value.int .i64 0, Value.int .i64 0].toList.take 0 ++ ints l ++ #[Value.int .i64 0, Value.int .i64 0, Value.int .i64 0, Value.int .i64 0, Value.int .i64 0, Value.int .i64 0].toList.drop (0 + (ints l).length)).toArray = sixF (atF l) := by
  obtain e | e | e | e | e | e | e : l.length = 0 ∨ l.length = 1 ∨ l.length = 2 ∨ l.length = 3 ∨ l.length = 4 ∨ l.length = 5 ∨ l.length = 6 := by omega
  · match l, e with | [], _ => rfl
  · match l, e with | [a], _ => rfl
  · match l, e with | [a, b], _ => rfl
  · match l, e with | [a, b, c], _ => rfl
  · match l, e with | [a, b, c, d], _ => rfl
  · match l, e with | [a, b, c, d, e], _ => rfl
  · match l, e with | [a, b, c, d, e, f], _ => rfl

abbrev sofV (x y : Int) (l : List Int) (b : Bool) : Value := .tuple #[boardV x y, slideV l, .bool b]
theorem board_under {w : World} {g : Nat} {t tb : TypeId} {f0 : Nat → Int} {u v : Value} {gb : Nat} (hs : Box w g t (sixF f0)) (hb : Box w gb tb #[u, v]) (f : Nat → Int) (hne : gb ≠ g := by simp) :
    (((((((w.setCell ⟨g, 0, none⟩ (.int .i64 (f 0))).setCell ⟨g, 1, none⟩ (.int .i64 (f 1))).setCell ⟨g, 2, none⟩ (.int .i64 (f 2))).setCell ⟨g, 3, none⟩ (.int .i64 (f 3))).setCell ⟨g, 4, none⟩ (.int .i64 (f 4))).setCell ⟨g, 5, none⟩ (.int .i64 (f 5)))).cell? ⟨gb, 0, none⟩ = some u ∧ (((((((w.setCell ⟨g, 0, none⟩ (.int .i64 (f 0))).setCell ⟨g, 1, none⟩ (.int .i64 (f 1))).setCell ⟨g, 2, none⟩ (.int .i64 (f 2))).setCell ⟨g, 3, none⟩ (.int .i64 (f 3))).setCell ⟨g, 4, none⟩ (.int .i64 (f 4))).setCell ⟨g, 5, none⟩ (.int .i64 (f 5)))).cell? ⟨gb, 1, none⟩ = some v := by
  have h : Box (((((((w.setCell ⟨g, 0, none⟩ (.int .i64 (f 0))).setCell ⟨g, 1, none⟩ (.int .i64 (f 1))).setCell ⟨g, 2, none⟩ (.int .i64 (f 2))).setCell ⟨g, 3, none⟩ (.int .i64 (f 3))).setCell ⟨g, 4, none⟩ (.int .i64 (f 4))).setCell ⟨g, 5, none⟩ (.int .i64 (f 5)))) gb tb #[u, v] := (((((hb.other (p := ⟨g, 0, none⟩) hne _).other (p := ⟨g, 1, none⟩) hne _).other (p := ⟨g, 2, none⟩) hne _).other (p := ⟨g, 3, none⟩) hne _).other (p := ⟨g, 4, none⟩) hne _).other (p := ⟨g, 5, none⟩) hne _
  exact ⟨h.cell 0, h.cell 1⟩
set_option maxHeartbeats 2000000 in
set_option maxRecDepth 100000 in
theorem slideOf_no1 (bc br : Int) (A : Option Addr) (c n : Nat) (W : World) (hn : ¬ Brd bc br) :
    Calls Try.prog 18 #[.int .i64 bc, .int .i64 br, .slice A n c] W (Plain (sofV 0 0 [] false) W) := by
  have bb : Box ((W.alloc (.cells #[.int .i64 0, .int .i64 0] 38)).alloc (.cells #[.int .i64 0, .int .i64 0, .int .i64 0, .int .i64 0, .int .i64 0, .int .i64 0] 40)) W.heap.size 38 #[.int .i64 0, .int .i64 0] := (Box.new W 38 #[.int .i64 0, .int .i64 0]).alloc (.cells #[.int .i64 0, .int .i64 0, .int .i64 0, .int .i64 0, .int .i64 0, .int .i64 0] 40)
  have bs : Box ((W.alloc (.cells #[.int .i64 0, .int .i64 0] 38)).alloc (.cells #[.int .i64 0, .int .i64 0, .int .i64 0, .int .i64 0, .int .i64 0, .int .i64 0] 40)) (W.alloc (.cells #[.int .i64 0, .int .i64 0] 38)).heap.size 40 (sixF fun _ => 0) := Box.new (W.alloc (.cells #[.int .i64 0, .int .i64 0] 38)) 40 #[.int .i64 0, .int .i64 0, .int .i64 0, .int .i64 0, .int .i64 0, .int .i64 0]
  have b0 : Below W.heap.size W ((W.alloc (.cells #[.int .i64 0, .int .i64 0] 38)).alloc (.cells #[.int .i64 0, .int .i64 0, .int .i64 0, .int .i64 0, .int .i64 0, .int .i64 0] 40)) := ((Below.refl _ _).alloc (Nat.le_refl _) _).alloc (by simp) _
  simp only [World.size_alloc] at bs
  have HB := hide (fun w5 => boardOf_no bc br w5 hn)
  clear hn
  go_enter Try.func18, Try.ntmps18
  go_wp2_with fail
  refine (HB.out _).mono ?_
  rintro e w1 ⟨rfl, d1⟩
  have bb := (bb.then d1).alloc (.cells #[.int .i64 0, .int .i64 0] 38)
  have bs := (bs.then d1).alloc (.cells #[.int .i64 0, .int .i64 0] 38)
  have d1 := below_then b0 b0.size d1
  have d1 := d1.alloc d1.size (.cells #[.int .i64 0, .int .i64 0] 38)
  obtain ⟨p1, p2, p3, p4, p5, p6, p7⟩ := endTwo bb (.int .i64 0) (.int .i64 0)
  have bs := (bs.other (p := ⟨W.heap.size, 0, none⟩) (by simp) (.int .i64 0)).other (p := ⟨W.heap.size, 1, none⟩) (by simp) (.int .i64 0)
  have d2 := (d1.setCell (p := ⟨W.heap.size, 0, none⟩) (Nat.le_refl _) (.int .i64 0)).setCell (p := ⟨W.heap.size, 1, none⟩) (Nat.le_refl _) (.int .i64 0)
  obtain ⟨t0, f0, t1, f1, t2, f2, t3, f3, t4, f4, t5, f5, r0, r1, r2, r3, r4, r5, be⟩ := end6 bs (fun _ => 0)
  have hbe := end6_below (fun _ => 0) d2 (g := W.heap.size + 1) (by omega)
  obtain ⟨q0, q1⟩ := board_under bs p7 (fun _ => 0)
  go_wp2_with fail
  refine bodyPost_ret (v := sofV 0 0 [] false) (by simp [results, Try.results18, go_sem, r0, r1, r2, r3, r4, r5, q0, q1, sixF, atF]) rfl ⟨rfl, hbe⟩
set_option maxHeartbeats 2000000 in
set_option maxRecDepth 100000 in
theorem slideOf_no2 (bc br : Int) (A : Option Addr) (c : Nat) (l : List Int) (W : World) (hr : Row W A (ints l)) (hm : l.length ≤ maxLen) (hB : Brd bc br) (hn : ¬ bc * br ≤ 6) :
    Calls Try.prog 18 #[.int .i64 bc, .int .i64 br, .slice A l.length c] W (Plain (sofV 0 0 [] false) W) := by
  obtain ⟨h1, h2, h3, h4⟩ := hB
  obtain ⟨m1, m2⟩ := mul_bd h1 h2 h3 h4
  have bb : Box ((W.alloc (.cells #[.int .i64 0, .int .i64 0] 38)).alloc (.cells #[.int .i64 0, .int .i64 0, .int .i64 0, .int .i64 0, .int .i64 0, .int .i64 0] 40)) W.heap.size 38 #[.int .i64 0, .int .i64 0] := (Box.new W 38 #[.int .i64 0, .int .i64 0]).alloc (.cells #[.int .i64 0, .int .i64 0, .int .i64 0, .int .i64 0, .int .i64 0, .int .i64 0] 40)
  have bs : Box ((W.alloc (.cells #[.int .i64 0, .int .i64 0] 38)).alloc (.cells #[.int .i64 0, .int .i64 0, .int .i64 0, .int .i64 0, .int .i64 0, .int .i64 0] 40)) (W.alloc (.cells #[.int .i64 0, .int .i64 0] 38)).heap.size 40 (sixF fun _ => 0) := Box.new (W.alloc (.cells #[.int .i64 0, .int .i64 0] 38)) 40 #[.int .i64 0, .int .i64 0, .int .i64 0, .int .i64 0, .int .i64 0, .int .i64 0]
  have b0 : Below W.heap.size W ((W.alloc (.cells #[.int .i64 0, .int .i64 0] 38)).alloc (.cells #[.int .i64 0, .int .i64 0, .int .i64 0, .int .i64 0, .int .i64 0, .int .i64 0] 40)) := ((Below.refl _ _).alloc (Nat.le_refl _) _).alloc (by simp) _
  simp only [World.size_alloc] at bs
  have HB := hide (fun w5 => boardOf_yes bc br w5 h1 h2 h3 h4)
  have HZ := hide (fun w5 => size_c bc br w5 h1 h2 h3 h4)
  have HR := hide hr
  unfold maxLen at hm
  clear hr h1 h2 h3 h4
  generalize bc * br = p at *
  go_enter Try.func18, Try.ntmps18
  go_wp2_with fail
  refine (HB.out _).mono ?_
  rintro e w1 ⟨rfl, d1⟩
  have zb := d1.size
  have bb := (bb.then d1).alloc (.cells #[.int .i64 bc, .int .i64 br] 38)
  have bs := (bs.then d1).alloc (.cells #[.int .i64 bc, .int .i64 br] 38)
  have bv := Box.new w1 38 #[.int .i64 bc, .int .i64 br]
  have d1 := below_then b0 b0.size d1
  have d1 := d1.alloc d1.size (.cells #[.int .i64 bc, .int .i64 br] 38)
  clear b0
  go_wp2_with fail
  refine (HZ.out _).mono ?_
  rintro e w2 ⟨rfl, e2⟩
  have bb := bb.then e2
  have bs := bs.then e2
  have bv := bv.then e2
  have k20 := bv.cell 0
  have k21 := bv.cell 1
  have d1 := below_then d1 d1.size e2
  obtain ⟨p1, p2, p3, p4, p5, p6, p7⟩ := endTwo bb (.int .i64 0) (.int .i64 0)
  have bs := (bs.other (p := ⟨W.heap.size, 0, none⟩) (by simp) (.int .i64 0)).other (p := ⟨W.heap.size, 1, none⟩) (by simp) (.int .i64 0)
  have d2 := (d1.setCell (p := ⟨W.heap.size, 0, none⟩) (Nat.le_refl _) (.int .i64 0)).setCell (p := ⟨W.heap.size, 1, none⟩) (Nat.le_refl _) (.int .i64 0)
  obtain ⟨t0, f0, t1, f1, t2, f2, t3, f3, t4, f4, t5, f5, r0, r1, r2, r3, r4, r5, be⟩ := end6 bs (fun _ => 0)
  have hbe := end6_below (fun _ => 0) d2 (g := W.heap.size + 1) (by omega)
  obtain ⟨q0, q1⟩ := board_under bs p7 (fun _ => 0)
  go_wp2_with fail
  refine bodyPost_ret (v := sofV 0 0 [] false) (by simp [results, Try.results18, go_sem, r0, r1, r2, r3, r4, r5, q0, q1, sixF, atF]) rfl ⟨rfl, hbe⟩
set_option maxHeartbeats 2000000 in
set_option maxRecDepth 100000 in
theorem slideOf_no3 (bc br : Int) (A : Option Addr) (c : Nat) (l : List Int) (W : World) (hr : Row W A (ints l)) (hm : l.length ≤ maxLen) (hB : Brd bc br) (h6 : bc * br ≤ 6) (hn : ¬ (l.length : Int) = bc * br) :
    Calls Try.prog 18 #[.int .i64 bc, .int .i64 br, .slice A l.length c] W (Plain (sofV 0 0 [] false) W) := by
  obtain ⟨h1, h2, h3, h4⟩ := hB
  obtain ⟨m1, m2⟩ := mul_bd h1 h2 h3 h4
  have bb : Box ((W.alloc (.cells #[.int .i64 0, .int .i64 0] 38)).alloc (.cells #[.int .i64 0, .int .i64 0, .int .i64 0, .int .i64 0, .int .i64 0, .int .i64 0] 40)) W.heap.size 38 #[.int .i64 0, .int .i64 0] := (Box.new W 38 #[.int .i64 0, .int .i64 0]).alloc (.cells #[.int .i64 0, .int .i64 0, .int .i64 0, .int .i64 0, .int .i64 0, .int .i64 0] 40)
  have bs : Box ((W.alloc (.cells #[.int .i64 0, .int .i64 0] 38)).alloc (.cells #[.int .i64 0, .int .i64 0, .int .i64 0, .int .i64 0, .int .i64 0, .int .i64 0] 40)) (W.alloc (.cells #[.int .i64 0, .int .i64 0] 38)).heap.size 40 (sixF fun _ => 0) := Box.new (W.alloc (.cells #[.int .i64 0, .int .i64 0] 38)) 40 #[.int .i64 0, .int .i64 0, .int .i64 0, .int .i64 0, .int .i64 0, .int .i64 0]
  have b0 : Below W.heap.size W ((W.alloc (.cells #[.int .i64 0, .int .i64 0] 38)).alloc (.cells #[.int .i64 0, .int .i64 0, .int .i64 0, .int .i64 0, .int .i64 0, .int .i64 0] 40)) := ((Below.refl _ _).alloc (Nat.le_refl _) _).alloc (by simp) _
  simp only [World.size_alloc] at bs
  have HB := hide (fun w5 => boardOf_yes bc br w5 h1 h2 h3 h4)
  have HZ := hide (fun w5 => size_c bc br w5 h1 h2 h3 h4)
  have HR := hide hr
  have hne : ((l.length : Int) != bc * br) = true := by simpa using hn
  unfold maxLen at hm
  clear hr h1 h2 h3 h4
  generalize bc * br = p at *
  go_enter Try.func18, Try.ntmps18
  go_wp2_with fail
  refine (HB.out _).mono ?_
  rintro e w1 ⟨rfl, d1⟩
  have zb := d1.size
  have bb := (bb.then d1).alloc (.cells #[.int .i64 bc, .int .i64 br] 38)
  have bs := (bs.then d1).alloc (.cells #[.int .i64 bc, .int .i64 br] 38)
  have bv := Box.new w1 38 #[.int .i64 bc, .int .i64 br]
  have d1 := below_then b0 b0.size d1
  have d1 := d1.alloc d1.size (.cells #[.int .i64 bc, .int .i64 br] 38)
  clear b0
  go_wp2_with fail
  refine (HZ.out _).mono ?_
  rintro e w2 ⟨rfl, e2⟩
  have bb := bb.then e2
  have bs := bs.then e2
  have bv := bv.then e2
  have k20 := bv.cell 0
  have k21 := bv.cell 1
  have d1 := below_then d1 d1.size e2
  clear k20 k21
  have k20 := bv.cell 0
  have k21 := bv.cell 1
  go_wp2_with fail
  refine (HZ.out _).mono ?_
  rintro e w3 ⟨rfl, e3⟩
  have bb := bb.then e3
  have bs := bs.then e3
  have bv := bv.then e3
  have k30 := bv.cell 0
  have k31 := bv.cell 1
  have d1 := below_then d1 d1.size e3
  obtain ⟨p1, p2, p3, p4, p5, p6, p7⟩ := endTwo bb (.int .i64 0) (.int .i64 0)
  have bs := (bs.other (p := ⟨W.heap.size, 0, none⟩) (by simp) (.int .i64 0)).other (p := ⟨W.heap.size, 1, none⟩) (by simp) (.int .i64 0)
  have d2 := (d1.setCell (p := ⟨W.heap.size, 0, none⟩) (Nat.le_refl _) (.int .i64 0)).setCell (p := ⟨W.heap.size, 1, none⟩) (Nat.le_refl _) (.int .i64 0)
  obtain ⟨t0, f0, t1, f1, t2, f2, t3, f3, t4, f4, t5, f5, r0, r1, r2, r3, r4, r5, be⟩ := end6 bs (fun _ => 0)
  have hbe := end6_below (fun _ => 0) d2 (g := W.heap.size + 1) (by omega)
  obtain ⟨q0, q1⟩ := board_under bs p7 (fun _ => 0)
  go_wp2_with fail
  refine bodyPost_ret (v := sofV 0 0 [] false) (by simp [results, Try.results18, go_sem, r0, r1, r2, r3, r4, r5, q0, q1, sixF, atF]) rfl ⟨rfl, hbe⟩
set_option maxHeartbeats 2000000 in
set_option maxRecDepth 100000 in
theorem slideOf_no4 (bc br : Int) (A : Option Addr) (c : Nat) (l : List Int) (W : World) (hr : Row W A (ints l)) (hm : l.length ≤ maxLen) (hB : Brd bc br) (h6 : bc * br ≤ 6) (hl : (l.length : Int) = bc * br) (hn : ¬ OnceTo l l.length) :
    Calls Try.prog 18 #[.int .i64 bc, .int .i64 br, .slice A l.length c] W (Plain (sofV 0 0 [] false) W) := by
  obtain ⟨h1, h2, h3, h4⟩ := hB
  obtain ⟨m1, m2⟩ := mul_bd h1 h2 h3 h4
  have bb : Box ((W.alloc (.cells #[.int .i64 0, .int .i64 0] 38)).alloc (.cells #[.int .i64 0, .int .i64 0, .int .i64 0, .int .i64 0, .int .i64 0, .int .i64 0] 40)) W.heap.size 38 #[.int .i64 0, .int .i64 0] := (Box.new W 38 #[.int .i64 0, .int .i64 0]).alloc (.cells #[.int .i64 0, .int .i64 0, .int .i64 0, .int .i64 0, .int .i64 0, .int .i64 0] 40)
  have bs : Box ((W.alloc (.cells #[.int .i64 0, .int .i64 0] 38)).alloc (.cells #[.int .i64 0, .int .i64 0, .int .i64 0, .int .i64 0, .int .i64 0, .int .i64 0] 40)) (W.alloc (.cells #[.int .i64 0, .int .i64 0] 38)).heap.size 40 (sixF fun _ => 0) := Box.new (W.alloc (.cells #[.int .i64 0, .int .i64 0] 38)) 40 #[.int .i64 0, .int .i64 0, .int .i64 0, .int .i64 0, .int .i64 0, .int .i64 0]
  have b0 : Below W.heap.size W ((W.alloc (.cells #[.int .i64 0, .int .i64 0] 38)).alloc (.cells #[.int .i64 0, .int .i64 0, .int .i64 0, .int .i64 0, .int .i64 0, .int .i64 0] 40)) := ((Below.refl _ _).alloc (Nat.le_refl _) _).alloc (by simp) _
  simp only [World.size_alloc] at bs
  have HB := hide (fun w5 => boardOf_yes bc br w5 h1 h2 h3 h4)
  have HZ := hide (fun w5 => size_c bc br w5 h1 h2 h3 h4)
  have HR := hide hr
  have hne : ((l.length : Int) != bc * br) = false := by simp [hl]
  have HO := hide (fun w5 (h5 : Below W.heap.size W w5) => isOrder_no (c := c) rfl (HR.out.below h5) (by omega) hn)
  clear hl
  unfold maxLen at hm
  clear hr h1 h2 h3 h4
  generalize bc * br = p at *
  go_enter Try.func18, Try.ntmps18
  go_wp2_with fail
  refine (HB.out _).mono ?_
  rintro e w1 ⟨rfl, d1⟩
  have zb := d1.size
  have bb := (bb.then d1).alloc (.cells #[.int .i64 bc, .int .i64 br] 38)
  have bs := (bs.then d1).alloc (.cells #[.int .i64 bc, .int .i64 br] 38)
  have bv := Box.new w1 38 #[.int .i64 bc, .int .i64 br]
  have d1 := below_then b0 b0.size d1
  have d1 := d1.alloc d1.size (.cells #[.int .i64 bc, .int .i64 br] 38)
  clear b0
  go_wp2_with fail
  refine (HZ.out _).mono ?_
  rintro e w2 ⟨rfl, e2⟩
  have bb := bb.then e2
  have bs := bs.then e2
  have bv := bv.then e2
  have k20 := bv.cell 0
  have k21 := bv.cell 1
  have d1 := below_then d1 d1.size e2
  clear k20 k21
  have k20 := bv.cell 0
  have k21 := bv.cell 1
  go_wp2_with fail
  refine (HZ.out _).mono ?_
  rintro e w3 ⟨rfl, e3⟩
  have bb := bb.then e3
  have bs := bs.then e3
  have bv := bv.then e3
  have k30 := bv.cell 0
  have k31 := bv.cell 1
  have d1 := below_then d1 d1.size e3
  clear k20 k21
  go_wp2_with fail
  refine (HO.out _ d1).mono ?_
  rintro e w4 ⟨rfl, e4⟩
  have bb := bb.then e4
  have bs := bs.then e4
  have bv := bv.then e4
  have d1 := below_then d1 d1.size e4
  obtain ⟨p1, p2, p3, p4, p5, p6, p7⟩ := endTwo bb (.int .i64 0) (.int .i64 0)
  have bs := (bs.other (p := ⟨W.heap.size, 0, none⟩) (by simp) (.int .i64 0)).other (p := ⟨W.heap.size, 1, none⟩) (by simp) (.int .i64 0)
  have d2 := (d1.setCell (p := ⟨W.heap.size, 0, none⟩) (Nat.le_refl _) (.int .i64 0)).setCell (p := ⟨W.heap.size, 1, none⟩) (Nat.le_refl _) (.int .i64 0)
  obtain ⟨t0, f0, t1, f1, t2, f2, t3, f3, t4, f4, t5, f5, r0, r1, r2, r3, r4, r5, be⟩ := end6 bs (fun _ => 0)
  have hbe := end6_below (fun _ => 0) d2 (g := W.heap.size + 1) (by omega)
  obtain ⟨q0, q1⟩ := board_under bs p7 (fun _ => 0)
  go_wp2_with fail
  refine bodyPost_ret (v := sofV 0 0 [] false) (by simp [results, Try.results18, go_sem, r0, r1, r2, r3, r4, r5, q0, q1, sixF, atF]) rfl ⟨rfl, hbe⟩
theorem row_addr {w : World} {A : Option Addr} {cs : List Value} (h : Row w A cs) (hp : 0 < cs.length) : ∃ ad, A = some ad ∧ ∀ j v, cs[j]? = some v → w.cell? (ad.add j) = some v := by
  obtain ⟨ad, e, _⟩ := h 0 hp
  refine ⟨ad, e, fun j v hv => ?_⟩
  obtain ⟨hj, rfl⟩ := List.getElem?_eq_some_iff.1 hv
  obtain ⟨ad', e', hc⟩ := h j hj
  rw [e] at e'
  injection e' with e'
  rw [e']
  exact hc
set_option maxHeartbeats 4000000 in
set_option maxRecDepth 100000 in
theorem slideOf_yes (bc br : Int) (A : Option Addr) (c : Nat) (l : List Int) (W : World) (hr : Row W A (ints l)) (hm : l.length ≤ maxLen) (hB : Brd bc br) (h6 : bc * br ≤ 6) (hl : (l.length : Int) = bc * br) (hn : OnceTo l l.length) :
    Calls Try.prog 18 #[.int .i64 bc, .int .i64 br, .slice A l.length c] W (Plain (sofV bc br l true) W) := by
  obtain ⟨h1, h2, h3, h4⟩ := hB
  obtain ⟨m1, m2⟩ := mul_bd h1 h2 h3 h4
  have bb : Box ((W.alloc (.cells #[.int .i64 0, .int .i64 0] 38)).alloc (.cells #[.int .i64 0, .int .i64 0, .int .i64 0, .int .i64 0, .int .i64 0, .int .i64 0] 40)) W.heap.size 38 #[.int .i64 0, .int .i64 0] := (Box.new W 38 #[.int .i64 0, .int .i64 0]).alloc (.cells #[.int .i64 0, .int .i64 0, .int .i64 0, .int .i64 0, .int .i64 0, .int .i64 0] 40)
  have bs : Box ((W.alloc (.cells #[.int .i64 0, .int .i64 0] 38)).alloc (.cells #[.int .i64 0, .int .i64 0, .int .i64 0, .int .i64 0, .int .i64 0, .int .i64 0] 40)) (W.alloc (.cells #[.int .i64 0, .int .i64 0] 38)).heap.size 40 (sixF fun _ => 0) := Box.new (W.alloc (.cells #[.int .i64 0, .int .i64 0] 38)) 40 #[.int .i64 0, .int .i64 0, .int .i64 0, .int .i64 0, .int .i64 0, .int .i64 0]
  have b0 : Below W.heap.size W ((W.alloc (.cells #[.int .i64 0, .int .i64 0] 38)).alloc (.cells #[.int .i64 0, .int .i64 0, .int .i64 0, .int .i64 0, .int .i64 0, .int .i64 0] 40)) := ((Below.refl _ _).alloc (Nat.le_refl _) _).alloc (by simp) _
  simp only [World.size_alloc] at bs
  have HB := hide (fun w5 => boardOf_yes bc br w5 h1 h2 h3 h4)
  have HZ := hide (fun w5 => size_c bc br w5 h1 h2 h3 h4)
  have HR := hide hr
  have hne : ((l.length : Int) != bc * br) = false := by simp [hl]
  have HL6 := hide (show l.length ≤ 6 by omega)
  have HL0 := hide (show 0 < l.length by omega)
  have HO := hide (fun w5 (h5 : Below W.heap.size W w5) => isOrder_yes (c := c) rfl (HR.out.below h5) (by omega) hn)
  clear hl
  unfold maxLen at hm
  clear hr h1 h2 h3 h4
  generalize bc * br = p at *
  go_enter Try.func18, Try.ntmps18
  go_wp2_with fail
  refine (HB.out _).mono ?_
  rintro e w1 ⟨rfl, d1⟩
  have zb := d1.size
  replace bb := (bb.then d1).alloc (.cells #[.int .i64 bc, .int .i64 br] 38)
  replace bs := (bs.then d1).alloc (.cells #[.int .i64 bc, .int .i64 br] 38)
  have bv := Box.new w1 38 #[.int .i64 bc, .int .i64 br]
  replace d1 := below_then b0 b0.size d1
  replace d1 := d1.alloc d1.size (.cells #[.int .i64 bc, .int .i64 br] 38)
  clear b0
  go_wp2_with fail
  refine (HZ.out _).mono ?_
  rintro e w2 ⟨rfl, e2⟩
  replace bb := bb.then e2
  replace bs := bs.then e2
  replace bv := bv.then e2
  have k20 := bv.cell 0
  have k21 := bv.cell 1
  replace d1 := below_then d1 d1.size e2
  clear k20 k21
  have k20 := bv.cell 0
  have k21 := bv.cell 1
  go_wp2_with fail
  refine (HZ.out _).mono ?_
  rintro e w3 ⟨rfl, e3⟩
  replace bb := bb.then e3
  replace bs := bs.then e3
  replace bv := bv.then e3
  have k30 := bv.cell 0
  have k31 := bv.cell 1
  replace d1 := below_then d1 d1.size e3
  clear k20 k21
  go_wp2_with fail
  refine (HO.out _ d1).mono ?_
  rintro e w4 ⟨rfl, e4⟩
  replace bb := bb.then e4
  replace bs := bs.then e4
  replace bv := bv.then e4
  replace d1 := below_then d1 d1.size e4
  have hl6 := HL6.out
  have hl0 := HL0.out
  have r4 := (HR.out.below d1).below ((Below.refl _ _).alloc (Nat.le_refl _) (.cells #[.int .i64 0, .int .i64 0, .int .i64 0, .int .i64 0, .int .i64 0, .int .i64 0] 40))
  clear k30 k31 HR
  obtain ⟨ad, rfl, hsrc⟩ := row_addr r4 (by simp; omega)
  have hcp := run_copy_row (P := Try.prog) (w4.alloc (.cells #[.int .i64 0, .int .i64 0, .int .i64 0, .int .i64 0, .int .i64 0, .int .i64 0] 40)) 23 23 3 3 w4.heap.size 0 6 6 ad l.length c #[.int .i64 0, .int .i64 0, .int .i64 0, .int .i64 0, .int .i64 0, .int .i64 0] 40 (ints l) Try.underlying23 size_int6 (heap_alloc_new w4 _) (by rw [show Nat.min l.length 6 = l.length from Nat.min_eq_left hl6]; simp) hsrc (by simp; omega) (fun u hu => by obtain ⟨q, _, rfl⟩ := List.mem_map.1 hu; rfl)
  have hbx := setRow_heap (w4.alloc (.cells #[.int .i64 0, .int .i64 0, .int .i64 0, .int .i64 0, .int .i64 0, .int .i64 0] 40)) w4.heap.size _ (#[Value.int .i64 0, Value.int .i64 0, Value.int .i64 0, Value.int .i64 0, Value.int .i64 0, Value.int .i64 0].toList.take 0 ++ ints l ++ #[Value.int .i64 0, Value.int .i64 0, Value.int .i64 0, Value.int .i64 0, Value.int .i64 0, Value.int .i64 0].toList.drop (0 + (ints l).length)).toArray 40 _ (heap_alloc_new w4 _)
  have hb6 := below_setRow (Below.refl w4.heap.size (w4.alloc (.cells #[.int .i64 0, .int .i64 0, .int .i64 0, .int .i64 0, .int .i64 0, .int .i64 0] 40))) (Nat.le_refl _) (#[Value.int .i64 0, Value.int .i64 0, Value.int .i64 0, Value.int .i64 0, Value.int .i64 0, Value.int .i64 0].toList.take 0 ++ ints l ++ #[Value.int .i64 0, Value.int .i64 0, Value.int .i64 0, Value.int .i64 0, Value.int .i64 0, Value.int .i64 0].toList.drop (0 + (ints l).length)).toArray
  rw [splice6 hl6] at hcp hbx hb6
  have hcl : ((ints l).length : Int) = (l.length : Int) := by simp
  obtain ⟨w6, hw6⟩ : ∃ w6, (w4.alloc (.cells #[.int .i64 0, .int .i64 0, .int .i64 0, .int .i64 0, .int .i64 0, .int .i64 0] 40)).setRow w4.heap.size (sixF (atF l)) = w6 := ⟨_, rfl⟩
  rw [hw6] at hcp hbx hb6
  have bl : Box w6 w4.heap.size 40 (sixF (atF l)) := hbx
  have z4 := d1.size
  have bx4 := bb
  replace bb := (bb.alloc (.cells #[.int .i64 0, .int .i64 0, .int .i64 0, .int .i64 0, .int .i64 0, .int .i64 0] 40)).below hb6 bb.in_
  replace bs := (bs.alloc (.cells #[.int .i64 0, .int .i64 0, .int .i64 0, .int .i64 0, .int .i64 0, .int .i64 0] 40)).below hb6 bs.in_
  replace bv := (bv.alloc (.cells #[.int .i64 0, .int .i64 0, .int .i64 0, .int .i64 0, .int .i64 0, .int .i64 0] 40)).below hb6 bv.in_
  replace d1 := (d1.alloc z4 (.cells #[.int .i64 0, .int .i64 0, .int .i64 0, .int .i64 0, .int .i64 0, .int .i64 0] 40)).trans (hb6.mono z4)
  clear hw6 hbx hb6 r4 hsrc
  go_wp2_with fail
  clear hcp hcl
  have k0 := bv.cell 0
  have k1 := bv.cell 1
  obtain ⟨s1, s2, s3, s4, s5, s6⟩ := box6 bl
  obtain ⟨p1, p2, p3, p4, p5, p6, p7⟩ := endTwo bb (.int .i64 bc) (.int .i64 br)
  have zw : W.heap.size ≠ w4.heap.size := by have := bx4.in_; omega
  have bl2 := (bl.other (p := ⟨W.heap.size, 0, none⟩) (fun e => zw e.symm) (.int .i64 bc)).other (p := ⟨W.heap.size, 1, none⟩) (fun e => zw e.symm) (.int .i64 br)
  obtain ⟨u1, u2, u3, u4, u5, u6⟩ := box6 bl2
  replace bs := (bs.other (p := ⟨W.heap.size, 0, none⟩) (by simp) (.int .i64 bc)).other (p := ⟨W.heap.size, 1, none⟩) (by simp) (.int .i64 br)
  have d2 := (d1.setCell (p := ⟨W.heap.size, 0, none⟩) (Nat.le_refl _) (.int .i64 bc)).setCell (p := ⟨W.heap.size, 1, none⟩) (Nat.le_refl _) (.int .i64 br)
  obtain ⟨t0, f0, t1, f1, t2, f2, t3, f3, t4, f4, t5, f5, r0, r1, r2, r3, r4, r5, be⟩ := end6 bs (atF l)
  have hbe := end6_below (atF l) d2 (g := W.heap.size + 1) (by omega)
  obtain ⟨q0, q1⟩ := board_under bs p7 (atF l)
  have HEND := hide (And.intro hbe (And.intro q0 (And.intro q1 (And.intro r0 (And.intro r1 (And.intro r2 (And.intro r3 (And.intro r4 r5))))))))
  clear hbe q0 q1 r0 r1 r2 r3 r4 r5 be p5 p6 p7 bl2 bb bs bl bv d2 HB HZ HO HL6 HL0 bx4 zb e2 e3 e4
  go_region
  obtain ⟨hbe, q0, q1, r0, r1, r2, r3, r4, r5⟩ := HEND.out
  go_wp2_with fail
  refine bodyPost_ret (v := sofV bc br l true) (by simp [results, Try.results18, go_sem, r0, r1, r2, r3, r4, r5, q0, q1, sixF]) rfl ⟨rfl, hbe.drew⟩
end Go.Proofs.Ytnfcklclgcgloab

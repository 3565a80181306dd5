
/-
  The program's slides: slidesOf, OddSwaps.
-/
import Derived.Test.YtnfcklclgcgloabPSlideD
namespace Go.Proofs.Ytnfcklclgcgloab
open Go.RowKit
set_option linter.unusedVariables false

theorem six_put {w : World} {g : Nat} {t : TypeId} {f0 : Nat → Int} (h : Box w g t (sixF f0)) (f : Nat → Int) : Box ((((((w.setCell ⟨g, 0, none⟩ (.int .i64 (f 0))).setCell ⟨g, 1, none⟩ (.int .i64 (f 1))).setCell ⟨g, 2, none⟩ (.int .i64 (f 2))).setCell ⟨g, 3, none⟩ (.int .i64 (f 3))).setCell ⟨g, 4, none⟩ (.int .i64 (f 4))).setCell ⟨g, 5, none⟩ (.int .i64 (f 5))) g t (sixF f) := by
  obtain ⟨_, _, _, _, _, _, _, _, _, _, _, _, _, _, _, _, _, _, hb⟩ := end6 h f
  exact hb
/-- Cells and that none is frozen. -/
theorem box12 {w : World} {g : Nat} {t : TypeId} {f : Nat → Int} (h : Box w g t (sixF f)) :
    w.cell? ⟨g, 0, none⟩ = some (.int .i64 (f 0)) ∧ w.cell? ⟨g, 1, none⟩ = some (.int .i64 (f 1)) ∧ w.cell? ⟨g, 2, none⟩ = some (.int .i64 (f 2)) ∧ w.cell? ⟨g, 3, none⟩ = some (.int .i64 (f 3)) ∧ w.cell? ⟨g, 4, none⟩ = some (.int .i64 (f 4)) ∧ w.cell? ⟨g, 5, none⟩ = some (.int .i64 (f 5)) ∧
    w.frozen? ⟨g, 0, none⟩ = false ∧ w.frozen? ⟨g, 1, none⟩ = false ∧ w.frozen? ⟨g, 2, none⟩ = false ∧ w.frozen? ⟨g, 3, none⟩ = false ∧ w.frozen? ⟨g, 4, none⟩ = false ∧ w.frozen? ⟨g, 5, none⟩ = false :=
  ⟨h.cell 0, h.cell 1, h.cell 2, h.cell 3, h.cell 4, h.cell 5, h.free 0, h.free 1, h.free 2, h.free 3, h.free 4, h.free 5⟩
set_option maxHeartbeats 4000000 in
set_option maxRecDepth 100000 in
theorem slidesOf_g (bc br : Int) (A C : Option Addr) (n ca m cc : Nat) (x1 y1 x2 y2 : Int) (l1 l2 : List Int) (b1 b2 : Bool) (W : World)
    (H1 : ∀ w5, Below W.heap.size W w5 → Calls Try.prog 18 #[.int .i64 bc, .int .i64 br, .slice A n ca] w5 (Plain (.tuple #[boardV x1 y1, .agg #[.int .i64 (atF l1 0), .int .i64 (atF l1 1), .int .i64 (atF l1 2), .int .i64 (atF l1 3), .int .i64 (atF l1 4), .int .i64 (atF l1 5)], .bool b1]) w5))
    (H2 : ∀ w5, Below W.heap.size W w5 → Calls Try.prog 18 #[.int .i64 bc, .int .i64 br, .slice C m cc] w5 (Plain (.tuple #[boardV x2 y2, .agg #[.int .i64 (atF l2 0), .int .i64 (atF l2 1), .int .i64 (atF l2 2), .int .i64 (atF l2 3), .int .i64 (atF l2 4), .int .i64 (atF l2 5)], .bool b2]) w5)) :
    Calls Try.prog 24 #[.int .i64 bc, .int .i64 br, .slice A n ca, .slice C m cc] W (Plain (.tuple #[boardV x1 y1, .agg #[.int .i64 (atF l1 0), .int .i64 (atF l1 1), .int .i64 (atF l1 2), .int .i64 (atF l1 3), .int .i64 (atF l1 4), .int .i64 (atF l1 5)], .agg #[.int .i64 (atF l2 0), .int .i64 (atF l2 1), .int .i64 (atF l2 2), .int .i64 (atF l2 3), .int .i64 (atF l2 4), .int .i64 (atF l2 5)], .bool (b1 && b2)]) W) := by
  have HH1 := hide H1
  have HH2 := hide H2
  clear H1 H2
  have bb : Box (((W.alloc (.cells #[.int .i64 0, .int .i64 0] 38)).alloc (.cells #[.int .i64 0, .int .i64 0, .int .i64 0, .int .i64 0, .int .i64 0, .int .i64 0] 40)).alloc (.cells #[.int .i64 0, .int .i64 0, .int .i64 0, .int .i64 0, .int .i64 0, .int .i64 0] 40)) W.heap.size 38 #[.int .i64 0, .int .i64 0] := ((Box.new W 38 #[.int .i64 0, .int .i64 0]).alloc (.cells #[.int .i64 0, .int .i64 0, .int .i64 0, .int .i64 0, .int .i64 0, .int .i64 0] 40)).alloc (.cells #[.int .i64 0, .int .i64 0, .int .i64 0, .int .i64 0, .int .i64 0, .int .i64 0] 40)
  have bs : Box (((W.alloc (.cells #[.int .i64 0, .int .i64 0] 38)).alloc (.cells #[.int .i64 0, .int .i64 0, .int .i64 0, .int .i64 0, .int .i64 0, .int .i64 0] 40)).alloc (.cells #[.int .i64 0, .int .i64 0, .int .i64 0, .int .i64 0, .int .i64 0, .int .i64 0] 40)) (W.alloc (.cells #[.int .i64 0, .int .i64 0] 38)).heap.size 40 (sixF fun _ => 0) := (Box.new (W.alloc (.cells #[.int .i64 0, .int .i64 0] 38)) 40 #[.int .i64 0, .int .i64 0, .int .i64 0, .int .i64 0, .int .i64 0, .int .i64 0]).alloc (.cells #[.int .i64 0, .int .i64 0, .int .i64 0, .int .i64 0, .int .i64 0, .int .i64 0] 40)
  have bt : Box (((W.alloc (.cells #[.int .i64 0, .int .i64 0] 38)).alloc (.cells #[.int .i64 0, .int .i64 0, .int .i64 0, .int .i64 0, .int .i64 0, .int .i64 0] 40)).alloc (.cells #[.int .i64 0, .int .i64 0, .int .i64 0, .int .i64 0, .int .i64 0, .int .i64 0] 40)) ((W.alloc (.cells #[.int .i64 0, .int .i64 0] 38)).alloc (.cells #[.int .i64 0, .int .i64 0, .int .i64 0, .int .i64 0, .int .i64 0, .int .i64 0] 40)).heap.size 40 (sixF fun _ => 0) := Box.new ((W.alloc (.cells #[.int .i64 0, .int .i64 0] 38)).alloc (.cells #[.int .i64 0, .int .i64 0, .int .i64 0, .int .i64 0, .int .i64 0, .int .i64 0] 40)) 40 #[.int .i64 0, .int .i64 0, .int .i64 0, .int .i64 0, .int .i64 0, .int .i64 0]
  have b0 : Below W.heap.size W (((W.alloc (.cells #[.int .i64 0, .int .i64 0] 38)).alloc (.cells #[.int .i64 0, .int .i64 0, .int .i64 0, .int .i64 0, .int .i64 0, .int .i64 0] 40)).alloc (.cells #[.int .i64 0, .int .i64 0, .int .i64 0, .int .i64 0, .int .i64 0, .int .i64 0] 40)) := (((Below.refl _ _).alloc (Nat.le_refl _) _).alloc (by simp) _).alloc (by simp; omega) _
  simp only [World.size_alloc] at bs bt
  cases b1
  all_goals
    go_enter Try.func24, Try.ntmps24
    go_wp2_with fail
    refine (HH1.out _ b0).mono ?_
    rintro e w1 ⟨rfl, d1⟩
    have z1 : W.heap.size + 1 + 1 < w1.heap.size := by have := d1.size; simp at this; omega
    replace bb := ((bb.then d1).alloc (.cells #[.int .i64 x1, .int .i64 y1] 38)).alloc (.cells #[.int .i64 (atF l1 0), .int .i64 (atF l1 1), .int .i64 (atF l1 2), .int .i64 (atF l1 3), .int .i64 (atF l1 4), .int .i64 (atF l1 5)] 40)
    replace bs := ((bs.then d1).alloc (.cells #[.int .i64 x1, .int .i64 y1] 38)).alloc (.cells #[.int .i64 (atF l1 0), .int .i64 (atF l1 1), .int .i64 (atF l1 2), .int .i64 (atF l1 3), .int .i64 (atF l1 4), .int .i64 (atF l1 5)] 40)
    replace bt := ((bt.then d1).alloc (.cells #[.int .i64 x1, .int .i64 y1] 38)).alloc (.cells #[.int .i64 (atF l1 0), .int .i64 (atF l1 1), .int .i64 (atF l1 2), .int .i64 (atF l1 3), .int .i64 (atF l1 4), .int .i64 (atF l1 5)] 40)
    have bv := (Box.new w1 38 #[.int .i64 x1, .int .i64 y1]).alloc (.cells #[.int .i64 (atF l1 0), .int .i64 (atF l1 1), .int .i64 (atF l1 2), .int .i64 (atF l1 3), .int .i64 (atF l1 4), .int .i64 (atF l1 5)] 40)
    have bl : Box ((w1.alloc (.cells #[.int .i64 x1, .int .i64 y1] 38)).alloc (.cells #[.int .i64 (atF l1 0), .int .i64 (atF l1 1), .int .i64 (atF l1 2), .int .i64 (atF l1 3), .int .i64 (atF l1 4), .int .i64 (atF l1 5)] 40)) (w1.alloc (.cells #[.int .i64 x1, .int .i64 y1] 38)).heap.size 40 (sixF (atF l1)) := Box.new (w1.alloc (.cells #[.int .i64 x1, .int .i64 y1] 38)) 40 #[.int .i64 (atF l1 0), .int .i64 (atF l1 1), .int .i64 (atF l1 2), .int .i64 (atF l1 3), .int .i64 (atF l1 4), .int .i64 (atF l1 5)]
    simp only [World.size_alloc] at bl
    replace d1 := below_then b0 b0.size d1
    have z1b := d1.size
    replace d1 := (d1.alloc z1b (.cells #[.int .i64 x1, .int .i64 y1] 38)).alloc (by simp; omega) (.cells #[.int .i64 (atF l1 0), .int .i64 (atF l1 1), .int .i64 (atF l1 2), .int .i64 (atF l1 3), .int .i64 (atF l1 4), .int .i64 (atF l1 5)] 40)
    go_wp2_with fail
    refine (HH2.out _ d1).mono ?_
    rintro e w2 ⟨rfl, d2⟩
    have z2 : w1.heap.size + 1 < w2.heap.size := by have := d2.size; simp at this; omega
    replace bb := ((bb.then d2).alloc (.cells #[.int .i64 x2, .int .i64 y2] 38)).alloc (.cells #[.int .i64 (atF l2 0), .int .i64 (atF l2 1), .int .i64 (atF l2 2), .int .i64 (atF l2 3), .int .i64 (atF l2 4), .int .i64 (atF l2 5)] 40)
    replace bs := ((bs.then d2).alloc (.cells #[.int .i64 x2, .int .i64 y2] 38)).alloc (.cells #[.int .i64 (atF l2 0), .int .i64 (atF l2 1), .int .i64 (atF l2 2), .int .i64 (atF l2 3), .int .i64 (atF l2 4), .int .i64 (atF l2 5)] 40)
    replace bt := ((bt.then d2).alloc (.cells #[.int .i64 x2, .int .i64 y2] 38)).alloc (.cells #[.int .i64 (atF l2 0), .int .i64 (atF l2 1), .int .i64 (atF l2 2), .int .i64 (atF l2 3), .int .i64 (atF l2 4), .int .i64 (atF l2 5)] 40)
    replace bv := ((bv.then d2).alloc (.cells #[.int .i64 x2, .int .i64 y2] 38)).alloc (.cells #[.int .i64 (atF l2 0), .int .i64 (atF l2 1), .int .i64 (atF l2 2), .int .i64 (atF l2 3), .int .i64 (atF l2 4), .int .i64 (atF l2 5)] 40)
    replace bl := ((bl.then d2).alloc (.cells #[.int .i64 x2, .int .i64 y2] 38)).alloc (.cells #[.int .i64 (atF l2 0), .int .i64 (atF l2 1), .int .i64 (atF l2 2), .int .i64 (atF l2 3), .int .i64 (atF l2 4), .int .i64 (atF l2 5)] 40)
    have bm : Box ((w2.alloc (.cells #[.int .i64 x2, .int .i64 y2] 38)).alloc (.cells #[.int .i64 (atF l2 0), .int .i64 (atF l2 1), .int .i64 (atF l2 2), .int .i64 (atF l2 3), .int .i64 (atF l2 4), .int .i64 (atF l2 5)] 40)) (w2.alloc (.cells #[.int .i64 x2, .int .i64 y2] 38)).heap.size 40 (sixF (atF l2)) := Box.new (w2.alloc (.cells #[.int .i64 x2, .int .i64 y2] 38)) 40 #[.int .i64 (atF l2 0), .int .i64 (atF l2 1), .int .i64 (atF l2 2), .int .i64 (atF l2 3), .int .i64 (atF l2 4), .int .i64 (atF l2 5)]
    simp only [World.size_alloc] at bm
    replace d2 := below_then d1 d1.size d2
    have z2b := d2.size
    replace d2 := (d2.alloc z2b (.cells #[.int .i64 x2, .int .i64 y2] 38)).alloc (by simp; omega) (.cells #[.int .i64 (atF l2 0), .int .i64 (atF l2 1), .int .i64 (atF l2 2), .int .i64 (atF l2 3), .int .i64 (atF l2 4), .int .i64 (atF l2 5)] 40)
    go_wp2_with fail
    clear HH1 HH2 b0 d1 z1b z2b
    generalize hw3 : (w2.alloc (.cells #[.int .i64 x2, .int .i64 y2] 38)).alloc (.cells #[.int .i64 (atF l2 0), .int .i64 (atF l2 1), .int .i64 (atF l2 2), .int .i64 (atF l2 3), .int .i64 (atF l2 4), .int .i64 (atF l2 5)] 40) = w3 at *
    clear hw3
    generalize hG : w1.heap.size = G at *
    generalize hK : w2.heap.size = K at *
    generalize hH : W.heap.size = H at *
    have HHH := hide hH
    clear hH
    have k0 := bv.cell 0
    have k1 := bv.cell 1
    obtain ⟨s1, s2, s3, s4, s5, s6⟩ := box6 bl
    obtain ⟨u1, u2, u3, u4, u5, u6⟩ := box6 bm
    obtain ⟨p1, p2, p3, p4, p5, p6, p7⟩ := endTwo bb (.int .i64 x1) (.int .i64 y1)
    have bs1 := ((bs.other (p := ⟨H, 0, none⟩) (by simp; try omega) (.int .i64 x1)).other (p := ⟨H, 1, none⟩) (by simp; try omega) (.int .i64 y1))
    have bt1 := ((bt.other (p := ⟨H, 0, none⟩) (by simp; try omega) (.int .i64 x1)).other (p := ⟨H, 1, none⟩) (by simp; try omega) (.int .i64 y1))
    have bl1 := ((bl.other (p := ⟨H, 0, none⟩) (by simp; try omega) (.int .i64 x1)).other (p := ⟨H, 1, none⟩) (by simp; try omega) (.int .i64 y1))
    have bm1 := ((bm.other (p := ⟨H, 0, none⟩) (by simp; try omega) (.int .i64 x1)).other (p := ⟨H, 1, none⟩) (by simp; try omega) (.int .i64 y1))
    have D1 := (d2.setCell (p := ⟨H, 0, none⟩) (by simp) (.int .i64 x1)).setCell (p := ⟨H, 1, none⟩) (by simp) (.int .i64 y1)
    obtain ⟨s1', s2', s3', s4', s5', s6'⟩ := box6 bl1
    obtain ⟨u1', u2', u3', u4', u5', u6'⟩ := box6 bm1
    obtain ⟨at0, at1, at2, at3, at4, at5, af0, af1, af2, af3, af4, af5⟩ := box12 bs
    have e1 := six_put bs1 (atF l1)
    have q7 := ((((((p7.other (p := ⟨H + 1, 0, none⟩) (by simp; try omega) (.int .i64 (atF l1 0))).other (p := ⟨H + 1, 1, none⟩) (by simp; try omega) (.int .i64 (atF l1 1))).other (p := ⟨H + 1, 2, none⟩) (by simp; try omega) (.int .i64 (atF l1 2))).other (p := ⟨H + 1, 3, none⟩) (by simp; try omega) (.int .i64 (atF l1 3))).other (p := ⟨H + 1, 4, none⟩) (by simp; try omega) (.int .i64 (atF l1 4))).other (p := ⟨H + 1, 5, none⟩) (by simp; try omega) (.int .i64 (atF l1 5)))
    have bt2 := ((((((bt1.other (p := ⟨H + 1, 0, none⟩) (by simp; try omega) (.int .i64 (atF l1 0))).other (p := ⟨H + 1, 1, none⟩) (by simp; try omega) (.int .i64 (atF l1 1))).other (p := ⟨H + 1, 2, none⟩) (by simp; try omega) (.int .i64 (atF l1 2))).other (p := ⟨H + 1, 3, none⟩) (by simp; try omega) (.int .i64 (atF l1 3))).other (p := ⟨H + 1, 4, none⟩) (by simp; try omega) (.int .i64 (atF l1 4))).other (p := ⟨H + 1, 5, none⟩) (by simp; try omega) (.int .i64 (atF l1 5)))
    have bm2 := ((((((bm1.other (p := ⟨H + 1, 0, none⟩) (by simp; try omega) (.int .i64 (atF l1 0))).other (p := ⟨H + 1, 1, none⟩) (by simp; try omega) (.int .i64 (atF l1 1))).other (p := ⟨H + 1, 2, none⟩) (by simp; try omega) (.int .i64 (atF l1 2))).other (p := ⟨H + 1, 3, none⟩) (by simp; try omega) (.int .i64 (atF l1 3))).other (p := ⟨H + 1, 4, none⟩) (by simp; try omega) (.int .i64 (atF l1 4))).other (p := ⟨H + 1, 5, none⟩) (by simp; try omega) (.int .i64 (atF l1 5)))
    have D2 := end6_below (atF l1) D1 (g := H + 1) (by omega)
    obtain ⟨u1'', u2'', u3'', u4'', u5'', u6''⟩ := box6 bm2
    obtain ⟨bt0, bt1', bt2', bt3, bt4, bt5, bf0, bf1, bf2, bf3, bf4, bf5⟩ := box12 bt
    have e2 := six_put bt2 (atF l2)
    have q8 := ((((((q7.other (p := ⟨H + 1 + 1, 0, none⟩) (by simp; try omega) (.int .i64 (atF l2 0))).other (p := ⟨H + 1 + 1, 1, none⟩) (by simp; try omega) (.int .i64 (atF l2 1))).other (p := ⟨H + 1 + 1, 2, none⟩) (by simp; try omega) (.int .i64 (atF l2 2))).other (p := ⟨H + 1 + 1, 3, none⟩) (by simp; try omega) (.int .i64 (atF l2 3))).other (p := ⟨H + 1 + 1, 4, none⟩) (by simp; try omega) (.int .i64 (atF l2 4))).other (p := ⟨H + 1 + 1, 5, none⟩) (by simp; try omega) (.int .i64 (atF l2 5)))
    have e8 := ((((((e1.other (p := ⟨H + 1 + 1, 0, none⟩) (by simp; try omega) (.int .i64 (atF l2 0))).other (p := ⟨H + 1 + 1, 1, none⟩) (by simp; try omega) (.int .i64 (atF l2 1))).other (p := ⟨H + 1 + 1, 2, none⟩) (by simp; try omega) (.int .i64 (atF l2 2))).other (p := ⟨H + 1 + 1, 3, none⟩) (by simp; try omega) (.int .i64 (atF l2 3))).other (p := ⟨H + 1 + 1, 4, none⟩) (by simp; try omega) (.int .i64 (atF l2 4))).other (p := ⟨H + 1 + 1, 5, none⟩) (by simp; try omega) (.int .i64 (atF l2 5)))
    have D3 := end6_below (atF l2) D2 (g := H + 1 + 1) (by omega)
    have HEND := hide (And.intro D3 (And.intro q8 (And.intro e8 e2)))
    clear q7 q8 e8 e1 e2 D1 D2 D3 bs1 bt1 bl1 bm1 bt2 bm2 p5 p6 p7 bb bs bt bv bl bm d2
    go_region
    obtain ⟨D3, q8, e8, e2⟩ := HEND.out
    have j0 := q8.cell 0
    have j1 := q8.cell 1
    obtain ⟨a0, a1, a2, a3, a4, a5⟩ := box6 e8
    obtain ⟨c0, c1, c2, c3, c4, c5⟩ := box6 e2
    go_wp2_with fail
    refine bodyPost_ret (v := .tuple #[boardV x1 y1, .agg #[.int .i64 (atF l1 0), .int .i64 (atF l1 1), .int .i64 (atF l1 2), .int .i64 (atF l1 3), .int .i64 (atF l1 4), .int .i64 (atF l1 5)], .agg #[.int .i64 (atF l2 0), .int .i64 (atF l2 1), .int .i64 (atF l2 2), .int .i64 (atF l2 3), .int .i64 (atF l2 4), .int .i64 (atF l2 5)], .bool _]) (by simp [results, Try.results24, go_sem, j0, j1, a0, a1, a2, a3, a4, a5, c0, c1, c2, c3, c4, c5]) rfl ⟨rfl, by rw [HHH.out]; exact D3.drew⟩

/-- Whether both are slides; what stands ahead of the truth value, if not, nobody asks. -/
theorem slidesOf_yes (bc br : Int) (A C : Option Addr) (ca cc : Nat) (a b : List Int) (W : World) (ha : Row W A (ints a)) (hb : Row W C (ints b)) (h1 : a.length ≤ maxLen) (h2 : b.length ≤ maxLen) (sa : SlideIs bc br a) (sb : SlideIs bc br b) :
    Calls Try.prog 24 #[.int .i64 bc, .int .i64 br, .slice A a.length ca, .slice C b.length cc] W (Plain (.tuple #[boardV bc br, .agg #[.int .i64 (atF a 0), .int .i64 (atF a 1), .int .i64 (atF a 2), .int .i64 (atF a 3), .int .i64 (atF a 4), .int .i64 (atF a 5)], .agg #[.int .i64 (atF b 0), .int .i64 (atF b 1), .int .i64 (atF b 2), .int .i64 (atF b 3), .int .i64 (atF b 4), .int .i64 (atF b 5)], .bool true]) W) :=
  slidesOf_g bc br A C a.length ca b.length cc bc br bc br a b true true W (fun w5 h5 => slideOf_isE bc br A ca a w5 (ha.below h5) h1 sa) (fun w5 h5 => slideOf_isE bc br C cc b w5 (hb.below h5) h2 sb)
theorem slidesOf_no (bc br : Int) (A C : Option Addr) (ca cc : Nat) (a b : List Int) (W : World) (ha : Row W A (ints a)) (hb : Row W C (ints b)) (h1 : a.length ≤ maxLen) (h2 : b.length ≤ maxLen) (hn : ¬ (SlideIs bc br a ∧ SlideIs bc br b)) :
    Calls Try.prog 24 #[.int .i64 bc, .int .i64 br, .slice A a.length ca, .slice C b.length cc] W fun e w' => ∃ (x y : Int) (l1 l2 : List Int), e = .returned (.tuple #[boardV x y, .agg #[.int .i64 (atF l1 0), .int .i64 (atF l1 1), .int .i64 (atF l1 2), .int .i64 (atF l1 3), .int .i64 (atF l1 4), .int .i64 (atF l1 5)], .agg #[.int .i64 (atF l2 0), .int .i64 (atF l2 1), .int .i64 (atF l2 2), .int .i64 (atF l2 3), .int .i64 (atF l2 4), .int .i64 (atF l2 5)], .bool false]) ∧ Below W.heap.size W w' := by
  by_cases sa : SlideIs bc br a
  · have sb : ¬ SlideIs bc br b := fun h => hn ⟨sa, h⟩
    exact (slidesOf_g bc br A C a.length ca b.length cc bc br 0 0 a [] true false W (fun w5 h5 => slideOf_isE bc br A ca a w5 (ha.below h5) h1 sa) (fun w5 h5 => slideOf_noE bc br C cc b w5 (hb.below h5) h2 sb)).mono fun e w' h => ⟨_, _, _, _, h.1, h.2⟩
  · by_cases sb : SlideIs bc br b
    · exact (slidesOf_g bc br A C a.length ca b.length cc 0 0 bc br [] b false true W (fun w5 h5 => slideOf_noE bc br A ca a w5 (ha.below h5) h1 sa) (fun w5 h5 => slideOf_isE bc br C cc b w5 (hb.below h5) h2 sb)).mono fun e w' h => ⟨_, _, _, _, h.1, h.2⟩
    · exact (slidesOf_g bc br A C a.length ca b.length cc 0 0 0 0 [] [] false false W (fun w5 h5 => slideOf_noE bc br A ca a w5 (ha.below h5) h1 sa) (fun w5 h5 => slideOf_noE bc br C cc b w5 (hb.below h5) h2 sb)).mono fun e w' h => ⟨_, _, _, _, h.1, h.2⟩

set_option maxHeartbeats 2000000 in
set_option maxRecDepth 100000 in
theorem implOddSwaps_c (bc br : Int) (A C : Option Addr) (ca cc : Nat) (a b : List Int) (W : World) (ha : Row W A (ints a)) (hb : Row W C (ints b)) (h1 : a.length ≤ maxLen) (h2 : b.length ≤ maxLen) :
    Calls Try.prog 10 #[.int .i64 bc, .int .i64 br, .slice A a.length ca, .slice C b.length cc] W (Plain (.int .i64 (oddSwapsP bc br a b)) W) := by
  by_cases hs : SlideIs bc br a ∧ SlideIs bc br b
  · obtain ⟨sa, sb⟩ := id hs
    have HS := hide (slidesOf_yes bc br A C ca cc a b W ha hb h1 h2 sa sb)
    have hl : a.length = b.length := by have := sa.2.2.1; have := sb.2.2.1; omega
    obtain ⟨e1, e2⟩ := sw_six sa.ord sb.ord hl
    have HW := hide (fun w5 => show Calls Try.prog 25 #[.agg #[.int .i64 (atF a 0), .int .i64 (atF a 1), .int .i64 (atF a 2), .int .i64 (atF a 3), .int .i64 (atF a 4), .int .i64 (atF a 5)], .agg #[.int .i64 (atF b 0), .int .i64 (atF b 1), .int .i64 (atF b 2), .int .i64 (atF b 3), .int .i64 (atF b 4), .int .i64 (atF b 5)]] w5 (Plain (.int .i64 (((swTo a b 6).1 : Nat) : Int)) w5) from swapsTo_c a b w5 sa.ord sb.ord hl)
    have HE := hide (show oddSwapsP bc br a b = (((swTo a b 6).1 % 2 : Nat) : Int) by unfold oddSwapsP; rw [if_pos hs, e1])
    rw [HE.out]
    clear HE hs sa sb ha hb e1 h1 h2 hl
    generalize (swTo a b 6).1 = n at *
    have t1 : Int.tmod (n : Int) 2 = ((n % 2 : Nat) : Int) := rfl
    have t1' : (n : Int) % 2 = ((n % 2 : Nat) : Int) := rfl
    generalize n % 2 = r at *
    go_enter Try.func10, Try.ntmps10
    go_wp2_with fail
    refine HS.out.mono ?_
    rintro e w1 ⟨rfl, d1⟩
    have bs := ((Box.new (w1.alloc (.cells #[.int .i64 bc, .int .i64 br] 38)) 40 #[.int .i64 (atF a 0), .int .i64 (atF a 1), .int .i64 (atF a 2), .int .i64 (atF a 3), .int .i64 (atF a 4), .int .i64 (atF a 5)])).alloc (.cells #[.int .i64 (atF b 0), .int .i64 (atF b 1), .int .i64 (atF b 2), .int .i64 (atF b 3), .int .i64 (atF b 4), .int .i64 (atF b 5)] 40)
    have bt := Box.new ((w1.alloc (.cells #[.int .i64 bc, .int .i64 br] 38)).alloc (.cells #[.int .i64 (atF a 0), .int .i64 (atF a 1), .int .i64 (atF a 2), .int .i64 (atF a 3), .int .i64 (atF a 4), .int .i64 (atF a 5)] 40)) 40 #[.int .i64 (atF b 0), .int .i64 (atF b 1), .int .i64 (atF b 2), .int .i64 (atF b 3), .int .i64 (atF b 4), .int .i64 (atF b 5)]
    simp only [World.size_alloc] at bs bt
    have z1 := d1.size
    have d1 := ((d1.alloc z1 (.cells #[.int .i64 bc, .int .i64 br] 38)).alloc (by simp; omega) (.cells #[.int .i64 (atF a 0), .int .i64 (atF a 1), .int .i64 (atF a 2), .int .i64 (atF a 3), .int .i64 (atF a 4), .int .i64 (atF a 5)] 40)).alloc (by simp; omega) (.cells #[.int .i64 (atF b 0), .int .i64 (atF b 1), .int .i64 (atF b 2), .int .i64 (atF b 3), .int .i64 (atF b 4), .int .i64 (atF b 5)] 40)
    obtain ⟨s1, s2, s3, s4, s5, s6⟩ := box6 (f := atF a) bs
    obtain ⟨u1, u2, u3, u4, u5, u6⟩ := box6 (f := atF b) bt
    go_wp2_with fail
    refine (HW.out _).mono ?_
    rintro e w2 ⟨rfl, d2⟩
    have d2 := below_then d1 d1.size d2
    go_wp2_with fail
    go_ret
    exact ⟨rfl, d2⟩
  · have HS := hide (slidesOf_no bc br A C ca cc a b W ha hb h1 h2 hs)
    have HE := hide (show oddSwapsP bc br a b = -1 by unfold oddSwapsP; rw [if_neg hs])
    rw [HE.out]
    clear HE hs ha hb h1 h2
    go_enter Try.func10, Try.ntmps10
    go_wp2_with fail
    refine HS.out.mono ?_
    rintro e w1 ⟨x, y, l1, l2, rfl, d1⟩
    have z1 := d1.size
    have d1 := ((d1.alloc z1 (.cells #[.int .i64 x, .int .i64 y] 38)).alloc (by simp; omega) (.cells #[.int .i64 (atF l1 0), .int .i64 (atF l1 1), .int .i64 (atF l1 2), .int .i64 (atF l1 3), .int .i64 (atF l1 4), .int .i64 (atF l1 5)] 40)).alloc (by simp; omega) (.cells #[.int .i64 (atF l2 0), .int .i64 (atF l2 1), .int .i64 (atF l2 2), .int .i64 (atF l2 3), .int .i64 (atF l2 4), .int .i64 (atF l2 5)] 40)
    go_wp2_with fail
    go_ret
    exact ⟨rfl, d1⟩
end Go.Proofs.Ytnfcklclgcgloab

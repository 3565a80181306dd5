
/-
  Steps of pieces: the lists that the program lays, Grow and Concat over them, and pieceOf.
-/
import Derived.Test.YtdjkdjnbmhpokabBase
import Derived.Test.YtdjkdjnbmhpokabProg
import Derived.RegionTactic
import Derived.Deep.QuietTactic
import Derived.BigQuiet
import Derived.ProofKit
import Derived.Handy
namespace Go.Proofs.Ytdjkdjnbmhpokab
open Go.RowKit

set_option maxHeartbeats 400000 in
theorem straight_c (w : World) : Calls Try.prog 63 #[] w fun e w' => e = .returned (.slice (some ⟨w.heap.size, 0, none⟩) 4 4) ∧
    w' = w.alloc (.cells #[.int .i64 (-1), .int .i64 0, .int .i64 0, .int .i64 (-1), .int .i64 0, .int .i64 1, .int .i64 1, .int .i64 0] 83) := by
  go_enter Try.func63, Try.ntmps63
  go_wp2
  go_ret
  exact ⟨rfl, rfl⟩
set_option maxHeartbeats 400000 in
theorem slanted_c (w : World) : Calls Try.prog 65 #[] w fun e w' => e = .returned (.slice (some ⟨w.heap.size, 0, none⟩) 4 4) ∧
    w' = w.alloc (.cells #[.int .i64 (-1), .int .i64 (-1), .int .i64 (-1), .int .i64 1, .int .i64 1, .int .i64 (-1), .int .i64 1, .int .i64 1] 83) := by
  go_enter Try.func65, Try.ntmps65
  go_wp2
  go_ret
  exact ⟨rfl, rfl⟩
set_option maxHeartbeats 400000 in
theorem knight_c (w : World) : Calls Try.prog 66 #[] w fun e w' => e = .returned (.slice (some ⟨w.heap.size, 0, none⟩) 8 8) ∧
    w' = w.alloc (.cells #[.int .i64 (-2), .int .i64 (-1), .int .i64 (-2), .int .i64 1, .int .i64 (-1), .int .i64 (-2), .int .i64 (-1), .int .i64 2, .int .i64 1, .int .i64 (-2), .int .i64 1, .int .i64 2, .int .i64 2, .int .i64 (-1), .int .i64 2, .int .i64 1] 83) := by
  go_enter Try.func66, Try.ntmps66
  go_wp2
  go_ret
  exact ⟨rfl, rfl⟩

theorem elem_step : Elem Try.prog 83 2 16 := Elem.of (z := .agg #[.int .i64 0, .int .i64 0]) (by kernel_rfl) rfl (by omega)

set_option maxHeartbeats 400000 in
theorem grow_c (w : World) : Calls Try.prog 71 #[.slice none 0 0, .int .i64 8] w (Owns 83 2 0 [] w) := by
  go_enter Try.func71, Try.ntmps71
  go_wp2
  go_ret
  refine ⟨_, rfl, ?_, ((Below.refl _ _).alloc (Nat.le_refl _) _).drew⟩
  exact World.ownsRow_made w _ (grownCap w 8 0 83) (Nat.le_refl _) (grownCap_le_maxLen w 8 0 83 (by decide)) (by
    have := grownCap_ge w 8 0 83
    show (Builtin.zeroCells #[Value.int IntKind.i64 0, Value.int IntKind.i64 0] 8 ++ Builtin.zeroCells #[Value.int IntKind.i64 0, Value.int IntKind.i64 0] (grownCap w 8 0 83 - 8)).size = _
    rw [Array.size_append, size_zeroCells, size_zeroCells]; simp; omega)

set_option maxHeartbeats 1000000 in
set_option maxRecDepth 100000 in
theorem concat_c (g : Nat) (A C : Option Addr) (ca cc : Nat) (xs ys : List Value) (w : World) (hb : g < w.heap.size) (h0 : w.cell? ⟨g, 0, none⟩ = some (.slice A 4 ca)) (h1 : w.cell? ⟨g, 1, none⟩ = some (.slice C 4 cc))
    (hx : Row w A xs) (hy : Row w C ys) (lx : xs.length = 8) (ly : ys.length = 8) (ox : ∀ u ∈ xs, u.oneCell' = true) (oy : ∀ u ∈ ys, u.oneCell' = true) :
    Calls Try.prog 64 #[.slice (some ⟨g, 0, none⟩) 2 2] w (Owns 83 2 8 (xs ++ ys) w) := by
  have Lx := hide lx
  have Ly := hide ly
  have Ox := hide ox
  have Oy := hide oy
  clear lx ly ox oy
  go_enter Try.func64, Try.ntmps64
  go_wp2_with fail
  refine wp_loop_rounds 3 ?_
  rw [rounds_succ]
  go_wp2_with fail
  rw [rounds_succ]
  go_wp2_with fail
  rw [rounds_succ]
  go_wp2_with fail
  refine (grow_c _).mono ?_
  rintro e w1 ⟨v1, rfl, hown1, hb1⟩
  have ha1 := (hb1.cell (p := ⟨g, 0, none⟩) hb).trans h0
  have hx1 := hx.below hb1
  have hz1 := hb1.size
  go_wp2_with fail
  refine wp_loop_rounds 3 ?_
  rw [rounds_succ]
  go_wp2_with ((at_builtin; refine put_own rfl (.tmp 31) (.tmp 32) rfl Try.underlying80 elem_step rfl hown1 rfl (by rw [Lx.out]) hx1 Ox.out (by omega) (by omega) hz1 ?_; intro v2 w2 hown2 hg2 ho2))
  simp only [Nat.zero_add, List.nil_append] at hown2
  have hb2 := below_grown hb1 hz1 hown1 (Nat.le_refl _) hg2
  have hc2 := (hb2.cell (p := ⟨g, 1, none⟩) hb).trans h1
  have hy2 := hy.below hb2
  have hz2 := hb2.size
  clear ha1 hx1 ho2
  rw [rounds_succ]
  go_wp2_with ((at_builtin; refine put_own rfl (.tmp 31) (.tmp 32) rfl Try.underlying80 elem_step rfl hown2 rfl (by rw [Ly.out]) hy2 Oy.out (by omega) (by omega) hz2 ?_; intro v3 w3 hown3 hg3 ho3))
  clear ho3 hc2
  rw [rounds_succ]
  go_wp2_with fail
  go_ret
  exact ⟨v3, rfl, hown3, below_grown hb2 hz2 hown2 (Nat.le_refl _) hg3⟩
end Go.Proofs.Ytdjkdjnbmhpokab

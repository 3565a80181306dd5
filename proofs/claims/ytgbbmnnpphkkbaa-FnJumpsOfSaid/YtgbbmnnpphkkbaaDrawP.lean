
/-
  The drawn arguments of the functions of chapter 8.
-/
import Derived.Test.YtgbbmnnpphkkbaaDrawL
import Derived.Test.YtgbbmnnpphkkbaaPegE
namespace Go.Proofs.Ytgbbmnnpphkkbaa
open Go.RowKit
set_option linter.unusedVariables false

set_option maxHeartbeats 1000000 in
theorem drawJumpsOf_c (A : Option Addr) (n c : Nat) (w : World) (h : Code w A n c) : Calls Try.prog 20 #[.slice A n c] w (DrawnLights w) := by
  have HC := hide (newReader_c A n c w h)
  clear h
  go_enter Try.func20, Try.ntmps20
  go_wp2_with fail
  refine HC.out.mono ?_
  rintro e w1 ⟨R, rfl, rd, hb⟩
  have hR : w.heap.size ≤ R := by obtain ⟨_, _, _, _, _, _, _, h, _⟩ := rd; exact h
  go_wp2_with fail
  refine (smallBoard_c 12 R _ 0 w1 rd (by omega) (by omega) (by omega)).mono ?_
  rintro e w2 ⟨x, y, rfl, hx, hy, rd2, hg2⟩
  obtain ⟨p1, p2⟩ := prod_bd hx hy
  have e0 : IntKind.i64.wrap (x * y) = x * y := IntWalk.i64_in _ (by omega)
  obtain ⟨p, hp⟩ : ∃ p, x * y = p := ⟨_, rfl⟩
  replace e0 := e0.trans hp
  rw [hp] at p1 p2
  clear hp
  go_wp2_with fail
  refine (aSet_c p R _ _ w2 rd2 (by omega) (by omega) (by omega)).mono ?_
  rintro e w3 ⟨l, rfl, hl, rd3, hg3⟩
  have hg3 := hg2.trans hg3
  go_wp2_with fail
  go_ret3
  exact ⟨x, y, l, rfl, hx, hy, hl, below_reader hb hR hg3⟩
set_option maxHeartbeats 1000000 in
theorem drawClassOf_c (A : Option Addr) (n c : Nat) (w : World) (h : Code w A n c) : Calls Try.prog 17 #[.slice A n c] w (DrawnLights w) := by
  have HC := hide (newReader_c A n c w h)
  clear h
  go_enter Try.func17, Try.ntmps17
  go_wp2_with fail
  refine HC.out.mono ?_
  rintro e w1 ⟨R, rfl, rd, hb⟩
  have hR : w.heap.size ≤ R := by obtain ⟨_, _, _, _, _, _, _, h, _⟩ := rd; exact h
  go_wp2_with fail
  refine (smallBoard_c 12 R _ 0 w1 rd (by omega) (by omega) (by omega)).mono ?_
  rintro e w2 ⟨x, y, rfl, hx, hy, rd2, hg2⟩
  obtain ⟨p1, p2⟩ := prod_bd hx hy
  have e0 : IntKind.i64.wrap (x * y) = x * y := IntWalk.i64_in _ (by omega)
  obtain ⟨p, hp⟩ : ∃ p, x * y = p := ⟨_, rfl⟩
  replace e0 := e0.trans hp
  rw [hp] at p1 p2
  clear hp
  go_wp2_with fail
  refine (aSet_c p R _ _ w2 rd2 (by omega) (by omega) (by omega)).mono ?_
  rintro e w3 ⟨l, rfl, hl, rd3, hg3⟩
  have hg3 := hg2.trans hg3
  go_wp2_with fail
  go_ret3
  exact ⟨x, y, l, rfl, hx, hy, hl, below_reader hb hR hg3⟩
theorem draw_pair {w w' : World} {R : Nat} (h : w.grownBy w' (some R)) : w.grownBy w' (some R) := h
end Go.Proofs.Ytgbbmnnpphkkbaa

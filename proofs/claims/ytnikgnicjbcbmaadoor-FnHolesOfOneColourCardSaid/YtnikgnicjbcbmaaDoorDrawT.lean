
/-
  The drawn arguments of the functions of chapter 5.
-/
import Derived.Test.YtnikgnicjbcbmaaDoorDrawC
namespace Go.Proofs.YtnikgnicjbcbmaaDoor
open Go.RowKit
set_option linter.unusedVariables false

def DrawnHoles (w : World) (e : Ending) (w' : World) : Prop := ∃ (x y : Int) (v : Value) (xs : List Int), e = .returned (.tuple #[.int .i64 x, .int .i64 y, v]) ∧ (-1 ≤ x ∧ x ≤ 6) ∧ (-1 ≤ y ∧ y ≤ 6) ∧ w'.ownsRow w.heap.size 3 1 v xs.length (ints xs) ∧ xs.length ≤ 40 ∧ Below w.heap.size w w'
def DrawnSides (w : World) (e : Ending) (w' : World) : Prop := ∃ (x y : Int), e = .returned (.tuple #[.int .i64 x, .int .i64 y]) ∧ (-1 ≤ x ∧ x ≤ 6) ∧ (-1 ≤ y ∧ y ≤ 6) ∧ Below w.heap.size w w'
theorem own_two (w : World) (a b : Int) : (w.alloc (.cells #[.int .i64 a, .int .i64 b] 3)).ownsRow w.heap.size 3 1 (.slice (some ⟨w.heap.size, 0, none⟩) 2 2) 2 (ints [a, b]) :=
  ⟨by simp, .inr ⟨w.heap.size, 2, #[.int .i64 a, .int .i64 b], rfl, Nat.le_refl _, heap_alloc_new w _, Nat.le_refl _, by simp [maxLen], rfl, by simp⟩⟩
theorem own_besides {w w' : World} {base e size n R : Nat} {v : Value} {xs : List Value} (h : w.ownsRow base e size v n xs) (hg : w.grownBy w' (some R)) (hb : R < base) : w'.ownsRow base e size v n xs := h.kept hg (by
  cases hv : v.ownBlock with
  | none => exact .inl rfl
  | some k =>
    right
    intro e
    injection e with e
    have := (h.lt k hv).1
    omega)
set_option maxHeartbeats 2000000 in
set_option maxRecDepth 100000 in
theorem drawTileCount_c (A : Option Addr) (n c : Nat) (w : World) (h : Code w A n c) : Calls Tryd.prog 6 #[.slice A n c] w (DrawnHoles w) := by
  have HC := hide (newReader_c A n c w h)
  clear h
  go_enter Tryd.func6, Tryd.ntmps6
  go_wp2_with fail
  refine HC.out.mono ?_
  rintro e w1 ⟨R, rfl, rd, hb⟩
  have hR : w.heap.size ≤ R := by obtain ⟨_, _, _, _, _, _, _, h, _⟩ := rd; exact h
  go_wp2_with fail
  refine (someBoard_c R _ 0 w1 rd (by omega)).mono ?_
  rintro e w2 ⟨x, y, rfl, hx, hy, rd2, hg2⟩
  obtain ⟨p1, p2⟩ := prod_bd hx hy
  have e0 : IntKind.i64.wrap (x * y) = x * y := IntWalk.i64_in _ (by omega)
  obtain ⟨p, hp⟩ : ∃ p, x * y = p := ⟨_, rfl⟩
  replace e0 := e0.trans hp
  rw [hp] at p1 p2
  clear hp
  have hR2 := rd2.lt
  have z2 := hg2.size
  have zb := hb.size
  have O3 := hide (World.ownsRow_made w2 (e := 3) (size := 1) #[] 0 (Nat.le_refl _) (by simp [maxLen]) rfl)
  have rd3 := rd2.grown_alloc (.cells #[] 3)
  have hg3 := hg2.trans (World.grownBy_alloc w2 (.cells #[] 3) (some R))
  have zs3 : w2.heap.size < (w2.alloc (.cells #[] 3)).heap.size := by simp
  go_wp2_with fail
  generalize w2.alloc (.cells #[] 3) = w3 at *
  refine (pick_c 3 R _ _ w3 rd3 (by omega) (by omega) (by omega)).mono ?_
  rintro e w4 ⟨z, rfl, _, _, rd4, hg4⟩
  have O4 := hide (own_besides O3.out hg4 hR2)
  have hg34 := hg3.trans hg4
  have z34 := hg34.size
  clear hg3 O3
  cases h0 : (z == 0) with
  | true =>
    go_wp2_with fail
    refine (someCells_c p 5 R _ _ w4 rd4 (by omega) (by omega) (by omega) (by omega) (by omega)).mono ?_
    rintro e w5 ⟨v, xs, rfl, hown, hl, rd5, hg5⟩
    have hown := own_mono hown (base' := w.heap.size) (by omega)
    have hg5 := hg34.trans hg5
    go_wp2_with fail
    go_ret3
    exact ⟨x, y, v, xs, rfl, hx, hy, hown, hl, below_reader hb hR hg5⟩
  | false =>
    cases h1 : (z == 1) with
    | true =>
      by_cases hp4 : 4 < p
      · obtain ⟨q, rfl⟩ := Int.eq_ofNat_of_zero_le (show 0 ≤ p by omega)
        have t1 : Int.tdiv (q : Int) 2 = ((q / 2 : Nat) : Int) := rfl
        have t2 : Int.tdiv (q : Int) 4 = ((q / 4 : Nat) : Int) := rfl
        obtain ⟨q2, hq2⟩ : ∃ q2, q / 2 = q2 := ⟨_, rfl⟩
        obtain ⟨q4, hq4⟩ : ∃ q4, q / 4 = q4 := ⟨_, rfl⟩
        rw [hq2] at t1
        rw [hq4] at t2
        have t1' : (q : Int) / 2 = (q2 : Int) := by omega
        have t2' : (q : Int) / 4 = (q4 : Int) := by omega
        have b1 : 1 ≤ q2 ∧ q2 ≤ 18 := by omega
        have b2 : 1 ≤ q4 ∧ q4 ≤ 9 := by omega
        have e1 : IntKind.i64.wrap (q2 : Int) = (q2 : Int) := IntWalk.i64_in _ (by omega)
        have e2 : IntKind.i64.wrap (q4 : Int) = (q4 : Int) := IntWalk.i64_in _ (by omega)
        clear hq2 hq4
        go_wp2_with fail
        refine (pick_c (q2 : Int) R _ _ w4 rd4 (by omega) (by omega) (by omega)).mono ?_
        rintro e w5 ⟨a, rfl, ha, _, rd5, hg5⟩
        have ha := ha (by omega)
        go_wp2_with fail
        refine (pick_c (q4 : Int) R _ _ w5 rd5 (by omega) (by omega) (by omega)).mono ?_
        rintro e w6 ⟨b, rfl, hbb, _, rd6, hg6⟩
        have hbb := hbb (by omega)
        have hg6 := (hg34.trans hg5).trans hg6
        have z6 := hg6.size
        have e3 : IntKind.i64.wrap (a + 1) = a + 1 := IntWalk.i64_in _ (by omega)
        have e4 : IntKind.i64.wrap (2 * b) = 2 * b := IntWalk.i64_in _ (by omega)
        have e5 : IntKind.i64.wrap (a + 1 + 2 * b) = a + 1 + 2 * b := IntWalk.i64_in _ (by omega)
        have O6 := hide (own_two w6 a (a + 1 + 2 * b))
        go_wp2_with fail
        go_ret3
        exact ⟨x, y, _, [a, a + 1 + 2 * b], rfl, hx, hy, own_mono O6.out (by omega), by simp, below_reader hb hR (hg6.trans (World.grownBy_alloc w6 _ (some R)))⟩
      · have hp4' : ¬ (4 < p) := hp4
        go_wp2_with fail
        go_ret3
        exact ⟨x, y, _, [], rfl, hx, hy, own_mono O4.out (by omega), by simp, below_reader hb hR hg34⟩
    | false =>
      go_wp2_with fail
      go_ret3
      exact ⟨x, y, _, [], rfl, hx, hy, own_mono O4.out (by omega), by simp, below_reader hb hR hg34⟩
end Go.Proofs.YtnikgnicjbcbmaaDoor

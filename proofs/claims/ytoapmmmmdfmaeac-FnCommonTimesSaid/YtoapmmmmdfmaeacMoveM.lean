/-
  MoveC, MoveE, MoveA, MoveB, MoveD in one text.
-/
import Derived.Test.YtoapmmmmdfmaeacBase
import Derived.Test.YtoapmmmmdfmaeacProg
import Derived.Test.YtoapmmmmdfmaeacPureM
import Derived.RegionTactic
import Derived.Deep.QuietTactic
import Derived.BigQuiet
import Derived.ProofKit
import Derived.Handy
/-
  Boards: size, has, onward, boardOf.
-/
namespace Go.Proofs.Ytoapmmmmdfmaeac
open Go.RowKit
set_option linter.unusedVariables false

abbrev boardV (bc br : Int) : Value := .agg #[.int .i64 bc, .int .i64 br]

set_option maxHeartbeats 400000 in
theorem size_c (bc br : Int) (w : World) (h1 : 1 ≤ bc) (h2 : bc ≤ 5) (h3 : 1 ≤ br) (h4 : br ≤ 5) : Calls Try.prog 52 #[boardV bc br] w (Plain (.int .i64 (bc * br)) w) := by
  obtain ⟨e1, e2⟩ := mul_bd h1 h2 h3 h4
  go_enter Try.func52, Try.ntmps52
  go_wp2
  go_ret
  exact ⟨rfl, (Below.refl _ _).alloc (Nat.le_refl _) _⟩
set_option maxHeartbeats 400000 in
theorem has_c (bc br cell : Int) (w : World) (h1 : 1 ≤ bc) (h2 : bc ≤ 5) (h3 : 1 ≤ br) (h4 : br ≤ 5) : Calls Try.prog 26 #[boardV bc br, .int .i64 cell] w (Plain (.bool (decide (0 ≤ cell ∧ cell < bc * br))) w) := by
  by_cases hc : 0 ≤ cell
  · go_enter Try.func26, Try.ntmps26
    go_wp2_with fail
    refine (size_c bc br _ h1 h2 h3 h4).mono ?_
    rintro e w1 ⟨rfl, hb⟩
    go_wp2
    go_ret
    exact ⟨ret_bool (by simp; omega), below_then ((Below.refl _ _).alloc (Nat.le_refl _) _) (by simp) hb⟩
  · go_enter Try.func26, Try.ntmps26
    go_wp2
    go_ret
    exact ⟨ret_bool (by simp; omega), (Below.refl _ _).alloc (Nat.le_refl _) _⟩
set_option maxHeartbeats 400000 in
theorem onward_yes (bc br cell dr dc : Int) (w : World) (h1 : 1 ≤ bc) (h2 : bc ≤ 5) (h3 : 1 ≤ br) (h4 : br ≤ 5) (g1 : 0 ≤ cell) (g2 : cell < 25) (g3 : -2 ≤ dr) (g4 : dr ≤ 2) (g5 : -2 ≤ dc) (g6 : dc ≤ 2)
    (y1 : 0 ≤ cell / bc + dr) (y2 : cell / bc + dr < br) (y3 : 0 ≤ cell % bc + dc) (y4 : cell % bc + dc < bc) :
    Calls Try.prog 53 #[boardV bc br, .int .i64 cell, .agg #[.int .i64 dr, .int .i64 dc]] w (Plain (.tuple #[.int .i64 ((cell / bc + dr) * bc + (cell % bc + dc)), .bool true]) w) := by
  obtain ⟨⟨q1, q2⟩, r1, r2⟩ := quo_bd h1 h2 g1 g2
  obtain ⟨⟨m1, m2⟩, m3, m4⟩ := row_bd h1 h2 h3 h4 y1 y2 y3 y4
  go_enter Try.func53, Try.ntmps53
  go_wp2_with fail
  go_quiet (fail)
  all_goals go_wp2
  all_goals go_ret2
  exact ⟨rfl, below_drewN (((Below.refl _ _).alloc (Nat.le_refl _) _).alloc (by simp) _) _⟩
set_option maxHeartbeats 400000 in
theorem onward_no (bc br cell dr dc : Int) (w : World) (h1 : 1 ≤ bc) (h2 : bc ≤ 5) (h3 : 1 ≤ br) (h4 : br ≤ 5) (g1 : 0 ≤ cell) (g2 : cell < 25) (g3 : -2 ≤ dr) (g4 : dr ≤ 2) (g5 : -2 ≤ dc) (g6 : dc ≤ 2)
    (y : ¬ (0 ≤ cell / bc + dr ∧ cell / bc + dr < br ∧ 0 ≤ cell % bc + dc ∧ cell % bc + dc < bc)) :
    Calls Try.prog 53 #[boardV bc br, .int .i64 cell, .agg #[.int .i64 dr, .int .i64 dc]] w (Plain (.tuple #[.int .i64 0, .bool false]) w) := by
  obtain ⟨⟨q1, q2⟩, r1, r2⟩ := quo_bd h1 h2 g1 g2
  have : cell / bc + dr < 0 ∨ (0 ≤ cell / bc + dr ∧ br ≤ cell / bc + dr) ∨ (0 ≤ cell / bc + dr ∧ cell / bc + dr < br ∧ cell % bc + dc < 0) ∨ (0 ≤ cell / bc + dr ∧ cell / bc + dr < br ∧ 0 ≤ cell % bc + dc ∧ bc ≤ cell % bc + dc) := by omega
  clear y
  rcases this with y | ⟨y, y'⟩ | ⟨y, y', y''⟩ | ⟨y, y', y'', y3⟩
  all_goals
    go_enter Try.func53, Try.ntmps53
    go_wp2_with fail
    go_quiet (fail)
    go_wp2
    go_ret2
    exact ⟨rfl, below_drewN (((Below.refl _ _).alloc (Nat.le_refl _) _).alloc (by simp) _) _⟩
set_option maxHeartbeats 400000 in
theorem boardOf_yes (bc br : Int) (w : World) (h1 : 1 ≤ bc) (h2 : bc ≤ 5) (h3 : 1 ≤ br) (h4 : br ≤ 5) : Calls Try.prog 50 #[.int .i64 bc, .int .i64 br] w (Plain (.tuple #[boardV bc br, .bool true]) w) := by
  go_enter Try.func50, Try.ntmps50
  go_wp2
  go_returns
  exact ⟨rfl, (Below.refl _ _).alloc (Nat.le_refl _) _⟩
set_option maxHeartbeats 400000 in
theorem boardOf_no (bc br : Int) (w : World) (h : ¬ (1 ≤ bc ∧ bc ≤ 5 ∧ 1 ≤ br ∧ br ≤ 5)) : Calls Try.prog 50 #[.int .i64 bc, .int .i64 br] w (Plain (.tuple #[boardV 0 0, .bool false]) w) := by
  have : bc < 1 ∨ (¬ bc < 1 ∧ 5 < bc) ∨ (¬ bc < 1 ∧ ¬ 5 < bc ∧ br < 1) ∨ (¬ bc < 1 ∧ ¬ 5 < bc ∧ ¬ br < 1 ∧ 5 < br) := by omega
  clear h
  rcases this with y | ⟨y, y'⟩ | ⟨y, y', y''⟩ | ⟨y, y', y'', y3⟩
  all_goals
    go_enter Try.func50, Try.ntmps50
    go_wp2
    go_returns
    exact ⟨rfl, (Below.refl _ _).alloc (Nat.le_refl _) _⟩
end Go.Proofs.Ytoapmmmmdfmaeac

/-
  Boards: hasAscending.
-/
namespace Go.Proofs.Ytoapmmmmdfmaeac
open Go.RowKit
set_option linter.unusedVariables false

theorem has_yes (bc br cell : Int) (w : World) (h1 : 1 ≤ bc) (h2 : bc ≤ 5) (h3 : 1 ≤ br) (h4 : br ≤ 5) (h5 : 0 ≤ cell) (h6 : cell < bc * br) : Calls Try.prog 26 #[boardV bc br, .int .i64 cell] w (Plain (.bool true) w) := by
  have := has_c bc br cell w h1 h2 h3 h4
  rwa [decide_eq_true ⟨h5, h6⟩] at this
theorem has_no (bc br cell : Int) (w : World) (h1 : 1 ≤ bc) (h2 : bc ≤ 5) (h3 : 1 ≤ br) (h4 : br ≤ 5) (h5 : ¬ (0 ≤ cell ∧ cell < bc * br)) : Calls Try.prog 26 #[boardV bc br, .int .i64 cell] w (Plain (.bool false) w) := by
  have := has_c bc br cell w h1 h2 h3 h4
  rwa [decide_eq_false h5] at this

set_option maxHeartbeats 400000 in
theorem asc_c (bc br : Int) (A : Option Addr) (c : Nat) (l : List Int) (w : World) (h1 : 1 ≤ bc) (h2 : bc ≤ 5) (h3 : 1 ≤ br) (h4 : br ≤ 5) (hr : Row w A (ints l)) (hm : l.length ≤ maxLen) :
    Calls Try.prog 27 #[boardV bc br, .slice A l.length c] w (Plain (.bool (decide (AscTo (bc * br) l l.length))) w) := by
  unfold maxLen at hm
  go_enter Try.func27, Try.ntmps27
  go_wp2
  go_loopw [9] (fun i wr => ∃ k : Nat, k ≤ l.length ∧ i = .int .i64 k ∧ AscTo (bc * br) l k ∧ Below w.heap.size w wr ∧ Box wr w.heap.size 52 #[.int .i64 bc, .int .i64 br]) (fun i _ => l.length - (intOf i).toNat)
  case atStart => exact ⟨0, Nat.zero_le _, rfl, AscTo.zero _ _, (Below.refl _ _).alloc (Nat.le_refl _) _, Box.new _ _ _⟩
  case round =>
    obtain ⟨k, hk, rfl, ha, hb, hbox⟩ := hrel
    obtain ⟨wo, rfl⟩ : ∃ wo : World, wo = wr := ⟨_, rfl⟩
    have z := hb.size
    have c0 := hbox.cell 0
    have c1 := hbox.cell 1
    by_cases hlt : k < l.length
    · obtain ⟨ad, rfl, hca⟩ := (hr.below hb).int hlt
      obtain ⟨x, hx⟩ : ∃ x, l[k]?.getD 0 = x := ⟨_, rfl⟩
      rw [hx] at hca
      have X := hide hx
      clear hx
      by_cases hin : 0 ≤ x ∧ x < bc * br
      · have hq : ∀ w1, Calls Try.prog 26 #[boardV bc br, .int .i64 x] w1 (Plain (.bool true) w1) := fun w1 => has_yes bc br x w1 h1 h2 h3 h4 hin.1 hin.2
        have HQ := hide hq
        obtain ⟨i1, i2⟩ := hin
        clear hq
        by_cases hp : 0 < k
        · obtain ⟨ad', e, hcb⟩ := (hr.below hb).int (k := k - 1) (by omega)
          obtain rfl : ad = ad' := by injection e
          obtain ⟨y, hy⟩ : ∃ y, l[k - 1]?.getD 0 = y := ⟨_, rfl⟩
          rw [hy] at hcb
          have Y := hide hy
          clear hy e
          by_cases hlt2 : y < x
          · go_wp2_with fail
            refine (HQ.out _).mono ?_
            rintro e w1 ⟨rfl, hb1⟩
            have hcb1 := hb1.cell (World.block_lt_of_cell? _ _ hcb)
            rw [hcb] at hcb1
            go_wp2_with fail
            exact ⟨⟨k + 1, hlt, rfl, ha.succ (by rw [X.out]; exact i1) (by rw [X.out]; exact i2) (by rw [X.out, Y.out]; exact fun _ => hlt2), below_then hb z hb1, hbox.then hb1⟩, by simp [intOf]; omega⟩
          · go_wp2_with fail
            refine (HQ.out _).mono ?_
            rintro e w1 ⟨rfl, hb1⟩
            have hcb1 := hb1.cell (World.block_lt_of_cell? _ _ hcb)
            rw [hcb] at hcb1
            go_wp2_with fail
            go_ret
            exact ⟨ret_bool (by symm; simp only [decide_eq_false_iff_not]; exact AscTo.not hlt (.inr ⟨hp, by rw [X.out, Y.out]; omega⟩)), below_then hb z hb1⟩
        · go_wp2_with fail
          refine (HQ.out _).mono ?_
          rintro e w1 ⟨rfl, hb1⟩
          go_wp2_with fail
          exact ⟨⟨k + 1, hlt, rfl, ha.succ (by rw [X.out]; exact i1) (by rw [X.out]; exact i2) (by omega), below_then hb z hb1, hbox.then hb1⟩, by simp [intOf]; omega⟩
      · go_wp2_with fail
        refine (has_no bc br x _ h1 h2 h3 h4 hin).mono ?_
        rintro e w1 ⟨rfl, hb1⟩
        go_wp2_with fail
        go_ret
        exact ⟨ret_bool (by symm; simp only [decide_eq_false_iff_not]; exact AscTo.not hlt (.inl (by rw [X.out]; exact hin))), below_then hb z hb1⟩
    · have hk2 : Hid (k = l.length) := hide (by omega)
      go_wp2
      go_ret
      exact ⟨ret_bool (by symm; simp only [decide_eq_true_eq]; rw [← hk2.out]; exact ha), hb⟩
end Go.Proofs.Ytoapmmmmdfmaeac

/-
  Steps of pieces: the lists that the program lays, Grow and Concat over them, and pieceOf.
-/
namespace Go.Proofs.Ytoapmmmmdfmaeac
open Go.RowKit

set_option maxHeartbeats 400000 in
theorem straight_c (w : World) : Calls Try.prog 67 #[] w fun e w' => e = .returned (.slice (some ⟨w.heap.size, 0, none⟩) 4 4) ∧
    w' = w.alloc (.cells #[.int .i64 (-1), .int .i64 0, .int .i64 0, .int .i64 (-1), .int .i64 0, .int .i64 1, .int .i64 1, .int .i64 0] 89) := by
  go_enter Try.func67, Try.ntmps67
  go_wp2
  go_ret
  exact ⟨rfl, rfl⟩
set_option maxHeartbeats 400000 in
theorem slanted_c (w : World) : Calls Try.prog 69 #[] w fun e w' => e = .returned (.slice (some ⟨w.heap.size, 0, none⟩) 4 4) ∧
    w' = w.alloc (.cells #[.int .i64 (-1), .int .i64 (-1), .int .i64 (-1), .int .i64 1, .int .i64 1, .int .i64 (-1), .int .i64 1, .int .i64 1] 89) := by
  go_enter Try.func69, Try.ntmps69
  go_wp2
  go_ret
  exact ⟨rfl, rfl⟩
set_option maxHeartbeats 400000 in
theorem knight_c (w : World) : Calls Try.prog 70 #[] w fun e w' => e = .returned (.slice (some ⟨w.heap.size, 0, none⟩) 8 8) ∧
    w' = w.alloc (.cells #[.int .i64 (-2), .int .i64 (-1), .int .i64 (-2), .int .i64 1, .int .i64 (-1), .int .i64 (-2), .int .i64 (-1), .int .i64 2, .int .i64 1, .int .i64 (-2), .int .i64 1, .int .i64 2, .int .i64 2, .int .i64 (-1), .int .i64 2, .int .i64 1] 89) := by
  go_enter Try.func70, Try.ntmps70
  go_wp2
  go_ret
  exact ⟨rfl, rfl⟩

theorem elem_step : Elem Try.prog 89 2 16 := Elem.of (z := .agg #[.int .i64 0, .int .i64 0]) (by kernel_rfl) rfl (by omega)

set_option maxHeartbeats 400000 in
theorem grow_c (w : World) : Calls Try.prog 76 #[.slice none 0 0, .int .i64 8] w (Owns 89 2 0 [] w) := by
  go_enter Try.func76, Try.ntmps76
  go_wp2
  go_ret
  refine ⟨_, rfl, ?_, ((Below.refl _ _).alloc (Nat.le_refl _) _).drew⟩
  exact World.ownsRow_made w _ (grownCap w 8 0 89) (Nat.le_refl _) (grownCap_le_maxLen w 8 0 89 (by decide)) (by
    have := grownCap_ge w 8 0 89
    show (Builtin.zeroCells #[Value.int IntKind.i64 0, Value.int IntKind.i64 0] 8 ++ Builtin.zeroCells #[Value.int IntKind.i64 0, Value.int IntKind.i64 0] (grownCap w 8 0 89 - 8)).size = _
    rw [Array.size_append, size_zeroCells, size_zeroCells]; simp; omega)

set_option maxHeartbeats 1000000 in
set_option maxRecDepth 100000 in
theorem concat_c (g : Nat) (A C : Option Addr) (ca cc : Nat) (xs ys : List Value) (w : World) (hb : g < w.heap.size) (h0 : w.cell? ⟨g, 0, none⟩ = some (.slice A 4 ca)) (h1 : w.cell? ⟨g, 1, none⟩ = some (.slice C 4 cc))
    (hx : Row w A xs) (hy : Row w C ys) (lx : xs.length = 8) (ly : ys.length = 8) (ox : ∀ u ∈ xs, u.oneCell' = true) (oy : ∀ u ∈ ys, u.oneCell' = true) :
    Calls Try.prog 68 #[.slice (some ⟨g, 0, none⟩) 2 2] w (Owns 89 2 8 (xs ++ ys) w) := by
  have Lx := hide lx
  have Ly := hide ly
  have Ox := hide ox
  have Oy := hide oy
  clear lx ly ox oy
  go_enter Try.func68, Try.ntmps68
  go_wp2_with fail
  refine wp_loop_rounds 3 ?_
  rw [rounds_succ]
  go_wp2_with fail
  rw [rounds_succ]
  go_wp2_with fail
  rw [rounds_succ]
  go_wp2_with fail
  refine (grow_c _).mono ?_
  rintro e w1 ⟨v1, rfl, hown1, hb1⟩
  have ha1 := (hb1.cell (p := ⟨g, 0, none⟩) hb).trans h0
  have hx1 := hx.below hb1
  have hz1 := hb1.size
  go_wp2_with fail
  refine wp_loop_rounds 3 ?_
  rw [rounds_succ]
  go_wp2_with ((at_builtin; refine put_own rfl (.tmp 31) (.tmp 32) rfl Try.underlying86 elem_step rfl hown1 rfl (by rw [Lx.out]) hx1 Ox.out (by omega) (by omega) hz1 ?_; intro v2 w2 hown2 hg2 ho2))
  simp only [Nat.zero_add, List.nil_append] at hown2
  have hb2 := below_grown hb1 hz1 hown1 (Nat.le_refl _) hg2
  have hc2 := (hb2.cell (p := ⟨g, 1, none⟩) hb).trans h1
  have hy2 := hy.below hb2
  have hz2 := hb2.size
  clear ha1 hx1 ho2
  rw [rounds_succ]
  go_wp2_with ((at_builtin; refine put_own rfl (.tmp 31) (.tmp 32) rfl Try.underlying86 elem_step rfl hown2 rfl (by rw [Ly.out]) hy2 Oy.out (by omega) (by omega) hz2 ?_; intro v3 w3 hown3 hg3 ho3))
  clear ho3 hc2
  rw [rounds_succ]
  go_wp2_with fail
  go_ret
  exact ⟨v3, rfl, hown3, below_grown hb2 hz2 hown2 (Nat.le_refl _) hg3⟩
end Go.Proofs.Ytoapmmmmdfmaeac

/-
  pieceOf: the piece of a kind.
-/
namespace Go.Proofs.Ytoapmmmmdfmaeac
open Go.RowKit

theorem from_new {n B : Nat} (h : B ≤ n) : From B (some ⟨n, 0, none⟩) := by rintro _ ⟨rfl⟩; exact h
/-- A piece of these steps: a leaper, or a slider; its steps lie in block B or behind it. -/
def IsPiece (w : World) (B : Nat) (pv : Value) (ss : List (Int × Int)) (far : Bool) : Prop := ∃ g c, pv = .iface (if far then 105 else 103) (.agg #[.slice (some ⟨g, 0, none⟩) ss.length c]) ∧ Row w (some ⟨g, 0, none⟩) (flat ss) ∧ B ≤ g
def PieceIs (ss : List (Int × Int)) (far : Bool) (w : World) (e : Ending) (w' : World) : Prop := ∃ pv, e = .returned (.tuple #[pv, .bool true]) ∧ IsPiece w' w.heap.size pv ss far ∧ Below w.heap.size w w'
theorem IsPiece.then {w w' : World} {B : Nat} {pv : Value} {ss : List (Int × Int)} {far : Bool} (h : IsPiece w B pv ss far) (hb : Below w.heap.size w w') : IsPiece w' B pv ss far := by
  obtain ⟨A, c, e, hr, hf⟩ := h
  exact ⟨A, c, e, hr.below hb, hf⟩
theorem IsPiece.mono {w : World} {B B' : Nat} {pv : Value} {ss : List (Int × Int)} {far : Bool} (h : IsPiece w B pv ss far) (hb : B' ≤ B) : IsPiece w B' pv ss far := by
  obtain ⟨A, c, e, hr, hf⟩ := h
  exact ⟨A, c, e, hr, Nat.le_trans hb hf⟩
theorem IsPiece.set_low {w : World} {B : Nat} {pv : Value} {ss : List (Int × Int)} {far : Bool} (h : IsPiece w B pv ss far) {p : Addr} (hp : p.block < B) (u : Value) : IsPiece (w.setCell p u) B pv ss far := by
  obtain ⟨A, c, e, hr, hf⟩ := h
  exact ⟨A, c, e, hr.set_low (from_new hf) hp u, hf⟩
/-- What the call owns, where there is an element. -/
theorem own_some {w : World} {base : Nat} {e : TypeId} {size n : Nat} {v : Value} {cs : List Value} (h : w.ownsRow base e size v n cs) (hn : 0 < n) : ∃ g c, v = .slice (some ⟨g, 0, none⟩) n c ∧ Row w (some ⟨g, 0, none⟩) cs ∧ base ≤ g := by
  obtain ⟨A, c, rfl, _, _, hrow, hfr⟩ := own_row h
  rcases h.2 with ⟨_, rfl⟩ | ⟨g, cap, cur, e, hb, _⟩
  · omega
  · injection e with e1 e2 e3
    subst e1
    exact ⟨g, c, rfl, hrow, hb⟩
theorem one_flat (ss : List (Int × Int)) : ∀ u ∈ flat ss, u.oneCell' = true := by
  intro u hu
  simp only [flat, List.mem_flatMap, List.mem_cons, List.not_mem_nil, or_false] at hu
  obtain ⟨p, _, rfl | rfl⟩ := hu <;> rfl

set_option maxHeartbeats 400000 in
theorem piece_step (s : ByteArray) (w : World) (h0 : (s.toList == [115, 116, 101, 112]) = true) : Calls Try.prog 51 #[.string s] w (PieceIs straight false w) := by
  go_enter Try.func51, Try.ntmps51
  go_wp2_with (go_at_call 67; refine (straight_c _).mono ?_; rintro e w1 ⟨rfl, rfl⟩)
  go_ret2
  exact ⟨_, rfl, ⟨_, _, rfl, row_new _ _ _ rfl, Nat.le_refl _⟩, (Below.refl _ _).alloc (Nat.le_refl _) _⟩

set_option maxHeartbeats 400000 in
theorem piece_king (s : ByteArray) (w : World) (h0 : (s.toList == [115, 116, 101, 112]) = false) (h1 : (s.toList == [107, 105, 110, 103]) = true) : Calls Try.prog 51 #[.string s] w (PieceIs both false w) := by
  go_enter Try.func51, Try.ntmps51
  go_wp2_with fail
  refine (straight_c _).mono ?_
  rintro e w1 ⟨rfl, rfl⟩
  go_wp2_with fail
  refine (slanted_c _).mono ?_
  rintro e w1 ⟨rfl, rfl⟩
  have r1 : Row (w.alloc (.cells #[.int .i64 (-1), .int .i64 0, .int .i64 0, .int .i64 (-1), .int .i64 0, .int .i64 1, .int .i64 1, .int .i64 0] 89)) (some ⟨w.heap.size, 0, none⟩) (flat straight) := row_new w _ _ rfl
  have r1 := r1.alloc (.cells #[.int .i64 (-1), .int .i64 (-1), .int .i64 (-1), .int .i64 1, .int .i64 1, .int .i64 (-1), .int .i64 1, .int .i64 1] 89)
  have r2 : Row ((w.alloc (.cells #[.int .i64 (-1), .int .i64 0, .int .i64 0, .int .i64 (-1), .int .i64 0, .int .i64 1, .int .i64 1, .int .i64 0] 89)).alloc (.cells #[.int .i64 (-1), .int .i64 (-1), .int .i64 (-1), .int .i64 1, .int .i64 1, .int .i64 (-1), .int .i64 1, .int .i64 1] 89)) (some ⟨w.heap.size + 1, 0, none⟩) (flat slanted) := row_new _ _ _ (by simp)
  go_wp2_with fail
  refine (concat_c (w.heap.size + 1 + 1) (some ⟨w.heap.size, 0, none⟩) (some ⟨w.heap.size + 1, 0, none⟩) 4 4 (flat straight) (flat slanted) _ (by simp) ((World.cell?_alloc_at _ _ _ _ (by simp)).trans rfl) ((World.cell?_alloc_at _ _ _ _ (by simp)).trans rfl) (r1.alloc _) (r2.alloc _) rfl rfl (one_flat _) (one_flat _)).mono ?_
  rintro e w2 ⟨v, rfl, hown, hb⟩
  obtain ⟨g, c, rfl, hrow, hfr⟩ := own_some hown (by decide)
  go_wp2_with fail
  go_ret2
  exact ⟨_, rfl, ⟨_, _, rfl, hrow, by simp at hfr; omega⟩, below_then ((((Below.refl _ _).alloc (Nat.le_refl _) _).alloc (by simp <;> omega) _).alloc (by simp <;> omega) _) (by simp <;> omega) hb⟩

set_option maxHeartbeats 400000 in
theorem piece_knight (s : ByteArray) (w : World) (h0 : (s.toList == [115, 116, 101, 112]) = false) (h1 : (s.toList == [107, 105, 110, 103]) = false) (h2 : (s.toList == [107, 110, 105, 103, 104, 116]) = true) : Calls Try.prog 51 #[.string s] w (PieceIs knights false w) := by
  go_enter Try.func51, Try.ntmps51
  go_wp2_with (go_at_call 70; refine (knight_c _).mono ?_; rintro e w1 ⟨rfl, rfl⟩)
  go_ret2
  exact ⟨_, rfl, ⟨_, _, rfl, row_new _ _ _ rfl, Nat.le_refl _⟩, (Below.refl _ _).alloc (Nat.le_refl _) _⟩

set_option maxHeartbeats 400000 in
theorem piece_rook (s : ByteArray) (w : World) (h0 : (s.toList == [115, 116, 101, 112]) = false) (h1 : (s.toList == [107, 105, 110, 103]) = false) (h2 : (s.toList == [107, 110, 105, 103, 104, 116]) = false) (h3 : (s.toList == [114, 111, 111, 107]) = true) : Calls Try.prog 51 #[.string s] w (PieceIs straight true w) := by
  go_enter Try.func51, Try.ntmps51
  go_wp2_with (go_at_call 67; refine (straight_c _).mono ?_; rintro e w1 ⟨rfl, rfl⟩)
  go_ret2
  exact ⟨_, rfl, ⟨_, _, rfl, row_new _ _ _ rfl, Nat.le_refl _⟩, (Below.refl _ _).alloc (Nat.le_refl _) _⟩

set_option maxHeartbeats 400000 in
theorem piece_bishop (s : ByteArray) (w : World) (h0 : (s.toList == [115, 116, 101, 112]) = false) (h1 : (s.toList == [107, 105, 110, 103]) = false) (h2 : (s.toList == [107, 110, 105, 103, 104, 116]) = false) (h3 : (s.toList == [114, 111, 111, 107]) = false) (h4 : (s.toList == [98, 105, 115, 104, 111, 112]) = true) : Calls Try.prog 51 #[.string s] w (PieceIs slanted true w) := by
  go_enter Try.func51, Try.ntmps51
  go_wp2_with (go_at_call 69; refine (slanted_c _).mono ?_; rintro e w1 ⟨rfl, rfl⟩)
  go_ret2
  exact ⟨_, rfl, ⟨_, _, rfl, row_new _ _ _ rfl, Nat.le_refl _⟩, (Below.refl _ _).alloc (Nat.le_refl _) _⟩

set_option maxHeartbeats 400000 in
theorem piece_queen (s : ByteArray) (w : World) (h0 : (s.toList == [115, 116, 101, 112]) = false) (h1 : (s.toList == [107, 105, 110, 103]) = false) (h2 : (s.toList == [107, 110, 105, 103, 104, 116]) = false) (h3 : (s.toList == [114, 111, 111, 107]) = false) (h4 : (s.toList == [98, 105, 115, 104, 111, 112]) = false) (h5 : (s.toList == [113, 117, 101, 101, 110]) = true) : Calls Try.prog 51 #[.string s] w (PieceIs both true w) := by
  go_enter Try.func51, Try.ntmps51
  go_wp2_with fail
  refine (straight_c _).mono ?_
  rintro e w1 ⟨rfl, rfl⟩
  go_wp2_with fail
  refine (slanted_c _).mono ?_
  rintro e w1 ⟨rfl, rfl⟩
  have r1 : Row (w.alloc (.cells #[.int .i64 (-1), .int .i64 0, .int .i64 0, .int .i64 (-1), .int .i64 0, .int .i64 1, .int .i64 1, .int .i64 0] 89)) (some ⟨w.heap.size, 0, none⟩) (flat straight) := row_new w _ _ rfl
  have r1 := r1.alloc (.cells #[.int .i64 (-1), .int .i64 (-1), .int .i64 (-1), .int .i64 1, .int .i64 1, .int .i64 (-1), .int .i64 1, .int .i64 1] 89)
  have r2 : Row ((w.alloc (.cells #[.int .i64 (-1), .int .i64 0, .int .i64 0, .int .i64 (-1), .int .i64 0, .int .i64 1, .int .i64 1, .int .i64 0] 89)).alloc (.cells #[.int .i64 (-1), .int .i64 (-1), .int .i64 (-1), .int .i64 1, .int .i64 1, .int .i64 (-1), .int .i64 1, .int .i64 1] 89)) (some ⟨w.heap.size + 1, 0, none⟩) (flat slanted) := row_new _ _ _ (by simp)
  go_wp2_with fail
  refine (concat_c (w.heap.size + 1 + 1) (some ⟨w.heap.size, 0, none⟩) (some ⟨w.heap.size + 1, 0, none⟩) 4 4 (flat straight) (flat slanted) _ (by simp) ((World.cell?_alloc_at _ _ _ _ (by simp)).trans rfl) ((World.cell?_alloc_at _ _ _ _ (by simp)).trans rfl) (r1.alloc _) (r2.alloc _) rfl rfl (one_flat _) (one_flat _)).mono ?_
  rintro e w2 ⟨v, rfl, hown, hb⟩
  obtain ⟨g, c, rfl, hrow, hfr⟩ := own_some hown (by decide)
  go_wp2_with fail
  go_ret2
  exact ⟨_, rfl, ⟨_, _, rfl, hrow, by simp at hfr; omega⟩, below_then ((((Below.refl _ _).alloc (Nat.le_refl _) _).alloc (by simp <;> omega) _).alloc (by simp <;> omega) _) (by simp <;> omega) hb⟩

set_option maxHeartbeats 400000 in
theorem piece_none (s : ByteArray) (w : World) (h0 : (s.toList == [115, 116, 101, 112]) = false) (h1 : (s.toList == [107, 105, 110, 103]) = false) (h2 : (s.toList == [107, 110, 105, 103, 104, 116]) = false) (h3 : (s.toList == [114, 111, 111, 107]) = false) (h4 : (s.toList == [98, 105, 115, 104, 111, 112]) = false) (h5 : (s.toList == [113, 117, 101, 101, 110]) = false) : Calls Try.prog 51 #[.string s] w (Plain (.tuple #[.nilIface, .bool false]) w) := by
  go_enter Try.func51, Try.ntmps51
  go_wp2
  go_ret2
  exact ⟨rfl, Below.refl _ _⟩

theorem pieceOf_yes (s : ByteArray) (w : World) {ss : List (Int × Int)} {far : Bool} (h : kindL s.toList = some (ss, far)) : Calls Try.prog 51 #[.string s] w (PieceIs ss far w) := by
  unfold kindL at h
  cases h0 : (s.toList == [115, 116, 101, 112]) with
  | true =>
    simp only [h0, if_true, Option.some.injEq, Prod.mk.injEq] at h
    obtain ⟨rfl, rfl⟩ := h
    exact piece_step s w h0
  | false =>
  cases h1 : (s.toList == [107, 105, 110, 103]) with
  | true =>
    simp only [h0, h1, Bool.false_eq_true, if_false, if_true, Option.some.injEq, Prod.mk.injEq] at h
    obtain ⟨rfl, rfl⟩ := h
    exact piece_king s w h0 h1
  | false =>
  cases h2 : (s.toList == [107, 110, 105, 103, 104, 116]) with
  | true =>
    simp only [h0, h1, h2, Bool.false_eq_true, if_false, if_true, Option.some.injEq, Prod.mk.injEq] at h
    obtain ⟨rfl, rfl⟩ := h
    exact piece_knight s w h0 h1 h2
  | false =>
  cases h3 : (s.toList == [114, 111, 111, 107]) with
  | true =>
    simp only [h0, h1, h2, h3, Bool.false_eq_true, if_false, if_true, Option.some.injEq, Prod.mk.injEq] at h
    obtain ⟨rfl, rfl⟩ := h
    exact piece_rook s w h0 h1 h2 h3
  | false =>
  cases h4 : (s.toList == [98, 105, 115, 104, 111, 112]) with
  | true =>
    simp only [h0, h1, h2, h3, h4, Bool.false_eq_true, if_false, if_true, Option.some.injEq, Prod.mk.injEq] at h
    obtain ⟨rfl, rfl⟩ := h
    exact piece_bishop s w h0 h1 h2 h3 h4
  | false =>
  cases h5 : (s.toList == [113, 117, 101, 101, 110]) with
  | true =>
    simp only [h0, h1, h2, h3, h4, h5, Bool.false_eq_true, if_false, if_true, Option.some.injEq, Prod.mk.injEq] at h
    obtain ⟨rfl, rfl⟩ := h
    exact piece_queen s w h0 h1 h2 h3 h4 h5
  | false =>
  simp [h0, h1, h2, h3, h4, h5] at h
theorem pieceOf_no (s : ByteArray) (w : World) (h : kindL s.toList = none) : Calls Try.prog 51 #[.string s] w (Plain (.tuple #[.nilIface, .bool false]) w) := by
  unfold kindL at h
  cases h0 : (s.toList == [115, 116, 101, 112]) with
  | true => simp [h0] at h
  | false =>
  cases h1 : (s.toList == [107, 105, 110, 103]) with
  | true => simp [h0, h1] at h
  | false =>
  cases h2 : (s.toList == [107, 110, 105, 103, 104, 116]) with
  | true => simp [h0, h1, h2] at h
  | false =>
  cases h3 : (s.toList == [114, 111, 111, 107]) with
  | true => simp [h0, h1, h2, h3] at h
  | false =>
  cases h4 : (s.toList == [98, 105, 115, 104, 111, 112]) with
  | true => simp [h0, h1, h2, h3, h4] at h
  | false =>
  cases h5 : (s.toList == [113, 117, 101, 101, 110]) with
  | true => simp [h0, h1, h2, h3, h4, h5] at h
  | false =>
  exact piece_none s w h0 h1 h2 h3 h4 h5
end Go.Proofs.Ytoapmmmmdfmaeac

/-
  Boards: hasAscending, setUp; the methods of pieces.
-/
namespace Go.Proofs.Ytoapmmmmdfmaeac
open Go.RowKit
set_option linter.unusedVariables false

theorem lst_c (A : Option Addr) (n c : Nat) (w : World) : Calls Try.prog 116 #[.agg #[.slice A n c]] w (Plain (.slice A n c) w) := by
  go_enter Try.func116, Try.ntmps116
  go_wp2
  go_ret
  exact ⟨rfl, (Below.refl _ _).alloc (Nat.le_refl _) _⟩
theorem sst_c (A : Option Addr) (n c : Nat) (w : World) : Calls Try.prog 118 #[.agg #[.slice A n c]] w (Plain (.slice A n c) w) := by
  go_enter Try.func118, Try.ntmps118
  go_wp2
  go_ret
  exact ⟨rfl, (Below.refl _ _).alloc (Nat.le_refl _) _⟩
theorem lfa_c (A : Option Addr) (n c : Nat) (w : World) : Calls Try.prog 115 #[.agg #[.slice A n c]] w (Plain (.bool false) w) := by
  go_enter Try.func115, Try.ntmps115
  go_wp2
  go_ret
  exact ⟨rfl, (Below.refl _ _).alloc (Nat.le_refl _) _⟩
theorem sfa_c (A : Option Addr) (n c : Nat) (w : World) : Calls Try.prog 117 #[.agg #[.slice A n c]] w (Plain (.bool true) w) := by
  go_enter Try.func117, Try.ntmps117
  go_wp2
  go_ret
  exact ⟨rfl, (Below.refl _ _).alloc (Nat.le_refl _) _⟩

theorem pieceEnd {w : World} {g : Nat} {t : TypeId} {x y u v : Value} (h : Box w g t #[x, y]) :
    w.cell? ⟨g, 0, none⟩ = some x ∧ w.frozen? ⟨g, 0, none⟩ = false ∧ (w.setCell ⟨g, 0, none⟩ u).cell? ⟨g, 0, none⟩ = some u ∧ (w.setCell ⟨g, 0, none⟩ u).cell? ⟨g, 1, none⟩ = some y ∧ (w.setCell ⟨g, 0, none⟩ u).frozen? ⟨g, 1, none⟩ = false ∧
    ((w.setCell ⟨g, 0, none⟩ u).setCell ⟨g, 1, none⟩ v).cell? ⟨g, 0, none⟩ = some u ∧ ((w.setCell ⟨g, 0, none⟩ u).setCell ⟨g, 1, none⟩ v).cell? ⟨g, 1, none⟩ = some v :=
  ⟨h.cell 0, h.free 0, (h.set 0 u).cell 0, (h.set 0 u).cell 1, (h.set 0 u).free 1, ((h.set 0 u).set 1 v).cell 0, ((h.set 0 u).set 1 v).cell 1⟩

set_option maxHeartbeats 400000 in
theorem setUp_yes (bc br : Int) (s : ByteArray) (w : World) {ss : List (Int × Int)} {far : Bool} (hk : kindL s.toList = some (ss, far)) (h1 : 1 ≤ bc) (h2 : bc ≤ 5) (h3 : 1 ≤ br) (h4 : br ≤ 5) :
    Calls Try.prog 25 #[.int .i64 bc, .int .i64 br, .string s] w fun e w' => ∃ pv, e = .returned (.tuple #[boardV bc br, pv, .bool true]) ∧ IsPiece w' w.heap.size pv ss far ∧ Below w.heap.size w w' := by
  have Hk := hide hk
  clear hk
  have box0 := Box.new w 52 #[.int .i64 0, .int .i64 0]
  go_enter Try.func25, Try.ntmps25
  go_wp2_with fail
  refine (boardOf_yes bc br _ h1 h2 h3 h4).mono ?_
  rintro e w1 ⟨rfl, hb1⟩
  have box1 := (box0.then hb1).alloc (.cells #[.int .i64 bc, .int .i64 br] 52)
  have z1 : w.heap.size < w1.heap.size := by have := hb1.size; simp at this; omega
  go_wp2_with fail
  refine (pieceOf_yes s _ Hk.out).mono ?_
  rintro e w2 ⟨pv, rfl, hp, hb2⟩
  obtain ⟨c1, c2, c3, c4, c5, c6, c7⟩ := pieceEnd (u := .int .i64 bc) (v := .int .i64 br) (box1.then hb2)
  obtain ⟨d1, d2, _⟩ := pieceEnd (u := .int .i64 bc) (v := .int .i64 br) ((Box.new w1 52 #[.int .i64 bc, .int .i64 br]).then hb2)
  have d3 := ((Box.new w1 52 #[.int .i64 bc, .int .i64 br]).then hb2).cell 1
  have z2 : w1.heap.size < w2.heap.size := by have := hb2.size; simp at this; omega
  go_wp2_with fail
  refine bodyPost_ret (v := .tuple #[boardV bc br, pv, .bool true]) (by simp [results, Try.results25, go_sem, c6, c7]) rfl ⟨pv, rfl, ?_, ?_⟩
  · exact ((hp.set_low (by simp; omega) _).set_low (by simp; omega) _).mono (by simp; omega)
  · exact ((below_then (((below_then ((Below.refl _ _).alloc (Nat.le_refl _) _) (by simp) hb1).alloc (by omega) _)) (by simp; omega) hb2).setCell (Nat.le_refl _) _).setCell (Nat.le_refl _) _

def NotSet (w : World) (e : Ending) (w' : World) : Prop := ∃ x y pv, e = .returned (.tuple #[boardV x y, pv, .bool false]) ∧ Below w.heap.size w w'
set_option maxHeartbeats 400000 in
theorem setUp_no1 (bc br : Int) (s : ByteArray) (w : World) (hk : kindL s.toList = none) (h1 : 1 ≤ bc) (h2 : bc ≤ 5) (h3 : 1 ≤ br) (h4 : br ≤ 5) : Calls Try.prog 25 #[.int .i64 bc, .int .i64 br, .string s] w (NotSet w) := by
  have Hk := hide hk
  clear hk
  have box0 := Box.new w 52 #[.int .i64 0, .int .i64 0]
  go_enter Try.func25, Try.ntmps25
  go_wp2_with fail
  refine (boardOf_yes bc br _ h1 h2 h3 h4).mono ?_
  rintro e w1 ⟨rfl, hb1⟩
  have box1 := (box0.then hb1).alloc (.cells #[.int .i64 bc, .int .i64 br] 52)
  have z1 : w.heap.size < w1.heap.size := by have := hb1.size; simp at this; omega
  go_wp2_with fail
  refine (pieceOf_no s _ Hk.out).mono ?_
  rintro e w2 ⟨rfl, hb2⟩
  obtain ⟨c1, c2, c3, c4, c5, c6, c7⟩ := pieceEnd (u := .int .i64 bc) (v := .int .i64 br) (box1.then hb2)
  obtain ⟨d1, d2, _⟩ := pieceEnd (u := .int .i64 bc) (v := .int .i64 br) ((Box.new w1 52 #[.int .i64 bc, .int .i64 br]).then hb2)
  have d3 := ((Box.new w1 52 #[.int .i64 bc, .int .i64 br]).then hb2).cell 1
  have z2 : w1.heap.size < w2.heap.size := by have := hb2.size; simp at this; omega
  go_wp2_with fail
  refine bodyPost_ret (v := .tuple #[boardV bc br, .nilIface, .bool false]) (by simp [results, Try.results25, go_sem, c6, c7]) rfl ⟨_, _, _, rfl, ?_⟩
  exact ((below_then (((below_then ((Below.refl _ _).alloc (Nat.le_refl _) _) (by simp) hb1).alloc (by omega) _)) (by simp; omega) hb2).setCell (Nat.le_refl _) _).setCell (Nat.le_refl _) _
set_option maxHeartbeats 400000 in
theorem setUp_no2 (bc br : Int) (s : ByteArray) (w : World) (hn : ¬ (1 ≤ bc ∧ bc ≤ 5 ∧ 1 ≤ br ∧ br ≤ 5)) : Calls Try.prog 25 #[.int .i64 bc, .int .i64 br, .string s] w (NotSet w) := by
  have hp : ∀ w1, Calls Try.prog 51 #[.string s] w1 fun e w' => ∃ pv b, e = .returned (.tuple #[pv, .bool b]) ∧ Below w1.heap.size w1 w' := fun w1 => by
    cases hk : kindL s.toList with
    | none => exact (pieceOf_no s w1 hk).mono fun _ _ ⟨he, hb⟩ => ⟨_, _, he, hb⟩
    | some p => exact (pieceOf_yes s w1 hk).mono fun _ _ ⟨pv, he, _, hb⟩ => ⟨_, _, he, hb⟩
  have HP := hide hp
  clear hp
  have box0 := Box.new w 52 #[.int .i64 0, .int .i64 0]
  go_enter Try.func25, Try.ntmps25
  go_wp2_with fail
  refine (boardOf_no bc br _ hn).mono ?_
  rintro e w1 ⟨rfl, hb1⟩
  clear hn
  have box1 := (box0.then hb1).alloc (.cells #[.int .i64 0, .int .i64 0] 52)
  have z1 : w.heap.size < w1.heap.size := by have := hb1.size; simp at this; omega
  go_wp2_with fail
  refine (HP.out _).mono ?_
  rintro e w2 ⟨pv, b, rfl, hb2⟩
  obtain ⟨c1, c2, c3, c4, c5, c6, c7⟩ := pieceEnd (u := .int .i64 0) (v := .int .i64 0) (box1.then hb2)
  obtain ⟨d1, d2, _⟩ := pieceEnd (u := .int .i64 0) (v := .int .i64 0) ((Box.new w1 52 #[.int .i64 0, .int .i64 0]).then hb2)
  have d3 := ((Box.new w1 52 #[.int .i64 0, .int .i64 0]).then hb2).cell 1
  have z2 : w1.heap.size < w2.heap.size := by have := hb2.size; simp at this; omega
  go_wp2_with fail
  refine bodyPost_ret (v := .tuple #[boardV 0 0, pv, .bool false]) (by simp [results, Try.results25, go_sem, c6, c7]) rfl ⟨_, _, _, rfl, ?_⟩
  exact ((below_then (((below_then ((Below.refl _ _).alloc (Nat.le_refl _) _) (by simp) hb1).alloc (by omega) _)) (by simp; omega) hb2).setCell (Nat.le_refl _) _).setCell (Nat.le_refl _) _
theorem setUp_no (bc br : Int) (s : ByteArray) (w : World) (h : ¬ ((1 ≤ bc ∧ bc ≤ 5 ∧ 1 ≤ br ∧ br ≤ 5) ∧ (kindL s.toList).isSome = true)) : Calls Try.prog 25 #[.int .i64 bc, .int .i64 br, .string s] w (NotSet w) := by
  by_cases hn : 1 ≤ bc ∧ bc ≤ 5 ∧ 1 ≤ br ∧ br ≤ 5
  · obtain ⟨h1, h2, h3, h4⟩ := hn
    exact setUp_no1 bc br s w (by cases hk : kindL s.toList with | none => rfl | some p => exact absurd ⟨⟨h1, h2, h3, h4⟩, by simp [hk]⟩ h) h1 h2 h3 h4
  · exact setUp_no2 bc br s w hn
end Go.Proofs.Ytoapmmmmdfmaeac

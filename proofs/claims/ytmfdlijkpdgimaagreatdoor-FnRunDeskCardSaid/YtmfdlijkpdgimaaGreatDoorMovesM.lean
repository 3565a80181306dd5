/-
  MoveC, MoveE, MoveA, MoveB, MoveD, Sorted, MoveF, MoveG, MoveH in one text.
-/
import Derived.Test.YtmfdlijkpdgimaaGreatDoorBase
import Derived.Test.YtmfdlijkpdgimaaGreatDoorProg
import Derived.Test.YtmfdlijkpdgimaaGreatDoorPureM
import Derived.RegionTactic
import Derived.Deep.QuietTactic
import Derived.BigQuiet
import Derived.ProofKit
import Derived.Handy
import Derived.Test.YtmfdlijkpdgimaaGreatDoorShelf
import Derived.Deep.LoopGhost
/-
  Boards: size, has, onward, boardOf.
-/
namespace Go.Proofs.YtmfdlijkpdgimaaGreatDoor
open Go.RowKit
set_option linter.unusedVariables false

abbrev boardV (bc br : Int) : Value := .agg #[.int .i64 bc, .int .i64 br]

set_option maxHeartbeats 400000 in
theorem size_c (bc br : Int) (w : World) (h1 : 1 ≤ bc) (h2 : bc ≤ 5) (h3 : 1 ≤ br) (h4 : br ≤ 5) : Calls Tryz.prog 84 #[boardV bc br] w (Plain (.int .i64 (bc * br)) w) := by
  obtain ⟨e1, e2⟩ := mul_bd h1 h2 h3 h4
  go_enter Tryz.func84, Tryz.ntmps84
  go_wp2
  go_ret
  exact ⟨rfl, (Below.refl _ _).alloc (Nat.le_refl _) _⟩
set_option maxHeartbeats 400000 in
theorem has_c (bc br cell : Int) (w : World) (h1 : 1 ≤ bc) (h2 : bc ≤ 5) (h3 : 1 ≤ br) (h4 : br ≤ 5) : Calls Tryz.prog 93 #[boardV bc br, .int .i64 cell] w (Plain (.bool (decide (0 ≤ cell ∧ cell < bc * br))) w) := by
  by_cases hc : 0 ≤ cell
  · go_enter Tryz.func93, Tryz.ntmps93
    go_wp2_with fail
    refine (size_c bc br _ h1 h2 h3 h4).mono ?_
    rintro e w1 ⟨rfl, hb⟩
    go_wp2
    go_ret
    exact ⟨ret_bool (by simp; omega), below_then ((Below.refl _ _).alloc (Nat.le_refl _) _) (by simp) hb⟩
  · go_enter Tryz.func93, Tryz.ntmps93
    go_wp2
    go_ret
    exact ⟨ret_bool (by simp; omega), (Below.refl _ _).alloc (Nat.le_refl _) _⟩
set_option maxHeartbeats 400000 in
theorem onward_yes (bc br cell dr dc : Int) (w : World) (h1 : 1 ≤ bc) (h2 : bc ≤ 5) (h3 : 1 ≤ br) (h4 : br ≤ 5) (g1 : 0 ≤ cell) (g2 : cell < 25) (g3 : -2 ≤ dr) (g4 : dr ≤ 2) (g5 : -2 ≤ dc) (g6 : dc ≤ 2)
    (y1 : 0 ≤ cell / bc + dr) (y2 : cell / bc + dr < br) (y3 : 0 ≤ cell % bc + dc) (y4 : cell % bc + dc < bc) :
    Calls Tryz.prog 139 #[boardV bc br, .int .i64 cell, .agg #[.int .i64 dr, .int .i64 dc]] w (Plain (.tuple #[.int .i64 ((cell / bc + dr) * bc + (cell % bc + dc)), .bool true]) w) := by
  obtain ⟨⟨q1, q2⟩, r1, r2⟩ := quo_bd h1 h2 g1 g2
  obtain ⟨⟨m1, m2⟩, m3, m4⟩ := row_bd h1 h2 h3 h4 y1 y2 y3 y4
  go_enter Tryz.func139, Tryz.ntmps139
  go_wp2_with fail
  go_quiet (fail)
  all_goals go_wp2
  all_goals go_ret2
  exact ⟨rfl, below_drewN (((Below.refl _ _).alloc (Nat.le_refl _) _).alloc (by simp) _) _⟩
set_option maxHeartbeats 400000 in
theorem onward_no (bc br cell dr dc : Int) (w : World) (h1 : 1 ≤ bc) (h2 : bc ≤ 5) (h3 : 1 ≤ br) (h4 : br ≤ 5) (g1 : 0 ≤ cell) (g2 : cell < 25) (g3 : -2 ≤ dr) (g4 : dr ≤ 2) (g5 : -2 ≤ dc) (g6 : dc ≤ 2)
    (y : ¬ (0 ≤ cell / bc + dr ∧ cell / bc + dr < br ∧ 0 ≤ cell % bc + dc ∧ cell % bc + dc < bc)) :
    Calls Tryz.prog 139 #[boardV bc br, .int .i64 cell, .agg #[.int .i64 dr, .int .i64 dc]] w (Plain (.tuple #[.int .i64 0, .bool false]) w) := by
  obtain ⟨⟨q1, q2⟩, r1, r2⟩ := quo_bd h1 h2 g1 g2
  have : cell / bc + dr < 0 ∨ (0 ≤ cell / bc + dr ∧ br ≤ cell / bc + dr) ∨ (0 ≤ cell / bc + dr ∧ cell / bc + dr < br ∧ cell % bc + dc < 0) ∨ (0 ≤ cell / bc + dr ∧ cell / bc + dr < br ∧ 0 ≤ cell % bc + dc ∧ bc ≤ cell % bc + dc) := by omega
  clear y
  rcases this with y | ⟨y, y'⟩ | ⟨y, y', y''⟩ | ⟨y, y', y'', y3⟩
  all_goals
    go_enter Tryz.func139, Tryz.ntmps139
    go_wp2_with fail
    go_quiet (fail)
    go_wp2
    go_ret2
    exact ⟨rfl, below_drewN (((Below.refl _ _).alloc (Nat.le_refl _) _).alloc (by simp) _) _⟩
set_option maxHeartbeats 400000 in
theorem boardOf_yes (bc br : Int) (w : World) (h1 : 1 ≤ bc) (h2 : bc ≤ 5) (h3 : 1 ≤ br) (h4 : br ≤ 5) : Calls Tryz.prog 76 #[.int .i64 bc, .int .i64 br] w (Plain (.tuple #[boardV bc br, .bool true]) w) := by
  go_enter Tryz.func76, Tryz.ntmps76
  go_wp2
  go_returns
  exact ⟨rfl, (Below.refl _ _).alloc (Nat.le_refl _) _⟩
set_option maxHeartbeats 400000 in
theorem boardOf_no (bc br : Int) (w : World) (h : ¬ (1 ≤ bc ∧ bc ≤ 5 ∧ 1 ≤ br ∧ br ≤ 5)) : Calls Tryz.prog 76 #[.int .i64 bc, .int .i64 br] w (Plain (.tuple #[boardV 0 0, .bool false]) w) := by
  have : bc < 1 ∨ (¬ bc < 1 ∧ 5 < bc) ∨ (¬ bc < 1 ∧ ¬ 5 < bc ∧ br < 1) ∨ (¬ bc < 1 ∧ ¬ 5 < bc ∧ ¬ br < 1 ∧ 5 < br) := by omega
  clear h
  rcases this with y | ⟨y, y'⟩ | ⟨y, y', y''⟩ | ⟨y, y', y'', y3⟩
  all_goals
    go_enter Tryz.func76, Tryz.ntmps76
    go_wp2
    go_returns
    exact ⟨rfl, (Below.refl _ _).alloc (Nat.le_refl _) _⟩
end Go.Proofs.YtmfdlijkpdgimaaGreatDoor

/-
  Boards: hasAscending.
-/
namespace Go.Proofs.YtmfdlijkpdgimaaGreatDoor
open Go.RowKit
set_option linter.unusedVariables false

theorem has_yes (bc br cell : Int) (w : World) (h1 : 1 ≤ bc) (h2 : bc ≤ 5) (h3 : 1 ≤ br) (h4 : br ≤ 5) (h5 : 0 ≤ cell) (h6 : cell < bc * br) : Calls Tryz.prog 93 #[boardV bc br, .int .i64 cell] w (Plain (.bool true) w) := by
  have := has_c bc br cell w h1 h2 h3 h4
  rwa [decide_eq_true ⟨h5, h6⟩] at this
theorem has_no (bc br cell : Int) (w : World) (h1 : 1 ≤ bc) (h2 : bc ≤ 5) (h3 : 1 ≤ br) (h4 : br ≤ 5) (h5 : ¬ (0 ≤ cell ∧ cell < bc * br)) : Calls Tryz.prog 93 #[boardV bc br, .int .i64 cell] w (Plain (.bool false) w) := by
  have := has_c bc br cell w h1 h2 h3 h4
  rwa [decide_eq_false h5] at this

set_option maxHeartbeats 400000 in
theorem asc_c (bc br : Int) (A : Option Addr) (c : Nat) (l : List Int) (w : World) (h1 : 1 ≤ bc) (h2 : bc ≤ 5) (h3 : 1 ≤ br) (h4 : br ≤ 5) (hr : Row w A (ints l)) (hm : l.length ≤ maxLen) :
    Calls Tryz.prog 119 #[boardV bc br, .slice A l.length c] w (Plain (.bool (decide (AscTo (bc * br) l l.length))) w) := by
  unfold maxLen at hm
  go_enter Tryz.func119, Tryz.ntmps119
  go_wp2
  go_loopw [9] (fun i wr => ∃ k : Nat, k ≤ l.length ∧ i = .int .i64 k ∧ AscTo (bc * br) l k ∧ Below w.heap.size w wr ∧ Box wr w.heap.size 40 #[.int .i64 bc, .int .i64 br]) (fun i _ => l.length - (intOf i).toNat)
  case atStart => exact ⟨0, Nat.zero_le _, rfl, AscTo.zero _ _, (Below.refl _ _).alloc (Nat.le_refl _) _, Box.new _ _ _⟩
  case round =>
    obtain ⟨k, hk, rfl, ha, hb, hbox⟩ := hrel
    obtain ⟨wo, rfl⟩ : ∃ wo : World, wo = wr := ⟨_, rfl⟩
    have z := hb.size
    have c0 := hbox.cell 0
    have c1 := hbox.cell 1
    by_cases hlt : k < l.length
    · obtain ⟨ad, rfl, hca⟩ := (hr.below hb).int hlt
      obtain ⟨x, hx⟩ : ∃ x, l[k]?.getD 0 = x := ⟨_, rfl⟩
      rw [hx] at hca
      have X := hide hx
      clear hx
      by_cases hin : 0 ≤ x ∧ x < bc * br
      · have hq : ∀ w1, Calls Tryz.prog 93 #[boardV bc br, .int .i64 x] w1 (Plain (.bool true) w1) := fun w1 => has_yes bc br x w1 h1 h2 h3 h4 hin.1 hin.2
        have HQ := hide hq
        obtain ⟨i1, i2⟩ := hin
        clear hq
        by_cases hp : 0 < k
        · obtain ⟨ad', e, hcb⟩ := (hr.below hb).int (k := k - 1) (by omega)
          obtain rfl : ad = ad' := by injection e
          obtain ⟨y, hy⟩ : ∃ y, l[k - 1]?.getD 0 = y := ⟨_, rfl⟩
          rw [hy] at hcb
          have Y := hide hy
          clear hy e
          by_cases hlt2 : y < x
          · go_wp2_with fail
            refine (HQ.out _).mono ?_
            rintro e w1 ⟨rfl, hb1⟩
            have hcb1 := hb1.cell (World.block_lt_of_cell? _ _ hcb)
            rw [hcb] at hcb1
            go_wp2_with fail
            exact ⟨⟨k + 1, hlt, rfl, ha.succ (by rw [X.out]; exact i1) (by rw [X.out]; exact i2) (by rw [X.out, Y.out]; exact fun _ => hlt2), below_then hb z hb1, hbox.then hb1⟩, by simp [intOf]; omega⟩
          · go_wp2_with fail
            refine (HQ.out _).mono ?_
            rintro e w1 ⟨rfl, hb1⟩
            have hcb1 := hb1.cell (World.block_lt_of_cell? _ _ hcb)
            rw [hcb] at hcb1
            go_wp2_with fail
            go_ret
            exact ⟨ret_bool (by symm; simp only [decide_eq_false_iff_not]; exact AscTo.not hlt (.inr ⟨hp, by rw [X.out, Y.out]; omega⟩)), below_then hb z hb1⟩
        · go_wp2_with fail
          refine (HQ.out _).mono ?_
          rintro e w1 ⟨rfl, hb1⟩
          go_wp2_with fail
          exact ⟨⟨k + 1, hlt, rfl, ha.succ (by rw [X.out]; exact i1) (by rw [X.out]; exact i2) (by omega), below_then hb z hb1, hbox.then hb1⟩, by simp [intOf]; omega⟩
      · go_wp2_with fail
        refine (has_no bc br x _ h1 h2 h3 h4 hin).mono ?_
        rintro e w1 ⟨rfl, hb1⟩
        go_wp2_with fail
        go_ret
        exact ⟨ret_bool (by symm; simp only [decide_eq_false_iff_not]; exact AscTo.not hlt (.inl (by rw [X.out]; exact hin))), below_then hb z hb1⟩
    · have hk2 : Hid (k = l.length) := hide (by omega)
      go_wp2
      go_ret
      exact ⟨ret_bool (by symm; simp only [decide_eq_true_eq]; rw [← hk2.out]; exact ha), hb⟩
end Go.Proofs.YtmfdlijkpdgimaaGreatDoor

/-
  Steps of pieces: the lists that the program lays, Grow and Concat over them, and pieceOf.
-/
namespace Go.Proofs.YtmfdlijkpdgimaaGreatDoor
open Go.RowKit

set_option maxHeartbeats 400000 in
theorem straight_c (w : World) : Calls Tryz.prog 114 #[] w fun e w' => e = .returned (.slice (some ⟨w.heap.size, 0, none⟩) 4 4) ∧
    w' = w.alloc (.cells #[.int .i64 (-1), .int .i64 0, .int .i64 0, .int .i64 (-1), .int .i64 0, .int .i64 1, .int .i64 1, .int .i64 0] 181) := by
  go_enter Tryz.func114, Tryz.ntmps114
  go_wp2
  go_ret
  exact ⟨rfl, rfl⟩
set_option maxHeartbeats 400000 in
theorem slanted_c (w : World) : Calls Tryz.prog 116 #[] w fun e w' => e = .returned (.slice (some ⟨w.heap.size, 0, none⟩) 4 4) ∧
    w' = w.alloc (.cells #[.int .i64 (-1), .int .i64 (-1), .int .i64 (-1), .int .i64 1, .int .i64 1, .int .i64 (-1), .int .i64 1, .int .i64 1] 181) := by
  go_enter Tryz.func116, Tryz.ntmps116
  go_wp2
  go_ret
  exact ⟨rfl, rfl⟩
set_option maxHeartbeats 400000 in
theorem knight_c (w : World) : Calls Tryz.prog 117 #[] w fun e w' => e = .returned (.slice (some ⟨w.heap.size, 0, none⟩) 8 8) ∧
    w' = w.alloc (.cells #[.int .i64 (-2), .int .i64 (-1), .int .i64 (-2), .int .i64 1, .int .i64 (-1), .int .i64 (-2), .int .i64 (-1), .int .i64 2, .int .i64 1, .int .i64 (-2), .int .i64 1, .int .i64 2, .int .i64 2, .int .i64 (-1), .int .i64 2, .int .i64 1] 181) := by
  go_enter Tryz.func117, Tryz.ntmps117
  go_wp2
  go_ret
  exact ⟨rfl, rfl⟩

theorem elem_step : Elem Tryz.prog 181 2 16 := Elem.of (z := .agg #[.int .i64 0, .int .i64 0]) (by kernel_rfl) rfl (by omega)

set_option maxHeartbeats 400000 in
theorem grow_c (w : World) : Calls Tryz.prog 144 #[.slice none 0 0, .int .i64 8] w (Owns 181 2 0 [] w) := by
  go_enter Tryz.func144, Tryz.ntmps144
  go_wp2
  go_ret
  refine ⟨_, rfl, ?_, ((Below.refl _ _).alloc (Nat.le_refl _) _).drew⟩
  exact World.ownsRow_made w _ (grownCap w 8 0 181) (Nat.le_refl _) (grownCap_le_maxLen w 8 0 181 (by decide)) (by
    have := grownCap_ge w 8 0 181
    show (Builtin.zeroCells #[Value.int IntKind.i64 0, Value.int IntKind.i64 0] 8 ++ Builtin.zeroCells #[Value.int IntKind.i64 0, Value.int IntKind.i64 0] (grownCap w 8 0 181 - 8)).size = _
    rw [Array.size_append, size_zeroCells, size_zeroCells]; simp; omega)

set_option maxHeartbeats 1000000 in
set_option maxRecDepth 100000 in
theorem concat_c (g : Nat) (A C : Option Addr) (ca cc : Nat) (xs ys : List Value) (w : World) (hb : g < w.heap.size) (h0 : w.cell? ⟨g, 0, none⟩ = some (.slice A 4 ca)) (h1 : w.cell? ⟨g, 1, none⟩ = some (.slice C 4 cc))
    (hx : Row w A xs) (hy : Row w C ys) (lx : xs.length = 8) (ly : ys.length = 8) (ox : ∀ u ∈ xs, u.oneCell' = true) (oy : ∀ u ∈ ys, u.oneCell' = true) :
    Calls Tryz.prog 115 #[.slice (some ⟨g, 0, none⟩) 2 2] w (Owns 181 2 8 (xs ++ ys) w) := by
  have Lx := hide lx
  have Ly := hide ly
  have Ox := hide ox
  have Oy := hide oy
  clear lx ly ox oy
  go_enter Tryz.func115, Tryz.ntmps115
  go_wp2_with fail
  refine wp_loop_rounds 3 ?_
  rw [rounds_succ]
  go_wp2_with fail
  rw [rounds_succ]
  go_wp2_with fail
  rw [rounds_succ]
  go_wp2_with fail
  refine (grow_c _).mono ?_
  rintro e w1 ⟨v1, rfl, hown1, hb1⟩
  have ha1 := (hb1.cell (p := ⟨g, 0, none⟩) hb).trans h0
  have hx1 := hx.below hb1
  have hz1 := hb1.size
  go_wp2_with fail
  refine wp_loop_rounds 3 ?_
  rw [rounds_succ]
  go_wp2_with ((at_builtin; refine put_own rfl (.tmp 31) (.tmp 32) rfl Tryz.underlying175 elem_step rfl hown1 rfl (by rw [Lx.out]) hx1 Ox.out (by omega) (by omega) hz1 ?_; intro v2 w2 hown2 hg2 ho2))
  simp only [Nat.zero_add, List.nil_append] at hown2
  have hb2 := below_grown hb1 hz1 hown1 (Nat.le_refl _) hg2
  have hc2 := (hb2.cell (p := ⟨g, 1, none⟩) hb).trans h1
  have hy2 := hy.below hb2
  have hz2 := hb2.size
  clear ha1 hx1 ho2
  rw [rounds_succ]
  go_wp2_with ((at_builtin; refine put_own rfl (.tmp 31) (.tmp 32) rfl Tryz.underlying175 elem_step rfl hown2 rfl (by rw [Ly.out]) hy2 Oy.out (by omega) (by omega) hz2 ?_; intro v3 w3 hown3 hg3 ho3))
  clear ho3 hc2
  rw [rounds_succ]
  go_wp2_with fail
  go_ret
  exact ⟨v3, rfl, hown3, below_grown hb2 hz2 hown2 (Nat.le_refl _) hg3⟩
end Go.Proofs.YtmfdlijkpdgimaaGreatDoor

/-
  pieceOf: the piece of a kind.
-/
namespace Go.Proofs.YtmfdlijkpdgimaaGreatDoor
open Go.RowKit

theorem from_new {n B : Nat} (h : B ≤ n) : From B (some ⟨n, 0, none⟩) := by rintro _ ⟨rfl⟩; exact h
/-- A piece of these steps: a leaper, or a slider; its steps lie in block B or behind it. -/
def IsPiece (w : World) (B : Nat) (pv : Value) (ss : List (Int × Int)) (far : Bool) : Prop := ∃ g c, pv = .iface (if far then 182 else 178) (.agg #[.slice (some ⟨g, 0, none⟩) ss.length c]) ∧ Row w (some ⟨g, 0, none⟩) (flat ss) ∧ B ≤ g
def PieceIs (ss : List (Int × Int)) (far : Bool) (w : World) (e : Ending) (w' : World) : Prop := ∃ pv, e = .returned (.tuple #[pv, .bool true]) ∧ IsPiece w' w.heap.size pv ss far ∧ Below w.heap.size w w'
theorem IsPiece.then {w w' : World} {B : Nat} {pv : Value} {ss : List (Int × Int)} {far : Bool} (h : IsPiece w B pv ss far) (hb : Below w.heap.size w w') : IsPiece w' B pv ss far := by
  obtain ⟨A, c, e, hr, hf⟩ := h
  exact ⟨A, c, e, hr.below hb, hf⟩
theorem IsPiece.mono {w : World} {B B' : Nat} {pv : Value} {ss : List (Int × Int)} {far : Bool} (h : IsPiece w B pv ss far) (hb : B' ≤ B) : IsPiece w B' pv ss far := by
  obtain ⟨A, c, e, hr, hf⟩ := h
  exact ⟨A, c, e, hr, Nat.le_trans hb hf⟩
theorem IsPiece.set_low {w : World} {B : Nat} {pv : Value} {ss : List (Int × Int)} {far : Bool} (h : IsPiece w B pv ss far) {p : Addr} (hp : p.block < B) (u : Value) : IsPiece (w.setCell p u) B pv ss far := by
  obtain ⟨A, c, e, hr, hf⟩ := h
  exact ⟨A, c, e, hr.set_low (from_new hf) hp u, hf⟩
/-- What the call owns, where there is an element. -/
theorem own_some {w : World} {base : Nat} {e : TypeId} {size n : Nat} {v : Value} {cs : List Value} (h : w.ownsRow base e size v n cs) (hn : 0 < n) : ∃ g c, v = .slice (some ⟨g, 0, none⟩) n c ∧ Row w (some ⟨g, 0, none⟩) cs ∧ base ≤ g := by
  obtain ⟨A, c, rfl, _, _, hrow, hfr⟩ := own_row h
  rcases h.2 with ⟨_, rfl⟩ | ⟨g, cap, cur, e, hb, _⟩
  · omega
  · injection e with e1 e2 e3
    subst e1
    exact ⟨g, c, rfl, hrow, hb⟩
theorem one_flat (ss : List (Int × Int)) : ∀ u ∈ flat ss, u.oneCell' = true := by
  intro u hu
  simp only [flat, List.mem_flatMap, List.mem_cons, List.not_mem_nil, or_false] at hu
  obtain ⟨p, _, rfl | rfl⟩ := hu <;> rfl

set_option maxHeartbeats 400000 in
theorem piece_step (s : ByteArray) (w : World) (h0 : (s.toList == [115, 116, 101, 112]) = true) : Calls Tryz.prog 90 #[.string s] w (PieceIs straight false w) := by
  go_enter Tryz.func90, Tryz.ntmps90
  go_wp2_with (go_at_call 114; refine (straight_c _).mono ?_; rintro e w1 ⟨rfl, rfl⟩)
  go_ret2
  exact ⟨_, rfl, ⟨_, _, rfl, row_new _ _ _ rfl, Nat.le_refl _⟩, (Below.refl _ _).alloc (Nat.le_refl _) _⟩

set_option maxHeartbeats 400000 in
theorem piece_king (s : ByteArray) (w : World) (h0 : (s.toList == [115, 116, 101, 112]) = false) (h1 : (s.toList == [107, 105, 110, 103]) = true) : Calls Tryz.prog 90 #[.string s] w (PieceIs both false w) := by
  go_enter Tryz.func90, Tryz.ntmps90
  go_wp2_with fail
  refine (straight_c _).mono ?_
  rintro e w1 ⟨rfl, rfl⟩
  go_wp2_with fail
  refine (slanted_c _).mono ?_
  rintro e w1 ⟨rfl, rfl⟩
  have r1 : Row (w.alloc (.cells #[.int .i64 (-1), .int .i64 0, .int .i64 0, .int .i64 (-1), .int .i64 0, .int .i64 1, .int .i64 1, .int .i64 0] 181)) (some ⟨w.heap.size, 0, none⟩) (flat straight) := row_new w _ _ rfl
  have r1 := r1.alloc (.cells #[.int .i64 (-1), .int .i64 (-1), .int .i64 (-1), .int .i64 1, .int .i64 1, .int .i64 (-1), .int .i64 1, .int .i64 1] 181)
  have r2 : Row ((w.alloc (.cells #[.int .i64 (-1), .int .i64 0, .int .i64 0, .int .i64 (-1), .int .i64 0, .int .i64 1, .int .i64 1, .int .i64 0] 181)).alloc (.cells #[.int .i64 (-1), .int .i64 (-1), .int .i64 (-1), .int .i64 1, .int .i64 1, .int .i64 (-1), .int .i64 1, .int .i64 1] 181)) (some ⟨w.heap.size + 1, 0, none⟩) (flat slanted) := row_new _ _ _ (by simp)
  go_wp2_with fail
  refine (concat_c (w.heap.size + 1 + 1) (some ⟨w.heap.size, 0, none⟩) (some ⟨w.heap.size + 1, 0, none⟩) 4 4 (flat straight) (flat slanted) _ (by simp) ((World.cell?_alloc_at _ _ _ _ (by simp)).trans rfl) ((World.cell?_alloc_at _ _ _ _ (by simp)).trans rfl) (r1.alloc _) (r2.alloc _) rfl rfl (one_flat _) (one_flat _)).mono ?_
  rintro e w2 ⟨v, rfl, hown, hb⟩
  obtain ⟨g, c, rfl, hrow, hfr⟩ := own_some hown (by decide)
  go_wp2_with fail
  go_ret2
  exact ⟨_, rfl, ⟨_, _, rfl, hrow, by simp at hfr; omega⟩, below_then ((((Below.refl _ _).alloc (Nat.le_refl _) _).alloc (by simp <;> omega) _).alloc (by simp <;> omega) _) (by simp <;> omega) hb⟩

set_option maxHeartbeats 400000 in
theorem piece_knight (s : ByteArray) (w : World) (h0 : (s.toList == [115, 116, 101, 112]) = false) (h1 : (s.toList == [107, 105, 110, 103]) = false) (h2 : (s.toList == [107, 110, 105, 103, 104, 116]) = true) : Calls Tryz.prog 90 #[.string s] w (PieceIs knights false w) := by
  go_enter Tryz.func90, Tryz.ntmps90
  go_wp2_with (go_at_call 117; refine (knight_c _).mono ?_; rintro e w1 ⟨rfl, rfl⟩)
  go_ret2
  exact ⟨_, rfl, ⟨_, _, rfl, row_new _ _ _ rfl, Nat.le_refl _⟩, (Below.refl _ _).alloc (Nat.le_refl _) _⟩

set_option maxHeartbeats 400000 in
theorem piece_rook (s : ByteArray) (w : World) (h0 : (s.toList == [115, 116, 101, 112]) = false) (h1 : (s.toList == [107, 105, 110, 103]) = false) (h2 : (s.toList == [107, 110, 105, 103, 104, 116]) = false) (h3 : (s.toList == [114, 111, 111, 107]) = true) : Calls Tryz.prog 90 #[.string s] w (PieceIs straight true w) := by
  go_enter Tryz.func90, Tryz.ntmps90
  go_wp2_with (go_at_call 114; refine (straight_c _).mono ?_; rintro e w1 ⟨rfl, rfl⟩)
  go_ret2
  exact ⟨_, rfl, ⟨_, _, rfl, row_new _ _ _ rfl, Nat.le_refl _⟩, (Below.refl _ _).alloc (Nat.le_refl _) _⟩

set_option maxHeartbeats 400000 in
theorem piece_bishop (s : ByteArray) (w : World) (h0 : (s.toList == [115, 116, 101, 112]) = false) (h1 : (s.toList == [107, 105, 110, 103]) = false) (h2 : (s.toList == [107, 110, 105, 103, 104, 116]) = false) (h3 : (s.toList == [114, 111, 111, 107]) = false) (h4 : (s.toList == [98, 105, 115, 104, 111, 112]) = true) : Calls Tryz.prog 90 #[.string s] w (PieceIs slanted true w) := by
  go_enter Tryz.func90, Tryz.ntmps90
  go_wp2_with (go_at_call 116; refine (slanted_c _).mono ?_; rintro e w1 ⟨rfl, rfl⟩)
  go_ret2
  exact ⟨_, rfl, ⟨_, _, rfl, row_new _ _ _ rfl, Nat.le_refl _⟩, (Below.refl _ _).alloc (Nat.le_refl _) _⟩

set_option maxHeartbeats 400000 in
theorem piece_queen (s : ByteArray) (w : World) (h0 : (s.toList == [115, 116, 101, 112]) = false) (h1 : (s.toList == [107, 105, 110, 103]) = false) (h2 : (s.toList == [107, 110, 105, 103, 104, 116]) = false) (h3 : (s.toList == [114, 111, 111, 107]) = false) (h4 : (s.toList == [98, 105, 115, 104, 111, 112]) = false) (h5 : (s.toList == [113, 117, 101, 101, 110]) = true) : Calls Tryz.prog 90 #[.string s] w (PieceIs both true w) := by
  go_enter Tryz.func90, Tryz.ntmps90
  go_wp2_with fail
  refine (straight_c _).mono ?_
  rintro e w1 ⟨rfl, rfl⟩
  go_wp2_with fail
  refine (slanted_c _).mono ?_
  rintro e w1 ⟨rfl, rfl⟩
  have r1 : Row (w.alloc (.cells #[.int .i64 (-1), .int .i64 0, .int .i64 0, .int .i64 (-1), .int .i64 0, .int .i64 1, .int .i64 1, .int .i64 0] 181)) (some ⟨w.heap.size, 0, none⟩) (flat straight) := row_new w _ _ rfl
  have r1 := r1.alloc (.cells #[.int .i64 (-1), .int .i64 (-1), .int .i64 (-1), .int .i64 1, .int .i64 1, .int .i64 (-1), .int .i64 1, .int .i64 1] 181)
  have r2 : Row ((w.alloc (.cells #[.int .i64 (-1), .int .i64 0, .int .i64 0, .int .i64 (-1), .int .i64 0, .int .i64 1, .int .i64 1, .int .i64 0] 181)).alloc (.cells #[.int .i64 (-1), .int .i64 (-1), .int .i64 (-1), .int .i64 1, .int .i64 1, .int .i64 (-1), .int .i64 1, .int .i64 1] 181)) (some ⟨w.heap.size + 1, 0, none⟩) (flat slanted) := row_new _ _ _ (by simp)
  go_wp2_with fail
  refine (concat_c (w.heap.size + 1 + 1) (some ⟨w.heap.size, 0, none⟩) (some ⟨w.heap.size + 1, 0, none⟩) 4 4 (flat straight) (flat slanted) _ (by simp) ((World.cell?_alloc_at _ _ _ _ (by simp)).trans rfl) ((World.cell?_alloc_at _ _ _ _ (by simp)).trans rfl) (r1.alloc _) (r2.alloc _) rfl rfl (one_flat _) (one_flat _)).mono ?_
  rintro e w2 ⟨v, rfl, hown, hb⟩
  obtain ⟨g, c, rfl, hrow, hfr⟩ := own_some hown (by decide)
  go_wp2_with fail
  go_ret2
  exact ⟨_, rfl, ⟨_, _, rfl, hrow, by simp at hfr; omega⟩, below_then ((((Below.refl _ _).alloc (Nat.le_refl _) _).alloc (by simp <;> omega) _).alloc (by simp <;> omega) _) (by simp <;> omega) hb⟩

set_option maxHeartbeats 400000 in
theorem piece_none (s : ByteArray) (w : World) (h0 : (s.toList == [115, 116, 101, 112]) = false) (h1 : (s.toList == [107, 105, 110, 103]) = false) (h2 : (s.toList == [107, 110, 105, 103, 104, 116]) = false) (h3 : (s.toList == [114, 111, 111, 107]) = false) (h4 : (s.toList == [98, 105, 115, 104, 111, 112]) = false) (h5 : (s.toList == [113, 117, 101, 101, 110]) = false) : Calls Tryz.prog 90 #[.string s] w (Plain (.tuple #[.nilIface, .bool false]) w) := by
  go_enter Tryz.func90, Tryz.ntmps90
  go_wp2
  go_ret2
  exact ⟨rfl, Below.refl _ _⟩

theorem pieceOf_yes (s : ByteArray) (w : World) {ss : List (Int × Int)} {far : Bool} (h : kindL s.toList = some (ss, far)) : Calls Tryz.prog 90 #[.string s] w (PieceIs ss far w) := by
  unfold kindL at h
  cases h0 : (s.toList == [115, 116, 101, 112]) with
  | true =>
    simp only [h0, if_true, Option.some.injEq, Prod.mk.injEq] at h
    obtain ⟨rfl, rfl⟩ := h
    exact piece_step s w h0
  | false =>
  cases h1 : (s.toList == [107, 105, 110, 103]) with
  | true =>
    simp only [h0, h1, Bool.false_eq_true, if_false, if_true, Option.some.injEq, Prod.mk.injEq] at h
    obtain ⟨rfl, rfl⟩ := h
    exact piece_king s w h0 h1
  | false =>
  cases h2 : (s.toList == [107, 110, 105, 103, 104, 116]) with
  | true =>
    simp only [h0, h1, h2, Bool.false_eq_true, if_false, if_true, Option.some.injEq, Prod.mk.injEq] at h
    obtain ⟨rfl, rfl⟩ := h
    exact piece_knight s w h0 h1 h2
  | false =>
  cases h3 : (s.toList == [114, 111, 111, 107]) with
  | true =>
    simp only [h0, h1, h2, h3, Bool.false_eq_true, if_false, if_true, Option.some.injEq, Prod.mk.injEq] at h
    obtain ⟨rfl, rfl⟩ := h
    exact piece_rook s w h0 h1 h2 h3
  | false =>
  cases h4 : (s.toList == [98, 105, 115, 104, 111, 112]) with
  | true =>
    simp only [h0, h1, h2, h3, h4, Bool.false_eq_true, if_false, if_true, Option.some.injEq, Prod.mk.injEq] at h
    obtain ⟨rfl, rfl⟩ := h
    exact piece_bishop s w h0 h1 h2 h3 h4
  | false =>
  cases h5 : (s.toList == [113, 117, 101, 101, 110]) with
  | true =>
    simp only [h0, h1, h2, h3, h4, h5, Bool.false_eq_true, if_false, if_true, Option.some.injEq, Prod.mk.injEq] at h
    obtain ⟨rfl, rfl⟩ := h
    exact piece_queen s w h0 h1 h2 h3 h4 h5
  | false =>
  simp [h0, h1, h2, h3, h4, h5] at h
theorem pieceOf_no (s : ByteArray) (w : World) (h : kindL s.toList = none) : Calls Tryz.prog 90 #[.string s] w (Plain (.tuple #[.nilIface, .bool false]) w) := by
  unfold kindL at h
  cases h0 : (s.toList == [115, 116, 101, 112]) with
  | true => simp [h0] at h
  | false =>
  cases h1 : (s.toList == [107, 105, 110, 103]) with
  | true => simp [h0, h1] at h
  | false =>
  cases h2 : (s.toList == [107, 110, 105, 103, 104, 116]) with
  | true => simp [h0, h1, h2] at h
  | false =>
  cases h3 : (s.toList == [114, 111, 111, 107]) with
  | true => simp [h0, h1, h2, h3] at h
  | false =>
  cases h4 : (s.toList == [98, 105, 115, 104, 111, 112]) with
  | true => simp [h0, h1, h2, h3, h4] at h
  | false =>
  cases h5 : (s.toList == [113, 117, 101, 101, 110]) with
  | true => simp [h0, h1, h2, h3, h4, h5] at h
  | false =>
  exact piece_none s w h0 h1 h2 h3 h4 h5
end Go.Proofs.YtmfdlijkpdgimaaGreatDoor

/-
  Boards: hasAscending, setUp; the methods of pieces.
-/
namespace Go.Proofs.YtmfdlijkpdgimaaGreatDoor
open Go.RowKit
set_option linter.unusedVariables false

theorem lst_c (A : Option Addr) (n c : Nat) (w : World) : Calls Tryz.prog 219 #[.agg #[.slice A n c]] w (Plain (.slice A n c) w) := by
  go_enter Tryz.func219, Tryz.ntmps219
  go_wp2
  go_ret
  exact ⟨rfl, (Below.refl _ _).alloc (Nat.le_refl _) _⟩
theorem sst_c (A : Option Addr) (n c : Nat) (w : World) : Calls Tryz.prog 221 #[.agg #[.slice A n c]] w (Plain (.slice A n c) w) := by
  go_enter Tryz.func221, Tryz.ntmps221
  go_wp2
  go_ret
  exact ⟨rfl, (Below.refl _ _).alloc (Nat.le_refl _) _⟩
theorem lfa_c (A : Option Addr) (n c : Nat) (w : World) : Calls Tryz.prog 218 #[.agg #[.slice A n c]] w (Plain (.bool false) w) := by
  go_enter Tryz.func218, Tryz.ntmps218
  go_wp2
  go_ret
  exact ⟨rfl, (Below.refl _ _).alloc (Nat.le_refl _) _⟩
theorem sfa_c (A : Option Addr) (n c : Nat) (w : World) : Calls Tryz.prog 220 #[.agg #[.slice A n c]] w (Plain (.bool true) w) := by
  go_enter Tryz.func220, Tryz.ntmps220
  go_wp2
  go_ret
  exact ⟨rfl, (Below.refl _ _).alloc (Nat.le_refl _) _⟩

theorem pieceEnd {w : World} {g : Nat} {t : TypeId} {x y u v : Value} (h : Box w g t #[x, y]) :
    w.cell? ⟨g, 0, none⟩ = some x ∧ w.frozen? ⟨g, 0, none⟩ = false ∧ (w.setCell ⟨g, 0, none⟩ u).cell? ⟨g, 0, none⟩ = some u ∧ (w.setCell ⟨g, 0, none⟩ u).cell? ⟨g, 1, none⟩ = some y ∧ (w.setCell ⟨g, 0, none⟩ u).frozen? ⟨g, 1, none⟩ = false ∧
    ((w.setCell ⟨g, 0, none⟩ u).setCell ⟨g, 1, none⟩ v).cell? ⟨g, 0, none⟩ = some u ∧ ((w.setCell ⟨g, 0, none⟩ u).setCell ⟨g, 1, none⟩ v).cell? ⟨g, 1, none⟩ = some v :=
  ⟨h.cell 0, h.free 0, (h.set 0 u).cell 0, (h.set 0 u).cell 1, (h.set 0 u).free 1, ((h.set 0 u).set 1 v).cell 0, ((h.set 0 u).set 1 v).cell 1⟩

set_option maxHeartbeats 400000 in
theorem setUp_yes (bc br : Int) (s : ByteArray) (w : World) {ss : List (Int × Int)} {far : Bool} (hk : kindL s.toList = some (ss, far)) (h1 : 1 ≤ bc) (h2 : bc ≤ 5) (h3 : 1 ≤ br) (h4 : br ≤ 5) :
    Calls Tryz.prog 118 #[.int .i64 bc, .int .i64 br, .string s] w fun e w' => ∃ pv, e = .returned (.tuple #[boardV bc br, pv, .bool true]) ∧ IsPiece w' w.heap.size pv ss far ∧ Below w.heap.size w w' := by
  have Hk := hide hk
  clear hk
  have box0 := Box.new w 40 #[.int .i64 0, .int .i64 0]
  go_enter Tryz.func118, Tryz.ntmps118
  go_wp2_with fail
  refine (boardOf_yes bc br _ h1 h2 h3 h4).mono ?_
  rintro e w1 ⟨rfl, hb1⟩
  have box1 := (box0.then hb1).alloc (.cells #[.int .i64 bc, .int .i64 br] 40)
  have z1 : w.heap.size < w1.heap.size := by have := hb1.size; simp at this; omega
  go_wp2_with fail
  refine (pieceOf_yes s _ Hk.out).mono ?_
  rintro e w2 ⟨pv, rfl, hp, hb2⟩
  obtain ⟨c1, c2, c3, c4, c5, c6, c7⟩ := pieceEnd (u := .int .i64 bc) (v := .int .i64 br) (box1.then hb2)
  obtain ⟨d1, d2, _⟩ := pieceEnd (u := .int .i64 bc) (v := .int .i64 br) ((Box.new w1 40 #[.int .i64 bc, .int .i64 br]).then hb2)
  have d3 := ((Box.new w1 40 #[.int .i64 bc, .int .i64 br]).then hb2).cell 1
  have z2 : w1.heap.size < w2.heap.size := by have := hb2.size; simp at this; omega
  go_wp2_with fail
  refine bodyPost_ret (v := .tuple #[boardV bc br, pv, .bool true]) (by simp [results, Tryz.results118, go_sem, c6, c7]) rfl ⟨pv, rfl, ?_, ?_⟩
  · exact ((hp.set_low (by simp; omega) _).set_low (by simp; omega) _).mono (by simp; omega)
  · exact ((below_then (((below_then ((Below.refl _ _).alloc (Nat.le_refl _) _) (by simp) hb1).alloc (by omega) _)) (by simp; omega) hb2).setCell (Nat.le_refl _) _).setCell (Nat.le_refl _) _

def NotSet (w : World) (e : Ending) (w' : World) : Prop := ∃ x y pv, e = .returned (.tuple #[boardV x y, pv, .bool false]) ∧ Below w.heap.size w w'
set_option maxHeartbeats 400000 in
theorem setUp_no1 (bc br : Int) (s : ByteArray) (w : World) (hk : kindL s.toList = none) (h1 : 1 ≤ bc) (h2 : bc ≤ 5) (h3 : 1 ≤ br) (h4 : br ≤ 5) : Calls Tryz.prog 118 #[.int .i64 bc, .int .i64 br, .string s] w (NotSet w) := by
  have Hk := hide hk
  clear hk
  have box0 := Box.new w 40 #[.int .i64 0, .int .i64 0]
  go_enter Tryz.func118, Tryz.ntmps118
  go_wp2_with fail
  refine (boardOf_yes bc br _ h1 h2 h3 h4).mono ?_
  rintro e w1 ⟨rfl, hb1⟩
  have box1 := (box0.then hb1).alloc (.cells #[.int .i64 bc, .int .i64 br] 40)
  have z1 : w.heap.size < w1.heap.size := by have := hb1.size; simp at this; omega
  go_wp2_with fail
  refine (pieceOf_no s _ Hk.out).mono ?_
  rintro e w2 ⟨rfl, hb2⟩
  obtain ⟨c1, c2, c3, c4, c5, c6, c7⟩ := pieceEnd (u := .int .i64 bc) (v := .int .i64 br) (box1.then hb2)
  obtain ⟨d1, d2, _⟩ := pieceEnd (u := .int .i64 bc) (v := .int .i64 br) ((Box.new w1 40 #[.int .i64 bc, .int .i64 br]).then hb2)
  have d3 := ((Box.new w1 40 #[.int .i64 bc, .int .i64 br]).then hb2).cell 1
  have z2 : w1.heap.size < w2.heap.size := by have := hb2.size; simp at this; omega
  go_wp2_with fail
  refine bodyPost_ret (v := .tuple #[boardV bc br, .nilIface, .bool false]) (by simp [results, Tryz.results118, go_sem, c6, c7]) rfl ⟨_, _, _, rfl, ?_⟩
  exact ((below_then (((below_then ((Below.refl _ _).alloc (Nat.le_refl _) _) (by simp) hb1).alloc (by omega) _)) (by simp; omega) hb2).setCell (Nat.le_refl _) _).setCell (Nat.le_refl _) _
set_option maxHeartbeats 400000 in
theorem setUp_no2 (bc br : Int) (s : ByteArray) (w : World) (hn : ¬ (1 ≤ bc ∧ bc ≤ 5 ∧ 1 ≤ br ∧ br ≤ 5)) : Calls Tryz.prog 118 #[.int .i64 bc, .int .i64 br, .string s] w (NotSet w) := by
  have hp : ∀ w1, Calls Tryz.prog 90 #[.string s] w1 fun e w' => ∃ pv b, e = .returned (.tuple #[pv, .bool b]) ∧ Below w1.heap.size w1 w' := fun w1 => by
    cases hk : kindL s.toList with
    | none => exact (pieceOf_no s w1 hk).mono fun _ _ ⟨he, hb⟩ => ⟨_, _, he, hb⟩
    | some p => exact (pieceOf_yes s w1 hk).mono fun _ _ ⟨pv, he, _, hb⟩ => ⟨_, _, he, hb⟩
  have HP := hide hp
  clear hp
  have box0 := Box.new w 40 #[.int .i64 0, .int .i64 0]
  go_enter Tryz.func118, Tryz.ntmps118
  go_wp2_with fail
  refine (boardOf_no bc br _ hn).mono ?_
  rintro e w1 ⟨rfl, hb1⟩
  clear hn
  have box1 := (box0.then hb1).alloc (.cells #[.int .i64 0, .int .i64 0] 40)
  have z1 : w.heap.size < w1.heap.size := by have := hb1.size; simp at this; omega
  go_wp2_with fail
  refine (HP.out _).mono ?_
  rintro e w2 ⟨pv, b, rfl, hb2⟩
  obtain ⟨c1, c2, c3, c4, c5, c6, c7⟩ := pieceEnd (u := .int .i64 0) (v := .int .i64 0) (box1.then hb2)
  obtain ⟨d1, d2, _⟩ := pieceEnd (u := .int .i64 0) (v := .int .i64 0) ((Box.new w1 40 #[.int .i64 0, .int .i64 0]).then hb2)
  have d3 := ((Box.new w1 40 #[.int .i64 0, .int .i64 0]).then hb2).cell 1
  have z2 : w1.heap.size < w2.heap.size := by have := hb2.size; simp at this; omega
  go_wp2_with fail
  refine bodyPost_ret (v := .tuple #[boardV 0 0, pv, .bool false]) (by simp [results, Tryz.results118, go_sem, c6, c7]) rfl ⟨_, _, _, rfl, ?_⟩
  exact ((below_then (((below_then ((Below.refl _ _).alloc (Nat.le_refl _) _) (by simp) hb1).alloc (by omega) _)) (by simp; omega) hb2).setCell (Nat.le_refl _) _).setCell (Nat.le_refl _) _
theorem setUp_no (bc br : Int) (s : ByteArray) (w : World) (h : ¬ ((1 ≤ bc ∧ bc ≤ 5 ∧ 1 ≤ br ∧ br ≤ 5) ∧ (kindL s.toList).isSome = true)) : Calls Tryz.prog 118 #[.int .i64 bc, .int .i64 br, .string s] w (NotSet w) := by
  by_cases hn : 1 ≤ bc ∧ bc ≤ 5 ∧ 1 ≤ br ∧ br ≤ 5
  · obtain ⟨h1, h2, h3, h4⟩ := hn
    exact setUp_no1 bc br s w (by cases hk : kindL s.toList with | none => rfl | some p => exact absurd ⟨⟨h1, h2, h3, h4⟩, by simp [hk]⟩ h) h1 h2 h3 h4
  · exact setUp_no2 bc br s w hn
end Go.Proofs.YtmfdlijkpdgimaaGreatDoor

/-
  slices.Sort at a row that the call itself owns; sorted lists of numbers.
-/
namespace Go.Proofs.YtmfdlijkpdgimaaGreatDoor
open Go.RowKit Go.Sort
set_option linter.unusedVariables false

def Sorts (v : Value) (base : Nat) (l : List Int) (w : World) (e : Ending) (w' : World) : Prop :=
  e = .returned (.tuple #[]) ∧ w'.ownsRow base 3 1 v l.length (ints (l.mergeSort fun x y => decide (x ≤ y))) ∧ w.grownBy w' v.ownBlock

theorem sort_c (v : Value) (base : Nat) (l : List Int) (w : World) (hown : w.ownsRow base 3 1 v l.length (ints l)) (hl : l.length ≤ 1099511627776) : Calls Tryz.prog 110 #[v] w (Sorts v base l w) := by
  rcases hown.2 with ⟨rfl, h0⟩ | ⟨g, cap, cur, rfl, hb, hg, hn, hm, hs, ht⟩
  · obtain rfl : l = [] := List.eq_nil_of_length_eq_zero h0
    exact (Tryz.slices_Sort_int_none none 0 w).mono fun e w' ⟨he, hw⟩ => ⟨he, by subst hw; simpa using hown, by subst hw; exact World.grownBy.refl _ _⟩
  · have hgl : g < w.heap.size := (Array.getElem?_eq_some_iff.1 hg).1
    have hH : Holds (Value.int .i64) w g 0 l.toArray := fun j hj => by
      have hj' : j < l.length := by simpa using hj
      refine ⟨?_, by simp [World.frozen?, hg]⟩
      have := hown.cells (g := g) rfl j (.int .i64 l[j]) (by simp [List.getElem?_eq_getElem hj'])
      rw [show (⟨g, 0, none⟩ : Addr).add j = ⟨g, 0 + j, none⟩ from by unfold Addr.add; split <;> simp_all] at this
      rw [this, getElem!_pos l.toArray j hj]
      simp
    refine (Tryz.slices_Sort_int g 0 cap l w hH hgl (by omega)).mono ?_
    rintro e w' ⟨rfl, n, os, rfl⟩
    have hsize : (Sort.putRow (Value.int .i64) (Sort.ahead w n) g 0 (l.mergeSort fun x y => decide (x ≤ y)).toArray).heap.size = w.heap.size := by simp [putRow, mapBlock, Sort.ahead]
    have hheap : ∀ k, k < w.heap.size → (Sort.grow (Sort.putRow (Value.int .i64) (Sort.ahead w n) g 0 (l.mergeSort fun x y => decide (x ≤ y)).toArray) os).heap[k]? = if g = k then (w.heap[k]?).map (onCells (putCells (Value.int .i64) 0 (l.mergeSort fun x y => decide (x ≤ y)).toArray)) else w.heap[k]? := fun k hk => by
      rw [heap_grow_old _ _ (by rw [hsize]; exact hk)]
      simp [putRow, mapBlock, Sort.ahead, Array.getElem?_modify]
    refine ⟨rfl, ⟨by simp, .inr ⟨g, cap, putCells (Value.int .i64) 0 (l.mergeSort fun x y => decide (x ≤ y)).toArray cur, rfl, hb, ?_, hn, hm, by simpa [putCells] using hs, ?_⟩⟩, ⟨rfl, rfl, rfl, ?_, ?_⟩⟩
    · rw [hheap g hgl, if_pos rfl, hg]; rfl
    · have hlen : (l.mergeSort fun x y => decide (x ≤ y)).length = l.length := List.length_mergeSort ..
      apply List.ext_getElem?
      intro j
      rw [List.getElem?_take]
      by_cases hj : j < l.length
      · have hc : j < cur.size := by omega
        rw [if_pos (by omega)]
        simp only [putCells, Array.toList_mapIdx, List.getElem?_mapIdx, List.size_toArray, hlen, Nat.zero_le, true_and, Nat.zero_add, Nat.sub_zero]
        rw [show cur.toList[j]? = some cur[j] from by simp [Array.getElem?_eq_getElem hc]]
        simp only [Option.map_some, if_pos hj]
        rw [getElem!_pos _ _ (by simpa [hlen] using hj)]
        simp only [List.getElem_toArray, ints, List.getElem?_map]
        rw [List.getElem?_eq_getElem (by omega)]
        rfl
      · rw [if_neg (by omega)]
        symm
        rw [List.getElem?_eq_none]
        simp only [ints, List.length_map, hlen]
        omega
    · rw [size_grow, hsize]; omega
    · intro k hk hne
      rw [hheap k hk, if_neg]
      rintro rfl
      exact hne rfl
end Go.Proofs.YtmfdlijkpdgimaaGreatDoor

/-
  Boards: reach.
-/
namespace Go.Proofs.YtmfdlijkpdgimaaGreatDoor
open Go.RowKit
set_option linter.unusedVariables false

theorem elem_int : Elem Tryz.prog 3 1 8 := Elem.of (z := .int .i64 0) (by kernel_rfl) rfl (by omega)

theorem onward_any (bc br cell dr dc : Int) (w : World) (h1 : 1 ≤ bc) (h2 : bc ≤ 5) (h3 : 1 ≤ br) (h4 : br ≤ 5) (g1 : 0 ≤ cell) (g2 : cell < 25) (g3 : -2 ≤ dr) (g4 : dr ≤ 2) (g5 : -2 ≤ dc) (g6 : dc ≤ 2) :
    Calls Tryz.prog 139 #[boardV bc br, .int .i64 cell, .agg #[.int .i64 dr, .int .i64 dc]] w (Plain (.tuple #[.int .i64 (onP (nextP bc br dr dc cell)).1, .bool (onP (nextP bc br dr dc cell)).2]) w) := by
  unfold nextP
  by_cases h : 0 ≤ cell / bc + dr ∧ cell / bc + dr < br ∧ 0 ≤ cell % bc + dc ∧ cell % bc + dc < bc
  · rw [if_pos h]
    obtain ⟨a, b, c, d⟩ := h
    exact onward_yes bc br cell dr dc w h1 h2 h3 h4 g1 g2 g3 g4 g5 g6 a b c d
  · rw [if_neg h]
    exact onward_no bc br cell dr dc w h1 h2 h3 h4 g1 g2 g3 g4 g5 g6 h

/-- The address is a plain one. -/
def Flat (O : Option Addr) : Prop := ∀ ad, O = some ad → ∃ b off, ad = ⟨b, off, none⟩
theorem contains_c (O : Option Addr) (l : List Int) (oc : Nat) (x : Int) (w : World) (hr : Row w O (ints l)) (hf : Flat O) (hm : l.length ≤ maxLen) :
    Calls Tryz.prog 145 #[.slice O l.length oc, .int .i64 x] w (Plain (.bool (l.contains x)) w) := by
  rcases l with _ | ⟨y, l⟩
  · exact (Tryz.slices_Contains_int_empty O oc x w).mono fun e w' ⟨he, hw⟩ => ⟨he, hw ▸ Below.refl _ _⟩
  · obtain ⟨ad, rfl, _⟩ := hr 0 (by simp)
    obtain ⟨b, off, rfl⟩ := hf ad rfl
    unfold maxLen at hm
    refine (Tryz.slices_Contains_int b off (y :: l).length oc (y :: l) x w (Nat.le_refl _) (by omega) fun j hj => ?_).mono fun e w' ⟨he, hw⟩ => ⟨by simpa using he, hw ▸ Below.refl _ _⟩
    obtain ⟨_, ⟨rfl⟩, hc⟩ := hr.int hj
    rw [← List.getD_eq_getElem?_getD] at hc
    rw [← hc]
    unfold Addr.add
    split
    · subst_vars; rfl
    · rfl

set_option maxHeartbeats 1000000 in
set_option maxRecDepth 100000 in
theorem reach_far (bc br cell : Int) (g : Nat) (O : Option Addr) (c oc : Nat) (ss : List (Int × Int)) (others : List Int) (w : World) (h1 : 1 ≤ bc) (h2 : bc ≤ 5) (h3 : 1 ≤ br) (h4 : br ≤ 5)
    (g1 : 0 ≤ cell) (g2 : cell < bc * br) (hs : Hid (∀ p ∈ ss, okStep p)) (hn : ss.length ≤ 8) (hr : Row w (some ⟨g, 0, none⟩) (flat ss)) (ho : Row w O (ints others)) (hof : Flat O) (hol : others.length ≤ maxLen) :
    Calls Tryz.prog 120 #[boardV bc br, .iface 182 (.agg #[.slice (some ⟨g, 0, none⟩) ss.length c]), .int .i64 cell, .slice O others.length oc] w (Owns 3 1 (reachP bc br true others cell ss).length (ints (reachP bc br true others cell ss)) w) := by
  have hbr := (mul_bd h1 h2 h3 h4).2
  have g3 : cell < 25 := by omega
  have bx0 := Box.new w 40 #[.int .i64 bc, .int .i64 br]
  have Hof := hide hof
  clear hof
  go_enter Tryz.func120, Tryz.ntmps120
  go_wp2_with fail
  refine (sst_c _ _ _ _).mono ?_
  rintro e w1 ⟨rfl, hb1⟩
  have bx1 := bx0.then hb1
  have hb1 : Below w.heap.size w w1 := below_then ((Below.refl _ _).alloc (Nat.le_refl _) _) (by simp) hb1
  clear bx0
  go_wp2_with fail
  go_loopw [9, 17] (fun v i wr => ∃ (k : Nat) (acc : List Int), k ≤ ss.length ∧ i = .int .i64 k ∧ wr.ownsRow (w.heap.size + 1) 3 1 v acc.length (ints acc) ∧ Hid (acc = cellsP bc br true others cell (ss.take k)) ∧ acc.length ≤ 5 * k ∧
      Below w.heap.size w wr ∧ Box wr w.heap.size 40 #[.int .i64 bc, .int .i64 br]) (fun _ i _ => ss.length - (intOf i).toNat)
  case atStart => exact ⟨0, [], Nat.zero_le _, rfl, World.ownsRow_nil _ _ _ _, rfl, by simp, hb1, bx1⟩
  case round =>
    obtain ⟨k, acc, hk, rfl, hown, hacc, hal, hb, bx⟩ := hrel
    obtain ⟨wo, rfl⟩ : ∃ wo : World, wo = wr := ⟨_, rfl⟩
    have z := hb.size
    have zb := bx.in_
    have c0 := bx.cell 0
    have c1 := bx.cell 1
    by_cases hlt : k < ss.length
    · obtain ⟨hca, hcb⟩ := (hr.below hb).step hlt
      obtain ⟨dr, dc, hp⟩ : ∃ dr dc, ss[k] = (dr, dc) := ⟨_, _, rfl⟩
      have hok := hs.out _ (List.getElem_mem hlt)
      rw [hp] at hca hcb hok
      have HT : Hid (cellsP bc br true others cell (ss.take (k + 1)) = acc ++ goesP bc br true others cell (dr, dc)) := by
        rw [cells_snoc _ _ _ _ _ _ _ hlt, hp, hacc.out]; exact rfl
      have P := hide hp
      clear hp
      have OK := hide hok
      obtain ⟨⟨s1, s2⟩, ⟨s3, s4⟩, _⟩ := hok
      simp only at s1 s2 s3 s4 hca hcb
      go_wp2_with fail
      refine (onward_any bc br cell dr dc _ h1 h2 h3 h4 g1 g3 s1 s2 s3 s4).mono ?_
      rintro e w2 ⟨rfl, hb2⟩
      have bs2 := (Box.new wo 181 #[.int .i64 dr, .int .i64 dc]).then hb2
      have bx2 := (bx.alloc (.cells #[.int .i64 dr, .int .i64 dc] 181)).then hb2
      have own2 := own_below (hown.alloc (.cells #[.int .i64 dr, .int .i64 dc] 181)) hb2
      have hb2' : Below w.heap.size w w2 := below_then (hb.alloc z _) (by simp; omega) hb2
      have on1 := on_in (dr := dr) (dc := dc) (x := cell) h1 h2 h3 h4
      have on2 := pot_bd (bc := bc) (br := br) (dr := dr) (dc := dc) (x := (onP (nextP bc br dr dc cell)).1) h1 h2 h3 h4
      have HG : Hid (goesP bc br true others cell (dr, dc) = if (onP (nextP bc br dr dc cell)).2 = true then rayA bc br true others dr dc 5 (onP (nextP bc br dr dc cell)).1 else []) := goes_on ..
      generalize onP (nextP bc br dr dc cell) = q at *
      obtain ⟨y, on⟩ := q
      simp only at on1 on2 HG
      have hz2 := bs2.in_
      clear hb2 hca hcb c0 c1 zb
      go_wp2_with fail
      go_loopg [9, 12, 13] 5 (fun f v a b wr => ∃ (acc' : List Int) (x : Int) (o : Bool), a = .int .i64 x ∧ b = .bool o ∧ wr.ownsRow (w.heap.size + 1) 3 1 v acc'.length (ints acc') ∧ Hid (cellsP bc br true others cell (ss.take (k + 1)) = acc' ++ if o = true then rayA bc br true others dr dc f x else []) ∧
          acc'.length + f ≤ 5 * k + 5 ∧ Hid (o = true → (0 ≤ x ∧ x < bc * br) ∧ potP bc br dr dc x < f) ∧ Below w.heap.size w wr ∧ Box wr w.heap.size 40 #[.int .i64 bc, .int .i64 br] ∧ Box wr wo.heap.size 181 #[.int .i64 dr, .int .i64 dc])
      case atStart => exact ⟨acc, y, on, rfl, rfl, own2, by rw [HT.out, HG.out]; exact rfl, by omega, fun h => ⟨on1 h, by have := on2 (on1 h).1 (on1 h).2; omega⟩, hb2', bx2, bs2⟩
      case round =>
        obtain ⟨acc', x, o, rfl, rfl, hown', hacc', hal', hpot, hb', bx', bs'⟩ := hrel
        obtain ⟨wi, rfl⟩ : ∃ wi : World, wi = wr := ⟨_, rfl⟩
        cases o with
        | false =>
          go_wp2_with fail
          exact ⟨⟨k + 1, acc', hlt, rfl, hown', by rw [hacc'.out]; simp [Hid], by omega, hb', bx'⟩, by simp [intOf]; omega⟩
        | true =>
          obtain ⟨⟨x1, x2⟩, x3⟩ := hpot.out rfl
          have hp0 := (pot_bd (dr := dr) (dc := dc) h1 h2 h3 h4 x1 x2).1
          obtain ⟨f, rfl⟩ : ∃ f, gk = f + 1 := ⟨gk - 1, by omega⟩
          have hzi := hb'.size
          have z2 := bs'.in_
          have z3 := bx'.in_
          have hcon : ∀ w5 : World, Below w.heap.size w w5 → Calls Tryz.prog 145 #[.slice O others.length oc, .int .i64 x] w5 (Plain (.bool (others.contains x)) w5) := fun w5 h5 => contains_c O others oc x w5 (ho.below h5) Hof.out hol
          have Hcon := hide hcon
          clear hcon
          go_wp2_with ((at_builtin; refine put_own rfl (.tmp 29) (.tmp 31) rfl Tryz.underlying35 elem_int rfl (hown'.alloc _) rfl (m := 1) (news := [.int .i64 x]) rfl (row_new _ _ _ rfl) (by simp [Value.oneCell']) (by omega) (by omega) (by simp; omega) ?_; intro v3 w3 hown3 hg3 ho3))
          have hown' := hown'.alloc (.cells #[.int .i64 x] 3)
          have bx3 := bx'.alloc (.cells #[.int .i64 x] 3)
          have bs3 := bs'.alloc (.cells #[.int .i64 x] 3)
          have bx3 := bx3.grown hg3 (own_ne hown' bx3 (by decide))
          have bs3 := bs3.grown hg3 (own_ne hown' bs3 (by decide))
          have hb3 : Below w.heap.size w w3 := below_grown (hb'.alloc hzi _) (by simp; omega) hown' (by omega) hg3
          clear hg3 ho3 hown' bx' bs' hb' z2 z3 hzi
          refine (sfa_c _ _ _ _).mono ?_
          rintro e w4 ⟨rfl, hb4⟩
          have bx4 := bx3.then hb4
          have bs4 := bs3.then hb4
          have own4 := own_below hown3 hb4
          have hb4 := below_then hb3 hb3.size hb4
          clear bx3 bs3 hown3 hb3
          go_wp2_with fail
          refine (Hcon.out _ hb4).mono ?_
          rintro e w5 ⟨rfl, hb5⟩
          have bx5 := bx4.then hb5
          have bs5 := bs4.then hb5
          have own5 := own_below own4 hb5
          have hb5 := below_then hb4 hb4.size hb5
          clear bx4 bs4 own4 hb4
          have z5 := hb5.size
          have z6 := bs5.in_
          have z7 := bx5.in_
          cases hc : others.contains x with
          | true =>
            have HC := hide hc
            clear hc
            go_wp2_with fail
            exact ⟨⟨k + 1, acc' ++ [x], hlt, rfl, by simpa using own5, by rw [hacc'.out, if_pos trivial, ray_stop _ _ _ _ _ _ _ _ (by rw [HC.out]; simp)]; exact rfl, by simp; omega, hb5, bx5⟩, by simp [intOf]; omega⟩
          | false =>
            have HC := hide hc
            clear hc
            have c0 := bx5.cell 0
            have c1 := bx5.cell 1
            have d0 := bs5.cell 0
            have d1 := bs5.cell 1
            go_wp2_with fail
            refine (onward_any bc br x dr dc _ h1 h2 h3 h4 x1 (by omega) s1 s2 s3 s4).mono ?_
            rintro e w6 ⟨rfl, hb6⟩
            have on3 := on_in (dr := dr) (dc := dc) (x := x) h1 h2 h3 h4
            have on4 := on_pot (x := x) h1 h2 h3 h4 OK.out
            have HR : Hid (rayA bc br true others dr dc (f + 1) x = x :: (if (onP (nextP bc br dr dc x)).2 = true then rayA bc br true others dr dc f (onP (nextP bc br dr dc x)).1 else [])) := ray_step _ _ _ _ _ _ _ _ ⟨rfl, HC.out⟩
            generalize onP (nextP bc br dr dc x) = q at *
            obtain ⟨y', on'⟩ := q
            simp only at on3 on4 HR
            have On3 := hide on3
            have On4 := hide on4
            clear c0 c1 d0 d1 on3 on4
            have bx6 := bx5.then hb6
            have bs6 := bs5.then hb6
            have own6 := own_below own5 hb6
            have hb6 := below_then hb5 hb5.size hb6
            go_wp2_with fail
            go_roundg f
            case rel => exact ⟨acc' ++ [x], y', on', rfl, rfl, by simpa using own6, by rw [hacc'.out, if_pos trivial, HR.out]; simp [Hid], by simp; omega, fun h => ⟨On3.out h, by have := On4.out h; omega⟩, hb6, bx6, bs6⟩
            case measure => omega
    · have hk2 : Hid (k = ss.length) := hide (by omega)
      go_wp2_with fail
      refine (sort_c _ _ acc _ hown (by omega)).mono ?_
      rintro e w2 ⟨rfl, hown2, hg2⟩
      have hb2 := below_grown hb z hown (by omega) hg2
      have hlen : (reachP bc br true others cell ss).length = acc.length := by
        rw [hacc.out, hk2.out, List.take_of_length_le (Nat.le_refl _)]; exact List.length_mergeSort ..
      have hlist : reachP bc br true others cell ss = acc.mergeSort fun x y => decide (x ≤ y) := by
        rw [hacc.out, hk2.out, List.take_of_length_le (Nat.le_refl _)]; rfl
      have HE : Hid (w2.ownsRow w.heap.size 3 1 u9 (reachP bc br true others cell ss).length (ints (reachP bc br true others cell ss))) := by
        rw [hlen, hlist]; exact own_mono hown2 (by omega)
      clear hlen hlist hown2 hg2
      go_wp2_with fail
      go_ret
      exact ⟨_, rfl, HE.out, hb2⟩
end Go.Proofs.YtmfdlijkpdgimaaGreatDoor

/-
  Boards: reach, of leapers and of all.
-/
namespace Go.Proofs.YtmfdlijkpdgimaaGreatDoor
open Go.RowKit
set_option linter.unusedVariables false

set_option maxHeartbeats 1000000 in
set_option maxRecDepth 100000 in
theorem reach_near (bc br cell : Int) (g : Nat) (O : Option Addr) (c oc : Nat) (ss : List (Int × Int)) (others : List Int) (w : World) (h1 : 1 ≤ bc) (h2 : bc ≤ 5) (h3 : 1 ≤ br) (h4 : br ≤ 5)
    (g1 : 0 ≤ cell) (g2 : cell < bc * br) (hs : Hid (∀ p ∈ ss, okStep p)) (hn : ss.length ≤ 8) (hr : Row w (some ⟨g, 0, none⟩) (flat ss)) (ho : Row w O (ints others)) (hof : Flat O) (hol : others.length ≤ maxLen) :
    Calls Tryz.prog 120 #[boardV bc br, .iface 178 (.agg #[.slice (some ⟨g, 0, none⟩) ss.length c]), .int .i64 cell, .slice O others.length oc] w (Owns 3 1 (reachP bc br false others cell ss).length (ints (reachP bc br false others cell ss)) w) := by
  have hbr := (mul_bd h1 h2 h3 h4).2
  have g3 : cell < 25 := by omega
  have bx0 := Box.new w 40 #[.int .i64 bc, .int .i64 br]
  have Hof := hide hof
  clear hof
  go_enter Tryz.func120, Tryz.ntmps120
  go_wp2_with fail
  refine (lst_c _ _ _ _).mono ?_
  rintro e w1 ⟨rfl, hb1⟩
  have bx1 := bx0.then hb1
  have hb1 : Below w.heap.size w w1 := below_then ((Below.refl _ _).alloc (Nat.le_refl _) _) (by simp) hb1
  clear bx0
  go_wp2_with fail
  go_loopw [9, 17] (fun v i wr => ∃ (k : Nat) (acc : List Int), k ≤ ss.length ∧ i = .int .i64 k ∧ wr.ownsRow (w.heap.size + 1) 3 1 v acc.length (ints acc) ∧ Hid (acc = cellsP bc br false others cell (ss.take k)) ∧ acc.length ≤ 5 * k ∧
      Below w.heap.size w wr ∧ Box wr w.heap.size 40 #[.int .i64 bc, .int .i64 br]) (fun _ i _ => ss.length - (intOf i).toNat)
  case atStart => exact ⟨0, [], Nat.zero_le _, rfl, World.ownsRow_nil _ _ _ _, rfl, by simp, hb1, bx1⟩
  case round =>
    obtain ⟨k, acc, hk, rfl, hown, hacc, hal, hb, bx⟩ := hrel
    obtain ⟨wo, rfl⟩ : ∃ wo : World, wo = wr := ⟨_, rfl⟩
    have z := hb.size
    have zb := bx.in_
    have c0 := bx.cell 0
    have c1 := bx.cell 1
    by_cases hlt : k < ss.length
    · obtain ⟨hca, hcb⟩ := (hr.below hb).step hlt
      obtain ⟨dr, dc, hp⟩ : ∃ dr dc, ss[k] = (dr, dc) := ⟨_, _, rfl⟩
      have hok := hs.out _ (List.getElem_mem hlt)
      rw [hp] at hca hcb hok
      have HT : Hid (cellsP bc br false others cell (ss.take (k + 1)) = acc ++ goesP bc br false others cell (dr, dc)) := by
        rw [cells_snoc _ _ _ _ _ _ _ hlt, hp, hacc.out]; exact rfl
      have P := hide hp
      clear hp
      have OK := hide hok
      obtain ⟨⟨s1, s2⟩, ⟨s3, s4⟩, _⟩ := hok
      simp only at s1 s2 s3 s4 hca hcb
      go_wp2_with fail
      refine (onward_any bc br cell dr dc _ h1 h2 h3 h4 g1 g3 s1 s2 s3 s4).mono ?_
      rintro e w2 ⟨rfl, hb2⟩
      have bs2 := (Box.new wo 181 #[.int .i64 dr, .int .i64 dc]).then hb2
      have bx2 := (bx.alloc (.cells #[.int .i64 dr, .int .i64 dc] 181)).then hb2
      have own2 := own_below (hown.alloc (.cells #[.int .i64 dr, .int .i64 dc] 181)) hb2
      have hb2' : Below w.heap.size w w2 := below_then (hb.alloc z _) (by simp; omega) hb2
      have on1 := on_in (dr := dr) (dc := dc) (x := cell) h1 h2 h3 h4
      have on2 := pot_bd (bc := bc) (br := br) (dr := dr) (dc := dc) (x := (onP (nextP bc br dr dc cell)).1) h1 h2 h3 h4
      have HG : Hid (goesP bc br false others cell (dr, dc) = if (onP (nextP bc br dr dc cell)).2 = true then rayA bc br false others dr dc 5 (onP (nextP bc br dr dc cell)).1 else []) := goes_on ..
      generalize onP (nextP bc br dr dc cell) = q at *
      obtain ⟨y, on⟩ := q
      simp only at on1 on2 HG
      have hz2 := bs2.in_
      clear hb2 hca hcb c0 c1 zb
      go_wp2_with fail
      go_loopg [9, 12, 13] 5 (fun f v a b wr => ∃ (acc' : List Int) (x : Int) (o : Bool), a = .int .i64 x ∧ b = .bool o ∧ wr.ownsRow (w.heap.size + 1) 3 1 v acc'.length (ints acc') ∧ Hid (cellsP bc br false others cell (ss.take (k + 1)) = acc' ++ if o = true then rayA bc br false others dr dc f x else []) ∧
          acc'.length + f ≤ 5 * k + 5 ∧ Hid (o = true → (0 ≤ x ∧ x < bc * br) ∧ potP bc br dr dc x < f) ∧ Below w.heap.size w wr ∧ Box wr w.heap.size 40 #[.int .i64 bc, .int .i64 br] ∧ Box wr wo.heap.size 181 #[.int .i64 dr, .int .i64 dc])
      case atStart => exact ⟨acc, y, on, rfl, rfl, own2, by rw [HT.out, HG.out]; exact rfl, by omega, fun h => ⟨on1 h, by have := on2 (on1 h).1 (on1 h).2; omega⟩, hb2', bx2, bs2⟩
      case round =>
        obtain ⟨acc', x, o, rfl, rfl, hown', hacc', hal', hpot, hb', bx', bs'⟩ := hrel
        obtain ⟨wi, rfl⟩ : ∃ wi : World, wi = wr := ⟨_, rfl⟩
        cases o with
        | false =>
          go_wp2_with fail
          exact ⟨⟨k + 1, acc', hlt, rfl, hown', by rw [hacc'.out]; simp [Hid], by omega, hb', bx'⟩, by simp [intOf]; omega⟩
        | true =>
          obtain ⟨⟨x1, x2⟩, x3⟩ := hpot.out rfl
          have hp0 := (pot_bd (dr := dr) (dc := dc) h1 h2 h3 h4 x1 x2).1
          obtain ⟨f, rfl⟩ : ∃ f, gk = f + 1 := ⟨gk - 1, by omega⟩
          have hzi := hb'.size
          have z2 := bs'.in_
          have z3 := bx'.in_
          go_wp2_with ((at_builtin; refine put_own rfl (.tmp 29) (.tmp 31) rfl Tryz.underlying35 elem_int rfl (hown'.alloc _) rfl (m := 1) (news := [.int .i64 x]) rfl (row_new _ _ _ rfl) (by simp [Value.oneCell']) (by omega) (by omega) (by simp; omega) ?_; intro v3 w3 hown3 hg3 ho3))
          have hown' := hown'.alloc (.cells #[.int .i64 x] 3)
          have bx3 := bx'.alloc (.cells #[.int .i64 x] 3)
          have bs3 := bs'.alloc (.cells #[.int .i64 x] 3)
          have bx3 := bx3.grown hg3 (own_ne hown' bx3 (by decide))
          have bs3 := bs3.grown hg3 (own_ne hown' bs3 (by decide))
          have hb3 : Below w.heap.size w w3 := below_grown (hb'.alloc hzi _) (by simp; omega) hown' (by omega) hg3
          clear hg3 ho3 hown' bx' bs' hb' z2 z3 hzi
          refine (lfa_c _ _ _ _).mono ?_
          rintro e w4 ⟨rfl, hb4⟩
          have bx4 := bx3.then hb4
          have bs4 := bs3.then hb4
          have own4 := own_below hown3 hb4
          have hb4 := below_then hb3 hb3.size hb4
          clear bx3 bs3 hown3 hb3
          have z5 := hb4.size
          go_wp2_with fail
          exact ⟨⟨k + 1, acc' ++ [x], hlt, rfl, by simpa using own4, by rw [hacc'.out, if_pos trivial, ray_stop _ _ _ _ _ _ _ _ (by simp)]; exact rfl, by simp; omega, hb4, bx4⟩, by simp [intOf]; omega⟩
    · have hk2 : Hid (k = ss.length) := hide (by omega)
      go_wp2_with fail
      refine (sort_c _ _ acc _ hown (by omega)).mono ?_
      rintro e w2 ⟨rfl, hown2, hg2⟩
      have hb2 := below_grown hb z hown (by omega) hg2
      have hlen : (reachP bc br false others cell ss).length = acc.length := by
        rw [hacc.out, hk2.out, List.take_of_length_le (Nat.le_refl _)]; exact List.length_mergeSort ..
      have hlist : reachP bc br false others cell ss = acc.mergeSort fun x y => decide (x ≤ y) := by
        rw [hacc.out, hk2.out, List.take_of_length_le (Nat.le_refl _)]; rfl
      have HE : Hid (w2.ownsRow w.heap.size 3 1 u9 (reachP bc br false others cell ss).length (ints (reachP bc br false others cell ss))) := by
        rw [hlen, hlist]; exact own_mono hown2 (by omega)
      clear hlen hlist hown2 hg2
      go_wp2_with fail
      go_ret
      exact ⟨_, rfl, HE.out, hb2⟩
/-- REACH: whatever the piece. -/
theorem reach_c (bc br cell : Int) (B : Nat) (pv : Value) (far : Bool) (O : Option Addr) (oc : Nat) (ss : List (Int × Int)) (others : List Int) (w : World) (h1 : 1 ≤ bc) (h2 : bc ≤ 5) (h3 : 1 ≤ br) (h4 : br ≤ 5)
    (g1 : 0 ≤ cell) (g2 : cell < bc * br) (hs : Hid (∀ p ∈ ss, okStep p)) (hn : ss.length ≤ 8) (hp : IsPiece w B pv ss far) (ho : Row w O (ints others)) (hof : Flat O) (hol : others.length ≤ maxLen) :
    Calls Tryz.prog 120 #[boardV bc br, pv, .int .i64 cell, .slice O others.length oc] w (Owns 3 1 (reachP bc br far others cell ss).length (ints (reachP bc br far others cell ss)) w) := by
  obtain ⟨g, c, rfl, hr, _⟩ := hp
  cases far with
  | true => exact reach_far bc br cell g O c oc ss others w h1 h2 h3 h4 g1 g2 hs hn hr ho hof hol
  | false => exact reach_near bc br cell g O c oc ss others w h1 h2 h3 h4 g1 g2 hs hn hr ho hof hol
end Go.Proofs.YtmfdlijkpdgimaaGreatDoor

/-
  ValidKind, ReachOf and AllMoves of the program.
-/
namespace Go.Proofs.YtmfdlijkpdgimaaGreatDoor
open Go.RowKit
set_option linter.unusedVariables false

theorem implValidKind_c (s : ByteArray) (w : World) : Calls Tryz.prog 63 #[.string s] w (Plain (.bool (kindL s.toList).isSome) w) := by
  cases hk : kindL s.toList with
  | none =>
    have Hk := hide hk
    clear hk
    go_enter Tryz.func63, Tryz.ntmps63
    go_wp2_with fail
    refine (pieceOf_no s _ Hk.out).mono ?_
    rintro e w1 ⟨rfl, hb⟩
    go_wp2_with fail
    go_ret
    exact ⟨rfl, hb⟩
  | some p =>
    have Hk := hide hk
    clear hk
    go_enter Tryz.func63, Tryz.ntmps63
    go_wp2_with fail
    refine (pieceOf_yes s _ Hk.out).mono ?_
    rintro e w1 ⟨pv, rfl, hp, hb⟩
    go_wp2_with fail
    go_ret
    exact ⟨rfl, hb⟩

set_option maxHeartbeats 400000 in
theorem reachOf_nil (bc br cell : Int) (s : ByteArray) (O : Option Addr) (oc : Nat) (others : List Int) (w : World) (h : ¬ (Brd bc br ∧ (kindL s.toList).isSome = true)) :
    Calls Tryz.prog 92 #[.int .i64 bc, .int .i64 br, .string s, .int .i64 cell, .slice O others.length oc] w (Plain (.slice none 0 0) w) := by
  have H := hide h
  clear h
  go_enter Tryz.func92, Tryz.ntmps92
  go_wp2_with fail
  refine (setUp_no bc br s _ H.out).mono ?_
  rintro e w1 ⟨x, y, pv, rfl, hb⟩
  go_wp2_with fail
  go_ret
  exact ⟨rfl, hb.alloc hb.size _⟩
set_option maxHeartbeats 400000 in
theorem reachOf_out (bc br cell : Int) (s : ByteArray) (O : Option Addr) (oc : Nat) (others : List Int) (w : World) {ss : List (Int × Int)} {far : Bool} (hk : kindL s.toList = some (ss, far)) (h1 : 1 ≤ bc) (h2 : bc ≤ 5) (h3 : 1 ≤ br) (h4 : br ≤ 5)
    (h : ¬ (0 ≤ cell ∧ cell < bc * br)) :
    Calls Tryz.prog 92 #[.int .i64 bc, .int .i64 br, .string s, .int .i64 cell, .slice O others.length oc] w (Plain (.slice none 0 0) w) := by
  have Hk := hide hk
  have H := hide h
  clear hk h
  go_enter Tryz.func92, Tryz.ntmps92
  go_wp2_with fail
  refine (setUp_yes bc br s _ Hk.out h1 h2 h3 h4).mono ?_
  rintro e w1 ⟨pv, rfl, hp, hb⟩
  go_wp2_with fail
  refine (has_no bc br cell _ h1 h2 h3 h4 H.out).mono ?_
  rintro e w2 ⟨rfl, hb2⟩
  go_wp2_with fail
  go_ret
  exact ⟨rfl, below_then (hb.alloc hb.size _) (by have := hb.size; simp; omega) hb2⟩
set_option maxHeartbeats 400000 in
theorem reachOf_unasc (bc br cell : Int) (s : ByteArray) (O : Option Addr) (oc : Nat) (others : List Int) (w : World) {ss : List (Int × Int)} {far : Bool} (hk : kindL s.toList = some (ss, far)) (h1 : 1 ≤ bc) (h2 : bc ≤ 5) (h3 : 1 ≤ br) (h4 : br ≤ 5)
    (g1 : 0 ≤ cell) (g2 : cell < bc * br) (ho : Row w O (ints others)) (hm : others.length ≤ maxLen) (h : ¬ AscTo (bc * br) others others.length) :
    Calls Tryz.prog 92 #[.int .i64 bc, .int .i64 br, .string s, .int .i64 cell, .slice O others.length oc] w (Plain (.slice none 0 0) w) := by
  have Hk := hide hk
  clear hk
  have ha : ∀ w5 : World, Below w.heap.size w w5 → Calls Tryz.prog 119 #[boardV bc br, .slice O others.length oc] w5 (Plain (.bool false) w5) := fun w5 h5 => by
    have := asc_c bc br O oc others w5 h1 h2 h3 h4 (ho.below h5) hm
    rwa [decide_eq_false h] at this
  have HA := hide ha
  clear ha h
  go_enter Tryz.func92, Tryz.ntmps92
  go_wp2_with fail
  refine (setUp_yes bc br s _ Hk.out h1 h2 h3 h4).mono ?_
  rintro e w1 ⟨pv, rfl, hp, hb⟩
  have bx := Box.new w1 40 #[.int .i64 bc, .int .i64 br]
  go_wp2_with fail
  refine (has_yes bc br cell _ h1 h2 h3 h4 g1 g2).mono ?_
  rintro e w2 ⟨rfl, hb2⟩
  have bx2 := bx.then hb2
  have c0 := bx2.cell 0
  have c1 := bx2.cell 1
  have hb2 := below_then (hb.alloc hb.size _) (by have := hb.size; simp; omega) hb2
  clear bx
  go_wp2_with fail
  refine (HA.out _ hb2).mono ?_
  rintro e w3 ⟨rfl, hb3⟩
  go_wp2_with fail
  go_ret
  exact ⟨rfl, below_then hb2 hb2.size hb3⟩
set_option maxHeartbeats 400000 in
theorem reachOf_yes (bc br cell : Int) (s : ByteArray) (O : Option Addr) (oc : Nat) (others : List Int) (w : World) {ss : List (Int × Int)} {far : Bool} (hk : kindL s.toList = some (ss, far)) (h1 : 1 ≤ bc) (h2 : bc ≤ 5) (h3 : 1 ≤ br) (h4 : br ≤ 5)
    (g1 : 0 ≤ cell) (g2 : cell < bc * br) (ho : Row w O (ints others)) (hof : Flat O) (hm : others.length ≤ maxLen) (h : AscTo (bc * br) others others.length) :
    Calls Tryz.prog 92 #[.int .i64 bc, .int .i64 br, .string s, .int .i64 cell, .slice O others.length oc] w (Owns 3 1 (reachP bc br far others cell ss).length (ints (reachP bc br far others cell ss)) w) := by
  obtain ⟨k1, k2, _⟩ := kind_ok hk
  have Hk := hide hk
  clear hk
  have ha : ∀ w5 : World, Below w.heap.size w w5 → Calls Tryz.prog 119 #[boardV bc br, .slice O others.length oc] w5 (Plain (.bool true) w5) := fun w5 h5 => by
    have := asc_c bc br O oc others w5 h1 h2 h3 h4 (ho.below h5) hm
    rwa [decide_eq_true h] at this
  have HA := hide ha
  have Hof := hide hof
  clear ha h hof
  go_enter Tryz.func92, Tryz.ntmps92
  go_wp2_with fail
  refine (setUp_yes bc br s _ Hk.out h1 h2 h3 h4).mono ?_
  rintro e w1 ⟨pv, rfl, hp, hb⟩
  have bx := Box.new w1 40 #[.int .i64 bc, .int .i64 br]
  have hp := hp.then ((Below.refl _ _).alloc (Nat.le_refl _) (.cells #[.int .i64 bc, .int .i64 br] 40))
  go_wp2_with fail
  refine (has_yes bc br cell _ h1 h2 h3 h4 g1 g2).mono ?_
  rintro e w2 ⟨rfl, hb2⟩
  have bx2 := bx.then hb2
  have hp2 := hp.then hb2
  have c0 := bx2.cell 0
  have c1 := bx2.cell 1
  have hb2 := below_then (hb.alloc hb.size _) (by have := hb.size; simp; omega) hb2
  clear bx hp
  go_wp2_with fail
  refine (HA.out _ hb2).mono ?_
  rintro e w3 ⟨rfl, hb3⟩
  have bx3 := bx2.then hb3
  have hp3 := hp2.then hb3
  have hb3 := below_then hb2 hb2.size hb3
  clear c0 c1 bx2 hp2 hb2
  have c0 := bx3.cell 0
  have c1 := bx3.cell 1
  go_wp2_with fail
  refine (reach_c bc br cell _ pv far O oc ss others _ h1 h2 h3 h4 g1 g2 k1 k2 hp3 (ho.below hb3) Hof.out hm).mono ?_
  rintro e w4 ⟨v, rfl, hown, hb4⟩
  go_wp2_with fail
  go_ret
  exact ⟨v, rfl, own_mono hown hb3.size, below_then hb3 hb3.size hb4⟩
/-- REACHOF OF THE PROGRAM. -/
theorem implReachOf_c (bc br cell : Int) (s : ByteArray) (O : Option Addr) (oc : Nat) (others : List Int) (w : World) (ho : Row w O (ints others)) (hof : Flat O) (hm : others.length ≤ maxLen) :
    Calls Tryz.prog 92 #[.int .i64 bc, .int .i64 br, .string s, .int .i64 cell, .slice O others.length oc] w (Owns 3 1 (reachOfP bc br s.toList cell others).length (ints (reachOfP bc br s.toList cell others)) w) := by
  have nil : ∀ {l : List Int}, l = [] → Calls Tryz.prog 92 #[.int .i64 bc, .int .i64 br, .string s, .int .i64 cell, .slice O others.length oc] w (Plain (.slice none 0 0) w) →
      Calls Tryz.prog 92 #[.int .i64 bc, .int .i64 br, .string s, .int .i64 cell, .slice O others.length oc] w (Owns 3 1 l.length (ints l) w) := by
    rintro _ rfl h
    exact h.mono fun e w' ⟨he, hb⟩ => ⟨_, he, World.ownsRow_nil _ _ _ _, hb⟩
  unfold reachOfP
  cases hk : kindL s.toList with
  | none => exact nil rfl (reachOf_nil bc br cell s O oc others w (by simp [hk]))
  | some p =>
    obtain ⟨ss, far⟩ := p
    simp only
    by_cases hB : Brd bc br
    · obtain ⟨h1, h2, h3, h4⟩ := hB
      by_cases hc : 0 ≤ cell ∧ cell < bc * br
      · by_cases ha : AscTo (bc * br) others others.length
        · rw [if_pos ⟨⟨h1, h2, h3, h4⟩, hc, ha⟩]
          exact reachOf_yes bc br cell s O oc others w hk h1 h2 h3 h4 hc.1 hc.2 ho hof hm ha
        · rw [if_neg (fun h => ha h.2.2)]
          exact nil rfl (reachOf_unasc bc br cell s O oc others w hk h1 h2 h3 h4 hc.1 hc.2 ho hm ha)
      · rw [if_neg (fun h => hc h.2.1)]
        exact nil rfl (reachOf_out bc br cell s O oc others w hk h1 h2 h3 h4 hc)
    · rw [if_neg (fun h => hB h.1)]
      exact nil rfl (reachOf_nil bc br cell s O oc others w (fun h => hB h.1))
end Go.Proofs.YtmfdlijkpdgimaaGreatDoor

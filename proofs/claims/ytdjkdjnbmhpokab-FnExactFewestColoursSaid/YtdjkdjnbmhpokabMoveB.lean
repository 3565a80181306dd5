
/-
  pieceOf: the piece of a kind.
-/
import Derived.Test.YtdjkdjnbmhpokabMoveA
import Derived.Test.YtdjkdjnbmhpokabPure
namespace Go.Proofs.Ytdjkdjnbmhpokab
open Go.RowKit

theorem from_new {n B : Nat} (h : B ≤ n) : From B (some ⟨n, 0, none⟩) := by rintro _ ⟨rfl⟩; exact h
/-- A piece of these steps: a leaper, or a slider; its steps lie in block B or behind it. -/
def IsPiece (w : World) (B : Nat) (pv : Value) (ss : List (Int × Int)) (far : Bool) : Prop := ∃ g c, pv = .iface (if far then 100 else 98) (.agg #[.slice (some ⟨g, 0, none⟩) ss.length c]) ∧ Row w (some ⟨g, 0, none⟩) (flat ss) ∧ B ≤ g
def PieceIs (ss : List (Int × Int)) (far : Bool) (w : World) (e : Ending) (w' : World) : Prop := ∃ pv, e = .returned (.tuple #[pv, .bool true]) ∧ IsPiece w' w.heap.size pv ss far ∧ Below w.heap.size w w'
theorem IsPiece.then {w w' : World} {B : Nat} {pv : Value} {ss : List (Int × Int)} {far : Bool} (h : IsPiece w B pv ss far) (hb : Below w.heap.size w w') : IsPiece w' B pv ss far := by
  obtain ⟨A, c, e, hr, hf⟩ := h
  exact ⟨A, c, e, hr.below hb, hf⟩
theorem IsPiece.mono {w : World} {B B' : Nat} {pv : Value} {ss : List (Int × Int)} {far : Bool} (h : IsPiece w B pv ss far) (hb : B' ≤ B) : IsPiece w B' pv ss far := by
  obtain ⟨A, c, e, hr, hf⟩ := h
  exact ⟨A, c, e, hr, Nat.le_trans hb hf⟩
theorem IsPiece.set_low {w : World} {B : Nat} {pv : Value} {ss : List (Int × Int)} {far : Bool} (h : IsPiece w B pv ss far) {p : Addr} (hp : p.block < B) (u : Value) : IsPiece (w.setCell p u) B pv ss far := by
  obtain ⟨A, c, e, hr, hf⟩ := h
  exact ⟨A, c, e, hr.set_low (from_new hf) hp u, hf⟩
/-- What the call owns, where there is an element. -/
theorem own_some {w : World} {base : Nat} {e : TypeId} {size n : Nat} {v : Value} {cs : List Value} (h : w.ownsRow base e size v n cs) (hn : 0 < n) : ∃ g c, v = .slice (some ⟨g, 0, none⟩) n c ∧ Row w (some ⟨g, 0, none⟩) cs ∧ base ≤ g := by
  obtain ⟨A, c, rfl, _, _, hrow, hfr⟩ := own_row h
  rcases h.2 with ⟨_, rfl⟩ | ⟨g, cap, cur, e, hb, _⟩
  · omega
  · injection e with e1 e2 e3
    subst e1
    exact ⟨g, c, rfl, hrow, hb⟩
theorem one_flat (ss : List (Int × Int)) : ∀ u ∈ flat ss, u.oneCell' = true := by
  intro u hu
  simp only [flat, List.mem_flatMap, List.mem_cons, List.not_mem_nil, or_false] at hu
  obtain ⟨p, _, rfl | rfl⟩ := hu <;> rfl

set_option maxHeartbeats 400000 in
theorem piece_step (s : ByteArray) (w : World) (h0 : (s.toList == [115, 116, 101, 112]) = true) : Calls Try.prog 53 #[.string s] w (PieceIs straight false w) := by
  go_enter Try.func53, Try.ntmps53
  go_wp2_with (go_at_call 63; refine (straight_c _).mono ?_; rintro e w1 ⟨rfl, rfl⟩)
  go_ret2
  exact ⟨_, rfl, ⟨_, _, rfl, row_new _ _ _ rfl, Nat.le_refl _⟩, (Below.refl _ _).alloc (Nat.le_refl _) _⟩

set_option maxHeartbeats 400000 in
theorem piece_king (s : ByteArray) (w : World) (h0 : (s.toList == [115, 116, 101, 112]) = false) (h1 : (s.toList == [107, 105, 110, 103]) = true) : Calls Try.prog 53 #[.string s] w (PieceIs both false w) := by
  go_enter Try.func53, Try.ntmps53
  go_wp2_with fail
  refine (straight_c _).mono ?_
  rintro e w1 ⟨rfl, rfl⟩
  go_wp2_with fail
  refine (slanted_c _).mono ?_
  rintro e w1 ⟨rfl, rfl⟩
  have r1 : Row (w.alloc (.cells #[.int .i64 (-1), .int .i64 0, .int .i64 0, .int .i64 (-1), .int .i64 0, .int .i64 1, .int .i64 1, .int .i64 0] 83)) (some ⟨w.heap.size, 0, none⟩) (flat straight) := row_new w _ _ rfl
  have r1 := r1.alloc (.cells #[.int .i64 (-1), .int .i64 (-1), .int .i64 (-1), .int .i64 1, .int .i64 1, .int .i64 (-1), .int .i64 1, .int .i64 1] 83)
  have r2 : Row ((w.alloc (.cells #[.int .i64 (-1), .int .i64 0, .int .i64 0, .int .i64 (-1), .int .i64 0, .int .i64 1, .int .i64 1, .int .i64 0] 83)).alloc (.cells #[.int .i64 (-1), .int .i64 (-1), .int .i64 (-1), .int .i64 1, .int .i64 1, .int .i64 (-1), .int .i64 1, .int .i64 1] 83)) (some ⟨w.heap.size + 1, 0, none⟩) (flat slanted) := row_new _ _ _ (by simp)
  go_wp2_with fail
  refine (concat_c (w.heap.size + 1 + 1) (some ⟨w.heap.size, 0, none⟩) (some ⟨w.heap.size + 1, 0, none⟩) 4 4 (flat straight) (flat slanted) _ (by simp) ((World.cell?_alloc_at _ _ _ _ (by simp)).trans rfl) ((World.cell?_alloc_at _ _ _ _ (by simp)).trans rfl) (r1.alloc _) (r2.alloc _) rfl rfl (one_flat _) (one_flat _)).mono ?_
  rintro e w2 ⟨v, rfl, hown, hb⟩
  obtain ⟨g, c, rfl, hrow, hfr⟩ := own_some hown (by decide)
  go_wp2_with fail
  go_ret2
  exact ⟨_, rfl, ⟨_, _, rfl, hrow, by simp at hfr; omega⟩, below_then ((((Below.refl _ _).alloc (Nat.le_refl _) _).alloc (by simp <;> omega) _).alloc (by simp <;> omega) _) (by simp <;> omega) hb⟩

set_option maxHeartbeats 400000 in
theorem piece_knight (s : ByteArray) (w : World) (h0 : (s.toList == [115, 116, 101, 112]) = false) (h1 : (s.toList == [107, 105, 110, 103]) = false) (h2 : (s.toList == [107, 110, 105, 103, 104, 116]) = true) : Calls Try.prog 53 #[.string s] w (PieceIs knights false w) := by
  go_enter Try.func53, Try.ntmps53
  go_wp2_with (go_at_call 66; refine (knight_c _).mono ?_; rintro e w1 ⟨rfl, rfl⟩)
  go_ret2
  exact ⟨_, rfl, ⟨_, _, rfl, row_new _ _ _ rfl, Nat.le_refl _⟩, (Below.refl _ _).alloc (Nat.le_refl _) _⟩

set_option maxHeartbeats 400000 in
theorem piece_rook (s : ByteArray) (w : World) (h0 : (s.toList == [115, 116, 101, 112]) = false) (h1 : (s.toList == [107, 105, 110, 103]) = false) (h2 : (s.toList == [107, 110, 105, 103, 104, 116]) = false) (h3 : (s.toList == [114, 111, 111, 107]) = true) : Calls Try.prog 53 #[.string s] w (PieceIs straight true w) := by
  go_enter Try.func53, Try.ntmps53
  go_wp2_with (go_at_call 63; refine (straight_c _).mono ?_; rintro e w1 ⟨rfl, rfl⟩)
  go_ret2
  exact ⟨_, rfl, ⟨_, _, rfl, row_new _ _ _ rfl, Nat.le_refl _⟩, (Below.refl _ _).alloc (Nat.le_refl _) _⟩

set_option maxHeartbeats 400000 in
theorem piece_bishop (s : ByteArray) (w : World) (h0 : (s.toList == [115, 116, 101, 112]) = false) (h1 : (s.toList == [107, 105, 110, 103]) = false) (h2 : (s.toList == [107, 110, 105, 103, 104, 116]) = false) (h3 : (s.toList == [114, 111, 111, 107]) = false) (h4 : (s.toList == [98, 105, 115, 104, 111, 112]) = true) : Calls Try.prog 53 #[.string s] w (PieceIs slanted true w) := by
  go_enter Try.func53, Try.ntmps53
  go_wp2_with (go_at_call 65; refine (slanted_c _).mono ?_; rintro e w1 ⟨rfl, rfl⟩)
  go_ret2
  exact ⟨_, rfl, ⟨_, _, rfl, row_new _ _ _ rfl, Nat.le_refl _⟩, (Below.refl _ _).alloc (Nat.le_refl _) _⟩

set_option maxHeartbeats 400000 in
theorem piece_queen (s : ByteArray) (w : World) (h0 : (s.toList == [115, 116, 101, 112]) = false) (h1 : (s.toList == [107, 105, 110, 103]) = false) (h2 : (s.toList == [107, 110, 105, 103, 104, 116]) = false) (h3 : (s.toList == [114, 111, 111, 107]) = false) (h4 : (s.toList == [98, 105, 115, 104, 111, 112]) = false) (h5 : (s.toList == [113, 117, 101, 101, 110]) = true) : Calls Try.prog 53 #[.string s] w (PieceIs both true w) := by
  go_enter Try.func53, Try.ntmps53
  go_wp2_with fail
  refine (straight_c _).mono ?_
  rintro e w1 ⟨rfl, rfl⟩
  go_wp2_with fail
  refine (slanted_c _).mono ?_
  rintro e w1 ⟨rfl, rfl⟩
  have r1 : Row (w.alloc (.cells #[.int .i64 (-1), .int .i64 0, .int .i64 0, .int .i64 (-1), .int .i64 0, .int .i64 1, .int .i64 1, .int .i64 0] 83)) (some ⟨w.heap.size, 0, none⟩) (flat straight) := row_new w _ _ rfl
  have r1 := r1.alloc (.cells #[.int .i64 (-1), .int .i64 (-1), .int .i64 (-1), .int .i64 1, .int .i64 1, .int .i64 (-1), .int .i64 1, .int .i64 1] 83)
  have r2 : Row ((w.alloc (.cells #[.int .i64 (-1), .int .i64 0, .int .i64 0, .int .i64 (-1), .int .i64 0, .int .i64 1, .int .i64 1, .int .i64 0] 83)).alloc (.cells #[.int .i64 (-1), .int .i64 (-1), .int .i64 (-1), .int .i64 1, .int .i64 1, .int .i64 (-1), .int .i64 1, .int .i64 1] 83)) (some ⟨w.heap.size + 1, 0, none⟩) (flat slanted) := row_new _ _ _ (by simp)
  go_wp2_with fail
  refine (concat_c (w.heap.size + 1 + 1) (some ⟨w.heap.size, 0, none⟩) (some ⟨w.heap.size + 1, 0, none⟩) 4 4 (flat straight) (flat slanted) _ (by simp) ((World.cell?_alloc_at _ _ _ _ (by simp)).trans rfl) ((World.cell?_alloc_at _ _ _ _ (by simp)).trans rfl) (r1.alloc _) (r2.alloc _) rfl rfl (one_flat _) (one_flat _)).mono ?_
  rintro e w2 ⟨v, rfl, hown, hb⟩
  obtain ⟨g, c, rfl, hrow, hfr⟩ := own_some hown (by decide)
  go_wp2_with fail
  go_ret2
  exact ⟨_, rfl, ⟨_, _, rfl, hrow, by simp at hfr; omega⟩, below_then ((((Below.refl _ _).alloc (Nat.le_refl _) _).alloc (by simp <;> omega) _).alloc (by simp <;> omega) _) (by simp <;> omega) hb⟩

set_option maxHeartbeats 400000 in
theorem piece_none (s : ByteArray) (w : World) (h0 : (s.toList == [115, 116, 101, 112]) = false) (h1 : (s.toList == [107, 105, 110, 103]) = false) (h2 : (s.toList == [107, 110, 105, 103, 104, 116]) = false) (h3 : (s.toList == [114, 111, 111, 107]) = false) (h4 : (s.toList == [98, 105, 115, 104, 111, 112]) = false) (h5 : (s.toList == [113, 117, 101, 101, 110]) = false) : Calls Try.prog 53 #[.string s] w (Plain (.tuple #[.nilIface, .bool false]) w) := by
  go_enter Try.func53, Try.ntmps53
  go_wp2
  go_ret2
  exact ⟨rfl, Below.refl _ _⟩

theorem pieceOf_yes (s : ByteArray) (w : World) {ss : List (Int × Int)} {far : Bool} (h : kindL s.toList = some (ss, far)) : Calls Try.prog 53 #[.string s] w (PieceIs ss far w) := by
  unfold kindL at h
  cases h0 : (s.toList == [115, 116, 101, 112]) with
  | true =>
    simp only [h0, if_true, Option.some.injEq, Prod.mk.injEq] at h
    obtain ⟨rfl, rfl⟩ := h
    exact piece_step s w h0
  | false =>
  cases h1 : (s.toList == [107, 105, 110, 103]) with
  | true =>
    simp only [h0, h1, Bool.false_eq_true, if_false, if_true, Option.some.injEq, Prod.mk.injEq] at h
    obtain ⟨rfl, rfl⟩ := h
    exact piece_king s w h0 h1
  | false =>
  cases h2 : (s.toList == [107, 110, 105, 103, 104, 116]) with
  | true =>
    simp only [h0, h1, h2, Bool.false_eq_true, if_false, if_true, Option.some.injEq, Prod.mk.injEq] at h
    obtain ⟨rfl, rfl⟩ := h
    exact piece_knight s w h0 h1 h2
  | false =>
  cases h3 : (s.toList == [114, 111, 111, 107]) with
  | true =>
    simp only [h0, h1, h2, h3, Bool.false_eq_true, if_false, if_true, Option.some.injEq, Prod.mk.injEq] at h
    obtain ⟨rfl, rfl⟩ := h
    exact piece_rook s w h0 h1 h2 h3
  | false =>
  cases h4 : (s.toList == [98, 105, 115, 104, 111, 112]) with
  | true =>
    simp only [h0, h1, h2, h3, h4, Bool.false_eq_true, if_false, if_true, Option.some.injEq, Prod.mk.injEq] at h
    obtain ⟨rfl, rfl⟩ := h
    exact piece_bishop s w h0 h1 h2 h3 h4
  | false =>
  cases h5 : (s.toList == [113, 117, 101, 101, 110]) with
  | true =>
    simp only [h0, h1, h2, h3, h4, h5, Bool.false_eq_true, if_false, if_true, Option.some.injEq, Prod.mk.injEq] at h
    obtain ⟨rfl, rfl⟩ := h
    exact piece_queen s w h0 h1 h2 h3 h4 h5
  | false =>
  simp [h0, h1, h2, h3, h4, h5] at h
theorem pieceOf_no (s : ByteArray) (w : World) (h : kindL s.toList = none) : Calls Try.prog 53 #[.string s] w (Plain (.tuple #[.nilIface, .bool false]) w) := by
  unfold kindL at h
  cases h0 : (s.toList == [115, 116, 101, 112]) with
  | true => simp [h0] at h
  | false =>
  cases h1 : (s.toList == [107, 105, 110, 103]) with
  | true => simp [h0, h1] at h
  | false =>
  cases h2 : (s.toList == [107, 110, 105, 103, 104, 116]) with
  | true => simp [h0, h1, h2] at h
  | false =>
  cases h3 : (s.toList == [114, 111, 111, 107]) with
  | true => simp [h0, h1, h2, h3] at h
  | false =>
  cases h4 : (s.toList == [98, 105, 115, 104, 111, 112]) with
  | true => simp [h0, h1, h2, h3, h4] at h
  | false =>
  cases h5 : (s.toList == [113, 117, 101, 101, 110]) with
  | true => simp [h0, h1, h2, h3, h4, h5] at h
  | false =>
  exact piece_none s w h0 h1 h2 h3 h4 h5
end Go.Proofs.Ytdjkdjnbmhpokab

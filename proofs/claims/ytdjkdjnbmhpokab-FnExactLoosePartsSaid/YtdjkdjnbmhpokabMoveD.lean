
/-
  Boards: hasAscending, setUp; the methods of pieces.
-/
import Derived.Test.YtdjkdjnbmhpokabMoveB
import Derived.Test.YtdjkdjnbmhpokabMoveC
namespace Go.Proofs.Ytdjkdjnbmhpokab
open Go.RowKit
set_option linter.unusedVariables false

theorem lst_c (A : Option Addr) (n c : Nat) (w : World) : Calls Try.prog 106 #[.agg #[.slice A n c]] w (Plain (.slice A n c) w) := by
  go_enter Try.func106, Try.ntmps106
  go_wp2
  go_ret
  exact ⟨rfl, (Below.refl _ _).alloc (Nat.le_refl _) _⟩
theorem sst_c (A : Option Addr) (n c : Nat) (w : World) : Calls Try.prog 108 #[.agg #[.slice A n c]] w (Plain (.slice A n c) w) := by
  go_enter Try.func108, Try.ntmps108
  go_wp2
  go_ret
  exact ⟨rfl, (Below.refl _ _).alloc (Nat.le_refl _) _⟩
theorem lfa_c (A : Option Addr) (n c : Nat) (w : World) : Calls Try.prog 105 #[.agg #[.slice A n c]] w (Plain (.bool false) w) := by
  go_enter Try.func105, Try.ntmps105
  go_wp2
  go_ret
  exact ⟨rfl, (Below.refl _ _).alloc (Nat.le_refl _) _⟩
theorem sfa_c (A : Option Addr) (n c : Nat) (w : World) : Calls Try.prog 107 #[.agg #[.slice A n c]] w (Plain (.bool true) w) := by
  go_enter Try.func107, Try.ntmps107
  go_wp2
  go_ret
  exact ⟨rfl, (Below.refl _ _).alloc (Nat.le_refl _) _⟩

theorem pieceEnd {w : World} {g : Nat} {t : TypeId} {x y u v : Value} (h : Box w g t #[x, y]) :
    w.cell? ⟨g, 0, none⟩ = some x ∧ w.frozen? ⟨g, 0, none⟩ = false ∧ (w.setCell ⟨g, 0, none⟩ u).cell? ⟨g, 0, none⟩ = some u ∧ (w.setCell ⟨g, 0, none⟩ u).cell? ⟨g, 1, none⟩ = some y ∧ (w.setCell ⟨g, 0, none⟩ u).frozen? ⟨g, 1, none⟩ = false ∧
    ((w.setCell ⟨g, 0, none⟩ u).setCell ⟨g, 1, none⟩ v).cell? ⟨g, 0, none⟩ = some u ∧ ((w.setCell ⟨g, 0, none⟩ u).setCell ⟨g, 1, none⟩ v).cell? ⟨g, 1, none⟩ = some v :=
  ⟨h.cell 0, h.free 0, (h.set 0 u).cell 0, (h.set 0 u).cell 1, (h.set 0 u).free 1, ((h.set 0 u).set 1 v).cell 0, ((h.set 0 u).set 1 v).cell 1⟩

set_option maxHeartbeats 400000 in
theorem setUp_yes (bc br : Int) (s : ByteArray) (w : World) {ss : List (Int × Int)} {far : Bool} (hk : kindL s.toList = some (ss, far)) (h1 : 1 ≤ bc) (h2 : bc ≤ 5) (h3 : 1 ≤ br) (h4 : br ≤ 5) :
    Calls Try.prog 35 #[.int .i64 bc, .int .i64 br, .string s] w fun e w' => ∃ pv, e = .returned (.tuple #[boardV bc br, pv, .bool true]) ∧ IsPiece w' w.heap.size pv ss far ∧ Below w.heap.size w w' := by
  have Hk := hide hk
  clear hk
  have box0 := Box.new w 54 #[.int .i64 0, .int .i64 0]
  go_enter Try.func35, Try.ntmps35
  go_wp2_with fail
  refine (boardOf_yes bc br _ h1 h2 h3 h4).mono ?_
  rintro e w1 ⟨rfl, hb1⟩
  have box1 := (box0.then hb1).alloc (.cells #[.int .i64 bc, .int .i64 br] 54)
  have z1 : w.heap.size < w1.heap.size := by have := hb1.size; simp at this; omega
  go_wp2_with fail
  refine (pieceOf_yes s _ Hk.out).mono ?_
  rintro e w2 ⟨pv, rfl, hp, hb2⟩
  obtain ⟨c1, c2, c3, c4, c5, c6, c7⟩ := pieceEnd (u := .int .i64 bc) (v := .int .i64 br) (box1.then hb2)
  obtain ⟨d1, d2, _⟩ := pieceEnd (u := .int .i64 bc) (v := .int .i64 br) ((Box.new w1 54 #[.int .i64 bc, .int .i64 br]).then hb2)
  have d3 := ((Box.new w1 54 #[.int .i64 bc, .int .i64 br]).then hb2).cell 1
  have z2 : w1.heap.size < w2.heap.size := by have := hb2.size; simp at this; omega
  go_wp2_with fail
  refine bodyPost_ret (v := .tuple #[boardV bc br, pv, .bool true]) (by simp [results, Try.results35, go_sem, c6, c7]) rfl ⟨pv, rfl, ?_, ?_⟩
  · exact ((hp.set_low (by simp; omega) _).set_low (by simp; omega) _).mono (by simp; omega)
  · exact ((below_then (((below_then ((Below.refl _ _).alloc (Nat.le_refl _) _) (by simp) hb1).alloc (by omega) _)) (by simp; omega) hb2).setCell (Nat.le_refl _) _).setCell (Nat.le_refl _) _

def NotSet (w : World) (e : Ending) (w' : World) : Prop := ∃ x y pv, e = .returned (.tuple #[boardV x y, pv, .bool false]) ∧ Below w.heap.size w w'
set_option maxHeartbeats 400000 in
theorem setUp_no1 (bc br : Int) (s : ByteArray) (w : World) (hk : kindL s.toList = none) (h1 : 1 ≤ bc) (h2 : bc ≤ 5) (h3 : 1 ≤ br) (h4 : br ≤ 5) : Calls Try.prog 35 #[.int .i64 bc, .int .i64 br, .string s] w (NotSet w) := by
  have Hk := hide hk
  clear hk
  have box0 := Box.new w 54 #[.int .i64 0, .int .i64 0]
  go_enter Try.func35, Try.ntmps35
  go_wp2_with fail
  refine (boardOf_yes bc br _ h1 h2 h3 h4).mono ?_
  rintro e w1 ⟨rfl, hb1⟩
  have box1 := (box0.then hb1).alloc (.cells #[.int .i64 bc, .int .i64 br] 54)
  have z1 : w.heap.size < w1.heap.size := by have := hb1.size; simp at this; omega
  go_wp2_with fail
  refine (pieceOf_no s _ Hk.out).mono ?_
  rintro e w2 ⟨rfl, hb2⟩
  obtain ⟨c1, c2, c3, c4, c5, c6, c7⟩ := pieceEnd (u := .int .i64 bc) (v := .int .i64 br) (box1.then hb2)
  obtain ⟨d1, d2, _⟩ := pieceEnd (u := .int .i64 bc) (v := .int .i64 br) ((Box.new w1 54 #[.int .i64 bc, .int .i64 br]).then hb2)
  have d3 := ((Box.new w1 54 #[.int .i64 bc, .int .i64 br]).then hb2).cell 1
  have z2 : w1.heap.size < w2.heap.size := by have := hb2.size; simp at this; omega
  go_wp2_with fail
  refine bodyPost_ret (v := .tuple #[boardV bc br, .nilIface, .bool false]) (by simp [results, Try.results35, go_sem, c6, c7]) rfl ⟨_, _, _, rfl, ?_⟩
  exact ((below_then (((below_then ((Below.refl _ _).alloc (Nat.le_refl _) _) (by simp) hb1).alloc (by omega) _)) (by simp; omega) hb2).setCell (Nat.le_refl _) _).setCell (Nat.le_refl _) _
set_option maxHeartbeats 400000 in
theorem setUp_no2 (bc br : Int) (s : ByteArray) (w : World) (hn : ¬ (1 ≤ bc ∧ bc ≤ 5 ∧ 1 ≤ br ∧ br ≤ 5)) : Calls Try.prog 35 #[.int .i64 bc, .int .i64 br, .string s] w (NotSet w) := by
  have hp : ∀ w1, Calls Try.prog 53 #[.string s] w1 fun e w' => ∃ pv b, e = .returned (.tuple #[pv, .bool b]) ∧ Below w1.heap.size w1 w' := fun w1 => by
    cases hk : kindL s.toList with
    | none => exact (pieceOf_no s w1 hk).mono fun _ _ ⟨he, hb⟩ => ⟨_, _, he, hb⟩
    | some p => exact (pieceOf_yes s w1 hk).mono fun _ _ ⟨pv, he, _, hb⟩ => ⟨_, _, he, hb⟩
  have HP := hide hp
  clear hp
  have box0 := Box.new w 54 #[.int .i64 0, .int .i64 0]
  go_enter Try.func35, Try.ntmps35
  go_wp2_with fail
  refine (boardOf_no bc br _ hn).mono ?_
  rintro e w1 ⟨rfl, hb1⟩
  clear hn
  have box1 := (box0.then hb1).alloc (.cells #[.int .i64 0, .int .i64 0] 54)
  have z1 : w.heap.size < w1.heap.size := by have := hb1.size; simp at this; omega
  go_wp2_with fail
  refine (HP.out _).mono ?_
  rintro e w2 ⟨pv, b, rfl, hb2⟩
  obtain ⟨c1, c2, c3, c4, c5, c6, c7⟩ := pieceEnd (u := .int .i64 0) (v := .int .i64 0) (box1.then hb2)
  obtain ⟨d1, d2, _⟩ := pieceEnd (u := .int .i64 0) (v := .int .i64 0) ((Box.new w1 54 #[.int .i64 0, .int .i64 0]).then hb2)
  have d3 := ((Box.new w1 54 #[.int .i64 0, .int .i64 0]).then hb2).cell 1
  have z2 : w1.heap.size < w2.heap.size := by have := hb2.size; simp at this; omega
  go_wp2_with fail
  refine bodyPost_ret (v := .tuple #[boardV 0 0, pv, .bool false]) (by simp [results, Try.results35, go_sem, c6, c7]) rfl ⟨_, _, _, rfl, ?_⟩
  exact ((below_then (((below_then ((Below.refl _ _).alloc (Nat.le_refl _) _) (by simp) hb1).alloc (by omega) _)) (by simp; omega) hb2).setCell (Nat.le_refl _) _).setCell (Nat.le_refl _) _
theorem setUp_no (bc br : Int) (s : ByteArray) (w : World) (h : ¬ ((1 ≤ bc ∧ bc ≤ 5 ∧ 1 ≤ br ∧ br ≤ 5) ∧ (kindL s.toList).isSome = true)) : Calls Try.prog 35 #[.int .i64 bc, .int .i64 br, .string s] w (NotSet w) := by
  by_cases hn : 1 ≤ bc ∧ bc ≤ 5 ∧ 1 ≤ br ∧ br ≤ 5
  · obtain ⟨h1, h2, h3, h4⟩ := hn
    exact setUp_no1 bc br s w (by cases hk : kindL s.toList with | none => rfl | some p => exact absurd ⟨⟨h1, h2, h3, h4⟩, by simp [hk]⟩ h) h1 h2 h3 h4
  · exact setUp_no2 bc br s w hn
end Go.Proofs.Ytdjkdjnbmhpokab


/-
  Walks by chance: the program's chanceOf and ShareOf.
-/
import Derived.Test.YtoapmmmmdfmaeacPWalkF
import Derived.Test.YtoapmmmmdfmaeacPWalkM
import Derived.Test.YtoapmmmmdfmaeacElimM
import Derived.Test.YtoapmmmmdfmaeacWalkC
namespace Go.Proofs.Ytoapmmmmdfmaeac
open Go.RowKit
set_option linter.unusedVariables false

set_option maxHeartbeats 1000000 in
set_option maxRecDepth 100000 in
theorem chanceOf_no (bc br : Int) (s : ByteArray) (A : Option Addr) (c : Nat) (cs : List Int) (w : World) (h : smallK bc br s.toList = none) (hr : Row w A (ints cs)) (hm : cs.length ≤ 2) :
    Calls Try.prog 18 #[.int .i64 bc, .int .i64 br, .string s, .slice A cs.length c] w (Plain (.tuple #[.slice none 0 0, .bool false]) w) := by
  have HS := hide (walkOf_no bc br s A c cs w h hr hm)
  clear h hr
  go_enter Try.func18, Try.ntmps18
  go_wp2_with fail
  refine HS.out.mono ?_
  rintro e w1 ⟨rfl, b1⟩
  go_wp2_with fail
  go_ret2
  exact ⟨rfl, b1⟩
set_option maxHeartbeats 1000000 in
set_option maxRecDepth 100000 in
theorem chanceOf_yes (bc br : Int) (s : ByteArray) (A : Option Addr) (c n : Nat) (cs : List Int) (w : World) {ss : List (Int × Int)} {far : Bool} (hk : kindL s.toList = some (ss, far)) (hS : Small bc br) (hn : (setsP bc br far ss).length = n) (hr : Row w A (ints cs)) (hm : cs.length ≤ 2) :
    Calls Try.prog 18 #[.int .i64 bc, .int .i64 br, .string s, .slice A cs.length c] w (WalkIs (setsP bc br far ss) (cellsTo cs n cs.length && (hitOf (setsP bc br far ss)).isSome) w) := by
  obtain ⟨a, b, n', hW⟩ := walk_of hS hk
  have hC := chance_is hS hk hW
  have HB := hide hC.both
  have HS := hide (walkOf_yes bc br s A c n cs w hk hS hn hr hm)
  obtain ⟨h1, h2, h3, h4, h9⟩ := hS
  have HP := hide (fun w5 => implPieces_yes bc br s w5 hk h1 h2 h3 h4)
  have HA := hide (fun w5 => implAllMoves_yes bc br s w5 hk h1 h2 h3 h4)
  clear hk hr hC hW
  generalize setsP bc br far ss = L at *
  generalize cellsTo cs n cs.length = x at *
  generalize (partsI (fun n => movesP bc br far ss (n : Int)) (bc * br).toNat (bc * br).toNat).2 = p at *
  generalize sumP bc br far ss (bc * br).toNat = q at *
  generalize (hitOf L).isSome = y at *
  clear hn
  cases x with
  | false =>
    clear HP HA HB
    rw [Bool.false_and]
    go_enter Try.func18, Try.ntmps18
    go_wp2_with fail
    refine HS.out.mono ?_
    rintro e w1 ⟨A1, c1, rfl, o1, b1⟩
    go_wp2_with fail
    go_ret2
    exact ⟨A1, c1, rfl, o1, b1⟩
  | true =>
    rw [Bool.true_and]
    by_cases hp : (p : Int) = 1
    · have hpb : ((p : Int) == 1) = true := by rw [beq_iff_eq]; exact hp
      obtain ⟨d, hd⟩ : ∃ d, decide (0 < q) = d := ⟨_, rfl⟩
      have hyd : y = d := by rw [← HB.out, decide_eq_true hp, hd]; rfl
      subst hyd
      clear HB hp
      go_enter Try.func18, Try.ntmps18
      go_wp2_with fail
      refine HS.out.mono ?_
      rintro e w1 ⟨A1, c1, rfl, o1, b1⟩
      go_wp2_with fail
      refine (HP.out _).mono ?_
      rintro e w2 ⟨rfl, b2⟩
      go_wp2_with fail
      refine (HA.out _).mono ?_
      rintro e w3 ⟨rfl, b3⟩
      have o3 := hide (own_below (own_below o1 b2) b3)
      have hb3 := hide (below_then (below_then b1 b1.size b2) (Nat.le_trans b1.size b2.size) b3)
      clear o1 b1 b2 b3
      go_wp2_with fail
      go_ret2
      exact ⟨A1, c1, rfl, o3.out, hb3.out⟩
    · have hpb : ((p : Int) == 1) = false := by rw [beq_eq_false_iff_ne]; exact hp
      have hyd : y = false := by rw [← HB.out, decide_eq_false hp]; rfl
      subst hyd
      clear HB HA hp
      go_enter Try.func18, Try.ntmps18
      go_wp2_with fail
      refine HS.out.mono ?_
      rintro e w1 ⟨A1, c1, rfl, o1, b1⟩
      go_wp2_with fail
      refine (HP.out _).mono ?_
      rintro e w2 ⟨rfl, b2⟩
      have o3 := hide (own_below o1 b2)
      have hb3 := hide (below_then b1 b1.size b2)
      clear o1 b1 b2
      go_wp2_with fail
      go_ret2
      exact ⟨A1, c1, rfl, o3.out, hb3.out⟩
theorem cells_one (x : Int) (n : Nat) : cellsTo [x] n 1 = decide (0 ≤ x ∧ x < (n : Int)) := by simp [cellsTo]
theorem cells_two (x y : Int) (n : Nat) : cellsTo [x, y] n 2 = decide ((0 ≤ x ∧ x < (n : Int)) ∧ (0 ≤ y ∧ y < (n : Int))) := by simp [cellsTo]
theorem chance1_no {bc br : Int} {s : ByteArray} {x : Int} {w : World} {g : Nat} (h : smallK bc br s.toList = none) (hr : Row w (some ⟨g, 0, none⟩) #[.int .i64 x].toList) :
    Calls Try.prog 18 #[.int .i64 bc, .int .i64 br, .string s, .slice (some ⟨g, 0, none⟩) 1 1] w (Plain (.tuple #[.slice none 0 0, .bool false]) w) := chanceOf_no bc br s _ 1 [x] w h hr (by simp)
theorem chance2_no {bc br : Int} {s : ByteArray} {x y : Int} {w : World} {g : Nat} (h : smallK bc br s.toList = none) (hr : Row w (some ⟨g, 0, none⟩) #[.int .i64 x, .int .i64 y].toList) :
    Calls Try.prog 18 #[.int .i64 bc, .int .i64 br, .string s, .slice (some ⟨g, 0, none⟩) 2 2] w (Plain (.tuple #[.slice none 0 0, .bool false]) w) := chanceOf_no bc br s _ 2 [x, y] w h hr (by simp)
theorem chance1_yes {bc br : Int} {s : ByteArray} {x : Int} {w : World} {g n : Nat} {ss : List (Int × Int)} {far : Bool} (hk : kindL s.toList = some (ss, far)) (hS : Small bc br) (hn : (setsP bc br far ss).length = n) (hr : Row w (some ⟨g, 0, none⟩) #[.int .i64 x].toList) :
    Calls Try.prog 18 #[.int .i64 bc, .int .i64 br, .string s, .slice (some ⟨g, 0, none⟩) 1 1] w (WalkIs (setsP bc br far ss) (decide (0 ≤ x ∧ x < (n : Int)) && (hitOf (setsP bc br far ss)).isSome) w) := by
  have := chanceOf_yes bc br s _ 1 n [x] w hk hS hn hr (by simp)
  rwa [show [x].length = 1 from rfl, cells_one] at this
theorem chance2_yes {bc br : Int} {s : ByteArray} {x y : Int} {w : World} {g n : Nat} {ss : List (Int × Int)} {far : Bool} (hk : kindL s.toList = some (ss, far)) (hS : Small bc br) (hn : (setsP bc br far ss).length = n) (hr : Row w (some ⟨g, 0, none⟩) #[.int .i64 x, .int .i64 y].toList) :
    Calls Try.prog 18 #[.int .i64 bc, .int .i64 br, .string s, .slice (some ⟨g, 0, none⟩) 2 2] w (WalkIs (setsP bc br far ss) (decide ((0 ≤ x ∧ x < (n : Int)) ∧ (0 ≤ y ∧ y < (n : Int))) && (hitOf (setsP bc br far ss)).isSome) w) := by
  have := chanceOf_yes bc br s _ 2 n [x, y] w hk hS hn hr (by simp)
  rwa [show [x, y].length = 2 from rfl, cells_two] at this
end Go.Proofs.Ytoapmmmmdfmaeac


/-
  The walk of the law FnTileCount, whatever the program's contracts are proved by.
-/
import Derived.Test.YtnikgnicjbcbmaaDoorDrawT
import Derived.Test.YtnikgnicjbcbmaaDoorTileO
import Derived.Test.YtnikgnicjbcbmaaDoorCodeWords
namespace Go.Proofs.YtnikgnicjbcbmaaDoor
open Go.RowKit
set_option linter.unusedVariables false

/-- What a function of a board with holes answers. -/
def HoleFn (f : Nat) : Prop := ∀ (bc br : Int) (A : Option Addr) (c : Nat) (hs : List Int) (W : World), Row W A (ints hs) → hs.length ≤ maxLen → Calls Tryd.prog f #[.int .i64 bc, .int .i64 br, .slice A hs.length c] W (Plain (.int .i64 (coversP bc br hs)) W)

/-- The same in worlds of which T holds. -/
def HoleFnT (T : World → Prop) (f : Nat) : Prop := ∀ (bc br : Int) (A : Option Addr) (c : Nat) (hs : List Int) (W : World), T W → Row W A (ints hs) → hs.length ≤ maxLen → Calls Tryd.prog f #[.int .i64 bc, .int .i64 br, .slice A hs.length c] W (Plain (.int .i64 (coversP bc br hs)) W)

set_option maxHeartbeats 1000000 in
set_option maxRecDepth 100000 in
theorem tileCount_w (T : World → Prop) (hTb : ∀ w w', T w → Below w.heap.size w w' → T w') (HI : HoleFnT T 7) (HJ : HoleFn 9) (A : Option Addr) (n c : Nat) (w : World) (hT : T w) (h : Code w A n c) : Calls Tryd.prog 3 #[.slice A n c] w (Plain (.bool true) w) := by
  by_cases hl : 1048576 < (n : Int)
  · go_enter Tryd.func3, Tryd.ntmps3
    go_wp2
    go_ret
    exact ⟨rfl, Below.refl _ _⟩
  · have HC := hide (drawTileCount_c A n c w h)
    clear h
    have HII := hide HI
    have HJJ := hide HJ
    have HTT := hide (fun w5 (h5 : Below w.heap.size w w5) => hTb w w5 hT h5)
    clear HI HJ hTb hT
    go_enter Tryd.func3, Tryd.ntmps3
    go_wp2_with fail
    refine HC.out.mono ?_
    rintro e w1 ⟨bc, br, v, hs, rfl, hx, hy, hown, hhl, b1⟩
    obtain ⟨Ah, ch, rfl, _⟩ := own_row hown
    have hm : hs.length ≤ maxLen := by unfold maxLen; omega
    have zb := b1.size
    have HIs := hide (fun (w5 : World) (h5 : Below w1.heap.size w1 w5) => HII.out bc br Ah ch hs w5 (HTT.out _ (below_then b1 zb h5)) ((own_reads hown).below h5) hm)
    have HSs := hide (fun (w5 : World) (h5 : Below w1.heap.size w1 w5) => tileCount_c bc br Ah ch hs w5 ((own_reads hown).below h5) hm)
    have HJs := hide (fun (w5 : World) (h5 : Below w1.heap.size w1 w5) => HJJ.out bc br Ah ch hs w5 ((own_reads hown).below h5) hm)
    by_cases hH : Holes bc br hs
    · obtain ⟨⟨h1, h2, h3, h4⟩, ha⟩ := id hH
      obtain ⟨x, rfl⟩ := Int.eq_ofNat_of_zero_le (show 0 ≤ bc by omega)
      obtain ⟨y, rfl⟩ := Int.eq_ofNat_of_zero_le (show 0 ≤ br by omega)
      have hX : coversP (x : Int) (y : Int) hs = ((tileT x (x * y) (x * y) (inL hs) : Nat) : Int) := by unfold coversP; rw [if_pos hH]; rfl
      have hmem := asc_mem ha
      rw [← Int.natCast_mul] at hmem
      have hfr := free_list (n := x * y) hs (asc_nodup ha) hmem
      have hodd := tile_odd (w := x) (h := y) ⟨by omega, by omega⟩ ⟨by omega, by omega⟩ (g := inL hs)
      have hn25 : x * y ≤ 25 := Nat.mul_le_mul (show x ≤ 5 by omega) (show y ≤ 5 by omega)
      have emul : IntKind.i64.wrap ((x : Int) * (y : Int)) = ((x * y : Nat) : Int) := by rw [Int.natCast_mul]; exact IntWalk.i64_in _ (by rw [← Int.natCast_mul]; omega)
      rw [hX] at HIs HSs HJs
      clear hX hH ha hmem h1 h2 h3 h4
      generalize freeN (fun _ => true) (inL hs) (x * y) = fr at *
      generalize tileT x (x * y) (x * y) (inL hs) = X at *
      generalize x * y = n' at *
      have hXX : ((X : Int) != (X : Int)) = false := by simp
      have X0 : (0 : Int) ≤ (X : Int) := by omega
      have esub : IntKind.i64.wrap ((n' : Int) - (hs.length : Int)) = (fr : Int) := (IntWalk.i64_in _ (by omega)).trans (by omega)
      have t1 : Int.tmod (fr : Int) 2 = ((fr % 2 : Nat) : Int) := rfl
      rcases Nat.mod_two_eq_zero_or_one fr with hp | hp
      · rw [hp] at t1
        clear hodd hfr hown
        go_wp2_with fail
        refine (HIs.out _ (Below.refl _ _)).mono ?_
        rintro e w2 ⟨rfl, b2⟩
        go_wp2_with fail
        refine (HSs.out _ b2).mono ?_
        rintro e w3 ⟨rfl, b3⟩
        have b3 := below_then b2 b2.size b3
        go_wp2_with fail
        refine (HJs.out _ b3).mono ?_
        rintro e w4 ⟨rfl, b4⟩
        have b4 := below_then b1 zb (below_then b3 b3.size b4)
        go_wp2_with fail
        go_ret
        exact ⟨rfl, b4⟩
      · rw [hp] at t1
        obtain rfl : X = 0 := hodd hp
        clear hodd hfr hown
        go_wp2_with fail
        refine (HIs.out _ (Below.refl _ _)).mono ?_
        rintro e w2 ⟨rfl, b2⟩
        go_wp2_with fail
        refine (HSs.out _ b2).mono ?_
        rintro e w3 ⟨rfl, b3⟩
        have b3 := below_then b2 b2.size b3
        go_wp2_with fail
        refine (HJs.out _ b3).mono ?_
        rintro e w4 ⟨rfl, b4⟩
        have b4 := below_then b1 zb (below_then b3 b3.size b4)
        go_wp2_with fail
        go_ret
        exact ⟨rfl, b4⟩
    · have hX : coversP bc br hs = -1 := by unfold coversP; rw [if_neg hH]
      rw [hX] at HIs HSs
      clear hX hH HJs hown
      go_wp2_with fail
      refine (HIs.out _ (Below.refl _ _)).mono ?_
      rintro e w2 ⟨rfl, b2⟩
      go_wp2_with fail
      refine (HSs.out _ b2).mono ?_
      rintro e w3 ⟨rfl, b3⟩
      have b3 := below_then b2 b2.size b3
      go_wp2_with fail
      refine (HSs.out _ b3).mono ?_
      rintro e w4 ⟨rfl, b4⟩
      have b4 := below_then b1 zb (below_then b3 b3.size b4)
      go_wp2_with fail
      go_ret
      exact ⟨rfl, b4⟩
end Go.Proofs.YtnikgnicjbcbmaaDoor

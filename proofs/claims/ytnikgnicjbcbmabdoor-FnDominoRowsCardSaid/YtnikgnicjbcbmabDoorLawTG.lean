
/-
  The walk of the law FnDominoRows, whatever the program's contracts are proved by.
-/
import Derived.Test.YtnikgnicjbcbmabDoorLawTM
namespace Go.Proofs.YtnikgnicjbcbmabDoor
open Go.RowKit
set_option linter.unusedVariables false

theorem rows_domino {x : Nat} (hx : 1 ≤ x ∧ x ≤ 5) : coversP (x : Int) 2 [] = (((fibP (x - 1)).2 : Nat) : Int) ∧ coversP (x : Int) 1 [] = 1 - ((x % 2 : Nat) : Int) := by
  have h0 := domino_ok ⟨x - 1, by omega⟩
  simp only [show x - 1 + 1 = x by omega] at h0
  obtain ⟨h1, h2, _⟩ := h0
  have c2 := covers_none (bc := (x : Int)) (br := ((2 : Nat) : Int)) ⟨by omega, by omega, by omega, by omega⟩
  have c1 := covers_none (bc := (x : Int)) (br := ((1 : Nat) : Int)) ⟨by omega, by omega, by omega, by omega⟩
  have s2 : signsP (x : Int) ((2 : Nat) : Int) = ((rowsT x 2 (fun _ => false) 2 0 : Nat) : Int) := by unfold signsP; rw [if_pos ⟨by omega, by omega, by omega, by omega⟩]; rfl
  have s1 : signsP (x : Int) ((1 : Nat) : Int) = ((rowsT x 1 (fun _ => false) 1 0 : Nat) : Int) := by unfold signsP; rw [if_pos ⟨by omega, by omega, by omega, by omega⟩]; rfl
  rw [s2, h1] at c2
  rw [s1, h2] at c1
  exact ⟨c2, c1.trans (by omega)⟩
theorem fib_bd : ∀ i : Nat, i ≤ 4 → (fibP i).1 ≤ 10 ∧ (fibP i).2 ≤ 10 := by
  intro i hi
  have : ∀ i : Fin 5, (fibP i.val).1 ≤ 10 ∧ (fibP i.val).2 ≤ 10 := by decide +kernel
  exact this ⟨i, by omega⟩

set_option maxHeartbeats 2000000 in
set_option maxRecDepth 100000 in
theorem dominoRows_w (T : World → Prop) (hTb : ∀ w w', T w → Below w.heap.size w w' → T w') (HI : SideFn T 6) (HJ : HoleFnT T 9) (A : Option Addr) (n c : Nat) (w : World) (hT : T w) (h : Code w A n c) : Calls Tryd.prog 4 #[.slice A n c] w (Plain (.bool true) w) := by
  by_cases hl : 1048576 < (n : Int)
  · go_enter Tryd.func4, Tryd.ntmps4
    go_wp2
    go_ret
    exact ⟨rfl, Below.refl _ _⟩
  · have HC := hide (drawTileBySigns_c A n c w h)
    clear h
    have HII := hide HI
    have HJJ := hide HJ
    have HTT := hide (fun w5 (h5 : Below w.heap.size w w5) => hTb w w5 hT h5)
    clear HI HJ hTb hT
    go_enter Tryd.func4, Tryd.ntmps4
    go_wp2_with fail
    refine HC.out.mono ?_
    rintro e w1 ⟨bc, br, rfl, hx, hy, b1⟩
    have HIs := hide (fun (w5 : World) (h5 : Below w.heap.size w w5) => HII.out bc br w5 (HTT.out _ h5))
    have HSs := hide (fun (w5 : World) => tileBySigns_c bc br w5)
    by_cases hB : Brd bc br
    · obtain ⟨x1, x2⟩ := signs_bd hB
      obtain ⟨h1, h2, h3, h4⟩ := hB
      obtain ⟨x, rfl⟩ := Int.eq_ofNat_of_zero_le (show 0 ≤ bc by omega)
      have hxx : 1 ≤ x ∧ x ≤ 5 := by omega
      have HR2 := hide (fun (w5 : World) (h5 : Below w.heap.size w w5) => HJJ.out (x : Int) 2 none 0 [] w5 (HTT.out _ h5) (Row.empty _ _) (by simp [maxLen]))
      have HR1 := hide (fun (w5 : World) (h5 : Below w.heap.size w w5) => HJJ.out (x : Int) 1 none 0 [] w5 (HTT.out _ h5) (Row.empty _ _) (by simp [maxLen]))
      rw [(rows_domino hxx).1] at HR2
      rw [(rows_domino hxx).2] at HR1
      generalize signsP (x : Int) br = X at *
      have hXX : (X != X) = false := by simp
      have hneg : decide (X < 0) = false := by simp; omega
      have tm : Int.tmod (x : Int) 2 = ((x % 2 : Nat) : Int) := rfl
      have hm2 : x % 2 < 2 := Nat.mod_lt _ (by omega)
      clear hx h1 h2 h3 h4 HC HII HJJ
      generalize x % 2 = m at *
      have es : IntKind.i64.wrap (1 - (m : Int)) = 1 - (m : Int) := IntWalk.i64_in _ (by omega)
      obtain ⟨x3, x4⟩ := hxx
      go_wp2_with fail
      refine (HIs.out _ b1).mono ?_
      rintro e w2 ⟨rfl, b2⟩
      have b2 := below_then b1 b1.size b2
      go_wp2_with fail
      refine (HSs.out _).mono ?_
      rintro e w3 ⟨rfl, b3⟩
      have b3 := below_then b2 b2.size b3
      go_wp2_with fail
      refine (HIs.out _ b3).mono ?_
      rintro e w4 ⟨rfl, b4⟩
      have b4 := below_then b3 b3.size b4
      clear HIs HSs b1 b2 b3
      go_wp2_with fail
      go_loopw [6, 7, 8] (fun a b i wr => ∃ k : Nat, 1 ≤ k ∧ k ≤ x ∧ a = .int .i64 (((fibP (k - 1)).1 : Nat) : Int) ∧ b = .int .i64 (((fibP (k - 1)).2 : Nat) : Int) ∧ i = .int .i64 (k : Int) ∧ wr = w4) (fun _ _ i _ => x - (intOf i).toNat)
      case atStart => exact ⟨1, Nat.le_refl _, x3, rfl, rfl, rfl, rfl⟩
      case round =>
        obtain ⟨k, hk1, hkx, rfl, rfl, rfl, rfl⟩ := hrel
        by_cases hlt : k < x
        · obtain ⟨g1, g2⟩ := fib_bd (k - 1) (by omega)
          have hf1 : (fibP k).1 = (fibP (k - 1)).2 := by obtain ⟨j, rfl⟩ : ∃ j, k = j + 1 := ⟨k - 1, by omega⟩; rfl
          have hf2 : (fibP k).2 = (fibP (k - 1)).1 + (fibP (k - 1)).2 := by obtain ⟨j, rfl⟩ : ∃ j, k = j + 1 := ⟨k - 1, by omega⟩; rfl
          generalize hp : (fibP (k - 1)).1 = p at *
          generalize hq : (fibP (k - 1)).2 = q at *
          have es2 : IntKind.i64.wrap ((p : Int) + (q : Int)) = ((p + q : Nat) : Int) := (IntWalk.i64_in _ (by omega)).trans (by omega)
          have hf1 := hide hf1
          have hf2 := hide hf2
          clear hp hq
          go_wp2_with fail
          exact ⟨⟨k + 1, by omega, hlt, by rw [Nat.add_sub_cancel, hf1.out], by rw [Nat.add_sub_cancel, hf2.out]; push_cast; rfl, by go_num, trivial⟩, by simp [intOf]; omega⟩
        · obtain rfl : k = x := by omega
          generalize (((fibP (k - 1)).2 : Nat) : Int) = f at *
          go_wp2_with fail
          refine (HR2.out _ b4).mono ?_
          rintro e w5 ⟨rfl, b5⟩
          have b5 := below_then b4 b4.size b5
          go_wp2_with fail
          refine (HR1.out _ b5).mono ?_
          rintro e w6 ⟨rfl, b6⟩
          have b6 := below_then b5 b5.size b6
          go_wp2_with fail
          go_ret
          exact ⟨rfl, b6⟩
    · have hX : signsP bc br = -1 := by unfold signsP; rw [if_neg hB]
      rw [hX] at HIs HSs
      clear hX hB
      go_wp2_with fail
      refine (HIs.out _ b1).mono ?_
      rintro e w2 ⟨rfl, b2⟩
      have b2 := below_then b1 b1.size b2
      go_wp2_with fail
      refine (HSs.out _).mono ?_
      rintro e w3 ⟨rfl, b3⟩
      have b3 := below_then b2 b2.size b3
      go_wp2_with fail
      refine (HIs.out _ b3).mono ?_
      rintro e w4 ⟨rfl, b4⟩
      have b4 := below_then b3 b3.size b4
      go_wp2_with fail
      go_ret
      exact ⟨rfl, b4⟩
end Go.Proofs.YtnikgnicjbcbmabDoor

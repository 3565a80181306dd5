/-
  The walk of the law FnAllMoves.
-/
import Derived.Test.YtjlhmondcclonaaLawsB
import Derived.Test.YtjlhmondcclonaaAllMoves
import Derived.Test.YtjlhmondcclonaaAllFacts
namespace Go.Proofs.Ytjlhmondcclonaa
open Go.RowKit
set_option linter.unusedVariables false

theorem allMoves_of {bc br : Int} {s : List UInt8} {ss : List (Int × Int)} {far : Bool} (hB : Brd bc br) (hk : kindL s = some (ss, far)) : allMovesP bc br s = sumC bc br far ss (bc * br).toNat := by
  unfold allMovesP
  simp only [hk]
  rw [if_pos hB, sumP_eq]
theorem brd_turn {bc br : Int} (h : Brd bc br) : Brd br bc := ⟨h.2.2.1, h.2.2.2, h.1, h.2.1⟩
structure Facts (bc br : Int) (X B : Int) : Prop where
  x0 : 0 ≤ X ∧ X ≤ 1000
  x2 : (X % 2 == 0) = true
  b0 : 0 ≤ B ∧ B ≤ 1000
theorem sumC_bd (bc br : Int) (far : Bool) (ss : List (Int × Int)) (hn : ss.length ≤ 8) (hB : Brd bc br) : 0 ≤ sumC bc br far ss (bc * br).toNat ∧ sumC bc br far ss (bc * br).toNat ≤ 1000 := by
  rw [← sumP_eq]
  have := sum_bd bc br far ss hn (bc * br).toNat
  have := (mul_bd hB.1 hB.2.1 hB.2.2.1 hB.2.2.2).2
  omega
theorem six_len : ∀ p ∈ six, p.1.length ≤ 8 := by decide

set_option maxHeartbeats 1000000 in
set_option maxRecDepth 100000 in
theorem allMoves_w (A : Option Addr) (n c : Nat) (w : World) (h : Code w A n c) : Calls Try.prog 6 #[.slice A n c] w (Plain (.bool true) w) := by
  by_cases hl : 1048576 < (n : Int)
  · go_enter Try.func6, Try.ntmps6
    go_wp2
    go_ret
    exact ⟨rfl, Below.refl _ _⟩
  · have HC := hide (drawAllMoves_c A n c w h)
    clear h
    go_enter Try.func6, Try.ntmps6
    go_wp2_with fail
    refine HC.out.mono ?_
    rintro e w1 ⟨bc, br, s, rfl, hx, hy, hs, b1⟩
    have hi := implAllMoves_c bc br s
    have hsp := specAllMoves_c bc br s
    by_cases hV : Brd bc br ∧ (kindL s.toList).isSome = true
    · obtain ⟨hB, hks⟩ := hV
      obtain ⟨⟨ss, far⟩, hk⟩ := Option.isSome_iff_exists.1 hks
      have hT := implAllMoves_c br bc s
      have h6 := kind_six hk
      have hR := implAllMoves_c bc br ⟨#[114, 111, 111, 107]⟩
      have hS := implAllMoves_c bc br ⟨#[115, 116, 101, 112]⟩
      have hK := implAllMoves_c bc br ⟨#[107, 105, 110, 103]⟩
      have hQ := implAllMoves_c bc br ⟨#[113, 117, 101, 101, 110]⟩
      have hBi := implAllMoves_c bc br ⟨#[98, 105, 115, 104, 111, 112]⟩
      rw [allMoves_of hB hk] at hi hsp
      rw [allMoves_of (brd_turn hB) hk] at hT
      rw [allMoves_of hB (show kindL (ByteArray.toList ⟨#[114, 111, 111, 107]⟩) = some (straight, true) by decide +kernel)] at hR
      rw [allMoves_of hB (show kindL (ByteArray.toList ⟨#[115, 116, 101, 112]⟩) = some (straight, false) by decide +kernel)] at hS
      rw [allMoves_of hB (show kindL (ByteArray.toList ⟨#[107, 105, 110, 103]⟩) = some (both, false) by decide +kernel)] at hK
      rw [allMoves_of hB (show kindL (ByteArray.toList ⟨#[113, 117, 101, 101, 110]⟩) = some (both, true) by decide +kernel)] at hQ
      rw [allMoves_of hB (show kindL (ByteArray.toList ⟨#[98, 105, 115, 104, 111, 112]⟩) = some (slanted, true) by decide +kernel)] at hBi
      have hok := boards (fun a b => allOk a b = true) all_ok hB
      simp only [allOk, Bool.and_eq_true, beq_iff_eq, List.all_eq_true] at hok
      obtain ⟨⟨⟨⟨o1, o2⟩, o3⟩, o4⟩, o5⟩ := hok
      obtain ⟨o6, o7⟩ := o1 _ h6
      simp only at o6 o7
      rw [o7] at hT
      rw [o2] at hR
      rw [o3] at hS
      rw [o4] at hK
      rw [o5, o2] at hQ
      have xb := sumC_bd bc br far ss (six_len _ h6) hB
      have bb := sumC_bd bc br true slanted (by decide) hB
      generalize sumC bc br far ss (bc * br).toNat = X at *
      generalize sumC bc br true slanted (bc * br).toNat = Y at *
      have hX2 : (X % 2 == 0) = true := by simpa using o6
      have HI := hide hi
      have HS' := hide hsp
      have HT := hide hT
      have HR := hide hR
      have HS := hide hS
      have HK := hide hK
      have HQ := hide hQ
      have HBi := hide hBi
      clear hi hsp hT hR hS hK hQ hBi o1 o2 o3 o4 o5 o6 o7 h6 hks hk
      obtain ⟨x1, x2⟩ := xb
      obtain ⟨y1, y2⟩ := bb
      have hnum := boards (fun a b => ((1 ≤ a * b ∧ a * b ≤ 25) ∧ (0 ≤ a * b * (a + b - 2) ∧ a * b * (a + b - 2) ≤ 200)) ∧ ((0 ≤ (a - 1) * b ∧ (a - 1) * b ≤ 20) ∧ (0 ≤ a * (b - 1) ∧ a * (b - 1) ≤ 20)) ∧ (0 ≤ 4 * (a - 1) * (b - 1) ∧ 4 * (a - 1) * (b - 1) ≤ 64)) (by decide +kernel) hB
      obtain ⟨⟨⟨n1, n2⟩, n3, n4⟩, ⟨⟨n5, n6⟩, n7, n8⟩, n9, n10⟩ := hnum
      obtain ⟨h1, h2, h3, h4⟩ := hB
      go_wp2_with fail
      refine (HI.out _).mono ?_
      rintro e w2 ⟨rfl, b2⟩
      have b2 := below_then b1 b1.size b2
      go_wp2_with fail
      refine (HS'.out _).mono ?_
      rintro e w3 ⟨rfl, b3⟩
      have b3 := below_then b2 b2.size b3
      have hXX : (X != X) = false := by simp
      go_wp2_with fail
      refine (HR.out _).mono ?_
      rintro e w4 ⟨rfl, b4⟩
      have b4 := below_then b3 b3.size b4
      go_wp2_with fail
      refine (HS.out _).mono ?_
      rintro e w5 ⟨rfl, b5⟩
      have b5 := below_then b4 b4.size b5
      go_wp2_with fail
      refine (HK.out _).mono ?_
      rintro e w6 ⟨rfl, b6⟩
      have b6 := below_then b5 b5.size b6
      go_wp2_with fail
      refine (HQ.out _).mono ?_
      rintro e w7 ⟨rfl, b7⟩
      have b7 := below_then b6 b6.size b7
      go_wp2_with fail
      refine (HR.out _).mono ?_
      rintro e w8 ⟨rfl, b8⟩
      have b8 := below_then b7 b7.size b8
      go_wp2_with fail
      refine (HBi.out _).mono ?_
      rintro e w9 ⟨rfl, b9⟩
      have b9 := below_then b8 b8.size b9
      go_wp2_with fail
      refine (HT.out _).mono ?_
      rintro e w10 ⟨rfl, b10⟩
      have b10 := below_then b9 b9.size b10
      go_wp2_with fail
      go_ret
      exact ⟨rfl, b10⟩
    · have hz : allMovesP bc br s.toList = -1 := by
        unfold allMovesP
        cases hk : kindL s.toList with
        | none => rfl
        | some p => obtain ⟨ss, far⟩ := p; simp only; rw [if_neg (fun h => hV ⟨h, by simp [hk]⟩)]
      rw [hz] at hi hsp
      have HI := hide hi
      have HS' := hide hsp
      clear hi hsp hz hV
      go_wp2_with fail
      refine (HI.out _).mono ?_
      rintro e w2 ⟨rfl, b2⟩
      have b2 := below_then b1 b1.size b2
      go_wp2_with fail
      refine (HS'.out _).mono ?_
      rintro e w3 ⟨rfl, b3⟩
      have b3 := below_then b2 b2.size b3
      go_wp2_with fail
      refine (HS'.out _).mono ?_
      rintro e w4 ⟨rfl, b4⟩
      have b4 := below_then b3 b3.size b4
      go_wp2_with fail
      go_ret
      exact ⟨rfl, b4⟩
end Go.Proofs.Ytjlhmondcclonaa


/-
  The walk of the law FnPiecesOf.
-/
import Derived.Test.YtljojjkaeclcfaaPieceB
import Derived.Test.YtljojjkaeclcfaaCodeWords
namespace Go.Proofs.Ytljojjkaeclcfaa
open Go.RowKit
set_option linter.unusedVariables false

abbrev bishopL : List UInt8 := [98, 105, 115, 104, 111, 112]
abbrev knightL : List UInt8 := [107, 110, 105, 103, 104, 116]
theorem kind_cases {l : List UInt8} {p : List (Int × Int) × Bool} (h : kindL l = some p) :
    ((l == bishopL) = true ∧ p = (slanted, true)) ∨ ((l == bishopL) = false ∧ (l == knightL) = true ∧ p = (knights, false)) ∨ ((l == bishopL) = false ∧ (l == knightL) = false ∧ p ≠ (slanted, true) ∧ p ≠ (knights, false)) := by
  cases hb : (l == bishopL) with
  | true =>
    left
    rw [beq_iff_eq] at hb
    subst hb
    refine ⟨rfl, ?_⟩
    have e : kindL bishopL = some (slanted, true) := by decide +kernel
    rw [e] at h
    injection h with h
    exact h.symm
  | false =>
    right
    cases hk : (l == knightL) with
    | true =>
      left
      rw [beq_iff_eq] at hk
      subst hk
      refine ⟨rfl, rfl, ?_⟩
      have e : kindL knightL = some (knights, false) := by decide +kernel
      rw [e] at h
      injection h with h
      exact h.symm
    | false =>
      right
      refine ⟨rfl, rfl, ?_⟩
      unfold kindL at h
      rw [hb, hk] at h
      repeat' (split at h)
      all_goals first
        | (simp only [Option.some.injEq] at h; subst h; decide)
        | (rename_i hf; exact absurd hf (by decide))
        | cases h

set_option maxHeartbeats 1000000 in
theorem pieces_w (A : Option Addr) (n c : Nat) (w : World) (h : Code w A n c) : Calls Try.prog 4 #[.slice A n c] w (Plain (.bool true) w) := by
  by_cases hl : 1048576 < (n : Int)
  · go_enter Try.func4, Try.ntmps4
    go_wp2
    go_ret
    exact ⟨rfl, Below.refl _ _⟩
  · have HC := hide (drawPiecesOf_c A n c w h)
    clear h
    go_enter Try.func4, Try.ntmps4
    go_wp2_with fail
    refine HC.out.mono ?_
    rintro e w1 ⟨bc, br, s, rfl, hx, hy, hs, b1⟩
    have hi := implPieces_c bc br s
    have hsp := specPieces_c bc br s
    clear HC hs
    by_cases hV : Brd bc br ∧ (kindL s.toList).isSome = true
    · obtain ⟨hB, hks⟩ := hV
      obtain ⟨⟨ss, far⟩, hk⟩ := Option.isSome_iff_exists.1 hks
      obtain ⟨N, out, hp⟩ := parts_of hB (kind_six hk)
      have hv : piecesP bc br s.toList = (out : Int) := by
        unfold piecesP
        have e2 := hp.spec
        simp only at e2
        simp only [hk]
        rw [if_pos hB, hp.area, Int.toNat_natCast, e2]
      rw [hv] at hi hsp
      have kc := kind_cases hk
      have area := hp.area
      have o1 : (1 : Int) ≤ (out : Int) := by have := hp.one; omega
      have o2 : (out : Int) ≤ bc * br := by have := hp.most; omega
      have ok := hp.kind
      obtain ⟨h1, h2, h3, h4⟩ := hB
      obtain ⟨m1, m2⟩ := mul_bd h1 h2 h3 h4
      have HA := hide area
      clear hv hks hk hp area hx hy
      have key : ∀ x : Int, (out : Int) = x → (∀ w5, Calls Try.prog 14 #[.int .i64 bc, .int .i64 br, .string s] w5 (Plain (.int .i64 x) w5)) ∧ (∀ w5, Calls Try.prog 15 #[.int .i64 bc, .int .i64 br, .string s] w5 (Plain (.int .i64 x) w5)) := fun x hx => by
        subst hx
        exact ⟨hi, hsp⟩
      have KEY := hide key
      clear key hi hsp
      rcases kc with ⟨kb, hpk⟩ | ⟨kb, kk, hpk⟩ | ⟨kb, kk, hp1, hp2⟩
      · rw [if_pos hpk] at ok
        clear hpk
        by_cases hc1 : bc = 1
        · rw [if_pos (.inl hc1)] at ok
          subst hc1
          obtain ⟨hi, hsp⟩ := KEY.out br (by rw [ok, ← HA.out, Int.one_mul])
          have HI := hide hi
          have HS := hide hsp
          clear hi hsp KEY HA ok o1 o2 m1 m2
          have hxx : (br != br) = false := by simp
          go_wp2_with fail
          refine (HI.out _).mono ?_
          rintro e w2 ⟨rfl, b2⟩
          have b2 := below_then b1 b1.size b2
          go_wp2_with fail
          refine (HS.out _).mono ?_
          rintro e w3 ⟨rfl, b3⟩
          have b3 := below_then b2 b2.size b3
          go_wp2_with fail
          go_ret
          exact ⟨rfl, b3⟩
        · by_cases hr1 : br = 1
          · rw [if_pos (.inr hr1)] at ok
            subst hr1
            obtain ⟨hi, hsp⟩ := KEY.out bc (by rw [ok, ← HA.out, Int.mul_one])
            have HI := hide hi
            have HS := hide hsp
            have hcc : (bc == 1) = false := beq_eq_false_iff_ne.2 hc1
            clear hi hsp KEY HA ok o1 o2 m1 m2 hc1
            have hxx : (bc != bc) = false := by simp
            go_wp2_with fail
            refine (HI.out _).mono ?_
            rintro e w2 ⟨rfl, b2⟩
            have b2 := below_then b1 b1.size b2
            go_wp2_with fail
            refine (HS.out _).mono ?_
            rintro e w3 ⟨rfl, b3⟩
            have b3 := below_then b2 b2.size b3
            go_wp2_with fail
            go_ret
            exact ⟨rfl, b3⟩
          · rw [if_neg (by simp [hc1, hr1])] at ok
            obtain ⟨hi, hsp⟩ := KEY.out 2 (by rw [ok]; rfl)
            have HI := hide hi
            have HS := hide hsp
            have hcc : (bc == 1) = false := beq_eq_false_iff_ne.2 hc1
            have hrr : (br == 1) = false := beq_eq_false_iff_ne.2 hr1
            have o3 : (2 : Int) ≤ bc * br := by omega
            clear hi hsp KEY HA ok o1 o2 hc1 hr1
            go_wp2_with fail
            refine (HI.out _).mono ?_
            rintro e w2 ⟨rfl, b2⟩
            have b2 := below_then b1 b1.size b2
            go_wp2_with fail
            refine (HS.out _).mono ?_
            rintro e w3 ⟨rfl, b3⟩
            have b3 := below_then b2 b2.size b3
            go_wp2_with fail
            go_ret
            exact ⟨rfl, b3⟩
      · obtain ⟨hi, hsp⟩ := KEY.out out rfl
        have HI := hide hi
        have HS := hide hsp
        clear hi hsp KEY HA ok hpk
        generalize (out : Int) = x at *
        have hxx : (x != x) = false := by simp
        cases hc1 : (bc == 1) with
        | true =>
          go_wp2_with fail
          refine (HI.out _).mono ?_
          rintro e w2 ⟨rfl, b2⟩
          have b2 := below_then b1 b1.size b2
          go_wp2_with fail
          refine (HS.out _).mono ?_
          rintro e w3 ⟨rfl, b3⟩
          have b3 := below_then b2 b2.size b3
          go_wp2_with fail
          go_ret
          exact ⟨rfl, b3⟩
        | false =>
          cases hr1 : (br == 1) with
          | true =>
            go_wp2_with fail
            refine (HI.out _).mono ?_
            rintro e w2 ⟨rfl, b2⟩
            have b2 := below_then b1 b1.size b2
            go_wp2_with fail
            refine (HS.out _).mono ?_
            rintro e w3 ⟨rfl, b3⟩
            have b3 := below_then b2 b2.size b3
            go_wp2_with fail
            go_ret
            exact ⟨rfl, b3⟩
          | false =>
            go_wp2_with fail
            refine (HI.out _).mono ?_
            rintro e w2 ⟨rfl, b2⟩
            have b2 := below_then b1 b1.size b2
            go_wp2_with fail
            refine (HS.out _).mono ?_
            rintro e w3 ⟨rfl, b3⟩
            have b3 := below_then b2 b2.size b3
            go_wp2_with fail
            go_ret
            exact ⟨rfl, b3⟩
      · rw [if_neg hp1] at ok
        have ok := ok.resolve_left hp2
        obtain ⟨hi, hsp⟩ := KEY.out 1 (by rw [ok]; rfl)
        have HI := hide hi
        have HS := hide hsp
        clear hi hsp KEY HA ok hp1 hp2 o1 o2
        cases hc1 : (bc == 1) with
        | true =>
          go_wp2_with fail
          refine (HI.out _).mono ?_
          rintro e w2 ⟨rfl, b2⟩
          have b2 := below_then b1 b1.size b2
          go_wp2_with fail
          refine (HS.out _).mono ?_
          rintro e w3 ⟨rfl, b3⟩
          have b3 := below_then b2 b2.size b3
          go_wp2_with fail
          go_ret
          exact ⟨rfl, b3⟩
        | false =>
          cases hr1 : (br == 1) with
          | true =>
            go_wp2_with fail
            refine (HI.out _).mono ?_
            rintro e w2 ⟨rfl, b2⟩
            have b2 := below_then b1 b1.size b2
            go_wp2_with fail
            refine (HS.out _).mono ?_
            rintro e w3 ⟨rfl, b3⟩
            have b3 := below_then b2 b2.size b3
            go_wp2_with fail
            go_ret
            exact ⟨rfl, b3⟩
          | false =>
            go_wp2_with fail
            refine (HI.out _).mono ?_
            rintro e w2 ⟨rfl, b2⟩
            have b2 := below_then b1 b1.size b2
            go_wp2_with fail
            refine (HS.out _).mono ?_
            rintro e w3 ⟨rfl, b3⟩
            have b3 := below_then b2 b2.size b3
            go_wp2_with fail
            go_ret
            exact ⟨rfl, b3⟩
    · have hz : piecesP bc br s.toList = -1 := by
        unfold piecesP
        cases hk : kindL s.toList with
        | none => rfl
        | some p => obtain ⟨ss, far⟩ := p; simp only; rw [if_neg (fun h => hV ⟨h, by simp [hk]⟩)]
      rw [hz] at hi hsp
      have HI := hide hi
      have HS' := hide hsp
      clear hi hsp hz hV
      go_wp2_with fail
      refine (HI.out _).mono ?_
      rintro e w2 ⟨rfl, b2⟩
      have b2 := below_then b1 b1.size b2
      go_wp2_with fail
      refine (HS'.out _).mono ?_
      rintro e w3 ⟨rfl, b3⟩
      have b3 := below_then b2 b2.size b3
      go_wp2_with fail
      refine (HS'.out _).mono ?_
      rintro e w4 ⟨rfl, b4⟩
      have b4 := below_then b3 b3.size b4
      go_wp2_with fail
      go_ret
      exact ⟨rfl, b4⟩
end Go.Proofs.Ytljojjkaeclcfaa

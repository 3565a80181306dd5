
/-
  Covers of boards: the model's TileCount.
-/
import Derived.Test.YtnikgnicjbcbmaaDoorTileN
namespace Go.Proofs.YtnikgnicjbcbmaaDoor
open Go.RowKit
set_option linter.unusedVariables false

theorem asc_mem {n : Int} {l : List Int} (h : AscTo n l l.length) : ∀ x ∈ l, 0 ≤ x ∧ x < n := fun x hx => by
  obtain ⟨i, hi, rfl⟩ := List.getElem_of_mem hx
  have := (h i hi).1
  rwa [List.getElem?_eq_getElem hi] at this
theorem asc_lt {n : Int} {l : List Int} (h : AscTo n l l.length) : ∀ (d i : Nat), i + d + 1 < l.length → l[i]?.getD 0 < l[i + d + 1]?.getD 0
  | 0, i, hi => by have := (h (i + 1) hi).2 (by omega); simpa using this
  | d + 1, i, hi => by
    have h1 := asc_lt h d i (by omega)
    have h2 := (h (i + (d + 1) + 1) hi).2 (by omega)
    rw [show i + (d + 1) + 1 - 1 = i + d + 1 by omega] at h2
    omega
theorem asc_nodup {n : Int} {l : List Int} (h : AscTo n l l.length) : l.Nodup := by
  rw [List.nodup_iff_pairwise_ne, List.pairwise_iff_getElem]
  intro i j hi hj hij
  have := asc_lt h (j - i - 1) i (by omega)
  rw [show i + (j - i - 1) + 1 = j by omega, List.getElem?_eq_getElem hi, List.getElem?_eq_getElem hj] at this
  simp only [Option.getD_some] at this
  omega
theorem mask_fn {n : Nat} {hs : List Int} (h : ∀ x ∈ hs, 0 ≤ x ∧ x < (n : Int)) : fnB (maskL n hs) = inL hs := funext fun i => by
  by_cases hi : i < n
  · exact mask_at hs hi
  · have h1 : inL hs i = false := by
      unfold inL
      rw [← Bool.not_eq_true, List.contains_iff_mem]
      intro hm
      have := h _ hm
      omega
    rw [h1]
    unfold fnB
    rw [List.getElem?_eq_none (by rw [mask_len]; omega)]
    rfl
/-- In how many ways the board is covered. -/
def coversP (bc br : Int) (hs : List Int) : Int := if Holes bc br hs then ((tileT bc.toNat (bc.toNat * br.toNat) (bc.toNat * br.toNat) (inL hs) : Nat) : Int) else -1

set_option maxHeartbeats 400000 in
theorem tileCount_c (bc br : Int) (A : Option Addr) (c : Nat) (hs : List Int) (W : World) (hr : Row W A (ints hs)) (hm : hs.length ≤ maxLen) :
    Calls Tryd.prog 8 #[.int .i64 bc, .int .i64 br, .slice A hs.length c] W (Plain (.int .i64 (coversP bc br hs)) W) := by
  have HV := hide (validHoles_c bc br A c hs W hr hm)
  by_cases hH : Holes bc br hs
  · rw [decide_eq_true hH] at HV
    obtain ⟨⟨h1, h2, h3, h4⟩, ha⟩ := hH
    obtain ⟨w, rfl⟩ := Int.eq_ofNat_of_zero_le (show 0 ≤ bc by omega)
    obtain ⟨h, rfl⟩ := Int.eq_ofNat_of_zero_le (show 0 ≤ br by omega)
    have hX : coversP (w : Int) (h : Int) hs = ((tileT w (w * h) (w * h) (inL hs) : Nat) : Int) := by
      unfold coversP
      rw [if_pos ⟨⟨h1, h2, h3, h4⟩, ha⟩]
      rfl
    have hmem := asc_mem ha
    rw [← Int.natCast_mul] at hmem
    have HF := hide (mask_fn hmem)
    have HO := hide (fun (w5 : World) (h5 : Row w5 A (ints hs)) => holesOf_c (w : Int) (h : Int) (w * h) A c hs w5 ⟨⟨h1, h2, h3, h4⟩, ha⟩ (by rw [Int.natCast_mul]) h5 hm)
    have HT := hide (fun (l : List Bool) (A : Option Addr) (c : Nat) (w5 : World) (hl : l.length = w * h) (h5 : Row w5 A (boolsV l)) => tile_c w h (w * h) rfl ⟨by omega, by omega⟩ ⟨by omega, by omega⟩ (w * h) (Nat.le_refl _) l A c w5 hl h5)
    rw [Nat.sub_self] at HT
    have HL := hide (mask_len (w * h) hs)
    rw [hX]
    clear hX ha hmem h1 h2 h3 h4 hm
    generalize w * h = n at *
    go_enter Tryd.func8, Tryd.ntmps8
    go_wp2_with fail
    refine HV.out.mono ?_
    rintro e w1 ⟨rfl, b1⟩
    have R1 := hide (hr.below b1)
    go_wp2_with fail
    refine (HO.out _ R1.out).mono ?_
    rintro e w2 ⟨g, rfl, o2, b2⟩
    have b2 := below_then b1 b1.size b2
    have R2 := hide (own_reads o2)
    clear o2
    go_wp2_with fail
    refine (HT.out _ _ _ _ HL.out R2.out).mono ?_
    rintro e w3 ⟨rfl, b3⟩
    rw [HF.out]
    have b3 := below_then b2 b2.size b3
    go_wp2_with fail
    go_ret
    exact ⟨rfl, b3⟩
  · rw [decide_eq_false hH] at HV
    have hX : coversP bc br hs = -1 := by unfold coversP; rw [if_neg hH]
    rw [hX]
    clear hX hH hr
    go_enter Tryd.func8, Tryd.ntmps8
    go_wp2_with fail
    refine HV.out.mono ?_
    rintro e w1 ⟨rfl, b1⟩
    go_wp2_with fail
    go_ret
    exact ⟨rfl, b1⟩
end Go.Proofs.YtnikgnicjbcbmaaDoor


/-
  Lights: what the model's elimination comes to; its QuietCount.
-/
import Derived.Test.YtmfdlijkpdgimaaGreatDoorLightD
namespace Go.Proofs.YtmfdlijkpdgimaaGreatDoor
open Go.RowKit
set_option linter.unusedVariables false

theorem par_pow : ∀ k : Fin 12, parN (2 ^ k.val) = 1 := by decide +kernel
theorem side_pow {k : Nat} (hk : k < 12) (x : Nat) : sideN x (2 ^ k) = bitN x k := by
  have hb : bitN x k = (x.testBit k).toNat := by
    rw [Nat.testBit_eq_decide_div_mod_eq]
    unfold bitN
    rcases Nat.mod_two_eq_zero_or_one (x / 2 ^ k) with h | h <;> rw [h] <;> rfl
  have ha : 2 ^ k &&& x = if x.testBit k then 2 ^ k else 0 := Nat.eq_of_testBit_eq fun i => by
    rw [Nat.testBit_and, Nat.testBit_two_pow]
    by_cases e : k = i
    · subst e
      cases h : x.testBit k with
      | true => rw [if_pos rfl, Nat.testBit_two_pow_self]; simp
      | false => simp
    · rw [decide_eq_false e, Bool.false_and]
      cases x.testBit k with
      | true => rw [if_pos rfl, Nat.testBit_two_pow, decide_eq_false e]
      | false => simp
  unfold sideN
  rw [ha, hb]
  cases x.testBit k with
  | true => rw [if_pos rfl]; exact par_pow ⟨k, hk⟩
  | false => rw [if_neg (by simp)]; rfl
theorem side_none (x : Nat) : sideN x 0 = 0 := by unfold sideN; rw [Nat.zero_and]; rfl
theorem elim_is {w h : Nat} (hw : 1 ≤ w ∧ w ≤ 5) (hh : 1 ≤ h ∧ h ≤ 5) (h12 : w * h ≤ 12) (x : Nat) : elimX (litL w h) x (w * h) = ⟨(datL w h).rows, (datL w h).masks.map (sideN x), (datL w h).lead⟩ := by
  have hD := dat_is hw hh h12
  have hst : startX (datL w h).lit x = ⟨(datL w h).lit, (masksL (datL w h).lit.length).map (sideN x), []⟩ := by
    unfold startX masksL
    rw [List.map_map]
    congr 1
    refine List.map_congr_left fun k hk => ?_
    rw [List.mem_range, hD.len] at hk
    exact (side_pow (by omega) x).symm
  rw [hD.lit, elimX_eq, hst]
  have hm := elim_map (f := sideN x) (add := fun a b => a ^^^ b) (d := 0) (add' := fun a b => (a + b) % 2) (d' := 0) (side_xor x) (side_none x) (datL w h).lit.length (datL w h).lit (masksL (datL w h).lit.length) [] (w * h)
  rw [hm]
  have he := hD.elim
  unfold solvedM startM at he
  rw [hD.len] at he
  rw [hD.len, he]
theorem good_zero (M : List Nat) (a : Nat) : ∀ k, goodTo (M.map (sideN 0)) a k = true
  | 0 => rfl
  | k + 1 => by
    simp only [goodTo]
    rw [good_zero M a k, Bool.true_and]
    have : (M.map (sideN 0))[a + k]?.getD 0 = 0 := by
      rw [List.getElem?_map]
      cases M[a + k]? with
      | none => rfl
      | some m => show sideN 0 m = 0; unfold sideN; rw [Nat.and_zero]; rfl
    rw [this]
    rfl
def quietV (bc br : Int) : Int := if Lit12 bc br then ((2 ^ (datL bc.toNat br.toNat).quiet.length : Nat) : Int) else -1
theorem quietV_nat {w h : Nat} (hw : 1 ≤ w ∧ w ≤ 5) (hh : 1 ≤ h ∧ h ≤ 5) (h12 : w * h ≤ 12) : quietV w h = ((2 ^ (datL w h).quiet.length : Nat) : Int) := by
  unfold quietV
  rw [if_pos (lit12N hw hh h12)]
  simp only [Int.toNat_natCast]
theorem litS_none (bc br : Int) : LitS bc br 0 ↔ Lit12 bc br := ⟨fun h => h.1, fun h => ⟨h, by omega, by have := Nat.two_pow_pos (bc * br).toNat; omega⟩⟩

end Go.Proofs.YtmfdlijkpdgimaaGreatDoor

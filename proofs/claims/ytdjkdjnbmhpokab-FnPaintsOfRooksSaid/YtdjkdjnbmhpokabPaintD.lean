
/-
  Colours: the model's PaintByParts, FewestColours, PaintFirst.
-/
import Derived.Test.YtdjkdjnbmhpokabPaintC
namespace Go.Proofs.Ytdjkdjnbmhpokab
open Go.RowKit
set_option linter.unusedVariables false

theorem paintV_no {bc br k : Int} {s : List UInt8} (hv : ((smallK bc br s).isSome && decide (0 ≤ k ∧ k ≤ 4)) = false) : paintV bc br s k = -1 := by
  unfold paintV
  cases hsm : smallK bc br s with
  | none => rfl
  | some p =>
    obtain ⟨ss, far⟩ := p
    rw [hsm, Option.isSome_some, Bool.true_and, decide_eq_false_iff_not] at hv
    simp only
    exact if_neg hv
theorem paintV_yes {bc br k : Int} {s : List UInt8} {ss : List (Int × Int)} {far : Bool} (hsm : smallK bc br s = some (ss, far)) (hk : 0 ≤ k ∧ k ≤ 4) : paintV bc br s k = (paintsP (setsP bc br far ss) k.toNat (setsP bc br far ss).length [] : Int) := by
  unfold paintV
  rw [hsm]
  simp only
  exact if_pos hk
theorem looseL_yes {bc br : Int} {s : List UInt8} {ss : List (Int × Int)} {far : Bool} (hsm : smallK bc br s = some (ss, far)) : looseL bc br s = mapN ((setsP bc br far ss).length + 1) (partsF (setsP bc br far ss) (setsP bc br far ss).length []) := by
  unfold looseL
  rw [hsm]
theorem fall_small : ∀ k : Fin 5, ∀ p : Fin 12, fallP k.val p.val ≤ 24 := by decide +kernel
/-- The sum over the first numbers of sets. -/
def byTo (L : List Nat) (n k p : Nat) : Nat := sumN (fun q => partsF L n [] q * fallP k q) p
theorem byTo_le (L : List Nat) {n k : Nat} (hn : n ≤ 9) (hk : k ≤ 4) {p : Nat} (hp : p ≤ 10) : byTo L n k p ≤ 10 * (1000000000 * 24) := by
  refine Nat.le_trans (sumN_le (B := 1000000000 * 24) (fun q hq => ?_)) (Nat.mul_le_mul_right _ hp)
  exact Nat.mul_le_mul (Nat.le_trans (parts_le L q n [] (by simpa using hn)) (Nat.le_trans (Nat.pow_le_pow_right (by omega) hn) (by decide))) (fall_small ⟨k, by omega⟩ ⟨q, by omega⟩)
set_option maxHeartbeats 1000000 in
theorem specFewestColours_c (bc br : Int) (s : ByteArray) (w : World) : Calls Try.prog 19 #[.int .i64 bc, .int .i64 br, .string s] w (Plain (.int .i64 (fewV bc br s.toList)) w) := by
  have HV := hide (fun w5 => validSmall_c bc br s w5)
  have HLP := hide (fun w5 => specLooseParts_c bc br s w5)
  unfold looseL at HLP
  unfold fewV
  cases hsm : smallK bc br s.toList with
  | none =>
    rw [hsm] at HV
    rw [show (none : Option (List (Int × Int) × Bool)).isSome = false from rfl] at HV
    clear hsm HLP
    go_enter Try.func19, Try.ntmps19
    go_wp2_with fail
    refine (HV.out _).mono ?_
    rintro e w1 ⟨rfl, b1⟩
    go_wp2_with fail
    go_ret
    exact ⟨rfl, b1⟩
  | some p =>
    obtain ⟨ss, far⟩ := p
    rw [hsm] at HV HLP
    rw [show (some (ss, far)).isSome = true from rfl] at HV
    simp only at HLP ⊢
    obtain ⟨hS, hkk⟩ := smallK_some hsm
    obtain ⟨n, hU⟩ := hue_of hS hkk
    have hlen := hU.len
    have hn9 := hU.nine
    obtain ⟨f1, f2, f3, f4⟩ := few_is (L := setsP bc br far ss) (by rw [hlen]; exact hU.one)
    rw [hlen] at f2 f3 f4
    rw [hlen, mapN_len] at HLP
    clear hsm hS hkk hU
    generalize setsP bc br far ss = L at *
    generalize fewTo L = f at *
    have HF3 := hide f3
    have HF4 := hide f4
    clear hlen f3 f4
    generalize partsF L n [] = pf at *
    go_enter Try.func19, Try.ntmps19
    go_wp2_with fail
    refine (HV.out _).mono ?_
    rintro e w1 ⟨rfl, b1⟩
    go_wp2_with fail
    refine (HLP.out _).mono ?_
    rintro e w2 ⟨v2, rfl, o2, b2⟩
    obtain ⟨g2, c2, rfl, _, _, _, _, _⟩ := own_one o2 (by omega)
    have B2 := hide (below_then b1 b1.size b2)
    have O2 := hide o2
    clear b1 b2 o2
    go_wp2_with fail
    go_loopw [8] (fun kv wr => ∃ k : Nat, k ≤ f ∧ kv = .int .i64 (k : Int) ∧ w2 = wr) (fun kv _ => f - (intOf kv).toNat)
    case atStart => exact ⟨0, Nat.zero_le _, rfl, rfl⟩
    case round =>
      obtain ⟨k, hk, rfl, rfl⟩ := hrel
      obtain ⟨u1, _, _, _⟩ := own_natQ O2.out (show k < n + 1 by omega) 0
      rw [mapN_at _ (by omega)] at u1
      have k0 : (0 : Int) ≤ (k : Int) := by omega
      have k1 : (k : Int) < ((n + 1 : Nat) : Int) := by omega
      have k2 : (k : Int) < (n : Int) + 1 := by omega
      by_cases hlt : k < f
      · have h4 := HF4.out k hlt
        rw [h4] at u1
        go_wp2_with fail
        exact ⟨⟨k + 1, hlt, by go_num, trivial⟩, by simp [intOf]; omega⟩
      · obtain rfl : k = f := by omega
        have h3 := HF3.out
        generalize pf k = x at *
        have hx : ((x : Int) == 0) = false := by rw [beq_eq_false_iff_ne]; omega
        have hx2 : ¬ ((x : Int) = 0) := by omega
        go_wp2_with fail
        go_ret
        exact ⟨rfl, B2.out⟩
end Go.Proofs.Ytdjkdjnbmhpokab

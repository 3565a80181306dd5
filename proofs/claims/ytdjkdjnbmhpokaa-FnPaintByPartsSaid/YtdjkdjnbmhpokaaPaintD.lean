
/-
  Colours: the model's PaintByParts, FewestColours, PaintFirst.
-/
import Derived.Test.YtdjkdjnbmhpokaaPaintC
namespace Go.Proofs.Ytdjkdjnbmhpokaa
open Go.RowKit
set_option linter.unusedVariables false

theorem paintV_no {bc br k : Int} {s : List UInt8} (hv : ((smallK bc br s).isSome && decide (0 ≤ k ∧ k ≤ 4)) = false) : paintV bc br s k = -1 := by
  unfold paintV
  cases hsm : smallK bc br s with
  | none => rfl
  | some p =>
    obtain ⟨ss, far⟩ := p
    rw [hsm, Option.isSome_some, Bool.true_and, decide_eq_false_iff_not] at hv
    simp only
    exact if_neg hv
theorem paintV_yes {bc br k : Int} {s : List UInt8} {ss : List (Int × Int)} {far : Bool} (hsm : smallK bc br s = some (ss, far)) (hk : 0 ≤ k ∧ k ≤ 4) : paintV bc br s k = (paintsP (setsP bc br far ss) k.toNat (setsP bc br far ss).length [] : Int) := by
  unfold paintV
  rw [hsm]
  simp only
  exact if_pos hk
theorem looseL_yes {bc br : Int} {s : List UInt8} {ss : List (Int × Int)} {far : Bool} (hsm : smallK bc br s = some (ss, far)) : looseL bc br s = mapN ((setsP bc br far ss).length + 1) (partsF (setsP bc br far ss) (setsP bc br far ss).length []) := by
  unfold looseL
  rw [hsm]
theorem fall_small : ∀ k : Fin 5, ∀ p : Fin 12, fallP k.val p.val ≤ 24 := by decide +kernel
/-- The sum over the first numbers of sets. -/
def byTo (L : List Nat) (n k p : Nat) : Nat := sumN (fun q => partsF L n [] q * fallP k q) p
theorem byTo_le (L : List Nat) {n k : Nat} (hn : n ≤ 9) (hk : k ≤ 4) {p : Nat} (hp : p ≤ 10) : byTo L n k p ≤ 10 * (1000000000 * 24) := by
  refine Nat.le_trans (sumN_le (B := 1000000000 * 24) (fun q hq => ?_)) (Nat.mul_le_mul_right _ hp)
  exact Nat.mul_le_mul (Nat.le_trans (parts_le L q n [] (by simpa using hn)) (Nat.le_trans (Nat.pow_le_pow_right (by omega) hn) (by decide))) (fall_small ⟨k, by omega⟩ ⟨q, by omega⟩)
set_option maxHeartbeats 1000000 in
theorem specPaintByParts_c (bc br : Int) (s : ByteArray) (k : Int) (w : World) : Calls Try.prog 9 #[.int .i64 bc, .int .i64 br, .string s, .int .i64 k] w (Plain (.int .i64 (paintV bc br s.toList k)) w) := by
  have HV := hide (fun w5 => validPaint_c bc br s k w5)
  by_cases hv : ((smallK bc br s.toList).isSome && decide (0 ≤ k ∧ k ≤ 4)) = true
  · rw [hv] at HV
    rw [Bool.and_eq_true, decide_eq_true_eq] at hv
    obtain ⟨hv, hk4⟩ := hv
    obtain ⟨⟨ss, far⟩, hsm⟩ := Option.isSome_iff_exists.1 hv
    have HLP := hide (fun w5 => specLooseParts_c bc br s w5)
    rw [looseL_yes hsm] at HLP
    rw [paintV_yes hsm hk4]
    obtain ⟨hS, hkk⟩ := smallK_some hsm
    obtain ⟨n, hU⟩ := hue_of hS hkk
    have hlen := hU.len
    have hn9 := hU.nine
    obtain ⟨k, rfl⟩ := Int.eq_ofNat_of_zero_le hk4.1
    have hk : k ≤ 4 := by omega
    rw [Int.toNat_natCast, paint_all]
    rw [hlen, mapN_len] at HLP
    rw [hlen]
    clear hv hk4 hsm hS hkk hU
    generalize setsP bc br far ss = L at *
    have HBL := hide (fun p (hp : p ≤ 10) => byTo_le L hn9 hk hp)
    have HBS : Hid (∀ p, byTo L n k (p + 1) = byTo L n k p + partsF L n [] p * fallP k p) := fun p => rfl
    have HFS : Hid (∀ p, fallP k (p + 1) = fallP k p * (k - p)) := fun p => rfl
    have HPL := hide (fun p => show partsF L n [] p ≤ 1000000000 from Nat.le_trans (parts_le L p n [] (by simpa using hn9)) (Nat.le_trans (Nat.pow_le_pow_right (by omega) hn9) (by decide)))
    have HFL := hide (fun p (hp : p ≤ 10) => show fallP k p ≤ 24 from fall_small ⟨k, by omega⟩ ⟨p, by omega⟩)
    have HE : Hid (sumN (fun q => partsF L n [] q * fallP k q) (n + 1) = byTo L n k (n + 1)) := rfl
    have HF0 : Hid (fallP k 0 = 1) := rfl
    rw [HE.out]
    clear HE hlen
    have HB0 : Hid (byTo L n k 0 = 0) := rfl
    generalize byTo L n k = bT at *
    go_enter Try.func9, Try.ntmps9
    go_wp2_with fail
    refine (HV.out _).mono ?_
    rintro e w1 ⟨rfl, b1⟩
    go_wp2_with fail
    refine (HLP.out _).mono ?_
    rintro e w2 ⟨v2, rfl, o2, b2⟩
    obtain ⟨g2, c2, rfl, _, _, _, _, _⟩ := own_one o2 (by omega)
    have B2 := hide (below_then b1 b1.size b2)
    have O2 := hide o2
    clear b1 b2 o2
    go_wp2_with fail
    go_loopw [10, 11, 12] (fun ov wv pv wr => ∃ p : Nat, p ≤ n + 1 ∧ pv = .int .i64 (p : Int) ∧ ov = .int .i64 ((bT p : Nat) : Int) ∧ wv = .int .i64 ((fallP k p : Nat) : Int) ∧ w2 = wr) (fun _ _ pv _ => n + 1 - (intOf pv).toNat)
    case atStart => exact ⟨0, Nat.zero_le _, rfl, by rw [HB0.out]; rfl, by rw [HF0.out]; rfl, rfl⟩
    case round =>
      obtain ⟨p, hp, rfl, rfl, rfl, rfl⟩ := hrel
      by_cases hlt : p < n + 1
      · obtain ⟨u1, _, _, _⟩ := own_natQ O2.out hlt 0
        rw [mapN_at _ hlt] at u1
        have k0 : (0 : Int) ≤ (p : Int) := by omega
        have k1 : (p : Int) < ((n + 1 : Nat) : Int) := by omega
        have k2 : (p : Int) < (n : Int) + 1 := by omega
        have hb1 := HBL.out p (by omega)
        have hp1 := HPL.out p
        have hf1 := HFL.out p (by omega)
        have HBp := hide (HBS.out p)
        have HFp := hide (HFS.out p)
        have hmul : partsF L n [] p * fallP k p ≤ 1000000000 * 24 := Nat.mul_le_mul hp1 hf1
        have hmul2 : fallP k p * (k - p) ≤ 24 * 4 := Nat.mul_le_mul hf1 (by omega)
        have em : IntKind.i64.wrap (((partsF L n [] p : Nat) : Int) * ((fallP k p : Nat) : Int)) = ((partsF L n [] p * fallP k p : Nat) : Int) := (IntWalk.i64_in _ (by rw [← Int.natCast_mul]; omega)).trans (Int.natCast_mul _ _).symm
        have em2 : IntKind.i64.wrap (((fallP k p : Nat) : Int) * ((k - p : Nat) : Int)) = ((fallP k p * (k - p) : Nat) : Int) := (IntWalk.i64_in _ (by rw [← Int.natCast_mul]; omega)).trans (Int.natCast_mul _ _).symm
        have ed : IntKind.i64.wrap ((k : Int) - (p : Int)) = (k : Int) - (p : Int) := IntWalk.i64_in _ (by omega)
        have hmx : max ((k : Int) - (p : Int)) 0 = ((k - p : Nat) : Int) := by omega
        generalize partsF L n [] p * fallP k p = mu at *
        generalize fallP k p * (k - p) = mv at *
        generalize partsF L n [] p = pa at *
        generalize fallP k p = fa at *
        generalize k - p = kp at *
        generalize bT p = ot at *
        have es : IntKind.i64.wrap ((ot : Int) + (mu : Int)) = ((ot + mu : Nat) : Int) := (IntWalk.i64_in _ (by omega)).trans (by omega)
        obtain ⟨nw, hnw⟩ : ∃ nw, ot + mu = nw := ⟨_, rfl⟩
        rw [hnw] at es HBp
        clear hb1 hp1 hf1 hmul hmul2 hnw
        go_wp2_with fail
        exact ⟨⟨p + 1, hlt, by go_num, by rw [HBp.out], by rw [HFp.out], trivial⟩, by simp [intOf]; omega⟩
      · obtain rfl : p = n + 1 := by omega
        generalize bT (n + 1) = r at *
        go_wp2_with fail
        go_ret
        exact ⟨rfl, B2.out⟩
  · have hvf : ((smallK bc br s.toList).isSome && decide (0 ≤ k ∧ k ≤ 4)) = false := by simpa using hv
    rw [hvf] at HV
    rw [paintV_no hvf]
    clear hv hvf
    go_enter Try.func9, Try.ntmps9
    go_wp2_with fail
    refine (HV.out _).mono ?_
    rintro e w1 ⟨rfl, b1⟩
    go_wp2_with fail
    go_ret
    exact ⟨rfl, b1⟩
end Go.Proofs.Ytdjkdjnbmhpokaa

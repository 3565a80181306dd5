
/-
  Colours: the model's validPaint, PaintCount, LooseParts, PaintByParts, FewestColours.
-/
import Derived.Test.YtdjkdjnbmhpokabPaintB
import Derived.Test.YtdjkdjnbmhpokabGuardC
import Derived.Lib.MinMax
namespace Go.Proofs.Ytdjkdjnbmhpokab
open Go.RowKit
set_option linter.unusedVariables false

def paintV (bc br : Int) (s : List UInt8) (k : Int) : Int := match smallK bc br s with
  | some (ss, far) => if 0 ≤ k ∧ k ≤ 4 then (paintsP (setsP bc br far ss) k.toNat (setsP bc br far ss).length [] : Int) else -1
  | none => -1
def looseL (bc br : Int) (s : List UInt8) : List Nat := match smallK bc br s with
  | some (ss, far) => mapN ((setsP bc br far ss).length + 1) (partsF (setsP bc br far ss) (setsP bc br far ss).length [])
  | none => []
def fewV (bc br : Int) (s : List UInt8) : Int := match smallK bc br s with
  | some (ss, far) => (fewTo (setsP bc br far ss) : Int)
  | none => -1
/-- A small board's sets. -/
structure HueOf (bc br : Int) (L : List Nat) (n : Nat) : Prop where
  len : L.length = n
  one : 1 ≤ n
  nine : n ≤ 9
  size : bc * br = (n : Int)
  sets : Sets9 L
  tab : (chTab.any fun e => e.1 == L) = true
theorem hue_of {bc br : Int} {s : List UInt8} {ss : List (Int × Int)} {far : Bool} (hS : Small bc br) (hk : kindL s = some (ss, far)) : ∃ n, HueOf bc br (setsP bc br far ss) n := by
  obtain ⟨h9s, hlen⟩ := sets9_of hS hk
  obtain ⟨h1, h2, h3, h4, h9⟩ := hS
  have h0 : 1 ≤ bc * br := (mul_bd h1 h2 h3 h4).1
  obtain ⟨a, rfl⟩ : ∃ a : Nat, bc = ((a + 1 : Nat) : Int) := ⟨(bc - 1).toNat, by omega⟩
  obtain ⟨b, rfl⟩ : ∃ b : Nat, br = ((b + 1 : Nat) : Int) := ⟨(br - 1).toNat, by omega⟩
  have h9' : (a + 1) * (b + 1) ≤ 9 := by
    have : (((a + 1) * (b + 1) : Nat) : Int) ≤ 9 := by rw [Int.natCast_mul]; exact h9
    omega
  have hz : ((a + 1 : Nat) : Int) * ((b + 1 : Nat) : Int) = (((a + 1) * (b + 1) : Nat) : Int) := (Int.natCast_mul _ _).symm
  have hp : 1 ≤ (a + 1) * (b + 1) := Nat.mul_pos (by omega) (by omega)
  exact ⟨_, by omega, hp, h9', hz, h9s, List.all_eq_true.1 (in_tab ⟨a, by omega⟩ ⟨b, by omega⟩ h9') (ss, far) (kind_six6 hk)⟩
set_option maxHeartbeats 1000000 in
theorem validPaint_c (bc br : Int) (s : ByteArray) (k : Int) (w : World) : Calls Try.prog 28 #[.int .i64 bc, .int .i64 br, .string s, .int .i64 k] w (Plain (.bool ((smallK bc br s.toList).isSome && decide (0 ≤ k ∧ k ≤ 4))) w) := by
  have HVS := hide (fun w5 => validSmall_c bc br s w5)
  have HR := hide (fun w5 => inRange_c k 0 4 w5)
  generalize (smallK bc br s.toList).isSome = x at *
  generalize decide (0 ≤ k ∧ k ≤ 4) = y at *
  cases x with
  | false =>
    clear HR
    go_enter Try.func28, Try.ntmps28
    go_wp2_with fail
    refine (HVS.out _).mono ?_
    rintro e w1 ⟨rfl, b1⟩
    go_wp2_with fail
    go_ret
    exact ⟨rfl, b1⟩
  | true =>
    go_enter Try.func28, Try.ntmps28
    go_wp2_with fail
    refine (HVS.out _).mono ?_
    rintro e w1 ⟨rfl, b1⟩
    go_wp2_with fail
    refine (HR.out _).mono ?_
    rintro e w2 ⟨rfl, rfl⟩
    go_wp2_with fail
    go_ret
    exact ⟨by simp, b1⟩
set_option maxHeartbeats 1000000 in
theorem specPaintCount_c (bc br : Int) (s : ByteArray) (k : Int) (w : World) : Calls Try.prog 9 #[.int .i64 bc, .int .i64 br, .string s, .int .i64 k] w (Plain (.int .i64 (paintV bc br s.toList k)) w) := by
  have HV := hide (fun w5 => validPaint_c bc br s k w5)
  unfold paintV
  by_cases hv : ((smallK bc br s.toList).isSome && decide (0 ≤ k ∧ k ≤ 4)) = true
  · rw [hv] at HV
    rw [Bool.and_eq_true, decide_eq_true_eq] at hv
    obtain ⟨hv, hk4⟩ := hv
    obtain ⟨⟨ss, far⟩, hsm⟩ := Option.isSome_iff_exists.1 hv
    rw [hsm]
    simp only
    rw [if_pos hk4]
    obtain ⟨hS, hkk⟩ := smallK_some hsm
    obtain ⟨n, hU⟩ := hue_of hS hkk
    have HSR := hide (fun w5 => reaches_c bc br s ss far w5 hkk hS)
    have hlen := hU.len
    obtain ⟨k, rfl⟩ := Int.eq_ofNat_of_zero_le hk4.1
    have HP := hide (fun A H ca ch w5 h1 h2 => paints_c (setsP bc br far ss) n k hlen hU.sets (by omega) n [] (by simp) A H ca ch w5 h1 h2)
    rw [Int.toNat_natCast, hlen]
    clear hv hk4 hsm hS hkk hU
    generalize setsP bc br far ss = L at *
    rw [hlen] at HSR
    clear hlen
    generalize paintsP L k n [] = r at *
    go_enter Try.func9, Try.ntmps9
    go_wp2_with fail
    refine (HV.out _).mono ?_
    rintro e w1 ⟨rfl, b1⟩
    go_wp2_with fail
    refine (HSR.out _).mono ?_
    rintro e w2 ⟨v2, rfl, o2, b2⟩
    obtain ⟨A2, c2, rfl, _⟩ := own_row o2
    have b12 := below_then b1 b1.size b2
    have hal := (Below.refl w2.heap.size w2).alloc (Nat.le_refl _) (.cells #[] 3)
    have R2 := hide ((own_reads o2).below hal)
    have b12 := below_then b12 b12.size hal
    clear o2 b1 b2 hal
    go_wp2_with fail
    refine (HP.out A2 (some ⟨w2.heap.size, 0, none⟩) c2 0 _ R2.out (Row.empty _ _)).mono ?_
    rintro e w3 ⟨rfl, b3⟩
    have b13 := below_then b12 b12.size b3
    clear b12 b3
    go_wp2_with fail
    go_ret
    exact ⟨rfl, b13⟩
  · have hvf : ((smallK bc br s.toList).isSome && decide (0 ≤ k ∧ k ≤ 4)) = false := by simpa using hv
    rw [hvf] at HV
    have hgoal : (match smallK bc br s.toList with | some (ss, far) => if 0 ≤ k ∧ k ≤ 4 then (paintsP (setsP bc br far ss) k.toNat (setsP bc br far ss).length [] : Int) else -1 | none => -1) = -1 := by
      cases hsm : smallK bc br s.toList with
      | none => rfl
      | some p =>
        rw [hsm, Option.isSome_some, Bool.true_and, decide_eq_true_eq] at hv
        exact if_neg hv
    rw [hgoal]
    clear hv hvf hgoal
    go_enter Try.func9, Try.ntmps9
    go_wp2_with fail
    refine (HV.out _).mono ?_
    rintro e w1 ⟨rfl, b1⟩
    go_wp2_with fail
    go_ret
    exact ⟨rfl, b1⟩
set_option maxHeartbeats 1000000 in
theorem specLooseParts_c (bc br : Int) (s : ByteArray) (w : World) : Calls Try.prog 11 #[.int .i64 bc, .int .i64 br, .string s] w (Owns 3 1 (looseL bc br s.toList).length (ints (natI (looseL bc br s.toList))) w) := by
  have HV := hide (fun w5 => validSmall_c bc br s w5)
  unfold looseL
  cases hsm : smallK bc br s.toList with
  | none =>
    rw [hsm] at HV
    rw [show (none : Option (List (Int × Int) × Bool)).isSome = false from rfl] at HV
    clear hsm
    go_enter Try.func11, Try.ntmps11
    go_wp2_with fail
    refine (HV.out _).mono ?_
    rintro e w1 ⟨rfl, b1⟩
    go_wp2_with fail
    go_ret
    exact ⟨_, rfl, World.ownsRow_nil _ _ _ _, b1⟩
  | some p =>
    obtain ⟨ss, far⟩ := p
    rw [hsm] at HV
    rw [show (some (ss, far)).isSome = true from rfl] at HV
    simp only
    obtain ⟨hS, hkk⟩ := smallK_some hsm
    obtain ⟨n, hU⟩ := hue_of hS hkk
    have HSR := hide (fun w5 => reaches_c bc br s ss far w5 hkk hS)
    have hlen := hU.len
    have hn9 := hU.nine
    have hsz := hU.size
    have HP := hide (fun A H ca ch w5 h1 h2 => show Calls _ _ #[.slice A n ca, .slice H 0 ch, .int .i64 0] w5 (Owns 3 1 (n + 1) (ints (natI (mapN (n + 1) (partsF (setsP bc br far ss) n [])))) w5) by
      have := parts_c (setsP bc br far ss) n hlen hU.sets n [] (Nat.le_refl _) ⟨by simp, fun i => by simp⟩ A H ca ch w5 h1 h2
      rw [Nat.sub_self, List.length_nil, Nat.zero_add] at this
      exact this)
    have e0 : IntKind.i64.wrap (bc * br) = (n : Int) := (IntWalk.i64_in _ (by omega)).trans hsz
    rw [mapN_len, hlen]
    clear hsm hS hkk hU hsz
    generalize setsP bc br far ss = L at *
    rw [hlen] at HSR
    clear hlen
    generalize mapN (n + 1) (partsF L n []) = l at *
    obtain ⟨N, hN⟩ : ∃ N, n + 1 = N := ⟨_, rfl⟩
    have hNn : ¬ ((N : Int) ≤ (n : Int)) := by omega
    rw [hN] at HP ⊢
    have hN1 : 1 ≤ N := by omega
    clear hN
    go_enter Try.func11, Try.ntmps11
    go_wp2_with fail
    refine (HV.out _).mono ?_
    rintro e w1 ⟨rfl, b1⟩
    go_wp2_with fail
    refine (HSR.out _).mono ?_
    rintro e w2 ⟨v2, rfl, o2, b2⟩
    obtain ⟨A2, c2, rfl, _⟩ := own_row o2
    have b12 := below_then b1 b1.size b2
    have hal := (Below.refl w2.heap.size w2).alloc (Nat.le_refl _) (.cells #[] 3)
    have R2 := hide ((own_reads o2).below hal)
    have b12 := below_then b12 b12.size hal
    clear o2 b1 b2 hal
    go_wp2_with fail
    refine (HP.out A2 (some ⟨w2.heap.size, 0, none⟩) c2 0 _ R2.out (Row.empty _ _)).mono ?_
    rintro e w3 ⟨v3, rfl, o3, b3⟩
    obtain ⟨g3, c3, rfl, _, _, _, _, _⟩ := own_one o3 hN1
    have O3 := hide (own_mono o3 b12.size)
    have B3 := hide (below_then b12 b12.size b3)
    clear b12 b3 o3 R2
    go_wp2_with fail
    go_loopw [7] (fun v wr => v = .slice (some ⟨g3, 0, none⟩) N c3 ∧ w3 = wr) (fun _ _ => 0)
    case atStart => exact ⟨rfl, rfl⟩
    case round =>
      obtain ⟨rfl, rfl⟩ := hrel
      go_wp2_with fail
      go_ret
      exact ⟨_, rfl, O3.out, B3.out⟩
end Go.Proofs.Ytdjkdjnbmhpokab

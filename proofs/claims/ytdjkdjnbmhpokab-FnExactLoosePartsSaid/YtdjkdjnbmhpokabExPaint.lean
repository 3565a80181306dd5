
/-
  The walks of chapter 11's exact laws, off the contracts of the program's functions (given).
-/
import Derived.Test.YtdjkdjnbmhpokabPaintD
import Derived.Test.YtdjkdjnbmhpokabPaintE
import Derived.Test.YtdjkdjnbmhpokabSpecM
namespace Go.Proofs.Ytdjkdjnbmhpokab
open Go.RowKit
set_option linter.unusedVariables false

theorem loose_short (bc br : Int) (s : List UInt8) : (looseL bc br s).length ≤ 10 := by
  unfold looseL
  cases hk : smallK bc br s with
  | none => exact Nat.zero_le _
  | some p =>
    obtain ⟨ss, far⟩ := p
    obtain ⟨hS, hkk⟩ := smallK_some hk
    obtain ⟨n, hU⟩ := hue_of hS hkk
    have := hU.nine
    have := hU.len
    simp only [mapN_len]
    omega
theorem hue_short (bc br : Int) (s : List UInt8) : (hueL bc br s).length ≤ 9 := by
  unfold hueL
  cases hk : smallK bc br s with
  | none => exact Nat.zero_le _
  | some p =>
    obtain ⟨ss, far⟩ := p
    obtain ⟨hS, hkk⟩ := smallK_some hk
    obtain ⟨n, hU⟩ := hue_of hS hkk
    have := hU.nine
    have := hU.len
    simp only [firstC_len]
    omega
set_option maxHeartbeats 2000000 in
set_option maxRecDepth 100000 in
theorem exactFewestColours_w (HI : ∀ (bc br : Int) (s : ByteArray) (w5 : World), Calls Try.prog 20 #[.int .i64 bc, .int .i64 br, .string s] w5 (Plain (.int .i64 (fewV bc br s.toList)) w5))
    (bc br : Int) (s : ByteArray) (w : World) : Calls Try.prog 6 #[.int .i64 bc, .int .i64 br, .string s] w (Plain (.bool true) w) := by
  by_cases hlen : 1048576 < (s.size : Int)
  · go_enter Try.func6, Try.ntmps6
    go_wp2
    go_ret
    exact ⟨rfl, Below.refl _ _⟩
  · have H1 := hide (fun w5 => specFewestColours_c bc br s w5)
    have H2 := hide (fun w5 => HI bc br s w5)
    clear HI
    generalize fewV bc br s.toList = x at *
    have hx : (x != x) = false := by simp
    go_enter Try.func6, Try.ntmps6
    go_wp2_with fail
    refine (H1.out _).mono ?_
    rintro e w1 ⟨rfl, b1⟩
    go_wp2_with fail
    refine (H2.out _).mono ?_
    rintro e w2 ⟨rfl, b2⟩
    go_wp2_with fail
    go_ret
    exact ⟨rfl, below_then b1 b1.size b2⟩
set_option maxHeartbeats 2000000 in
set_option maxRecDepth 100000 in
theorem exactLooseParts_w (HJ : ∀ (bc br : Int) (s : ByteArray) (w5 : World), Calls Try.prog 12 #[.int .i64 bc, .int .i64 br, .string s] w5 (Owns 3 1 (looseL bc br s.toList).length (ints (natI (looseL bc br s.toList))) w5))
    (a b : Int) (s : ByteArray) (w : World) : Calls Try.prog 4 #[.int .i64 a, .int .i64 b, .string s] w (Plain (.bool true) w) := by
  by_cases hlen : 1048576 < (s.size : Int)
  · go_enter Try.func4, Try.ntmps4
    go_wp2
    go_ret
    exact ⟨rfl, Below.refl _ _⟩
  · have HS := hide (fun w5 => specLooseParts_c a b s w5)
    have HI := hide (fun w5 => HJ a b s w5)
    have hL := loose_short a b s.toList
    rw [← natI_len (looseL a b s.toList)] at HS HI hL
    clear HJ
    generalize natI (looseL a b s.toList) = L at *
    go_enter Try.func4, Try.ntmps4
    go_wp2_with fail
    refine (HS.out _).mono ?_
    rintro e w2 ⟨v2, rfl, o2, b2⟩
    obtain ⟨A2, c2, rfl, _⟩ := own_row o2
    go_wp2_with fail
    refine (HI.out _).mono ?_
    rintro e w4 ⟨v4, rfl, o4, b4⟩
    have i2 := own_lt o2
    have o2 := own_below o2 b4
    have z23 := b2.size
    have b4' := below_then b2 b2.size b4
    obtain ⟨A4, c4, rfl, _⟩ := own_row o4
    go_wp2_with fail
    refine (eqIntS_t _ _ _ _ _ _ L L _ rfl rfl (own_reads o4) (own_reads o2) (by unfold maxLen; omega) rfl).mono ?_
    rintro e w5 ⟨rfl, b5⟩
    have o2 := own_below o2 b5
    have o4 := own_below o4 b5
    have b5 := below_then b4' b4'.size b5
    clear b4 b4'
    go_wp2_with fail
    refine (markIntS_c _ _ 1 L _ o4 (by omega) (by omega) (by omega)).mono ?_
    rintro e w10 ⟨rfl, o4', g10⟩
    have o2' := own_other o2 i2 o4 (Nat.le_refl _) g10
    have b10 := below_grown b5 b5.size o4 z23 g10
    clear o2 o4 g10 b5
    go_wp2_with fail
    refine (heldIntS_c _ 1 _ _ _ (own_reads o4') (by omega) (by omega) (by omega)).mono ?_
    rintro e w11 ⟨rfl, b11⟩
    have o2 := own_below o2' b11
    have o4 := own_below o4' b11
    have b11 := below_then b10 b10.size b11
    clear o2' o4' b10
    have hqm : ((1 : Int) + (L.length : Int) != 1 + (L.length : Int)) = false := by simp
    go_wp2_with fail
    refine (HI.out _).mono ?_
    rintro e w13 ⟨v13, rfl, o13, b13⟩
    have o2 := own_below o2 b13
    have o4 := own_below o4 b13
    have b13 := below_then b11 b11.size b13
    obtain ⟨A13, c13, rfl, _⟩ := own_row o13
    clear b11
    go_wp2_with fail
    refine (eqIntS_t _ _ _ _ _ _ L L _ rfl rfl (own_reads o13) (own_reads o2) (by unfold maxLen; omega) rfl).mono ?_
    rintro e w14 ⟨rfl, b14⟩
    have o4 := own_below o4 b14
    have b14 := below_then b13 b13.size b14
    clear o2 o13 b13
    go_wp2_with fail
    refine (heldIntS_c _ 1 _ _ _ (own_reads o4) (by omega) (by omega) (by omega)).mono ?_
    rintro e w15 ⟨rfl, b15⟩
    have b15 := below_then b14 b14.size b15
    clear o4 b14
    go_wp2_with fail
    go_ret
    exact ⟨rfl, b15⟩
end Go.Proofs.Ytdjkdjnbmhpokab


/-
  Sets of cells as numbers: bits of numbers below 2^62; allOf, sumOf; the lowest member (math/bits.TrailingZeros reads a table of the library's: Tab).
-/
import Derived.Test.YtnikgnicjbcbmabDoorPTileA
import Derived.Test.YtnikgnicjbcbmabDoorMoveE
import Derived.Laws.Bits64b
import Derived.Lib.RabinKarpLaws
namespace Go.Proofs.YtnikgnicjbcbmabDoor
open Go.RowKit
set_option linter.unusedVariables false

theorem toNat64 (a : Nat) (ha : a < 4611686018427387904) : (BitVec.ofInt 64 (a : Int)).toNat = a := by
  rw [BitVec.ofInt_natCast, BitVec.toNat_ofNat]; exact Nat.mod_eq_of_lt (by omega)
theorem i64_orN (a b : Nat) (ha : a < 4611686018427387904) (hb : b < 4611686018427387904) : bits .or .i64 (a : Int) (b : Int) = ((a ||| b : Nat) : Int) := by
  have hx : a ||| b < 2 ^ 62 := Nat.or_lt_two_pow (by omega) (by omega)
  show IntKind.i64.wrap ((BitVec.ofInt 64 (a : Int) ||| BitVec.ofInt 64 (b : Int)).toNat : Int) = _
  rw [BitVec.toNat_or, toNat64 a ha, toNat64 b hb]
  exact IntWalk.i64_in _ (by omega)
theorem i64_andN (a b : Nat) (ha : a < 4611686018427387904) (hb : b < 4611686018427387904) : bits .and .i64 (a : Int) (b : Int) = ((a &&& b : Nat) : Int) := by
  have hx : a &&& b < 2 ^ 62 := Nat.and_lt_two_pow _ (by omega)
  show IntKind.i64.wrap ((BitVec.ofInt 64 (a : Int) &&& BitVec.ofInt 64 (b : Int)).toNat : Int) = _
  rw [BitVec.toNat_and, toNat64 a ha, toNat64 b hb]
  exact IntWalk.i64_in _ (by omega)
theorem i64_difN (a b : Nat) (ha : a < 4611686018427387904) (hb : b < 4611686018427387904) : bits .andNot .i64 (a : Int) (b : Int) = ((dif a b : Nat) : Int) := by
  have hx := dif_lt b (show a < 2 ^ 62 by omega)
  show IntKind.i64.wrap ((BitVec.ofInt 64 (a : Int) &&& ~~~(BitVec.ofInt 64 (b : Int))).toNat : Int) = _
  have e : (BitVec.ofInt 64 (a : Int) &&& ~~~(BitVec.ofInt 64 (b : Int))).toNat = dif a b := Nat.eq_of_testBit_eq fun i => by
    rw [dif_bit, BitVec.testBit_toNat, BitVec.getLsbD_and, BitVec.getLsbD_not, ← BitVec.testBit_toNat, ← BitVec.testBit_toNat, toNat64 a ha, toNat64 b hb]
    by_cases h : i < 64
    · rw [decide_eq_true h, Bool.true_and]
    · have : a.testBit i = false := Nat.testBit_lt_two_pow (Nat.lt_of_lt_of_le ha (Nat.le_trans (by decide) (Nat.pow_le_pow_right (n := 2) (by omega) (show 62 ≤ i by omega))))
      rw [this, Bool.false_and, Bool.false_and]
  rw [e]
  exact IntWalk.i64_in _ (by omega)
theorem bit_test (x y : Nat) (hx : x < 4611686018427387904) : (bits BinOp.and IntKind.i64 ((x : Int) / 2 ^ y) 1 == 1) = x.testBit y := by
  have hq : x / 2 ^ y ≤ x := Nat.div_le_self _ _
  have e : ((x : Int) / 2 ^ y) = ((x / 2 ^ y : Nat) : Int) := by push_cast; rfl
  rw [e, and_one _ (by omega), Nat.testBit_eq_decide_div_mod_eq, Bool.eq_iff_iff, beq_iff_eq, decide_eq_true_eq]
  omega
theorem powN {k : Nat} (h : k ≤ 61) : 1 ≤ 2 ^ k ∧ 2 ^ k < 4611686018427387904 :=
  ⟨Nat.one_le_two_pow, Nat.lt_of_le_of_lt (Nat.pow_le_pow_right (by omega) h) (by decide)⟩
theorem shlN (k : Nat) (h : k ≤ 61) : IntKind.i64.wrap ((2 : Int) ^ k) = ((2 ^ k : Nat) : Int) := by
  have := powN h
  rw [show ((2 : Int) ^ k) = ((2 ^ k : Nat) : Int) by push_cast; rfl]
  exact IntWalk.i64_in _ (by omega)
theorem set25 {n x : Nat} (hn : n ≤ 25) (h : x < 2 ^ n) : x < 33554432 := Nat.lt_of_lt_of_le h (Nat.pow_le_pow_right (n := 2) (by omega) hn)

theorem allOf_c (n : Nat) (h : n ≤ 25) (w : World) : Calls Tryd.prog 16 #[.int .i64 (n : Int)] w fun e w' => e = .returned (.int .i64 ((2 ^ n - 1 : Nat) : Int)) ∧ w = w' := by
  have es := shlN n (by omega)
  have hp : 1 ≤ 2 ^ n ∧ 2 ^ n ≤ 33554432 := ⟨Nat.one_le_two_pow, Nat.pow_le_pow_right (n := 2) (by omega) h⟩
  have hs : ((2 ^ n - 1 : Nat) : Int) = ((2 ^ n : Nat) : Int) - 1 := by omega
  rw [hs]
  have HS := hide hs
  clear hs
  generalize (2 ^ n : Nat) = P at *
  go_enter Tryd.func16, Tryd.ntmps16
  go_wp2
  go_ret
  exact ⟨rfl, rfl⟩

theorem orS_bd (l : List Int) (hl : ∀ i, i < l.length → 0 ≤ l[i]?.getD 0 ∧ l[i]?.getD 0 < 25) : ∀ k, k ≤ l.length → orS (l.take k) < 2 ^ 25
  | 0, _ => by simp [orS]
  | k + 1, h => by
    rw [orS_snoc _ _ (by omega)]
    obtain ⟨h2, h3⟩ := hl k (by omega)
    exact Nat.or_lt_two_pow (orS_bd l hl k (by omega)) (Nat.pow_lt_pow_right (by omega) (by omega))

set_option maxHeartbeats 1000000 in
theorem sumOf25_c (A : Option Addr) (c : Nat) (l : List Int) (w : World) (hr : Row w A (ints l)) (hl : ∀ i, i < l.length → 0 ≤ l[i]?.getD 0 ∧ l[i]?.getD 0 < 25) (hm : l.length ≤ 1000) :
    Calls Tryd.prog 31 #[.slice A l.length c] w fun e w' => e = .returned (.int .i64 ((orS l : Nat) : Int)) ∧ w = w' := by
  have HR := hide hr
  have HL := hide hl
  clear hr hl
  go_enter Tryd.func31, Tryd.ntmps31
  go_wp2_with fail
  go_loopw [3, 8] (fun a i wr => ∃ k : Nat, k ≤ l.length ∧ i = .int .i64 (k : Int) ∧ a = .int .i64 ((orS (l.take k) : Nat) : Int) ∧ w = wr) (fun _ i _ => l.length - (intOf i).toNat)
  case atStart => exact ⟨0, Nat.zero_le _, rfl, rfl, rfl⟩
  case round =>
    obtain ⟨k, hk, rfl, rfl, rfl⟩ := hrel
    by_cases hlt : k < l.length
    · obtain ⟨ad, rfl, hck⟩ := HR.out.int (k := k) hlt
      obtain ⟨x0, x1⟩ := HL.out k hlt
      have hbd := orS_bd l HL.out k hk
      have HS := hide (orS_snoc l k hlt)
      obtain ⟨x, hx⟩ : ∃ x : Nat, l[k]?.getD 0 = (x : Int) := ⟨(l[k]?.getD 0).toNat, by omega⟩
      rw [hx] at hck HS x0 x1
      rw [Int.toNat_natCast] at HS
      have es := shlN x (by omega)
      have px := powN (k := x) (by omega)
      have eo := i64_orN _ _ (Nat.lt_of_lt_of_le hbd (by decide)) px.2
      generalize (2 ^ x : Nat) = P at *
      generalize orS (l.take k) = b at *
      have k0 : (0 : Int) ≤ (k : Int) := by omega
      have k1 : (k : Int) < (l.length : Int) := by omega
      clear hx hbd
      go_wp2_with fail
      exact ⟨⟨k + 1, hlt, by go_num, by rw [HS.out], trivial⟩, by simp [intOf]; omega⟩
    · obtain rfl : k = l.length := by omega
      rw [List.take_length]
      go_wp2_with fail
      go_ret
      exact ⟨rfl, rfl⟩

/-- The library's table lies in its variable. -/
def Tab (w : World) : Prop := ∀ j, j < 64 → w.cell? ⟨1, j, none⟩ = some (.int .u8 (Lib.deBruijn64tab.getD j 0))
theorem Tab.lt {w : World} (h : Tab w) : 1 < w.heap.size := World.block_lt_of_cell? _ _ (h 0 (by omega))
theorem Tab.below {w w' : World} (h : Tab w) (hb : Below w.heap.size w w') : Tab w' := fun j hj => by
  rw [hb.cell (p := ⟨1, j, none⟩) h.lt]
  exact h j hj

set_option maxHeartbeats 1000000 in
theorem tz64_core (x k idx : Nat) (w : World) (hx0 : ((x : Int) == 0) = false)
    (key : IntKind.u64.wrap (bits BinOp.and IntKind.u64 (x : Int) (IntKind.u64.wrap (-(x : Int))) * 285870213051353865) / 288230376151711744 = (idx : Int))
    (hi : idx < 64) (hk : k < 64) (hcell : w.cell? ⟨1, idx, none⟩ = some (.int .u8 k)) :
    Calls Tryd.prog 40 #[.int .u64 x] w fun e w' => e = .returned (.int .i64 k) ∧ w = w' := by
  go_enter Tryd.func40, Tryd.ntmps40
  go_wp2_with (simp only [key])
  go_ret
  exact ⟨rfl, rfl⟩
theorem tz64_key (x a : Nat) (hx : x < 18446744073709551616) (hx0 : x ≠ 0) (hlow : x &&& (18446744073709551616 - x) = a) :
    IntKind.u64.wrap (bits BinOp.and IntKind.u64 (x : Int) (IntKind.u64.wrap (-(x : Int))) * 285870213051353865) / 288230376151711744 = ((a * 285870213051353865 % 18446744073709551616 / 288230376151711744 : Nat) : Int) := by
  have e1 : IntKind.u64.wrap (-(x : Int)) = ((18446744073709551616 - x : Nat) : Int) := by rw [IntKind.wrap_u64]; omega
  rw [e1, bits_and_u64_nat x _ hx (by omega), hlow, IntKind.wrap_u64]
  omega
theorem tz64_c (x : Nat) (hx : x < 18446744073709551616) (h0 : x ≠ 0) (w : World) (hT : Tab w) :
    Calls Tryd.prog 40 #[.int .u64 x] w fun e w' => e = .returned (.int .i64 (low x)) ∧ w = w' := by
  obtain ⟨hlow, hk⟩ := Lib.lowest_bit 64 x h0 hx
  obtain ⟨hi, htab⟩ := Lib.deBruijn64_at _ hk
  have hcell := hT _ hi
  rw [htab] at hcell
  exact tz64_core x _ _ w (by simp; omega) (tz64_key x _ hx h0 hlow) hi hk hcell
theorem low_bd {x : Nat} (hx : x < 18446744073709551616) (h0 : x ≠ 0) : low x < 64 := (Lib.lowest_bit 64 x h0 hx).2
theorem tz_c (x : Nat) (hx : x < 18446744073709551616) (h0 : x ≠ 0) (w : World) (hT : Tab w) :
    Calls Tryd.prog 28 #[.int .u64 x] w fun e w' => e = .returned (.int .i64 (low x)) ∧ w = w' := by
  have HT := hide (fun w5 h5 => tz64_c x hx h0 w5 h5)
  go_enter Tryd.func28, Tryd.ntmps28
  go_wp2_with fail
  refine (HT.out _ hT).mono ?_
  rintro e w1 ⟨rfl, rfl⟩
  go_wp2_with fail
  go_ret
  exact ⟨rfl, rfl⟩
end Go.Proofs.YtnikgnicjbcbmabDoor

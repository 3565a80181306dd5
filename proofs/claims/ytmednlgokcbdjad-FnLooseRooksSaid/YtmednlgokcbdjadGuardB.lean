
/-
  Guards: the model's guards and loose on a set of nine cells.
-/
import Derived.Test.YtmednlgokcbdjadGuardA
import Derived.Test.YtmednlgokcbdjadSpecC
namespace Go.Proofs.Ytmednlgokcbdjad
open Go.RowKit
set_option linter.unusedVariables false

theorem i64_or9 (a b : Nat) (ha : a < 512) (hb : b < 512) : bits .or .i64 (a : Int) (b : Int) = ((a ||| b : Nat) : Int) ∧ a ||| b < 512 := by
  have hx : a ||| b < 2 ^ 9 := Nat.or_lt_two_pow (by omega) (by omega)
  have h1 : (BitVec.ofInt 64 (a : Int)).toNat = a := by
    rw [BitVec.ofInt_natCast, BitVec.toNat_ofNat]; exact Nat.mod_eq_of_lt (by omega)
  have h2 : (BitVec.ofInt 64 (b : Int)).toNat = b := by
    rw [BitVec.ofInt_natCast, BitVec.toNat_ofNat]; exact Nat.mod_eq_of_lt (by omega)
  refine ⟨?_, by omega⟩
  show IntKind.i64.wrap ((BitVec.ofInt 64 (a : Int) ||| BitVec.ofInt 64 (b : Int)).toNat : Int) = _
  rw [BitVec.toNat_or, h1, h2]
  exact IntWalk.i64_in _ (by omega)
theorem i64_and9 (a b : Nat) (ha : a < 512) (hb : b < 512) : bits .and .i64 (a : Int) (b : Int) = ((a &&& b : Nat) : Int) ∧ a &&& b < 512 := by
  have hx : a &&& b < 2 ^ 9 := Nat.and_lt_two_pow _ (by omega)
  have h1 : (BitVec.ofInt 64 (a : Int)).toNat = a := by
    rw [BitVec.ofInt_natCast, BitVec.toNat_ofNat]; exact Nat.mod_eq_of_lt (by omega)
  have h2 : (BitVec.ofInt 64 (b : Int)).toNat = b := by
    rw [BitVec.ofInt_natCast, BitVec.toNat_ofNat]; exact Nat.mod_eq_of_lt (by omega)
  refine ⟨?_, by omega⟩
  show IntKind.i64.wrap ((BitVec.ofInt 64 (a : Int) &&& BitVec.ofInt 64 (b : Int)).toNat : Int) = _
  rw [BitVec.toNat_and, h1, h2]
  exact IntWalk.i64_in _ (by omega)
def natI (L : List Nat) : List Int := L.map fun (x : Nat) => Int.ofNat x
theorem natI_len (L : List Nat) : (natI L).length = L.length := by simp [natI]
theorem natI_at (L : List Nat) (k : Nat) : (natI L)[k]?.getD 0 = ((L[k]?.getD 0 : Nat) : Int) := by
  rw [natI, List.getElem?_map]
  cases L[k]? <;> rfl
/-- Sets of at most nine cells, one for each cell. -/
structure Sets9 (L : List Nat) : Prop where
  len : L.length ≤ 9
  bd : ∀ k : Nat, L[k]?.getD 0 < 512
theorem over_bd {L : List Nat} (h : Sets9 L) {s : Nat} (hs : s < 512) : ∀ k, overP L s k < 512
  | 0 => hs
  | k + 1 => by
    simp only [overP]
    split
    · exact (i64_or9 _ _ (over_bd h hs k) (h.bd k)).2
    · exact over_bd h hs k
theorem bitN_two (s k : Nat) : bitN s k = 0 ∨ bitN s k = 1 := by unfold bitN; omega

set_option maxHeartbeats 1000000 in
theorem guards_c (A : Option Addr) (c : Nat) (L : List Nat) (s : Nat) (w : World) (hr : Row w A (ints (natI L))) (hL : Sets9 L) (hs : s < 512) :
    Calls Try.prog 37 #[.slice A L.length c, .int .i64 (s : Int)] w fun e w' => e = .returned (.bool (guardsP L s)) ∧ w = w' := by
  have HL := hide hL
  have h9 := hL.len
  have HR := hide hr
  have HP := hide (fun w5 => specPower9_c L.length h9 w5)
  obtain ⟨p1, p2⟩ := pow9 h9
  have HG : Hid (guardsP L s = (overP L s L.length == 2 ^ L.length - 1)) := rfl
  clear hr hL
  generalize 2 ^ L.length = P at *
  go_enter Try.func37, Try.ntmps37
  go_wp2_with fail
  go_loopw [5, 6] (fun a i wr => ∃ k : Nat, k ≤ L.length ∧ i = .int .i64 (k : Int) ∧ a = .int .i64 ((overP L s k : Nat) : Int) ∧ w = wr) (fun _ i _ => L.length - (intOf i).toNat)
  case atStart => exact ⟨0, Nat.zero_le _, rfl, rfl, rfl⟩
  case round =>
    obtain ⟨k, hk, rfl, rfl, rfl⟩ := hrel
    have hob := over_bd HL.out hs k
    by_cases hlt : k < L.length
    · obtain ⟨ad, rfl, hck⟩ := HR.out.int (k := k) (by rw [natI_len]; exact hlt)
      rw [natI_at] at hck
      have hxb := HL.out.bd k
      have HB := hide (fun w5 => specBit9_c s k hs (by omega) w5)
      have HO : Hid (overP L s (k + 1) = if bitN s k = 1 then overP L s k ||| L[k]?.getD 0 else overP L s k) := rfl
      obtain ⟨e1, e2⟩ := i64_or9 _ _ hob hxb
      have k0 : (0 : Int) ≤ (k : Int) := by omega
      have k1 : (k : Int) < (L.length : Int) := by omega
      rcases bitN_two s k with hb | hb
      · rw [hb] at HB HO
        clear hb e1 e2 hck
        go_wp2_with fail
        refine (HB.out _).mono ?_
        rintro e w7 ⟨rfl, rfl⟩
        go_wp2_with fail
        exact ⟨⟨k + 1, hlt, by go_num, by rw [HO.out]; rfl, trivial⟩, by simp [intOf]; omega⟩
      · rw [hb] at HB HO
        clear hb
        generalize L[k]?.getD 0 = x at *
        generalize overP L s k = a at *
        generalize a ||| x = ax at *
        go_wp2_with fail
        refine (HB.out _).mono ?_
        rintro e w7 ⟨rfl, rfl⟩
        go_wp2_with fail
        exact ⟨⟨k + 1, hlt, by go_num, by rw [HO.out]; rfl, trivial⟩, by simp [intOf]; omega⟩
    · obtain rfl : k = L.length := by omega
      generalize overP L s L.length = a at *
      have e1 : IntKind.i64.wrap ((P : Int) - 1) = ((P - 1 : Nat) : Int) := (IntWalk.i64_in _ (by omega)).trans (by omega)
      have HV : Hid (guardsP L s = ((a : Int) == ((P - 1 : Nat) : Int))) := by
        show _ = _
        rw [HG.out, Bool.eq_iff_iff, beq_iff_eq, beq_iff_eq]
        omega
      clear HG
      generalize P - 1 = F at *
      go_wp2_with fail
      refine (HP.out _).mono ?_
      rintro e w7 ⟨rfl, rfl⟩
      go_wp2_with fail
      go_ret
      exact ⟨by rw [HV.out]; rfl, rfl⟩

end Go.Proofs.Ytmednlgokcbdjad


/-
  Guards: how many loose sets, as the model counts them.
-/
import Derived.Test.YtmednlgokcbdjadGuardF
import Derived.Deep.QuietTactic
namespace Go.Proofs.Ytmednlgokcbdjad
open Go.RowKit
set_option linter.unusedVariables false

theorem i64_andNot9 (a b : Nat) (ha : a < 512) (hb : b < 512) : bits .andNot .i64 (a : Int) (b : Int) = ((a - (a &&& b) : Nat) : Int) := by
  have h1 : (BitVec.ofInt 64 (a : Int)).toNat = a := by
    rw [BitVec.ofInt_natCast, BitVec.toNat_ofNat]; exact Nat.mod_eq_of_lt (by omega)
  have h2 : (BitVec.ofInt 64 (b : Int)).toNat = b := by
    rw [BitVec.ofInt_natCast, BitVec.toNat_ofNat]; exact Nat.mod_eq_of_lt (by omega)
  show IntKind.i64.wrap ((BitVec.ofInt 64 (a : Int) &&& ~~~(BitVec.ofInt 64 (b : Int))).toNat : Int) = _
  generalize BitVec.ofInt 64 (a : Int) = X at *
  generalize BitVec.ofInt 64 (b : Int) = Y at *
  have hd : (X &&& ~~~Y) &&& (X &&& Y) = 0#64 := by
    apply BitVec.eq_of_getLsbD_eq
    intro i hi
    simp only [BitVec.getLsbD_and, BitVec.getLsbD_not, BitVec.getLsbD_zero]
    cases X.getLsbD i <;> cases Y.getLsbD i <;> simp
  have ho : (X &&& ~~~Y) + (X &&& Y) = X := by
    rw [BitVec.add_eq_or_of_and_eq_zero _ _ hd]
    apply BitVec.eq_of_getLsbD_eq
    intro i hi
    simp only [BitVec.getLsbD_and, BitVec.getLsbD_not, BitVec.getLsbD_or]
    cases X.getLsbD i <;> cases Y.getLsbD i <;> simp [hi]
  have hn := congrArg BitVec.toNat ho
  rw [BitVec.toNat_add, h1] at hn
  have l1 : (X &&& ~~~Y).toNat ≤ a := by rw [BitVec.toNat_and, h1]; exact Nat.and_le_left
  have l2 : (X &&& Y).toNat = a &&& b := by rw [BitVec.toNat_and, h1, h2]
  have l3 : a &&& b ≤ a := Nat.and_le_left
  rw [l2, Nat.mod_eq_of_lt (by omega)] at hn
  rw [IntWalk.i64_in _ (by omega)]
  omega
def lowOk (n s : Nat) : Bool := decide (lowN n s 0 < n) && decide (bitN s (lowN n s 0) = 1) && decide (2 ^ lowN n s 0 ≤ s) && (List.range (lowN n s 0)).all fun j => bitN s j == 0
theorem low_all : ∀ n : Fin 10, ∀ s : Fin 512, s.val < 2 ^ n.val → s.val ≠ 0 → lowOk n.val s.val = true := by decide +kernel
theorem low_of {n s : Nat} (hn : n ≤ 9) (hs : s < 2 ^ n) (h0 : s ≠ 0) : lowN n s 0 < n ∧ bitN s (lowN n s 0) = 1 ∧ 2 ^ lowN n s 0 ≤ s ∧ ∀ j, j < lowN n s 0 → bitN s j = 0 := by
  have := low_all ⟨n, by omega⟩ ⟨s, by have := (pow9 hn).2; omega⟩ hs h0
  simp only [lowOk, Bool.and_eq_true, decide_eq_true_eq] at this
  obtain ⟨⟨⟨a1, a2⟩, a3⟩, a4⟩ := this
  exact ⟨a1, a2, a3, fun j hj => by have := List.all_eq_true.1 a4 j (List.mem_range.2 hj); simpa using this⟩
theorem looses_bd (L : List Nat) : ∀ f left v, loosesP L f left = some v → v ≤ 2 ^ f
  | 0, left, v, h => by cases h
  | f + 1, left, v, h => by
    unfold loosesP at h
    split at h
    · injection h with h; subst h; exact Nat.one_le_two_pow
    · simp only at h
      split at h
      · rename_i a b h1 h2
        injection h with h
        have i1 := looses_bd L f _ _ h1
        have i2 := looses_bd L f _ _ h2
        rw [Nat.pow_succ]
        omega
      · cases h

set_option maxHeartbeats 2000000 in
set_option maxRecDepth 100000 in
theorem looseFrom_c (A : Option Addr) (c : Nat) (L : List Nat) (hL : Sets9 L) : ∀ (f left v : Nat), f ≤ 10 → loosesP L f left = some v → left < 2 ^ L.length → ∀ w : World, Row w A (ints (natI L)) →
    Calls Try.prog 25 #[.slice A L.length c, .int .i64 (left : Int)] w fun e w' => e = .returned (.int .i64 (v : Int)) ∧ ∃ m, w' = w.drewN m := by
  intro f
  induction f with
  | zero => intro left v _ h; cases h
  | succ f ih =>
    intro left v hf h hl w hr
    have h9 := hL.len
    obtain ⟨p1, p2⟩ := pow9 h9
    unfold loosesP at h
    by_cases h0 : left = 0
    · subst h0
      rw [if_pos rfl] at h
      injection h with h
      subst h
      clear ih hr
      go_enter Try.func25, Try.ntmps25
      go_wp2_with fail
      go_ret
      exact ⟨rfl, 0, rfl⟩
    · rw [if_neg h0] at h
      simp only at h
      obtain ⟨k1, k2, k3, k4⟩ := low_of h9 hl h0
      have hl9 : left < 512 := by omega
      have hz0 : ((left : Int) == 0) = false := by rw [beq_eq_false_iff_ne]; omega
      generalize hk : lowN L.length left 0 = k at *
      split at h
      · rename_i a b ha hb
        injection h with h
        have ba := looses_bd L f _ _ ha
        have bb := looses_bd L f _ _ hb
        have bp : 2 ^ f ≤ 2 ^ 9 := Nat.pow_le_pow_right (by omega) (by omega)
        have hx := hL.bd k
        have hrl : left - 2 ^ k < 512 := Nat.lt_of_le_of_lt (Nat.sub_le _ _) hl9
        have e3 := i64_andNot9 (left - 2 ^ k) (L[k]?.getD 0) hrl hx
        have I1 := hide (fun (w5 : World) (h5 : Row w5 A (ints (natI L))) => ih _ _ (by omega) ha (Nat.lt_of_le_of_lt (Nat.sub_le _ _) hl) w5 h5)
        have I2 := hide (fun (w5 : World) (h5 : Row w5 A (ints (natI L))) => ih _ _ (by omega) hb (Nat.lt_of_le_of_lt (Nat.le_trans (Nat.sub_le _ _) (Nat.sub_le _ _)) hl) w5 h5)
        have HB := hide (fun (j : Nat) (hj : j ≤ 9) (w5 : World) => specBit9_c left j (by omega) hj w5)
        have HP := hide (fun w5 => specPower9_c k (by omega) w5)
        have K4 := hide k4
        have HR := hide hr
        obtain ⟨ad, rfl, hck⟩ := hr.int (k := k) (by rw [natI_len]; exact k1)
        rw [natI_at] at hck
        have hp9 := pow9 (n := k) (by omega)
        have e2 : IntKind.i64.wrap ((left : Int) - ((2 ^ k : Nat) : Int)) = ((left - 2 ^ k : Nat) : Int) := (IntWalk.i64_in _ (by omega)).trans (by omega)
        have e4 : IntKind.i64.wrap ((a : Int) + (b : Int)) = (v : Int) := (IntWalk.i64_in _ (by omega)).trans (by omega)
        have kk0 : (0 : Int) ≤ (k : Int) := by omega
        have kk1 : (k : Int) < (L.length : Int) := by omega
        have K2 := hide k2
        have K9 := hide (show k ≤ 9 by omega)
        clear ih hr k4 ha hb hk hf h k2 ba bb bp
        generalize (left - 2 ^ k) - ((left - 2 ^ k) &&& L[k]?.getD 0) = r2 at *
        generalize L[k]?.getD 0 = x at *
        generalize left - 2 ^ k = r1 at *
        generalize 2 ^ k = pk at *
        go_enter Try.func25, Try.ntmps25
        go_wp2_with fail
        go_loopw [5] (fun i wr => ∃ j : Nat, j ≤ k ∧ i = .int .i64 (j : Int) ∧ w = wr) (fun i _ => k - (intOf i).toNat)
        case atStart => exact ⟨0, Nat.zero_le _, rfl, rfl⟩
        case round =>
          obtain ⟨j, hj, rfl, rfl⟩ := hrel
          by_cases hjk : j < k
          · have HBj := hide (HB.out j (by omega))
            rw [K4.out j hjk] at HBj
            go_wp2_with fail
            refine (HBj.out _).mono ?_
            rintro e w7 ⟨rfl, rfl⟩
            go_wp2_with fail
            exact ⟨⟨j + 1, hjk, by go_num, trivial⟩, by simp [intOf]; omega⟩
          · obtain rfl : j = k := by omega
            have HBj := hide (HB.out j K9.out)
            rw [K2.out] at HBj
            go_wp2_with fail
            refine (HBj.out _).mono ?_
            rintro e w7 ⟨rfl, rfl⟩
            go_wp2_with fail
            refine (HP.out _).mono ?_
            rintro e w7 ⟨rfl, rfl⟩
            go_wp2_with fail
            refine wp_region_quiet_lit (by kernel_rfl) (by kernel_rfl) ?_
            repeat (quiet_step (fail))
            quiet_step ((go_at_call 25; exact Calls.quiet_of (I1.out _ (HR.out.below (below_drewN (Below.refl _ _) _)))))
            repeat (quiet_step (fail))
            quiet_step ((go_at_call 25; exact Calls.quiet_of (I2.out _ (HR.out.below (below_drewN (Below.refl _ _) _)))))
            repeat (quiet_step (fail))
            refine wpQuiet_nil ?_
            intro _ hw'
            obtain ⟨nq, hw''⟩ := hw'
            subst hw''
            go_wp2_with fail
            go_ret
            exact ⟨rfl, _, rfl⟩
      · cases h
end Go.Proofs.Ytmednlgokcbdjad


/-
  Guards: the most loose pieces, as the model finds them.
-/
import Derived.Test.YtmednlgokcbdjacGuardH
namespace Go.Proofs.Ytmednlgokcbdjac
open Go.RowKit
set_option linter.unusedVariables false

theorem most_bd (L : List Nat) : ∀ f left v, mostP L f left = some v → v ≤ f
  | 0, left, v, h => by cases h
  | f + 1, left, v, h => by
    unfold mostP at h
    split at h
    · injection h with h; omega
    · simp only at h
      split at h
      · cases h
      · rename_i a h1
        have i1 := most_bd L f _ _ h1
        split at h
        · split at h
          · cases h
          · rename_i b h2
            have i2 := most_bd L f _ _ h2
            injection h with h
            omega
        · injection h with h
          omega

set_option maxHeartbeats 2000000 in
set_option maxRecDepth 100000 in
theorem mostFrom_c (A : Option Addr) (c : Nat) (L : List Nat) (hL : Sets9 L) : ∀ (f left v : Nat), f ≤ 10 → mostP L f left = some v → left < 2 ^ L.length → ∀ w : World, Row w A (ints (natI L)) →
    Calls Try.prog 29 #[.slice A L.length c, .int .i64 (left : Int)] w fun e w' => e = .returned (.int .i64 (v : Int)) ∧ w = w' := by
  intro f
  induction f with
  | zero => intro left v _ h; cases h
  | succ f ih =>
    intro left v hf h hl w hr
    have h9 := hL.len
    obtain ⟨p1, p2⟩ := pow9 h9
    unfold mostP at h
    by_cases h0 : left = 0
    · subst h0
      rw [if_pos rfl] at h
      injection h with h
      subst h
      clear ih hr
      go_enter Try.func29, Try.ntmps29
      go_wp2_with fail
      go_ret
      exact ⟨rfl, rfl⟩
    · rw [if_neg h0] at h
      simp only at h
      obtain ⟨k1, k2, k3, k4⟩ := low_of h9 hl h0
      have hl9 : left < 512 := by omega
      have hz0 : ((left : Int) == 0) = false := by rw [beq_eq_false_iff_ne]; omega
      generalize hk : lowN L.length left 0 = k at *
      split at h
      · cases h
      · rename_i a ha
        have ba := most_bd L f _ _ ha
        have hx := hL.bd k
        have hrl : left - 2 ^ k < 512 := Nat.lt_of_le_of_lt (Nat.sub_le _ _) hl9
        have e3 := i64_andNot9 (left - 2 ^ k) (L[k]?.getD 0) hrl hx
        have e5 := (i64_and9 (L[k]?.getD 0) (left - 2 ^ k) hx hrl).1
        have I1 := hide (fun (w5 : World) (h5 : Row w5 A (ints (natI L))) => ih _ _ (by omega) ha (Nat.lt_of_le_of_lt (Nat.le_trans (Nat.sub_le _ _) (Nat.sub_le _ _)) hl) w5 h5)
        have I2 := hide (fun (b : Nat) (hb : mostP L f (left - 2 ^ k) = some b) (w5 : World) (h5 : Row w5 A (ints (natI L))) => ih _ _ (by omega) hb (Nat.lt_of_le_of_lt (Nat.sub_le _ _) hl) w5 h5)
        have BD := hide (fun (b : Nat) (hb : mostP L f (left - 2 ^ k) = some b) => show b ≤ 10 from Nat.le_trans (most_bd L f _ _ hb) (by omega))
        have HB := hide (fun (j : Nat) (hj : j ≤ 9) (w5 : World) => specBit9_c left j (by omega) hj w5)
        have HP := hide (fun w5 => specPower9_c k (by omega) w5)
        have K4 := hide k4
        have HR := hide hr
        obtain ⟨ad, rfl, hck⟩ := hr.int (k := k) (by rw [natI_len]; exact k1)
        rw [natI_at] at hck
        have hp9 := pow9 (n := k) (by omega)
        have e2 : IntKind.i64.wrap ((left : Int) - ((2 ^ k : Nat) : Int)) = ((left - 2 ^ k : Nat) : Int) := (IntWalk.i64_in _ (by omega)).trans (by omega)
        have ba10 : a ≤ 10 := by omega
        have e4 : IntKind.i64.wrap (1 + (a : Int)) = ((1 + a : Nat) : Int) := (IntWalk.i64_in _ (by omega)).trans (by omega)
        have kk0 : (0 : Int) ≤ (k : Int) := by omega
        have kk1 : (k : Int) < (L.length : Int) := by omega
        have K2 := hide k2
        have K9 := hide (show k ≤ 9 by omega)
        have H := hide h
        clear ih hr k4 ha hk hf k2 ba h
        generalize (left - 2 ^ k) - ((left - 2 ^ k) &&& L[k]?.getD 0) = r2 at *
        generalize (L[k]?.getD 0) &&& (left - 2 ^ k) = y at *
        generalize L[k]?.getD 0 = x at *
        generalize mostP L f (left - 2 ^ k) = om at *
        generalize left - 2 ^ k = r1 at *
        generalize 2 ^ k = pk at *
        go_enter Try.func29, Try.ntmps29
        go_wp2_with fail
        go_loopw [5] (fun i wr => ∃ j : Nat, j ≤ k ∧ i = .int .i64 (j : Int) ∧ w = wr) (fun i _ => k - (intOf i).toNat)
        case atStart => exact ⟨0, Nat.zero_le _, rfl, rfl⟩
        case round =>
          obtain ⟨j, hj, rfl, rfl⟩ := hrel
          by_cases hjk : j < k
          · have HBj := hide (HB.out j (by omega))
            rw [K4.out j hjk] at HBj
            go_wp2_with fail
            refine (HBj.out _).mono ?_
            rintro e w7 ⟨rfl, rfl⟩
            go_wp2_with fail
            exact ⟨⟨j + 1, hjk, by go_num, trivial⟩, by simp [intOf]; omega⟩
          · obtain rfl : j = k := by omega
            have HBj := hide (HB.out j K9.out)
            rw [K2.out] at HBj
            by_cases hy : y = 0
            · have hv := H.out
              rw [if_neg (by simp [hy])] at hv
              injection hv with hv
              have HV := hide hv
              subst hy
              clear hv H
              go_wp2_with fail
              refine (HBj.out _).mono ?_
              rintro e w7 ⟨rfl, rfl⟩
              go_wp2_with fail
              refine (HP.out _).mono ?_
              rintro e w7 ⟨rfl, rfl⟩
              go_wp2_with fail
              refine (I1.out _ HR.out).mono ?_
              rintro e w7 ⟨rfl, rfl⟩
              go_wp2_with fail
              go_ret
              exact ⟨by rw [← HV.out]; rfl, rfl⟩
            · have hv := H.out
              rw [if_pos (by simp [hy])] at hv
              cases om with
              | none => cases hv
              | some b =>
                simp only at hv
                injection hv with hv
                have HV := hide hv
                have hyi : ((y : Int) != 0) = true := by rw [bne_iff_ne]; omega
                have I3 := hide (I2.out b rfl)
                have hb10 := BD.out b rfl
                clear hv H I2 BD
                go_wp2_with fail
                refine (HBj.out _).mono ?_
                rintro e w7 ⟨rfl, rfl⟩
                go_wp2_with fail
                refine (HP.out _).mono ?_
                rintro e w7 ⟨rfl, rfl⟩
                go_wp2_with fail
                refine (I1.out _ HR.out).mono ?_
                rintro e w7 ⟨rfl, rfl⟩
                go_wp2_with fail
                refine (I3.out _ HR.out).mono ?_
                rintro e w7 ⟨rfl, rfl⟩
                go_wp2_with fail
                all_goals go_ret
                all_goals refine ⟨?_, rfl⟩
                all_goals rw [← HV.out]
                all_goals first | (show Ending.returned (Value.int .i64 (1 + (a : Int))) = _; congr 2; omega) | (show Ending.returned (Value.int .i64 (b : Int)) = _; congr 2; omega) | (show Ending.returned (Value.int .i64 (max (1 + (a : Int)) (b : Int))) = _; congr 2; omega)
end Go.Proofs.Ytmednlgokcbdjac

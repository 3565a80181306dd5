
/-
  Chases: the model's CatchMoves.
-/
import Derived.Test.YtakphmcelhbaiacChaseB
import Derived.Test.YtakphmcelhbaiacGuardD
namespace Go.Proofs.Ytakphmcelhbaiac
open Go.RowKit
set_option linter.unusedVariables false

/-- What is known of a small board and a kind. -/
structure ChaseOf (bc br : Int) (L : List Nat) (n : Nat) : Prop where
  len : L.length = n
  one : 1 ≤ n
  nine : n ≤ 9
  size : bc * br = (n : Int)
  sets : Sets9 L
  tab : (chTab.any fun e => e.1 == L) = true
theorem chase_of {bc br : Int} {s : List UInt8} {ss : List (Int × Int)} {far : Bool} (hS : Small bc br) (hk : kindL s = some (ss, far)) : ∃ n, ChaseOf bc br (setsP bc br far ss) n := by
  obtain ⟨h9s, hlen⟩ := sets9_of hS hk
  obtain ⟨h1, h2, h3, h4, h9⟩ := hS
  have h0 : 1 ≤ bc * br := (mul_bd h1 h2 h3 h4).1
  refine ⟨(setsP bc br far ss).length, rfl, by omega, h9s.len, hlen.symm, h9s, ?_⟩
  obtain ⟨a, rfl⟩ : ∃ a : Nat, bc = ((a + 1 : Nat) : Int) := ⟨(bc - 1).toNat, by omega⟩
  obtain ⟨b, rfl⟩ : ∃ b : Nat, br = ((b + 1 : Nat) : Int) := ⟨(br - 1).toNat, by omega⟩
  have h9' : (a + 1) * (b + 1) ≤ 9 := by
    have : (((a + 1) * (b + 1) : Nat) : Int) ≤ 9 := by rw [Int.natCast_mul]; exact h9
    omega
  exact List.all_eq_true.1 (in_tab ⟨a, by omega⟩ ⟨b, by omega⟩ h9') (ss, far) (kind_six6 hk)
/-- CatchMoves. -/
def catchV (bc br : Int) (s : List UInt8) (i k : Int) : Int := match smallK bc br s with
  | some (ss, far) => if (0 ≤ i ∧ i < bc * br) ∧ (0 ≤ k ∧ k < bc * br) then (cAt (catN (setsP bc br far ss)) i.toNat k.toNat : Int) - 1 else -1
  | none => -1
theorem mask_all {L : List Nat} {C : List (List Nat)} (h : CatOk L C) {a b : Nat} (ha : a < L.length) (hb : b < L.length) : maskV C (topN C) a b = (cAt C a b : Int) - 1 := by
  have := h.top a b ha hb
  unfold maskV
  by_cases e : 1 ≤ cAt C a b
  · rw [if_pos (by omega)]
  · rw [if_neg (by omega)]; omega
set_option maxHeartbeats 2000000 in
theorem specCatchMoves_c (bc br : Int) (s : ByteArray) (i k : Int) (W : World) : Calls Try.prog 7 #[.int .i64 bc, .int .i64 br, .string s, .int .i64 i, .int .i64 k] W (Plain (.int .i64 (catchV bc br s.toList i k)) W) := by
  have HVS := hide (validSmall_c bc br s W)
  unfold catchV
  cases hk : smallK bc br s.toList with
  | none =>
    rw [hk] at HVS
    clear hk
    go_enter Try.func7, Try.ntmps7
    go_wp2_with fail
    refine HVS.out.mono ?_
    rintro e w1 ⟨rfl, b1⟩
    go_wp2_with fail
    go_ret
    exact ⟨rfl, b1⟩
  | some p =>
    obtain ⟨ss, far⟩ := p
    rw [hk] at HVS
    obtain ⟨hS, hkk⟩ := smallK_some hk
    have HSR := hide (fun w5 => reaches_c bc br s ss far w5 hkk hS)
    obtain ⟨n, hC⟩ := chase_of hS hkk
    have hok := cat_ok hC.tab
    have h9s := hC.sets
    have hlen := hC.len
    have hn1 := hC.one
    have hn9 := hC.nine
    have hsz := hC.size
    simp only
    clear hk hS hkk hC
    generalize setsP bc br far ss = L at *
    generalize catN L = C at *
    rw [hsz]
    have e0 : IntKind.i64.wrap (bc * br) = (n : Int) := (IntWalk.i64_in _ (by omega)).trans hsz
    have e1 : IntKind.i64.wrap ((n : Int) - 1) = (n : Int) - 1 := IntWalk.i64_in _ (by omega)
    have HRi := hide (fun w5 => inRange_c i 0 ((n : Int) - 1) w5)
    have HRk := hide (fun w5 => inRange_c k 0 ((n : Int) - 1) w5)
    clear hsz
    by_cases hi : 0 ≤ i ∧ i < (n : Int)
    · rw [decide_eq_true (by omega : 0 ≤ i ∧ i ≤ (n : Int) - 1)] at HRi
      by_cases hk : 0 ≤ k ∧ k < (n : Int)
      · rw [decide_eq_true (by omega : 0 ≤ k ∧ k ≤ (n : Int) - 1)] at HRk
        rw [if_pos ⟨hi, hk⟩]
        obtain ⟨i, rfl⟩ := Int.eq_ofNat_of_zero_le hi.1
        obtain ⟨k, rfl⟩ := Int.eq_ofNat_of_zero_le hk.1
        have hin : i < n := by omega
        have hkn : k < n := by omega
        have HM := hide (fun (A : Option Addr) (c : Nat) (w5 : World) (hr : Row w5 A (ints (natI L))) => catches_c A c L C n w5 hlen hn1 h9s hok hr)
        have HMT := hide (mask_all hok (a := i) (b := k) (by omega) (by omega))
        rw [hlen] at HSR
        have i0 : (0 : Int) ≤ (i : Int) := by omega
        have i1 : (i : Int) < (n : Int) := by omega
        have k0 : (0 : Int) ≤ (k : Int) := by omega
        have k1 : (k : Int) < (n : Int) := by omega
        have HIN := hide hin
        have HKN := hide hkn
        simp only [Int.toNat_natCast]
        clear hi hk hin hkn hok h9s hlen
        go_enter Try.func7, Try.ntmps7
        go_wp2_with fail
        refine HVS.out.mono ?_
        rintro e w1 ⟨rfl, b1⟩
        go_wp2_with fail
        refine (HRi.out _).mono ?_
        rintro e w2 ⟨rfl, rfl⟩
        go_wp2_with fail
        refine (HRk.out _).mono ?_
        rintro e w3 ⟨rfl, rfl⟩
        go_wp2_with fail
        refine (HSR.out _).mono ?_
        rintro e w4 ⟨v4, rfl, o4, b4⟩
        obtain ⟨A4, c4, rfl, _⟩ := own_row o4
        have b14 := below_then b1 b1.size b4
        have R4 := hide (own_reads o4)
        clear o4
        go_wp2_with fail
        refine (HM.out _ _ _ R4.out).mono ?_
        rintro e w5 ⟨gm, cm, ps, rfl, o5, r5, b5⟩
        have b15 := below_then b14 b14.size b5
        have hpl : ps.length = n := by rw [r5.len, grid_len]
        have hip : i < ps.length := by have := HIN.out; omega
        obtain ⟨q1, _⟩ := hdr_cell o5 hip
        obtain ⟨q3, _⟩ := r5.cell hip HKN.out
        rw [grid_at HIN.out HKN.out, HMT.out] at q3
        obtain ⟨pr, hpr⟩ : ∃ pr, ps[i] = pr := ⟨_, rfl⟩
        rw [hpr] at q1 q3
        obtain ⟨gr, cr⟩ := pr
        simp only at q1 q3
        clear o5 r5 b5 hpr
        go_wp2_with fail
        go_ret
        exact ⟨rfl, b15⟩
      · rw [decide_eq_false (by omega : ¬ (0 ≤ k ∧ k ≤ (n : Int) - 1))] at HRk
        rw [if_neg (fun h => hk h.2)]
        clear hi hk
        go_enter Try.func7, Try.ntmps7
        go_wp2_with fail
        refine HVS.out.mono ?_
        rintro e w1 ⟨rfl, b1⟩
        go_wp2_with fail
        refine (HRi.out _).mono ?_
        rintro e w2 ⟨rfl, rfl⟩
        go_wp2_with fail
        refine (HRk.out _).mono ?_
        rintro e w3 ⟨rfl, rfl⟩
        go_wp2_with fail
        go_ret
        exact ⟨rfl, b1⟩
    · rw [decide_eq_false (by omega : ¬ (0 ≤ i ∧ i ≤ (n : Int) - 1))] at HRi
      rw [if_neg (fun h => hi h.1)]
      clear hi
      go_enter Try.func7, Try.ntmps7
      go_wp2_with fail
      refine HVS.out.mono ?_
      rintro e w1 ⟨rfl, b1⟩
      go_wp2_with fail
      refine (HRi.out _).mono ?_
      rintro e w2 ⟨rfl, rfl⟩
      go_wp2_with fail
      go_ret
      exact ⟨rfl, b1⟩
end Go.Proofs.Ytakphmcelhbaiac

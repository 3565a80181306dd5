
/-
  Guards: the model's CountLoose.
-/
import Derived.Test.YtmednlgokcbdjadGuardG
namespace Go.Proofs.Ytmednlgokcbdjad
open Go.RowKit
set_option linter.unusedVariables false

theorem fuel_all : ∀ a : Fin 5, ∀ b : Fin 5, (a.val + 1) * (b.val + 1) ≤ 9 → kinds6.all (fun p => (loosesP (setsP ((a.val + 1 : Nat) : Int) ((b.val + 1 : Nat) : Int) p.2 p.1) ((setsP ((a.val + 1 : Nat) : Int) ((b.val + 1 : Nat) : Int) p.2 p.1).length + 1) (2 ^ (setsP ((a.val + 1 : Nat) : Int) ((b.val + 1 : Nat) : Int) p.2 p.1).length - 1)).isSome) = true := by decide +kernel
theorem fuel_of {bc br : Int} {s : List UInt8} {ss : List (Int × Int)} {far : Bool} (hS : Small bc br) (hk : kindL s = some (ss, far)) : loosesP (setsP bc br far ss) ((setsP bc br far ss).length + 1) (2 ^ (setsP bc br far ss).length - 1) = some (countL (setsP bc br far ss)) := by
  obtain ⟨h1, h2, h3, h4, h9⟩ := hS
  obtain ⟨a, rfl⟩ : ∃ a : Nat, bc = ((a + 1 : Nat) : Int) := ⟨(bc - 1).toNat, by omega⟩
  obtain ⟨b, rfl⟩ : ∃ b : Nat, br = ((b + 1 : Nat) : Int) := ⟨(br - 1).toNat, by omega⟩
  have h9' : (a + 1) * (b + 1) ≤ 9 := by
    have : (((a + 1) * (b + 1) : Nat) : Int) ≤ 9 := by rw [Int.natCast_mul]; exact h9
    omega
  have := List.all_eq_true.1 (fuel_all ⟨a, by omega⟩ ⟨b, by omega⟩ h9') _ (kind_six6 hk)
  obtain ⟨v, hv⟩ := Option.isSome_iff_exists.1 this
  unfold countL
  simp only at hv
  rw [hv]
  rfl

set_option maxHeartbeats 1000000 in
theorem countLoose_c (bc br : Int) (s : ByteArray) (w : World) : Calls Try.prog 8 #[.int .i64 bc, .int .i64 br, .string s] w (Plain (.int .i64 (valueOf bc br s.toList countL)) w) := by
  have HVS := hide (validSmall_c bc br s w)
  unfold valueOf
  cases hk : smallK bc br s.toList with
  | none =>
    rw [hk] at HVS
    clear hk
    go_enter Try.func8, Try.ntmps8
    go_wp2_with fail
    refine HVS.out.mono ?_
    rintro e w1 ⟨rfl, b1⟩
    go_wp2_with fail
    go_ret
    exact ⟨rfl, b1⟩
  | some p =>
    obtain ⟨ss, far⟩ := p
    rw [hk] at HVS
    obtain ⟨hS, hkk⟩ := smallK_some hk
    have HSR := hide (fun w5 => reaches_c bc br s ss far w5 hkk hS)
    obtain ⟨h9s, hlen⟩ := sets9_of hS hkk
    have h9 := h9s.len
    have hf := fuel_of hS hkk
    simp only
    clear hk hS hkk
    generalize setsP bc br far ss = L at *
    generalize countL L = v at *
    obtain ⟨p1, p2⟩ := pow9 h9
    have HLF := hide (fun (A : Option Addr) (c : Nat) (w5 : World) (hr : Row w5 A (ints (natI L))) => looseFrom_c A c L h9s (L.length + 1) (2 ^ L.length - 1) v (by omega) hf (by omega) w5 hr)
    have HP := hide (fun w5 => specPower9_c L.length h9 w5)
    have e0 : IntKind.i64.wrap (bc * br) = (L.length : Int) := by rw [← hlen]; exact IntWalk.i64_in _ (by omega)
    have e1 : IntKind.i64.wrap (((2 ^ L.length : Nat) : Int) - 1) = ((2 ^ L.length - 1 : Nat) : Int) := (IntWalk.i64_in _ (by omega)).trans (by omega)
    clear hlen h9s hf
    generalize 2 ^ L.length - 1 = F at *
    generalize 2 ^ L.length = P at *
    go_enter Try.func8, Try.ntmps8
    go_wp2_with fail
    refine HVS.out.mono ?_
    rintro e w1 ⟨rfl, b1⟩
    go_wp2_with fail
    refine (HSR.out _).mono ?_
    rintro e w2 ⟨v2, rfl, o2, b2⟩
    obtain ⟨A2, c2, rfl, _⟩ := own_row o2
    have b2 := below_then b1 b1.size b2
    have R2 := hide (own_reads o2)
    clear o2
    go_wp2_with fail
    refine (HP.out _).mono ?_
    rintro e w7 ⟨rfl, rfl⟩
    go_wp2_with fail
    refine (HLF.out _ _ _ R2.out).mono ?_
    rintro e w8 ⟨rfl, m8, rfl⟩
    have b8 := below_drewN b2 m8
    go_wp2_with fail
    go_ret
    exact ⟨rfl, b8⟩
end Go.Proofs.Ytmednlgokcbdjad

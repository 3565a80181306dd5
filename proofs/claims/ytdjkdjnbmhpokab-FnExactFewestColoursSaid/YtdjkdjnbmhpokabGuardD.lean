
/-
  Guards: the model's validSmall and FewestGuards.
-/
import Derived.Test.YtdjkdjnbmhpokabGuardC
namespace Go.Proofs.Ytdjkdjnbmhpokab
open Go.RowKit
set_option linter.unusedVariables false

instance (bc br : Int) : Decidable (Small bc br) := by unfold Small; infer_instance
theorem kind_six6 {s : List UInt8} {ss : List (Int × Int)} {far : Bool} (h : kindL s = some (ss, far)) : (ss, far) ∈ kinds6 := by
  unfold kindL at h
  repeat' (split at h)
  all_goals first | (simp only [Option.some.injEq] at h; rw [← h]; decide) | cases h
theorem sets_small : ∀ a : Fin 5, ∀ b : Fin 5, (a.val + 1) * (b.val + 1) ≤ 9 → kinds6.all (fun p => (setsP ((a.val + 1 : Nat) : Int) ((b.val + 1 : Nat) : Int) p.2 p.1).all fun x => decide (x < 512)) = true := by decide +kernel
theorem sets9_of {bc br : Int} {s : List UInt8} {ss : List (Int × Int)} {far : Bool} (hS : Small bc br) (hk : kindL s = some (ss, far)) : Sets9 (setsP bc br far ss) ∧ ((setsP bc br far ss).length : Int) = bc * br := by
  obtain ⟨h1, h2, h3, h4, h9⟩ := hS
  obtain ⟨a, rfl⟩ : ∃ a : Nat, bc = ((a + 1 : Nat) : Int) := ⟨(bc - 1).toNat, by omega⟩
  obtain ⟨b, rfl⟩ : ∃ b : Nat, br = ((b + 1 : Nat) : Int) := ⟨(br - 1).toNat, by omega⟩
  have h9' : (a + 1) * (b + 1) ≤ 9 := by
    have : (((a + 1) * (b + 1) : Nat) : Int) ≤ 9 := by rw [Int.natCast_mul]; exact h9
    omega
  have := List.all_eq_true.1 (sets_small ⟨a, by omega⟩ ⟨b, by omega⟩ h9') _ (kind_six6 hk)
  have hb := List.all_eq_true.1 this
  have hl : (setsP ((a + 1 : Nat) : Int) ((b + 1 : Nat) : Int) far ss).length = (a + 1) * (b + 1) := by
    simp only [setsP, List.length_map, List.length_range]
    rw [← Int.natCast_mul]
    rfl
  refine ⟨⟨by omega, fun k => ?_⟩, by rw [hl, Int.natCast_mul]⟩
  cases hx : (setsP ((a + 1 : Nat) : Int) ((b + 1 : Nat) : Int) far ss)[k]? with
  | none => exact (by decide : (0 : Nat) < 512)
  | some x => exact of_decide_eq_true (hb x (List.mem_of_getElem? hx))
/-- The kind, if the board is small. -/
def smallK (bc br : Int) (s : List UInt8) : Option (List (Int × Int) × Bool) := if Small bc br then kindL s else none
theorem smallK_some {bc br : Int} {s : List UInt8} {ss : List (Int × Int)} {far : Bool} (h : smallK bc br s = some (ss, far)) : Small bc br ∧ kindL s = some (ss, far) := by
  unfold smallK at h
  split at h
  · exact ⟨by assumption, h⟩
  · cases h
def valueOf (bc br : Int) (s : List UInt8) (f : List Nat → Nat) : Int :=
  match smallK bc br s with
  | some (ss, far) => ((f (setsP bc br far ss) : Nat) : Int)
  | none => -1

set_option maxHeartbeats 1000000 in
theorem validSmall_c (bc br : Int) (s : ByteArray) (w : World) : Calls Try.prog 32 #[.int .i64 bc, .int .i64 br, .string s] w (Plain (.bool (smallK bc br s.toList).isSome) w) := by
  have HK := hide (fun w5 => validKind_c s w5)
  by_cases hB : Brd bc br
  · have HB := hide hB
    obtain ⟨h1, h2, h3, h4⟩ := hB
    obtain ⟨m1, m2⟩ := mul_bd h1 h2 h3 h4
    have e0 : IntKind.i64.wrap (bc * br) = bc * br := IntWalk.i64_in _ (by omega)
    have HV := hide (fun w5 => validBoard_yes bc br w5 HB.out)
    by_cases h9 : bc * br ≤ 9
    · have hs : smallK bc br s.toList = kindL s.toList := by unfold smallK; rw [if_pos ⟨h1, h2, h3, h4, h9⟩]
      rw [hs]
      clear hs
      generalize (kindL s.toList).isSome = kb at *
      obtain ⟨m, hm⟩ : ∃ m, bc * br = m := ⟨_, rfl⟩
      have e1 : IntKind.i64.wrap (bc * br) = m := e0.trans hm
      rw [hm] at h9
      clear hm e0 m1 m2
      go_enter Try.func32, Try.ntmps32
      go_wp2_with fail
      refine (HV.out _).mono ?_
      rintro e w1 ⟨rfl, rfl⟩
      go_wp2_with fail
      refine (HK.out _).mono ?_
      rintro e w2 ⟨rfl, b2⟩
      go_wp2_with fail
      go_ret
      exact ⟨by cases kb <;> rfl, b2⟩
    · have hs : smallK bc br s.toList = none := by unfold smallK; rw [if_neg (fun h => h9 h.2.2.2.2)]
      rw [hs]
      clear hs
      obtain ⟨m, hm⟩ : ∃ m, bc * br = m := ⟨_, rfl⟩
      have e1 : IntKind.i64.wrap (bc * br) = m := e0.trans hm
      rw [hm] at h9
      clear hm e0 m1 m2
      go_enter Try.func32, Try.ntmps32
      go_wp2_with fail
      refine (HV.out _).mono ?_
      rintro e w1 ⟨rfl, rfl⟩
      go_wp2_with fail
      go_ret
      exact ⟨rfl, Below.refl _ _⟩
  · have hs : smallK bc br s.toList = none := by unfold smallK; rw [if_neg (fun h => hB ⟨h.1, h.2.1, h.2.2.1, h.2.2.2.1⟩)]
    have HV := hide (fun w5 => validBoard_no bc br w5 hB)
    rw [hs]
    clear hs hB
    go_enter Try.func32, Try.ntmps32
    go_wp2_with fail
    refine (HV.out _).mono ?_
    rintro e w1 ⟨rfl, rfl⟩
    go_wp2_with fail
    go_ret
    exact ⟨rfl, Below.refl _ _⟩
end Go.Proofs.Ytdjkdjnbmhpokab

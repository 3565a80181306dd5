
/-
  The program's guards: ValidSmall, FewestGuards, MostLoose, CountLoose, FewestFull.
-/
import Derived.Test.YtdjkdjnbmhpokacPGuardC
namespace Go.Proofs.Ytdjkdjnbmhpokac
open Go.RowKit
set_option linter.unusedVariables false

structure Tried (L : List Nat) : Prop where
  g0 : 0 < (setsOf ([false].map (testP L)) (2 ^ L.length)).length
  f0 : 0 < (setsOf ([true, false].map (testP L)) (2 ^ L.length)).length
  g : minOf (setsOf ([false].map (testP L)) (2 ^ L.length)) = fewGuards L
  f : minOf (setsOf ([true, false].map (testP L)) (2 ^ L.length)) = fewFull L
  m : maxOf (setsOf ([true].map (testP L)) (2 ^ L.length)) = mostL L
  c : (setsOf ([true].map (testP L)) (2 ^ L.length)).length = countL L
theorem tried_of {bc br : Int} {s : List UInt8} {ss : List (Int × Int)} {far : Bool} (hS : Small bc br) (hk : kindL s = some (ss, far)) : Tried (setsP bc br far ss) := by
  obtain ⟨h1, h2, h3, h4, h9⟩ := hS
  obtain ⟨a, rfl⟩ : ∃ a : Nat, bc = ((a + 1 : Nat) : Int) := ⟨(bc - 1).toNat, by omega⟩
  obtain ⟨b, rfl⟩ : ∃ b : Nat, br = ((b + 1 : Nat) : Int) := ⟨(br - 1).toNat, by omega⟩
  have h9' : (a + 1) * (b + 1) ≤ 9 := by
    have : (((a + 1) * (b + 1) : Nat) : Int) ≤ 9 := by rw [Int.natCast_mul]; exact h9
    omega
  have h := List.all_eq_true.1 (tried_all ⟨a, by omega⟩ ⟨b, by omega⟩ h9') _ (kind_six6 hk)
  unfold triedOk at h
  simp only [Bool.and_eq_true, decide_eq_true_eq, beq_iff_eq] at h
  obtain ⟨⟨⟨⟨⟨e1, e2⟩, e3⟩, e4⟩, e5⟩, e6⟩ := h
  exact ⟨e1, e2, e3, e4, e5, e6⟩
theorem sets_mem (ts : List (Nat → Bool)) (P k : Nat) (h : k < (setsOf ts P).length) : (setsOf ts P)[k]?.getD 0 < P := by
  rw [List.getElem?_eq_getElem h, Option.getD_some]
  have := (List.mem_filter.1 (List.getElem_mem h)).1
  exact List.mem_range.1 this

set_option maxHeartbeats 400000 in
set_option maxRecDepth 100000 in
theorem implValidSmall_c (bc br : Int) (s : ByteArray) (w : World) : Calls Try.prog 21 #[.int .i64 bc, .int .i64 br, .string s] w (Plain (.bool (smallK bc br s.toList).isSome) w) := by
  cases hk : smallK bc br s.toList with
  | none =>
    have H := hide (smallOf_no bc br s w hk)
    clear hk
    go_enter Try.func21, Try.ntmps21
    go_wp2_with fail
    refine H.out.mono ?_
    rintro e w1 ⟨rfl, b1⟩
    go_wp2_with fail
    go_ret
    exact ⟨rfl, b1⟩
  | some p =>
    obtain ⟨ss, far⟩ := p
    obtain ⟨hS, hkk⟩ := smallK_some hk
    have H := hide (smallOf_yes bc br s w hkk hS)
    clear hk hS hkk
    generalize setsP bc br far ss = L at *
    go_enter Try.func21, Try.ntmps21
    go_wp2_with fail
    refine H.out.mono ?_
    rintro e w1 ⟨A1, c1, rfl, o1, b1⟩
    go_wp2_with fail
    go_ret
    exact ⟨rfl, b1⟩

def maxTo (l : List Nat) (k : Nat) : Nat := (l.take k).foldl (fun a s => max a (pcN 9 s)) 0
theorem maxTo_snoc (l : List Nat) (k : Nat) (h : k < l.length) : maxTo l (k + 1) = max (maxTo l k) (pcN 9 (l[k]?.getD 0)) := by
  unfold maxTo
  rw [List.take_succ_eq_append_getElem h, List.foldl_append, List.getElem?_eq_getElem h]
  rfl

end Go.Proofs.Ytdjkdjnbmhpokac

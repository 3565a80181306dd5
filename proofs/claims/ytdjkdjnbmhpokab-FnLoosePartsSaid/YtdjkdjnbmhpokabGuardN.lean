
/-
  Guards: what the document says of a small board and kind, with whole numbers.
-/
import Derived.Test.YtdjkdjnbmhpokabGuardD
namespace Go.Proofs.Ytdjkdjnbmhpokab
open Go.RowKit
set_option linter.unusedVariables false

theorem small_turn {bc br : Int} (h : Small bc br) : Small br bc := ⟨h.2.2.1, h.2.2.2.1, h.1, h.2.1, by rw [Int.mul_comm]; exact h.2.2.2.2⟩
theorem smallK_turn (bc br : Int) (s : List UInt8) : smallK br bc s = smallK bc br s := by
  unfold smallK
  by_cases h : Small bc br
  · rw [if_pos h, if_pos (small_turn h)]
  · rw [if_neg h, if_neg (fun h' => h (small_turn h'))]
theorem valueOf_some {bc br : Int} {s : List UInt8} {ss : List (Int × Int)} {far : Bool} (f : List Nat → Nat) (hS : Small bc br) (hk : kindL s = some (ss, far)) : valueOf bc br s f = ((f (setsP bc br far ss) : Nat) : Int) := by
  unfold valueOf smallK
  rw [if_pos hS]
  simp only [hk]
theorem valueOf_none {bc br : Int} {s : List UInt8} (f : List Nat → Nat) (h : smallK bc br s = none) : valueOf bc br s f = -1 := by
  unfold valueOf
  rw [h]
structure OfKind (L T : List Nat) : Prop where
  g1 : 1 ≤ fewGuards L
  gf : fewGuards L ≤ fewFull L
  fm : fewFull L ≤ mostL L
  gt : fewGuards T = fewGuards L
  mt : mostL T = mostL L
  one : countL L = oneByOne L (2 ^ L.length)
  more : L.length + 1 ≤ countL L
theorem ofKind {bc br : Int} {s : List UInt8} {ss : List (Int × Int)} {far : Bool} (hS : Small bc br) (hk : kindL s = some (ss, far)) : OfKind (setsP bc br far ss) (setsP br bc far ss) := by
  obtain ⟨h1, h2, h3, h4, h9⟩ := hS
  obtain ⟨a, rfl⟩ : ∃ a : Nat, bc = ((a + 1 : Nat) : Int) := ⟨(bc - 1).toNat, by omega⟩
  obtain ⟨b, rfl⟩ : ∃ b : Nat, br = ((b + 1 : Nat) : Int) := ⟨(br - 1).toNat, by omega⟩
  have h9' : (a + 1) * (b + 1) ≤ 9 := by
    have : (((a + 1) * (b + 1) : Nat) : Int) ≤ 9 := by rw [Int.natCast_mul]; exact h9
    omega
  have h := List.all_eq_true.1 (guard_all ⟨a, by omega⟩ ⟨b, by omega⟩ h9') _ (kind_six6 hk)
  unfold guardOk at h
  simp only [Bool.and_eq_true, decide_eq_true_eq, beq_iff_eq] at h
  obtain ⟨⟨⟨⟨⟨⟨⟨⟨e1, e2⟩, e3⟩, e4⟩, e5⟩, e6⟩, e7⟩, e8⟩, e9⟩ := h
  exact ⟨e1, e2, e3, e4, e5, e8, e9⟩
structure OfKinds (bc br : Int) : Prop where
  mrk : ((mostL (setsP bc br true straight) : Nat) : Int) = min bc br
  mkg : ((mostL (setsP bc br false both) : Nat) : Int) = (bc + 1) / 2 * ((br + 1) / 2)
  gk : ((fewGuards (setsP bc br false both) : Nat) : Int) = (bc + 2) / 3 * ((br + 2) / 3)
  fk : ((fewFull (setsP bc br false both) : Nat) : Int) = (bc + 2) / 3 * ((br + 2) / 3)
  gr : ((fewGuards (setsP bc br true straight) : Nat) : Int) = min bc br
  qr : fewGuards (setsP bc br true both) ≤ fewGuards (setsP bc br true straight)
  qb : fewGuards (setsP bc br true both) ≤ fewGuards (setsP bc br true slanted)
  qk : fewGuards (setsP bc br true both) ≤ fewGuards (setsP bc br false both)
theorem ofKinds {bc br : Int} (hS : Small bc br) : OfKinds bc br := by
  obtain ⟨h1, h2, h3, h4, h9⟩ := hS
  obtain ⟨a, rfl⟩ : ∃ a : Nat, bc = ((a + 1 : Nat) : Int) := ⟨(bc - 1).toNat, by omega⟩
  obtain ⟨b, rfl⟩ : ∃ b : Nat, br = ((b + 1 : Nat) : Int) := ⟨(br - 1).toNat, by omega⟩
  have h9' : (a + 1) * (b + 1) ≤ 9 := by
    have : (((a + 1) * (b + 1) : Nat) : Int) ≤ 9 := by rw [Int.natCast_mul]; exact h9
    omega
  have h := guard_kinds ⟨a, by omega⟩ ⟨b, by omega⟩ h9'
  unfold guardKinds at h
  simp only [Bool.and_eq_true, decide_eq_true_eq, beq_iff_eq] at h
  obtain ⟨⟨⟨⟨⟨⟨⟨e1, e2⟩, e3⟩, e4⟩, e5⟩, e6⟩, e7⟩, e8⟩ := h
  refine ⟨by rw [e1]; omega, by rw [e2]; push_cast; rfl, by rw [e3]; push_cast; rfl, by rw [e4]; push_cast; rfl, by rw [e5]; omega, e6, e7, e8⟩
theorem thirds {bc br : Int} (hS : Small bc br) : (1 ≤ (bc + 2) / 3 ∧ (bc + 2) / 3 ≤ 2 ∧ 1 ≤ (br + 2) / 3 ∧ (br + 2) / 3 ≤ 2) ∧ 1 ≤ (bc + 2) / 3 * ((br + 2) / 3) ∧ (bc + 2) / 3 * ((br + 2) / 3) ≤ 4 := by
  obtain ⟨h1, h2, h3, h4, h9⟩ := hS
  have a1 : (bc + 2) / 3 = 1 ∨ (bc + 2) / 3 = 2 := by omega
  have b1 : (br + 2) / 3 = 1 ∨ (br + 2) / 3 = 2 := by omega
  rcases a1 with e | e <;> rcases b1 with f | f <;> rw [e, f] <;> decide
theorem halves {bc br : Int} (hS : Small bc br) : (1 ≤ (bc + 1) / 2 ∧ (bc + 1) / 2 ≤ 3 ∧ 1 ≤ (br + 1) / 2 ∧ (br + 1) / 2 ≤ 3) ∧ 1 ≤ (bc + 1) / 2 * ((br + 1) / 2) ∧ (bc + 1) / 2 * ((br + 1) / 2) ≤ 9 := by
  obtain ⟨h1, h2, h3, h4, h9⟩ := hS
  have a1 : (bc + 1) / 2 = 1 ∨ (bc + 1) / 2 = 2 ∨ (bc + 1) / 2 = 3 := by omega
  have b1 : (br + 1) / 2 = 1 ∨ (br + 1) / 2 = 2 ∨ (br + 1) / 2 = 3 := by omega
  rcases a1 with e | e | e <;> rcases b1 with f | f | f <;> rw [e, f] <;> decide
theorem kind_rook : kindL (ByteArray.toList ⟨#[114, 111, 111, 107]⟩) = some (straight, true) := by decide +kernel
theorem kind_king : kindL (ByteArray.toList ⟨#[107, 105, 110, 103]⟩) = some (both, false) := by decide +kernel
theorem kind_queen : kindL (ByteArray.toList ⟨#[113, 117, 101, 101, 110]⟩) = some (both, true) := by decide +kernel
theorem kind_bishop : kindL (ByteArray.toList ⟨#[98, 105, 115, 104, 111, 112]⟩) = some (slanted, true) := by decide +kernel
end Go.Proofs.Ytdjkdjnbmhpokab

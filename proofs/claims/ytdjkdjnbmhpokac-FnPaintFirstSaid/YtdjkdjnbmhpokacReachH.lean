
/-
  What the program's ReachOf hands back on a small board: the cells of a set, ascending.
-/
import Derived.Test.YtdjkdjnbmhpokacPaintR
import Derived.Test.YtdjkdjnbmhpokacGuardD
import Derived.Test.YtdjkdjnbmhpokacMoveH
namespace Go.Proofs.Ytdjkdjnbmhpokac
open Go.RowKit
set_option linter.unusedVariables false

def rowOkH (bc br : Nat) (p : List (Int × Int) × Bool) : Bool := (List.range (bc * br)).all fun (k : Nat) => ascP (cellsP bc br p.2 [] (k : Int) p.1) == natI (reachH (setsP bc br p.2 p.1) k)
theorem row_allH : ∀ a : Fin 5, ∀ b : Fin 5, (a.val + 1) * (b.val + 1) ≤ 9 → kinds6.all (rowOkH (a.val + 1) (b.val + 1)) = true := by decide +kernel
theorem reach_rowH {bc br : Int} {s : List UInt8} {ss : List (Int × Int)} {far : Bool} (hS : Small bc br) (hk : kindL s = some (ss, far)) (k : Nat) (hkn : (k : Int) < bc * br) : reachP bc br far [] (k : Int) ss = natI (reachH (setsP bc br far ss) k) := by
  obtain ⟨h1, h2, h3, h4, h9⟩ := hS
  obtain ⟨a, rfl⟩ : ∃ a : Nat, bc = ((a + 1 : Nat) : Int) := ⟨(bc - 1).toNat, by omega⟩
  obtain ⟨b, rfl⟩ : ∃ b : Nat, br = ((b + 1 : Nat) : Int) := ⟨(br - 1).toNat, by omega⟩
  have h9' : (a + 1) * (b + 1) ≤ 9 := by
    have : (((a + 1) * (b + 1) : Nat) : Int) ≤ 9 := by rw [Int.natCast_mul]; exact h9
    omega
  have hk' : k < (a + 1) * (b + 1) := by
    have : (k : Int) < (((a + 1) * (b + 1) : Nat) : Int) := by rw [Int.natCast_mul]; exact hkn
    omega
  have h := List.all_eq_true.1 (row_allH ⟨a, by omega⟩ ⟨b, by omega⟩ h9') _ (kind_six6 hk)
  have h := List.all_eq_true.1 h k (List.mem_range.2 hk')
  rw [show reachP ((a + 1 : Nat) : Int) ((b + 1 : Nat) : Int) far [] (k : Int) ss = ascP (cellsP ((a + 1 : Nat) : Int) ((b + 1 : Nat) : Int) far [] (k : Int) ss) from (ascP_eq _).symm]
  exact eq_of_beq h
theorem reachOf_rowH (bc br : Int) (s : ByteArray) (ss : List (Int × Int)) (far : Bool) (i : Nat) (w5 : World) (hk : smallK bc br s.toList = some (ss, far)) (hi : i < (setsP bc br far ss).length) :
    Calls Try.prog 18 #[.int .i64 bc, .int .i64 br, .string s, .int .i64 (i : Int), .slice none 0 0] w5 (Owns 3 1 (reachH (setsP bc br far ss) i).length (ints (natI (reachH (setsP bc br far ss) i))) w5) := by
  obtain ⟨hS, hkk⟩ := smallK_some hk
  obtain ⟨_, hlen⟩ := sets9_of hS hkk
  obtain ⟨h1, h2, h3, h4, h9⟩ := hS
  have := reachOf_yes bc br (i : Int) s none 0 [] w5 hkk h1 h2 h3 h4 (by omega) (by omega) (Row.empty _ _) (fun ad e => by cases e) (by simp [maxLen]) (fun j hj => absurd hj (by simp))
  rwa [reach_rowH ⟨h1, h2, h3, h4, h9⟩ hkk i (by omega), natI_len] at this
end Go.Proofs.Ytdjkdjnbmhpokac

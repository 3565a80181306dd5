
/-
  Walks by chance: the model's HitTime and BackTime.
-/
import Derived.Test.YtoapmmmmdfmaeaaWalkF
import Derived.Deep.RegionWith
namespace Go.Proofs.Ytoapmmmmdfmaeaa
open Go.RowKit
set_option linter.unusedVariables false

theorem row_setW {w : World} {A : Option Addr} {cs : List Value} {g : Nat} (h : Row w A cs) (hne : ∀ ad, A = some ad → ad.block ≠ g) (i : Nat) (u : Value) : Row (w.setCell ⟨g, i, none⟩ u) A cs :=
  h.grown (row := some g) ⟨rfl, rfl, rfl, by simp, fun j _ hj => Below.heap_setCell w ⟨g, i, none⟩ u j (fun e => hj (by rw [e]))⟩ (fun ad e h' => hne ad e (by injection h' with h'; exact h'.symm))
def hitV (bc br : Int) (s : List UInt8) (i k : Int) : Option (Nat × Nat) := match smallK bc br s with
  | some (ss, far) => if (0 ≤ i ∧ i < bc * br) ∧ (0 ≤ k ∧ k < bc * br) then (hitOf (setsP bc br far ss)).map fun M => hAt M i.toNat k.toNat else none
  | none => none
def backV (bc br : Int) (s : List UInt8) (cell : Int) : Option (Nat × Nat) := match smallK bc br s with
  | some (ss, far) => if 0 ≤ cell ∧ cell < bc * br then (hitOf (setsP bc br far ss)).map fun M => backP (setsP bc br far ss) M cell.toNat else none
  | none => none
end Go.Proofs.Ytoapmmmmdfmaeaa


/-
  First ways of both forms as one.
-/
import Derived.Test.YtbecnjfdolagcacDoorTileV
import Derived.Test.YtbecnjfdolagcacDoorOwnWords
namespace Go.Proofs.YtbecnjfdolagcacDoor
open Go.RowKit
theorem first_any {o : Option (List Int)} {w w' : World} {e : Ending} (h : FirstIs o w e w') : ∃ v, e = .returned (.tuple #[v, .bool o.isSome]) ∧ w'.ownsRow w.heap.size 3 1 v (o.getD []).length (ints (o.getD [])) ∧ Below w.heap.size w w' := by
  cases o with
  | none => exact ⟨_, h.1, ⟨rfl, .inl ⟨rfl, rfl⟩⟩, h.2⟩
  | some l => exact h
theorem firstL_len (bc br : Int) (hs : List Int) : ((firstL bc br hs).getD []).length ≤ 1000 := by
  unfold firstL
  split
  · rename_i h
    obtain ⟨h1, h2, h3, h4⟩ := h.1.1
    rw [Option.getD_some, outL_len]
    have : bc.toNat * br.toNat ≤ 5 * 5 := Nat.mul_le_mul (by omega) (by omega)
    omega
  · simp
end Go.Proofs.YtbecnjfdolagcacDoor

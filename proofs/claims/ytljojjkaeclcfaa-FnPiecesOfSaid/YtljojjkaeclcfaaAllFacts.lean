/-
  What AllMoves comes to on every board: reckoned by the kernel. Plain mathematics.
-/
import Derived.Test.YtljojjkaeclcfaaReach
namespace Go.Proofs.Ytljojjkaeclcfaa
open Go Go.RowKit

def sumC (bc br : Int) (far : Bool) (ss : List (Int × Int)) : Nat → Int
  | 0 => 0
  | k + 1 => sumC bc br far ss k + (cellsP bc br far [] k ss).length
theorem sumP_eq (bc br : Int) (far : Bool) (ss : List (Int × Int)) (k : Nat) : sumP bc br far ss k = sumC bc br far ss k := by
  induction k with
  | zero => rfl
  | succ k ih =>
    unfold sumP sumC
    rw [ih, reachP, List.length_mergeSort]
def six : List (List (Int × Int) × Bool) := [(straight, false), (both, false), (knights, false), (straight, true), (slanted, true), (both, true)]
theorem kind_six {s : List UInt8} {ss : List (Int × Int)} {far : Bool} (h : kindL s = some (ss, far)) : (ss, far) ∈ six := by
  unfold kindL at h
  repeat' (split at h)
  all_goals first | (simp only [Option.some.injEq] at h; rw [← h]; decide) | cases h
theorem boards (P : Int → Int → Prop) (h : ∀ a : Fin 5, ∀ b : Fin 5, P ((a.val : Int) + 1) ((b.val : Int) + 1)) {bc br : Int} (hB : Brd bc br) : P bc br := by
  obtain ⟨h1, h2, h3, h4⟩ := hB
  have := h ⟨(bc - 1).toNat, by omega⟩ ⟨(br - 1).toNat, by omega⟩
  simp only at this
  rwa [show (((bc - 1).toNat : Int) + 1) = bc by omega, show (((br - 1).toNat : Int) + 1) = br by omega] at this
def allOk (bc br : Int) : Bool :=
  let f := fun (p : List (Int × Int) × Bool) (a b : Int) => sumC a b p.2 p.1 (a * b).toNat
  six.all (fun p => f p bc br % 2 == 0 && f p br bc == f p bc br) && f (straight, true) bc br == bc * br * (bc + br - 2) && f (straight, false) bc br == 2 * ((bc - 1) * br + bc * (br - 1)) &&
    f (both, false) bc br == 2 * ((bc - 1) * br + bc * (br - 1)) + 4 * (bc - 1) * (br - 1) && f (both, true) bc br == f (straight, true) bc br + f (slanted, true) bc br
set_option maxRecDepth 100000 in
theorem all_ok : ∀ a : Fin 5, ∀ b : Fin 5, allOk ((a.val : Int) + 1) ((b.val : Int) + 1) = true := by decide +kernel
end Go.Proofs.Ytljojjkaeclcfaa

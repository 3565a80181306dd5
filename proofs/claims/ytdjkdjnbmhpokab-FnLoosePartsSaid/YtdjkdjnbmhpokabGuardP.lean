/-
  Guards purely: the sets reached from each cell, sets that guard all, loose sets; what the document says of them, for every small board, by the kernel.
-/
import Derived.Test.YtdjkdjnbmhpokabReach
import Derived.Test.YtdjkdjnbmhpokabBitP
namespace Go.Proofs.Ytdjkdjnbmhpokab
open Go.RowKit
set_option linter.unusedVariables false

/-- The set of the cells reached from a cell. -/
def setFrom (bc br : Int) (far : Bool) (ss : List (Int × Int)) (cell : Nat) : Nat := ((cellsP bc br far [] (cell : Int) ss).map fun x => 2 ^ x.toNat).sum
def setsP (bc br : Int) (far : Bool) (ss : List (Int × Int)) : List Nat := (List.range (bc * br).toNat).map (setFrom bc br far ss)
/-- How many numbers a set has. -/
def pcN : Nat → Nat → Nat
  | 0, _ => 0
  | f + 1, s => s % 2 + pcN f (s / 2)
/-- What the pieces on a set of cells guard, by the first k cells. -/
def overP (L : List Nat) (s : Nat) : Nat → Nat
  | 0 => s
  | k + 1 => if bitN s k = 1 then overP L s k ||| L[k]?.getD 0 else overP L s k
def guardsP (L : List Nat) (s : Nat) : Bool := overP L s L.length == 2 ^ L.length - 1
def looseTo (L : List Nat) (s : Nat) : Nat → Bool
  | 0 => true
  | k + 1 => looseTo L s k && !(bitN s k == 1 && (L[k]?.getD 0) &&& s != 0)
def looseP (L : List Nat) (s : Nat) : Bool := looseTo L s L.length
/-- The fewest cells of a set below k that is fine; n if none has fewer. -/
def scanP (n : Nat) (ok : Nat → Bool) : Nat → Nat
  | 0 => n
  | k + 1 => if pcN n k < scanP n ok k && ok k then pcN n k else scanP n ok k
def fewGuards (L : List Nat) : Nat := scanP L.length (guardsP L) (2 ^ L.length)
def fewFull (L : List Nat) : Nat := scanP L.length (fun s => looseP L s && guardsP L s) (2 ^ L.length)
/-- The lowest cell of a set. -/
def lowN : Nat → Nat → Nat → Nat
  | 0, _, at_ => at_
  | f + 1, s, at_ => if bitN s at_ = 0 then lowN f s (at_ + 1) else at_
def mostP (L : List Nat) : Nat → Nat → Option Nat
  | 0, _ => none
  | f + 1, left => if left = 0 then some 0 else
      let k := lowN L.length left 0
      let rest := left - 2 ^ k
      match mostP L f (rest - (rest &&& L[k]?.getD 0)) with
      | none => none
      | some a => if (L[k]?.getD 0) &&& rest != 0 then
          match mostP L f rest with
          | none => none
          | some b => some (max (1 + a) b)
        else some (1 + a)
def loosesP (L : List Nat) : Nat → Nat → Option Nat
  | 0, _ => none
  | f + 1, left => if left = 0 then some 1 else
      let k := lowN L.length left 0
      let rest := left - 2 ^ k
      match loosesP L f rest, loosesP L f (rest - (rest &&& L[k]?.getD 0)) with
      | some a, some b => some (a + b)
      | _, _ => none
def mostL (L : List Nat) : Nat := (mostP L (L.length + 1) (2 ^ L.length - 1)).getD 0
def countL (L : List Nat) : Nat := (loosesP L (L.length + 1) (2 ^ L.length - 1)).getD 0
/-- Loose sets counted one by one. -/
def oneByOne (L : List Nat) : Nat → Nat
  | 0 => 0
  | k + 1 => if looseP L k then oneByOne L k + 1 else oneByOne L k
def kinds6 : List (List (Int × Int) × Bool) := [(straight, false), (both, false), (knights, false), (straight, true), (slanted, true), (both, true)]
def Small (bc br : Int) : Prop := 1 ≤ bc ∧ bc ≤ 5 ∧ 1 ≤ br ∧ br ≤ 5 ∧ bc * br ≤ 9
/-- What holds of one kind on one board. -/
def guardOk (bc br : Nat) (p : List (Int × Int) × Bool) : Bool :=
  let L := setsP bc br p.2 p.1
  let T := setsP br bc p.2 p.1
  let g := fewGuards L
  let f := fewFull L
  let m := mostL L
  let c := countL L
  decide (1 ≤ g) && decide (g ≤ f) && decide (f ≤ m) && (fewGuards T == g) && (mostL T == m) && (mostP L (L.length + 1) (2 ^ L.length - 1)).isSome && (loosesP L (L.length + 1) (2 ^ L.length - 1)).isSome && (c == oneByOne L (2 ^ L.length)) && decide (L.length + 1 ≤ c)
theorem guard_all : ∀ a : Fin 5, ∀ b : Fin 5, (a.val + 1) * (b.val + 1) ≤ 9 → kinds6.all (guardOk (a.val + 1) (b.val + 1)) = true := by decide +kernel
/-- What holds of kings, rooks and queens. -/
def guardKinds (bc br : Nat) : Bool :=
  let K := setsP bc br false both
  let R := setsP bc br true straight
  let B := setsP bc br true slanted
  let Q := setsP bc br true both
  let q := fewGuards Q
  let r := fewGuards R
  (mostL R == min bc br) && (mostL K == (bc + 1) / 2 * ((br + 1) / 2)) && (fewGuards K == (bc + 2) / 3 * ((br + 2) / 3)) && (fewFull K == (bc + 2) / 3 * ((br + 2) / 3)) && (r == min bc br) && decide (q ≤ r) && decide (q ≤ fewGuards B) && decide (q ≤ fewGuards K)
theorem guard_kinds : ∀ a : Fin 5, ∀ b : Fin 5, (a.val + 1) * (b.val + 1) ≤ 9 → guardKinds (a.val + 1) (b.val + 1) = true := by decide +kernel
end Go.Proofs.Ytdjkdjnbmhpokab

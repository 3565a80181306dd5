
/-
  Guards as the program tries them, purely: the same answers, of every small board and kind, by the kernel.
-/
import Derived.Test.YtdjkdjnbmhpokabGuardP
import Derived.Test.YtdjkdjnbmhpokabAscP
namespace Go.Proofs.Ytdjkdjnbmhpokab
open Go.RowKit
set_option linter.unusedVariables false

/-- The first k cells are all guarded. -/
def guardTo (L : List Nat) (s : Nat) : Nat → Bool
  | 0 => true
  | k + 1 => guardTo L s k && !(s &&& (L[k]?.getD 0 ||| 2 ^ k) == 0)
def guardQ (L : List Nat) (s : Nat) : Bool := guardTo L s L.length
def orL (l : List Int) : Nat := l.foldl (fun s x => s ||| 2 ^ x.toNat) 0
def minOf (l : List Nat) : Nat := l.foldl (fun a s => min a (pcN 9 s)) (pcN 9 (l[0]?.getD 0))
def maxOf (l : List Nat) : Nat := l.foldl (fun a s => max a (pcN 9 s)) 0
/-- The sets below P of which all tests hold. -/
def setsOf (tests : List (Nat → Bool)) (P : Nat) : List Nat := (List.range P).filter fun s => tests.all fun t => t s
def triedOk (bc br : Nat) (p : List (Int × Int) × Bool) : Bool :=
  let L := setsP bc br p.2 p.1
  let P := 2 ^ L.length
  let G := setsOf [guardQ L] P
  let F := setsOf [looseP L, guardQ L] P
  let l := setsOf [looseP L] P
  decide (0 < G.length) && decide (0 < F.length) && (minOf G == fewGuards L) && (minOf F == fewFull L) && (maxOf l == mostL L) && (l.length == countL L)
theorem tried_all : ∀ a : Fin 5, ∀ b : Fin 5, (a.val + 1) * (b.val + 1) ≤ 9 → kinds6.all (triedOk (a.val + 1) (b.val + 1)) = true := by decide +kernel
def orOk (bc br : Nat) (p : List (Int × Int) × Bool) : Bool :=
  (List.range (bc * br)).all fun (k : Nat) => orL (ascP (cellsP bc br p.2 [] (k : Int) p.1)) == setFrom bc br p.2 p.1 k
theorem or_all : ∀ a : Fin 5, ∀ b : Fin 5, (a.val + 1) * (b.val + 1) ≤ 9 → kinds6.all (orOk (a.val + 1) (b.val + 1)) = true := by decide +kernel
end Go.Proofs.Ytdjkdjnbmhpokab


/-
  Chases, purely: all that the laws say of small boards, by the kernel.
-/
import Derived.Test.YtakphmcelhbaiabChaseP
namespace Go.Proofs.Ytakphmcelhbaiab
open Go.RowKit
set_option linter.unusedVariables false

def hasZ (C : List (List Nat)) (n i : Nat) : Bool := (List.range n).any fun k => cAt C i k == 0
def alwaysTo (C : List (List Nat)) (n : Nat) : Nat → Bool
  | 0 => false
  | i + 1 => alwaysTo C n i || !hasZ C n i
def mostTo (C : List (List Nat)) (i : Nat) : Nat → Nat
  | 0 => 0
  | k + 1 => max (mostTo C i k) (cAt C i k - 1)
def bestTo (C : List (List Nat)) (n : Nat) : Nat → Option Nat
  | 0 => none
  | i + 1 => if hasZ C n i then bestTo C n i else match bestTo C n i with
    | none => some (mostTo C i n)
    | some b => some (min b (mostTo C i n))
/-- The worst answer of the first ones of a list. -/
def worstL (C : List (List Nat)) (x : Nat) : List Nat → Nat → Option Nat
  | [], a => some a
  | y :: ys, a => if cAt C x y = 0 then none else worstL C x ys (max a (cAt C x y - 1))
/-- The best move (one more than that, 0: none). -/
def bestL (C : List (List Nat)) (Y : List Nat) : List Nat → Nat → Nat
  | [], b => b
  | x :: xs, b => match worstL C x Y 0 with
    | none => bestL C Y xs b
    | some v => bestL C Y xs (if b = 0 ∨ v + 2 < b then v + 2 else b)
def goL (L : List Nat) (i : Nat) : List Nat := ((List.range L.length).filter fun x => bitN (L[i]?.getD 0) x == 1) ++ [i]
def stepOk9 (L : List Nat) (C : List (List Nat)) : Bool := (List.range L.length).all fun i => (List.range L.length).all fun k =>
  i == k || (if bitN (L[i]?.getD 0) k == 1 then cAt C i k == 2 else bestL C (goL L k) (goL L i) 0 == cAt C i k)
def chaseOk (bc br : Nat) (p : List (Int × Int) × Bool) : Bool :=
  let L := setsP bc br p.2 p.1
  let T := setsP br bc p.2 p.1
  let C := catN L
  let n := bc * br
  let F := foldN L
  (alwaysTo C n n == (F.length + 1 == n)) && (alwaysTo (catN T) n n == alwaysTo C n n) && decide F.Nodup && decide (F.length < n) && F.all (fun x => decide (x < n)) && ((foldN T).length == F.length)
  && (match bestTo C n n with
    | none => !alwaysTo C n n
    | some b => alwaysTo C n n && decide (b ≤ 8) && (List.range n).any fun i => (List.range n).all fun k => decide (1 ≤ cAt C i k) && decide (cAt C i k ≤ b + 1))
  && stepOk9 L C
theorem chase_all : ∀ a : Fin 5, ∀ b : Fin 5, (a.val + 1) * (b.val + 1) ≤ 9 → kinds6.all (chaseOk (a.val + 1) (b.val + 1)) = true := by decide +kernel
/-- What holds of kings, steps and bishops. -/
def chaseKinds (bc br : Nat) : Bool :=
  let n := bc * br
  let K := catN (setsP bc br false both)
  let S := catN (setsP bc br false straight)
  let B := catN (setsP bc br true slanted)
  alwaysTo K n n && (alwaysTo S n n == (bc == 1 || br == 1)) && (bc == 1 || br == 1 || (!alwaysTo B n n && (List.range n).all fun i => (List.range n).all fun k => !((i / bc + i % bc + k / bc + k % bc) % 2 == 1) || cAt B i k == 0))
theorem chase_kinds : ∀ a : Fin 5, ∀ b : Fin 5, (a.val + 1) * (b.val + 1) ≤ 9 → chaseKinds (a.val + 1) (b.val + 1) = true := by decide +kernel
end Go.Proofs.Ytakphmcelhbaiab

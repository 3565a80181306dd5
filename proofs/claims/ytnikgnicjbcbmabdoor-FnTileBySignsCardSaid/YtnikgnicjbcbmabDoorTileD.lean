
/-
  Covers by signs, purely: the model's determinant, of every board, by the kernel.
-/
import Derived.Test.YtnikgnicjbcbmabDoorTileR
namespace Go.Proofs.YtnikgnicjbcbmabDoor
set_option linter.unusedVariables false

abbrev Mat := List (List Int)
def matAt (M : Mat) (i j : Nat) : Int := (M[i]?.getD [])[j]?.getD 0
def inB (x : Int) : Bool := decide (-1000000 ≤ x ∧ x ≤ 1000000)
def matIn (M : Mat) : Bool := M.all fun r => r.all inB
def pivP (M : Mat) (k : Nat) : Nat → Nat → Nat
  | 0, p => p
  | f + 1, p => if matAt M p k = 0 then pivP M k f (p + 1) else p
def swapP (M : Mat) (p k : Nat) : Mat := (M.set p (M[k]?.getD [])).set k (M[p]?.getD [])
def elimR (k : Nat) (last : Int) (rk ri : List Int) : List Int := (List.range ri.length).map fun j => if j ≤ k then ri[j]?.getD 0 else ((ri[j]?.getD 0) * (rk[k]?.getD 0) - (ri[k]?.getD 0) * (rk[j]?.getD 0)).tdiv last
def elimM (k : Nat) (last : Int) (M : Mat) : Mat := (List.range M.length).map fun i => if i ≤ k then M[i]?.getD [] else elimR k last (M[k]?.getD []) (M[i]?.getD [])
/-- The determinant; none where a number is too great. -/
def detP : Nat → Mat → Int → Int → Option Int
  | 0, M, sign, last => some (sign * last)
  | r + 1, M, sign, last =>
    let n := M.length
    let k := n - (r + 1)
    let p := pivP M k (n - k) k
    if p = n then some 0 else
      let M1 := if p = k then M else swapP M p k
      let s1 := if p = k then sign else -sign
      let M2 := elimM k last M1
      if matIn M2 then detP r M2 s1 (matAt M1 k k) else none
def signOf (w a b : Nat) : Int := if a % w = b % w ∧ (a = b + w ∨ b = a + w) then 1 - 2 * ((a % w % 2 : Nat) : Int) else if a / w = b / w ∧ (a = b + 1 ∨ b = a + 1) then 1 else 0
def evens (w n : Nat) : List Nat := (List.range n).filter fun a => (a / w + a % w) % 2 == 0
def odds (w n : Nat) : List Nat := (List.range n).filter fun a => !((a / w + a % w) % 2 == 0)
def signsM (w h : Nat) : Mat := (evens w (w * h)).map fun a => (odds w (w * h)).map fun b => signOf w a b
def tileD (w h : Nat) : Option Int := if (w * h) % 2 = 1 then some 0 else (detP (signsM w h).length (signsM w h) 1 1).map fun v => if v < 0 then -v else v
/-- By signs it is the same as by rows. -/
def signsOk (w h : Nat) : Bool := tileD w h == some ((rowsT w h (fun _ => false) h 0 : Nat) : Int) && ((w * h) % 2 == 1 || ((signsM w h).all fun r => r.length == (signsM w h).length)) && (rowsT h w (fun _ => false) w 0 == rowsT w h (fun _ => false) h 0) && decide (rowsT w h (fun _ => false) h 0 ≤ 1000000)
theorem signs_ok : ∀ a : Fin 5, ∀ b : Fin 5, signsOk (a.val + 1) (b.val + 1) = true := by decide +kernel
end Go.Proofs.YtnikgnicjbcbmabDoor

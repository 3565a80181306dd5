/-
  Lights purely: presses, the program's rows and the model's elimination, quiet sets, fewest presses, chases; what the document says of them, for every board and all lights, by the kernel.
-/
import Derived.Test.YtgbbmnnpphkkbaaGuardP
import Derived.Test.YtgbbmnnpphkkbaaBitN
namespace Go.Proofs.Ytgbbmnnpphkkbaa
open Go.RowKit
set_option linter.unusedVariables false

/-- For each cell what a press of it turns. -/
def litL (w h : Nat) : List Nat := (List.range (w * h)).map fun p => setFrom (w : Int) (h : Int) false straight p + 2 ^ p
/-- Lights x behind the presses of the first k cells of a set. -/
def pressTo (L : List Nat) (x s : Nat) : Nat → Nat
  | 0 => x
  | k + 1 => if bitN s k = 1 then pressTo L x s k ^^^ (L[k]?.getD 0) else pressTo L x s k
abbrev Row2 := Nat × Nat
def plus2 (a b : Row2) : Row2 := (a.1 ^^^ b.1, a.2 ^^^ b.2)
def lessTo (M : List Row2) (r : Row2) : Nat → Row2
  | 0 => r
  | k + 1 => if (lessTo M r k).2 &&& lowS (M[k]?.getD (0, 0)).2 = 0 then lessTo M r k else plus2 (lessTo M r k) (M[k]?.getD (0, 0))
def lessP (M : List Row2) (r : Row2) : Row2 := lessTo M r M.length
def rowsP (L : List Nat) : List Row2 := (List.range L.length).map fun k => (2 ^ k, L[k]?.getD 0)
def leadTo (R : List Row2) : Nat → List Row2 × List Nat
  | 0 => ([], [])
  | k + 1 => if (lessP (leadTo R k).1 (R[k]?.getD (0, 0))).2 = 0 then ((leadTo R k).1, (leadTo R k).2 ++ [(lessP (leadTo R k).1 (R[k]?.getD (0, 0))).1])
      else ((leadTo R k).1 ++ [lessP (leadTo R k).1 (R[k]?.getD (0, 0))], (leadTo R k).2)
/-- All sums of a set and some others. -/
def dblTo (Q : List Nat) (S : List Nat) : Nat → List Nat
  | 0 => S
  | k + 1 => dblTo Q S k ++ (dblTo Q S k).map fun s => s ^^^ (Q[k]?.getD 0)
def minTo (b : Nat) (S : List Nat) : Nat → Nat
  | 0 => b
  | k + 1 => min (minTo b S k) (pcN 12 (S[k]?.getD 0))
def fewI (n : Nat) (M : List Row2) (Q : List Nat) (x : Nat) : Option Nat :=
  if (lessP M (0, x)).2 = 0 then some (minTo n (dblTo Q [(lessP M (0, x)).1] Q.length) (dblTo Q [(lessP M (0, x)).1] Q.length).length) else none
/-- A chase: what is pressed, and the lights that are left, behind the first k cells. -/
def chaseTo (L : List Nat) (w x : Nat) : Nat → Row2
  | 0 => (0, x)
  | k + 1 => if w ≤ k ∧ bitN (chaseTo L w x k).2 (k - w) = 1 then ((chaseTo L w x k).1 + 2 ^ k, (chaseTo L w x k).2 ^^^ (L[k]?.getD 0)) else chaseTo L w x k

/-! The model's elimination, with any right sides. -/
def pivP (rows : List Nat) (c : Nat) : Nat → Nat → Nat
  | 0, p => p
  | f + 1, p => if bitN (rows[p]?.getD 0) c = 0 then pivP rows c f (p + 1) else p
def swapG {β : Type} (d : β) (l : List β) (p q : Nat) : List β := (l.set p (l[q]?.getD d)).set q (l[p]?.getD d)
def clrR (rows : List Nat) (a c : Nat) : Nat → List Nat
  | 0 => rows
  | i + 1 => if i ≠ a ∧ bitN ((clrR rows a c i)[i]?.getD 0) c = 1 then (clrR rows a c i).set i (((clrR rows a c i)[i]?.getD 0) ^^^ ((clrR rows a c i)[a]?.getD 0)) else clrR rows a c i
def clrG {β : Type} (add : β → β → β) (d : β) (rows : List Nat) (right : List β) (a c : Nat) : Nat → List β
  | 0 => right
  | i + 1 => if i ≠ a ∧ bitN ((clrR rows a c i)[i]?.getD 0) c = 1 then (clrG add d rows right a c i).set i (add ((clrG add d rows right a c i)[i]?.getD d) ((clrG add d rows right a c i)[a]?.getD d)) else clrG add d rows right a c i
structure Elim (β : Type) where
  rows : List Nat
  right : List β
  lead : List Nat
def colG {β : Type} (add : β → β → β) (d : β) (n : Nat) (S : Elim β) (c : Nat) : Elim β :=
  if pivP S.rows c (n - S.lead.length) S.lead.length = n then S else
    ⟨clrR (swapG 0 S.rows (pivP S.rows c (n - S.lead.length) S.lead.length) S.lead.length) S.lead.length c n,
     clrG add d (swapG 0 S.rows (pivP S.rows c (n - S.lead.length) S.lead.length) S.lead.length) (swapG d S.right (pivP S.rows c (n - S.lead.length) S.lead.length) S.lead.length) S.lead.length c n,
     S.lead ++ [c]⟩
def elimTo {β : Type} (add : β → β → β) (d : β) (n : Nat) (S : Elim β) : Nat → Elim β
  | 0 => S
  | c + 1 => colG add d n (elimTo add d n S c) c

section
variable {β γ : Type} {add : β → β → β} {d : β} {add' : γ → γ → γ} {d' : γ} {f : β → γ}
theorem map_at (hd : f d = d') (l : List β) (i : Nat) : (l.map f)[i]?.getD d' = f (l[i]?.getD d) := by
  rw [List.getElem?_map]
  cases l[i]? with
  | none => exact hd.symm
  | some x => rfl
theorem swap_map (hd : f d = d') (l : List β) (p q : Nat) : swapG d' (l.map f) p q = (swapG d l p q).map f := by
  unfold swapG
  rw [map_at hd, map_at hd, ← List.map_set, ← List.map_set]
theorem clr_map (hf : ∀ a b, f (add a b) = add' (f a) (f b)) (hd : f d = d') (rows : List Nat) (right : List β) (a c : Nat) : ∀ i, clrG add' d' rows (right.map f) a c i = (clrG add d rows right a c i).map f
  | 0 => rfl
  | i + 1 => by
    have ih := clr_map hf hd rows right a c i
    unfold clrG
    rw [ih]
    split
    · rw [map_at hd, map_at hd, ← hf, ← List.map_set]
    · rfl
theorem elim_map (hf : ∀ a b, f (add a b) = add' (f a) (f b)) (hd : f d = d') (n : Nat) (R : List Nat) (G : List β) (ld : List Nat) : ∀ k, elimTo add' d' n ⟨R, G.map f, ld⟩ k = ⟨(elimTo add d n ⟨R, G, ld⟩ k).rows, (elimTo add d n ⟨R, G, ld⟩ k).right.map f, (elimTo add d n ⟨R, G, ld⟩ k).lead⟩
  | 0 => rfl
  | k + 1 => by
    have ih := elim_map hf hd n R G ld k
    show colG add' d' n (elimTo add' d' n ⟨R, G.map f, ld⟩ k) k = _
    rw [ih]
    generalize hS : elimTo add d n ⟨R, G, ld⟩ k = S
    show _ = (⟨(colG add d n (elimTo add d n ⟨R, G, ld⟩ k) k).rows, (colG add d n (elimTo add d n ⟨R, G, ld⟩ k) k).right.map f, (colG add d n (elimTo add d n ⟨R, G, ld⟩ k) k).lead⟩ : Elim γ)
    rw [hS]
    unfold colG
    simp only
    split
    · rfl
    · simp only
      rw [swap_map hd, clr_map hf hd]
end

/-- Whether a set is odd in number (below 2 ^ 16). -/
def parN (x : Nat) : Nat :=
  let y := x ^^^ (x >>> 8)
  let y := y ^^^ (y >>> 4)
  let y := y ^^^ (y >>> 2)
  (y ^^^ (y >>> 1)) % 2
theorem par_xor (a b : Nat) : parN (a ^^^ b) = (parN a + parN b) % 2 := by
  unfold parN
  simp only [Nat.shiftRight_xor_distrib]
  rw [← mod2_xor]
  congr 1
  have e1 : ∀ k, (a ^^^ b) ^^^ (a >>> k ^^^ b >>> k) = (a ^^^ a >>> k) ^^^ (b ^^^ b >>> k) := fun k => xor_swap ..
  ac_rfl
theorem par_zero : parN 0 = 0 := rfl
theorem par_two (x : Nat) : parN x < 2 := Nat.mod_lt _ (by omega)
/-- The right side of a row: whether the lights of a mask are odd in number. -/
def sideN (x m : Nat) : Nat := parN (m &&& x)
theorem side_xor (x a b : Nat) : sideN x (a ^^^ b) = (sideN x a + sideN x b) % 2 := by
  unfold sideN
  rw [Nat.and_xor_distrib_right, par_xor]
def masksL (n : Nat) : List Nat := (List.range n).map fun k => 2 ^ k
def startM (L : List Nat) : Elim Nat := ⟨L, masksL L.length, []⟩
/-- The model's elimination for lights x. -/
def startX (L : List Nat) (x : Nat) : Elim Nat := ⟨L, (List.range L.length).map fun k => bitN x k, []⟩
def solvedX (L : List Nat) (x : Nat) : Elim Nat := elimTo (fun a b => (a + b) % 2) 0 L.length (startX L x) L.length
def solvedM (L : List Nat) : Elim Nat := elimTo (fun a b => a ^^^ b) 0 L.length (startM L) L.length

/-- The sum of what is to be pressed. -/
def sumTo (right lead : List Nat) : Nat → Nat
  | 0 => 0
  | i + 1 => sumTo right lead i + (right[i]?.getD 0) * 2 ^ (lead[i]?.getD 0)
/-- The sum of a column's bits at the leads, and its own cell. -/
def colTo (rows lead : List Nat) (c : Nat) : Nat → Nat
  | 0 => 2 ^ c
  | i + 1 => colTo rows lead c i + bitN (rows[i]?.getD 0) c * 2 ^ (lead[i]?.getD 0)
def quietTo (rows lead : List Nat) : Nat → List Nat
  | 0 => []
  | c + 1 => if lead.contains c then quietTo rows lead c else quietTo rows lead c ++ [colTo rows lead c lead.length]
def goodTo (right : List Nat) (a : Nat) : Nat → Bool
  | 0 => true
  | k + 1 => goodTo right a k && (right[a + k]?.getD 0 != 1)
def minM (n : Nat) (Q : List Nat) (s : Nat) : Nat → Nat
  | 0 => n
  | k + 1 => min (minM n Q s k) (pcN 12 (pressTo Q s k Q.length))
def fewM (L : List Nat) (S : Elim Nat) : Option Nat :=
  if goodTo S.right S.lead.length (L.length - S.lead.length) then some (minM L.length (quietTo S.rows S.lead L.length) (sumTo S.right S.lead S.lead.length) (2 ^ (quietTo S.rows S.lead L.length).length)) else none
end Go.Proofs.Ytgbbmnnpphkkbaa

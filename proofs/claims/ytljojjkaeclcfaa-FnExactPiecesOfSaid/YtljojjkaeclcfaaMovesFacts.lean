/-
  Fewest moves over a table of next cells: what the kernel can reckon. Plain mathematics.
-/
import Derived.Test.YtljojjkaeclcfaaAllFacts
import Derived.Test.YtljojjkaeclcfaaAscP
import Derived.Test.YtljojjkaeclcfaaBfs
namespace Go.Proofs.Ytljojjkaeclcfaa
open Go Go.RowKit

theorem reachP_asc (bc br : Int) (far : Bool) (others : List Int) (cell : Int) (ss : List (Int × Int)) : reachP bc br far others cell ss = ascP (cellsP bc br far others cell ss) := (ascP_eq _).symm
/-- The next cells of every cell, reckoned once. -/
def tabP (bc br : Int) (far : Bool) (ss : List (Int × Int)) : List (List Int) := (List.range (bc * br).toNat).map fun (c : Nat) => ascP (cellsP bc br far [] (c : Int) ss)
def bfsT (T : List (List Int)) : Nat → List Int × List Int → Nat → List Int
  | 0, st, _ => st.1
  | f + 1, st, i => if i < st.2.length then bfsT T f ((T[(st.2[i]?.getD 0).toNat]?.getD []).foldl (visitP (st.2[i]?.getD 0)) st) (i + 1) else st.1
def movesT (T : List (List Int)) (N : Nat) (c : Nat) : List Int := bfsT T 26 ((List.replicate N (-1)).set c 0, [(c : Int)]) 0
theorem bfsT_eq {bc br : Int} (far : Bool) (ss : List (Int × Int)) {N : Nat} (hN : bc * br = (N : Int)) (hin : ∀ x, ∀ y ∈ reachP bc br far [] x ss, 0 ≤ y ∧ y < (N : Int)) (f : Nat) (st : List Int × List Int) (i : Nat) (h : Met N st) :
    bfsT (tabP bc br far ss) f st i = bfsP bc br far ss f st i := by
  induction f generalizing st i with
  | zero => rfl
  | succ f ih =>
    unfold bfsT bfsP
    split
    · rename_i hi
      have hm : st.2[i]?.getD 0 ∈ st.2 := by
        rw [List.getElem?_eq_getElem hi, Option.getD_some]
        exact List.getElem_mem hi
      obtain ⟨⟨x0, x1⟩, _⟩ := h.mem _ hm
      have e : (tabP bc br far ss)[(st.2[i]?.getD 0).toNat]?.getD [] = reachP bc br far [] (st.2[i]?.getD 0) ss := by
        unfold tabP
        rw [hN, List.getElem?_map, List.getElem?_range (by omega), Option.map_some, Option.getD_some, reachP_asc]
        rw [show (((st.2[i]?.getD 0).toNat : Nat) : Int) = st.2[i]?.getD 0 by omega]
      rw [e]
      exact ih _ _ (fold_met _ _ (hin _) h hm).1
    · rfl
def turnN (bc br : Int) (c : Nat) : Nat := ((c : Int) % bc * br + (c : Int) / bc).toNat
def factsOk (bc br : Int) (p : List (Int × Int) × Bool) : Bool :=
  let N := (bc * br).toNat
  let T := tabP bc br p.2 p.1
  let M := (List.range N).map (movesT T N)
  let M' := (List.range N).map (movesT (tabP br bc p.2 p.1) N)
  (List.range N).all fun c => (M[c]?.getD [])[c]?.getD 7 == 0 && (List.range N).all fun x =>
    (M[x]?.getD [])[c]?.getD 7 == (M[c]?.getD [])[x]?.getD 7 && (M'[turnN bc br c]?.getD [])[turnN bc br x]?.getD 7 == (M[c]?.getD [])[x]?.getD 7 && ((M[c]?.getD [])[x]?.getD 7 == 1) == (T[c]?.getD []).contains (x : Int)
def factsAll (p : List (Int × Int) × Bool) : Prop := ∀ a : Fin 5, ∀ b : Fin 5, factsOk ((a.val : Int) + 1) ((b.val : Int) + 1) p = true
instance (p : List (Int × Int) × Bool) : Decidable (factsAll p) := by unfold factsAll; infer_instance
end Go.Proofs.Ytljojjkaeclcfaa


/-
  The walk of the law FnOthersStopLines.
-/
import Derived.Test.YtljojjkaeclcfaaLawsD
import Derived.Test.YtljojjkaeclcfaaMovesD
namespace Go.Proofs.Ytljojjkaeclcfaa
open Go.RowKit
set_option linter.unusedVariables false

def allP (N : Nat) : List Int := (List.range N).map fun (i : Nat) => (i : Int)
theorem allP_len (N : Nat) : (allP N).length = N := by simp [allP]
theorem allP_succ (k : Nat) : allP (k + 1) = allP k ++ [(k : Int)] := by simp [allP, List.range_succ]
theorem allP_asc (N : Nat) : AscTo (N : Int) (allP N) (allP N).length := fun i hi => by
  rw [allP_len] at hi
  have e : ∀ j, j < N → (allP N)[j]?.getD 0 = (j : Int) := fun j hj => by simp [allP, hj]
  rw [e i hi]
  refine ⟨⟨by omega, by omega⟩, fun h => ?_⟩
  rw [e (i - 1) (by omega)]
  omega
def five : List (List (Int × Int) × Bool) := [(straight, false), (both, false), (straight, true), (slanted, true), (both, true)]
def firstAll (bc br : Int) : Bool := five.all fun p => (List.range (bc * br).toNat).all fun c => (cellsP bc br p.2 (allP (bc * br).toNat) c p.1).all fun y => (cellsP bc br false [] c both).contains y
set_option maxRecDepth 100000 in
theorem first_all : ∀ a : Fin 5, ∀ b : Fin 5, firstAll ((a.val : Int) + 1) ((b.val : Int) + 1) = true := by decide +kernel
theorem kind_five {s : List UInt8} {ss : List (Int × Int)} {far : Bool} (h : kindL s = some (ss, far)) (hk : (s == [107, 110, 105, 103, 104, 116]) = false) : (ss, far) ∈ five := by
  unfold kindL at h
  rw [hk] at h
  repeat' (split at h)
  all_goals first | (simp only [Option.some.injEq] at h; rw [← h]; decide) | (exfalso; simp at *; done) | cases h
theorem first_in {bc br cell y : Int} {far : Bool} {ss : List (Int × Int)} (hB : Brd bc br) (h5 : (ss, far) ∈ five) (g1 : 0 ≤ cell) (g2 : cell < bc * br) (hy : y ∈ cellsP bc br far (allP (bc * br).toNat) cell ss) : y ∈ cellsP bc br false [] cell both := by
  have h := boards (fun a b => firstAll a b = true) first_all hB
  simp only [firstAll, List.all_eq_true] at h
  have h := h _ h5 cell.toNat (by rw [List.mem_range]; omega)
  rw [show ((cell.toNat : Nat) : Int) = cell by omega] at h
  simpa using h y hy
theorem movesFromP_pos {bc br cell : Int} {s : List UInt8} {ss : List (Int × Int)} {far : Bool} (hk : kindL s = some (ss, far)) (hB : Brd bc br) (g1 : 0 ≤ cell) (g2 : cell < bc * br) : 1 ≤ (movesFromP bc br s cell).length := by
  obtain ⟨h1, h2, h3, h4⟩ := hB
  obtain ⟨m1, m2⟩ := mul_bd h1 h2 h3 h4
  obtain ⟨N, hN⟩ : ∃ N : Nat, bc * br = (N : Int) := ⟨(bc * br).toNat, by omega⟩
  simp only [movesFromP, hk]
  rw [if_pos ⟨⟨h1, h2, h3, h4⟩, g1, g2⟩]
  have hm := Met.start (N := N) (cell := cell) g1 (by omega)
  unfold movesP
  rw [hN]
  rw [show ((N : Int)).toNat = N from rfl]
  rw [bfs_len bc br far ss (fun x y hy => by
    unfold reachP at hy
    rw [List.mem_mergeSort] at hy
    have := cells_in h1 h2 h3 h4 y hy
    rwa [hN] at this) 26 _ 0 hm]
  omega
/-- What the law wants with all cells as others. -/
theorem stop_of {bc br cell : Int} {s : List UInt8} {ss : List (Int × Int)} {far : Bool} (hk : kindL s = some (ss, far)) (hB : Brd bc br) (g1 : 0 ≤ cell) (g2 : cell < bc * br) (k : List UInt8) (hkk : kindL k = some (both, false)) :
    ((s == [107, 110, 105, 103, 104, 116]) = false → ∀ y ∈ reachOfP bc br s cell (allP (bc * br).toNat), y ∈ reachOfP bc br k cell []) ∧ (∀ y ∈ reachOfP bc br s cell (allP (bc * br).toNat), y ∈ reachOfP bc br s cell []) ∧
    (reachOfP bc br s cell (allP (bc * br).toNat)).length ≤ (reachOfP bc br s cell []).length := by
  have ha : AscTo (bc * br) (allP (bc * br).toNat) (allP (bc * br).toNat).length := by
    have := allP_asc (bc * br).toNat
    rwa [show (((bc * br).toNat : Nat) : Int) = bc * br by omega] at this
  have e1 : reachOfP bc br s cell (allP (bc * br).toNat) = reachP bc br far (allP (bc * br).toNat) cell ss := by simp only [reachOfP, hk]; rw [if_pos ⟨hB, ⟨g1, g2⟩, ha⟩]
  have e2 : reachOfP bc br s cell [] = reachP bc br far [] cell ss := by simp only [reachOfP, hk]; rw [if_pos ⟨hB, ⟨g1, g2⟩, AscTo.zero _ _⟩]
  have e3 : reachOfP bc br k cell [] = reachP bc br false [] cell both := by simp only [reachOfP, hkk]; rw [if_pos ⟨hB, ⟨g1, g2⟩, AscTo.zero _ _⟩]
  rw [e1, e2, e3]
  refine ⟨fun h y hy => ?_, fun y hy => ?_, ?_⟩
  · rw [reach_mem] at hy ⊢
    exact first_in hB (kind_five hk h) g1 g2 hy
  · rw [reach_mem] at hy ⊢
    exact (cells_sub bc br far ss cell _).subset hy
  · unfold reachP
    rw [List.length_mergeSort, List.length_mergeSort]
    exact (cells_sub bc br far ss cell _).length_le
end Go.Proofs.Ytljojjkaeclcfaa

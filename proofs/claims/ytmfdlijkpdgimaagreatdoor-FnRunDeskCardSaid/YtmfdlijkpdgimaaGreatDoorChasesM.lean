/-
  ChaseP, ChaseA, RowsC, ChaseB, ChaseC, ChaseF, ChaseG in one text.
-/
import Derived.Test.YtmfdlijkpdgimaaGreatDoorGuardM
import Derived.Test.YtmfdlijkpdgimaaGreatDoorSpecM
import Derived.Test.YtmfdlijkpdgimaaGreatDoorProg
import Derived.Test.YtmfdlijkpdgimaaGreatDoorBase
import Derived.StillTailTactics
/-
  Chases, purely: in how many moves each is caught, on each small board by each kind; the cells that are folded away.
-/
namespace Go.Proofs.YtmfdlijkpdgimaaGreatDoor
open Go.RowKit
set_option linter.unusedVariables false

/-- Sets of cells reached; how many moves (one more than that, 0: never); what is folded away. -/
def chTab : List (List Nat × List (List Nat) × List Nat) := [
  ([0], [[1]], []),
  ([0, 0], [[1, 0], [0, 1]], []),
  ([2, 1], [[1, 2], [2, 1]], [0]),
  ([0, 0, 0], [[1, 0, 0], [0, 1, 0], [0, 0, 1]], []),
  ([2, 5, 2], [[1, 2, 3], [2, 1, 2], [3, 2, 1]], [0, 1]),
  ([6, 5, 3], [[1, 2, 2], [2, 1, 2], [2, 2, 1]], [0, 1]),
  ([0, 0, 0, 0], [[1, 0, 0, 0], [0, 1, 0, 0], [0, 0, 1, 0], [0, 0, 0, 1]], []),
  ([2, 5, 10, 4], [[1, 2, 4, 4], [2, 1, 2, 3], [3, 2, 1, 2], [4, 4, 2, 1]], [0, 1, 2]),
  ([6, 9, 9, 6], [[1, 2, 2, 0], [2, 1, 0, 2], [2, 0, 1, 2], [0, 2, 2, 1]], []),
  ([8, 4, 2, 1], [[1, 0, 0, 2], [0, 1, 2, 0], [0, 2, 1, 0], [2, 0, 0, 1]], [0, 1]),
  ([14, 13, 11, 7], [[1, 2, 2, 2], [2, 1, 2, 2], [2, 2, 1, 2], [2, 2, 2, 1]], [0, 1, 2]),
  ([0, 0, 0, 0, 0], [[1, 0, 0, 0, 0], [0, 1, 0, 0, 0], [0, 0, 1, 0, 0], [0, 0, 0, 1, 0], [0, 0, 0, 0, 1]], []),
  ([2, 5, 10, 20, 8], [[1, 2, 5, 5, 5], [2, 1, 2, 4, 4], [3, 2, 1, 2, 3], [4, 4, 2, 1, 2], [5, 5, 5, 2, 1]], [0, 1, 2, 3]),
  ([30, 29, 27, 23, 15], [[1, 2, 2, 2, 2], [2, 1, 2, 2, 2], [2, 2, 1, 2, 2], [2, 2, 2, 1, 2], [2, 2, 2, 2, 1]], [0, 1, 2, 3]),
  ([6, 9, 25, 38, 36, 24], [[1, 2, 2, 0, 0, 0], [2, 1, 0, 2, 0, 0], [2, 0, 1, 2, 2, 0], [0, 2, 2, 1, 0, 2], [0, 0, 2, 0, 1, 2], [0, 0, 0, 2, 2, 1]], []),
  ([8, 4, 34, 17, 8, 4], [[1, 0, 0, 2, 3, 0], [0, 1, 2, 0, 0, 3], [0, 2, 1, 0, 0, 2], [2, 0, 0, 1, 2, 0], [3, 0, 0, 2, 1, 0], [0, 3, 2, 0, 0, 1]], [0, 1, 2, 3]),
  ([10, 21, 34, 17, 42, 20], [[1, 2, 0, 2, 0, 0], [2, 1, 2, 0, 2, 0], [0, 2, 1, 0, 0, 2], [2, 0, 0, 1, 2, 0], [0, 2, 0, 2, 1, 2], [0, 0, 2, 0, 2, 1]], []),
  ([14, 13, 59, 55, 44, 28], [[1, 2, 2, 2, 3, 3], [2, 1, 2, 2, 3, 3], [2, 2, 1, 2, 2, 2], [2, 2, 2, 1, 2, 2], [3, 3, 2, 2, 1, 2], [3, 3, 2, 2, 2, 1]], [0, 1, 2, 3, 4]),
  ([14, 21, 35, 49, 42, 28], [[1, 2, 2, 2, 0, 0], [2, 1, 2, 0, 2, 0], [2, 2, 1, 0, 0, 2], [2, 0, 0, 1, 2, 2], [0, 2, 0, 2, 1, 2], [0, 0, 2, 2, 2, 1]], []),
  ([16, 40, 16, 2, 5, 2], [[1, 0, 3, 0, 2, 0], [0, 1, 0, 2, 0, 2], [3, 0, 1, 0, 2, 0], [0, 2, 0, 1, 0, 3], [2, 0, 2, 0, 1, 0], [0, 2, 0, 3, 0, 1]], [0, 2, 3, 1]),
  ([22, 41, 25, 38, 37, 26], [[1, 2, 2, 0, 2, 0], [2, 1, 0, 2, 0, 2], [2, 0, 1, 2, 2, 0], [0, 2, 2, 1, 0, 2], [2, 0, 2, 0, 1, 2], [0, 2, 0, 2, 2, 1]], []),
  ([26, 61, 50, 19, 47, 22], [[1, 2, 3, 2, 2, 3], [2, 1, 2, 2, 2, 2], [3, 2, 1, 3, 2, 2], [2, 2, 3, 1, 2, 3], [2, 2, 2, 2, 1, 2], [3, 2, 2, 3, 2, 1]], [0, 1, 2, 3, 4]),
  ([30, 45, 59, 55, 45, 30], [[1, 2, 2, 2, 2, 3], [2, 1, 2, 2, 3, 2], [2, 2, 1, 2, 2, 2], [2, 2, 2, 1, 2, 2], [2, 3, 2, 2, 1, 2], [3, 2, 2, 2, 2, 1]], [0, 1, 2, 3, 4]),
  ([30, 61, 51, 51, 47, 30], [[1, 2, 2, 2, 2, 3], [2, 1, 2, 2, 2, 2], [2, 2, 1, 3, 2, 2], [2, 2, 3, 1, 2, 2], [2, 2, 2, 2, 1, 2], [3, 2, 2, 2, 2, 1]], [0, 1, 2, 3, 4]),
  ([32, 0, 8, 4, 0, 1], [[1, 0, 0, 0, 0, 2], [0, 1, 0, 0, 0, 0], [0, 0, 1, 2, 0, 0], [0, 0, 2, 1, 0, 0], [0, 0, 0, 0, 1, 0], [2, 0, 0, 0, 0, 1]], [0, 2]),
  ([32, 16, 0, 0, 2, 1], [[1, 0, 0, 0, 0, 2], [0, 1, 0, 0, 2, 0], [0, 0, 1, 0, 0, 0], [0, 0, 0, 1, 0, 0], [0, 2, 0, 0, 1, 0], [2, 0, 0, 0, 0, 1]], [0, 1]),
  ([6, 9, 25, 38, 100, 152, 144, 96], [[1, 2, 2, 0, 0, 0, 0, 0], [2, 1, 0, 2, 0, 0, 0, 0], [2, 0, 1, 2, 2, 0, 0, 0], [0, 2, 2, 1, 0, 2, 0, 0], [0, 0, 2, 0, 1, 2, 2, 0], [0, 0, 0, 2, 2, 1, 0, 2], [0, 0, 0, 0, 2, 0, 1, 2], [0, 0, 0, 0, 0, 2, 2, 1]], []),
  ([8, 4, 34, 17, 136, 68, 32, 16], [[1, 0, 0, 2, 4, 0, 0, 4], [0, 1, 2, 0, 0, 4, 4, 0], [0, 2, 1, 0, 0, 2, 3, 0], [2, 0, 0, 1, 2, 0, 0, 3], [3, 0, 0, 2, 1, 0, 0, 2], [0, 3, 2, 0, 0, 1, 2, 0], [0, 4, 4, 0, 0, 2, 1, 0], [4, 0, 0, 4, 2, 0, 0, 1]], [0, 1, 2, 3, 4, 5]),
  ([14, 13, 59, 55, 236, 220, 176, 112], [[1, 2, 2, 2, 4, 4, 4, 4], [2, 1, 2, 2, 4, 4, 4, 4], [2, 2, 1, 2, 2, 2, 3, 3], [2, 2, 2, 1, 2, 2, 3, 3], [3, 3, 2, 2, 1, 2, 2, 2], [3, 3, 2, 2, 2, 1, 2, 2], [4, 4, 4, 4, 2, 2, 1, 2], [4, 4, 4, 4, 2, 2, 2, 1]], [0, 1, 2, 3, 4, 5, 6]),
  ([18, 37, 74, 132, 33, 82, 164, 72], [[1, 2, 0, 0, 2, 0, 0, 0], [2, 1, 2, 0, 0, 2, 0, 0], [0, 2, 1, 2, 0, 0, 2, 0], [0, 0, 2, 1, 0, 0, 0, 2], [2, 0, 0, 0, 1, 2, 0, 0], [0, 2, 0, 0, 2, 1, 2, 0], [0, 0, 2, 0, 0, 2, 1, 2], [0, 0, 0, 2, 0, 0, 2, 1]], []),
  ([30, 45, 75, 135, 225, 210, 180, 120], [[1, 2, 2, 2, 2, 0, 0, 0], [2, 1, 2, 2, 0, 2, 0, 0], [2, 2, 1, 2, 0, 0, 2, 0], [2, 2, 2, 1, 0, 0, 0, 2], [2, 0, 0, 0, 1, 2, 2, 2], [0, 2, 0, 0, 2, 1, 2, 2], [0, 0, 2, 0, 2, 2, 1, 2], [0, 0, 0, 2, 2, 2, 2, 1]], []),
  ([32, 16, 128, 64, 2, 1, 8, 4], [[1, 0, 0, 0, 0, 2, 0, 0], [0, 1, 0, 0, 2, 0, 0, 0], [0, 0, 1, 0, 0, 0, 0, 2], [0, 0, 0, 1, 0, 0, 2, 0], [0, 2, 0, 0, 1, 0, 0, 0], [2, 0, 0, 0, 0, 1, 0, 0], [0, 0, 0, 2, 0, 0, 1, 0], [0, 0, 2, 0, 0, 0, 0, 1]], [0, 1, 2, 3]),
  ([32, 80, 160, 64, 2, 5, 10, 4], [[1, 0, 4, 0, 0, 2, 0, 4], [0, 1, 0, 3, 2, 0, 2, 0], [3, 0, 1, 0, 0, 2, 0, 2], [0, 4, 0, 1, 4, 0, 2, 0], [0, 2, 0, 4, 1, 0, 4, 0], [2, 0, 2, 0, 0, 1, 0, 3], [0, 2, 0, 2, 3, 0, 1, 0], [4, 0, 2, 0, 0, 4, 0, 1]], [0, 3, 4, 1, 5, 2]),
  ([50, 117, 234, 196, 35, 87, 174, 76], [[1, 2, 4, 4, 2, 2, 4, 4], [2, 1, 2, 3, 2, 2, 2, 3], [3, 2, 1, 2, 3, 2, 2, 2], [4, 4, 2, 1, 4, 4, 2, 2], [2, 2, 4, 4, 1, 2, 4, 4], [2, 2, 2, 3, 2, 1, 2, 3], [3, 2, 2, 2, 3, 2, 1, 2], [4, 4, 2, 2, 4, 4, 2, 1]], [0, 1, 2, 3, 4, 5, 6]),
  ([62, 125, 235, 199, 227, 215, 190, 124], [[1, 2, 2, 2, 2, 2, 4, 4], [2, 1, 2, 2, 2, 2, 2, 3], [2, 2, 1, 2, 3, 2, 2, 2], [2, 2, 2, 1, 4, 4, 2, 2], [2, 2, 4, 4, 1, 2, 2, 2], [2, 2, 2, 3, 2, 1, 2, 2], [3, 2, 2, 2, 2, 2, 1, 2], [4, 4, 2, 2, 2, 2, 2, 1]], [0, 1, 2, 3, 4, 5, 6]),
  ([64, 128, 16, 32, 4, 8, 1, 2], [[1, 0, 0, 0, 0, 0, 2, 0], [0, 1, 0, 0, 0, 0, 0, 2], [0, 0, 1, 0, 2, 0, 0, 0], [0, 0, 0, 1, 0, 2, 0, 0], [0, 0, 2, 0, 1, 0, 0, 0], [0, 0, 0, 2, 0, 1, 0, 0], [2, 0, 0, 0, 0, 0, 1, 0], [0, 2, 0, 0, 0, 0, 0, 1]], [0, 1, 2, 3]),
  ([86, 169, 89, 166, 101, 154, 149, 106], [[1, 2, 2, 0, 2, 0, 2, 0], [2, 1, 0, 2, 0, 2, 0, 2], [2, 0, 1, 2, 2, 0, 2, 0], [0, 2, 2, 1, 0, 2, 0, 2], [2, 0, 2, 0, 1, 2, 2, 0], [0, 2, 0, 2, 2, 1, 0, 2], [2, 0, 2, 0, 2, 0, 1, 2], [0, 2, 0, 2, 0, 2, 2, 1]], []),
  ([94, 173, 123, 183, 237, 222, 181, 122], [[1, 2, 2, 2, 2, 4, 2, 4], [2, 1, 2, 2, 4, 2, 4, 2], [2, 2, 1, 2, 2, 2, 2, 3], [2, 2, 2, 1, 2, 2, 3, 2], [2, 3, 2, 2, 1, 2, 2, 2], [3, 2, 2, 2, 2, 1, 2, 2], [2, 4, 2, 4, 2, 2, 1, 2], [4, 2, 4, 2, 2, 2, 2, 1]], [0, 1, 2, 3, 4, 5, 6]),
  ([10, 21, 34, 81, 170, 276, 136, 336, 160], [[1, 2, 0, 2, 0, 0, 0, 0, 0], [2, 1, 2, 0, 2, 0, 0, 0, 0], [0, 2, 1, 0, 0, 2, 0, 0, 0], [2, 0, 0, 1, 2, 0, 2, 0, 0], [0, 2, 0, 2, 1, 2, 0, 2, 0], [0, 0, 2, 0, 2, 1, 0, 0, 2], [0, 0, 0, 2, 0, 0, 1, 2, 0], [0, 0, 0, 0, 2, 0, 2, 1, 2], [0, 0, 0, 0, 0, 2, 0, 2, 1]], []),
  ([26, 61, 50, 211, 495, 406, 152, 376, 176], [[1, 2, 3, 2, 2, 3, 3, 3, 3], [2, 1, 2, 2, 2, 2, 3, 3, 3], [3, 2, 1, 3, 2, 2, 3, 3, 3], [2, 2, 3, 1, 2, 3, 2, 2, 3], [2, 2, 2, 2, 1, 2, 2, 2, 2], [3, 2, 2, 3, 2, 1, 3, 2, 2], [3, 3, 3, 2, 2, 3, 1, 2, 3], [3, 3, 3, 2, 2, 2, 2, 1, 2], [3, 3, 3, 3, 2, 2, 3, 2, 1]], [0, 1, 2, 3, 4, 5, 6, 7]),
  ([78, 149, 291, 113, 170, 284, 393, 338, 228], [[1, 2, 2, 2, 0, 0, 2, 0, 0], [2, 1, 2, 0, 2, 0, 0, 2, 0], [2, 2, 1, 0, 0, 2, 0, 0, 2], [2, 0, 0, 1, 2, 2, 2, 0, 0], [0, 2, 0, 2, 1, 2, 0, 2, 0], [0, 0, 2, 2, 2, 1, 0, 0, 2], [2, 0, 0, 2, 0, 0, 1, 2, 2], [0, 2, 0, 0, 2, 0, 2, 1, 2], [0, 0, 2, 0, 0, 2, 2, 2, 1]], []),
  ([160, 320, 136, 260, 0, 65, 34, 5, 10], [[1, 0, 0, 0, 0, 2, 0, 2, 0], [0, 1, 0, 0, 0, 0, 2, 0, 2], [0, 0, 1, 2, 0, 0, 0, 2, 0], [0, 0, 2, 1, 0, 0, 0, 0, 2], [0, 0, 0, 0, 1, 0, 0, 0, 0], [2, 0, 0, 0, 0, 1, 2, 0, 0], [0, 2, 0, 0, 0, 2, 1, 0, 0], [2, 0, 2, 0, 0, 0, 0, 1, 0], [0, 2, 0, 2, 0, 0, 0, 0, 1]], []),
  ([272, 40, 80, 130, 325, 130, 20, 40, 17], [[1, 0, 3, 0, 2, 0, 3, 0, 2], [0, 1, 0, 2, 0, 2, 0, 0, 0], [3, 0, 1, 0, 2, 0, 2, 0, 3], [0, 2, 0, 1, 0, 0, 0, 2, 0], [2, 0, 2, 0, 1, 0, 2, 0, 2], [0, 2, 0, 0, 0, 1, 0, 2, 0], [3, 0, 2, 0, 2, 0, 1, 0, 3], [0, 0, 0, 2, 0, 2, 0, 1, 0], [2, 0, 3, 0, 2, 0, 3, 0, 1]], [0, 2, 6, 4]),
  ([350, 189, 371, 243, 495, 414, 413, 378, 245], [[1, 2, 2, 2, 2, 3, 2, 3, 2], [2, 1, 2, 2, 2, 2, 3, 2, 3], [2, 2, 1, 3, 2, 2, 2, 3, 2], [2, 2, 3, 1, 2, 2, 2, 2, 3], [2, 2, 2, 2, 1, 2, 2, 2, 2], [3, 2, 2, 2, 2, 1, 3, 2, 2], [2, 3, 2, 2, 2, 3, 1, 2, 2], [3, 2, 3, 2, 2, 2, 2, 1, 2], [2, 3, 2, 3, 2, 2, 2, 2, 1]], [0, 1, 2, 3, 4, 5, 6, 7])]
def chOf (L : List Nat) : List (List Nat) × List Nat := ((chTab.find? (fun e => e.1 == L)).map (·.2)).getD ([], [])
def catN (L : List Nat) : List (List Nat) := (chOf L).1
def foldN (L : List Nat) : List Nat := (chOf L).2
def cAt (C : List (List Nat)) (i k : Nat) : Nat := (C[i]?.getD [])[k]?.getD 0
/-- A piece goes there, or stays. -/
def nearN (L : List Nat) (i x : Nat) : Bool := x == i || bitN (L[i]?.getD 0) x == 1
/-- Wherever the other one goes, of the first y cells, it is caught in fewer than t moves. -/
def allTo (L : List Nat) (C : List (List Nat)) (k x t : Nat) : Nat → Bool
  | 0 => true
  | y + 1 => allTo L C k x t y && !(nearN L k y && !(decide (1 ≤ cAt C x y) && decide (cAt C x y ≤ t)))
/-- A move to one of the first x cells does it. -/
def canTo (L : List Nat) (C : List (List Nat)) (i k t : Nat) : Nat → Bool
  | 0 => false
  | x + 1 => canTo L C i k t x || (nearN L i x && (x == k || allTo L C k x t L.length))
def topN (C : List (List Nat)) : Nat := C.foldl (fun a r => r.foldl max a) 0
structure CatOk (L : List Nat) (C : List (List Nat)) : Prop where
  len : C.length = L.length
  row : ∀ r ∈ C, r.length = L.length
  top : ∀ i k, i < L.length → k < L.length → cAt C i k ≤ topN C
  low : 1 ≤ topN C ∧ topN C ≤ 5
  diag : ∀ i, i < L.length → cAt C i i = 1
  off : ∀ i k, i < L.length → k < L.length → i ≠ k → cAt C i k ≠ 1
  can : ∀ i k t, i < L.length → k < L.length → i ≠ k → 1 ≤ t → t ≤ topN C → canTo L C i k t L.length = (decide (2 ≤ cAt C i k) && decide (cAt C i k ≤ t + 1))
  each : ∀ t, 2 ≤ t → t ≤ topN C → ∃ i k, i < L.length ∧ k < L.length ∧ cAt C i k = t
def catOk (L : List Nat) (C : List (List Nat)) : Bool :=
  C.length == L.length && C.all (fun r => r.length == L.length) && decide (1 ≤ topN C) && decide (topN C ≤ 5)
  && ((List.range L.length).all fun i => (List.range L.length).all fun k => decide (cAt C i k ≤ topN C) && (if i == k then cAt C i k == 1 else cAt C i k != 1 && (List.range (topN C)).all fun t => canTo L C i k (t + 1) L.length == (decide (2 ≤ cAt C i k) && decide (cAt C i k ≤ t + 2))))
  && ((List.range (topN C - 1)).all fun t => (List.range L.length).any fun i => (List.range L.length).any fun k => cAt C i k == t + 2)
theorem catOk_is {L : List Nat} {C : List (List Nat)} (h : catOk L C = true) : CatOk L C := by
  unfold catOk at h
  simp only [Bool.and_eq_true, decide_eq_true_eq, beq_iff_eq] at h
  obtain ⟨⟨⟨⟨⟨h1, h2⟩, h3⟩, h4⟩, h5⟩, h6⟩ := h
  have h5' : ∀ i k, i < L.length → k < L.length → _ := fun i k hi hk => (Bool.and_eq_true _ _).mp (List.all_eq_true.1 (List.all_eq_true.1 h5 i (List.mem_range.2 hi)) k (List.mem_range.2 hk))
  refine ⟨h1, fun r hr => beq_iff_eq.1 (List.all_eq_true.1 h2 r hr), fun i k hi hk => of_decide_eq_true (h5' i k hi hk).1, ⟨h3, h4⟩, fun i hi => ?_, fun i k hi hk hne => ?_, fun i k t hi hk hne h1t ht => ?_, fun t h2t ht => ?_⟩
  · have := (h5' i i hi hi).2
    rw [if_pos (by simp)] at this
    exact beq_iff_eq.1 this
  · have := (h5' i k hi hk).2
    rw [if_neg (by simpa using hne), Bool.and_eq_true] at this
    exact bne_iff_ne.1 this.1
  · have := (h5' i k hi hk).2
    rw [if_neg (by simpa using hne), Bool.and_eq_true] at this
    have := beq_iff_eq.1 (List.all_eq_true.1 this.2 (t - 1) (List.mem_range.2 (by omega)))
    rw [show t - 1 + 1 = t by omega, show t - 1 + 2 = t + 1 by omega] at this
    exact this
  · have := List.all_eq_true.1 h6 (t - 2) (List.mem_range.2 (by omega))
    obtain ⟨i, hi, this⟩ := List.any_eq_true.1 this
    obtain ⟨k, hk, this⟩ := List.any_eq_true.1 this
    exact ⟨i, k, List.mem_range.1 hi, List.mem_range.1 hk, by have := beq_iff_eq.1 this; omega⟩
def catAll (bc br : Nat) (p : List (Int × Int) × Bool) : Bool := catOk (setsP bc br p.2 p.1) (catN (setsP bc br p.2 p.1))
theorem tab_ok : chTab.all (fun e => catOk e.1 e.2.1) = true := by decide +kernel
def inTab (bc br : Nat) (p : List (Int × Int) × Bool) : Bool := chTab.any fun e => e.1 == setsP bc br p.2 p.1
theorem in_tab : ∀ a : Fin 5, ∀ b : Fin 5, (a.val + 1) * (b.val + 1) ≤ 9 → kinds6.all (inTab (a.val + 1) (b.val + 1)) = true := by decide +kernel
theorem chOf_mem {L : List Nat} (h : (chTab.any fun e => e.1 == L) = true) : ∃ e ∈ chTab, e.1 = L ∧ chOf L = e.2 := by
  unfold chOf
  cases hf : chTab.find? (fun e => e.1 == L) with
  | none =>
    obtain ⟨e, he, hq⟩ := List.any_eq_true.1 h
    exact absurd hq (List.find?_eq_none.1 hf e he)
  | some e => exact ⟨e, List.mem_of_find?_eq_some hf, beq_iff_eq.1 (List.find?_some (p := fun (e : List Nat × List (List Nat) × List Nat) => e.1 == L) hf), rfl⟩
theorem cat_ok {L : List Nat} (h : (chTab.any fun e => e.1 == L) = true) : CatOk L (catN L) := by
  obtain ⟨e, he, h1, h2⟩ := chOf_mem h
  have := catOk_is (List.all_eq_true.1 tab_ok e he)
  unfold catN
  rw [h2, ← h1]
  exact this
/-- The cell i may be folded away behind the cell k. -/
def fitF (L : List Nat) (left i k : Nat) : Bool := i != k && bitN left i == 1 && bitN left k == 1 && ((((L[i]?.getD 0) ||| 2 ^ i) &&& left) &&& ((L[k]?.getD 0) ||| 2 ^ k) == (((L[i]?.getD 0) ||| 2 ^ i) &&& left))
def fitTo (L : List Nat) (left i : Nat) : Nat → Bool
  | 0 => false
  | k + 1 => fitTo L left i k || fitF L left i k
/-- The first of the first i cells that may be folded away. -/
def firstTo (L : List Nat) (left : Nat) : Nat → Option Nat
  | 0 => none
  | i + 1 => match firstTo L left i with
    | some x => some x
    | none => if fitTo L left i L.length then some i else none
def foldFrom (L : List Nat) : Nat → Nat → Option (List Nat)
  | 0, _ => none
  | f + 1, left => match firstTo L left L.length with
    | none => some []
    | some i => (foldFrom L f (left - 2 ^ i)).map (i :: ·)
theorem fold_ok : chTab.all (fun e => foldFrom e.1 (e.1.length + 1) (2 ^ e.1.length - 1) == some e.2.2) = true := by decide +kernel
end Go.Proofs.YtmfdlijkpdgimaaGreatDoor

/-
  Chases: the model's caughtBy.
-/
namespace Go.Proofs.YtmfdlijkpdgimaaGreatDoor
open Go.RowKit
set_option linter.unusedVariables false

theorem canTo_more {L : List Nat} {C : List (List Nat)} {i k t x : Nat} (h : canTo L C i k t x = true) : ∀ m, canTo L C i k t (x + m) = true
  | 0 => h
  | m + 1 => by
    show (canTo L C i k t (x + m) || _) = true
    rw [canTo_more h m, Bool.true_or]
theorem canTo_all {L : List Nat} {C : List (List Nat)} {i k t x n : Nat} (h : canTo L C i k t x = true) (hx : x ≤ n) : canTo L C i k t n = true := by
  have := canTo_more h (n - x)
  rwa [show x + (n - x) = n by omega] at this
end Go.Proofs.YtmfdlijkpdgimaaGreatDoor

/-
  Rows of rows of the call's own, in memory.
-/
namespace Go.Proofs.YtmfdlijkpdgimaaGreatDoor
open Go.RowKit
set_option linter.unusedVariables false

abbrev Mat := List (List Int)
def matAt (M : Mat) (i j : Nat) : Int := (M[i]?.getD [])[j]?.getD 0
/-- A row of numbers of the call's own: its cells, and one of them written. -/
theorem own_int {W : World} {base g n c : Nat} {L : List Int} (h : W.ownsRow base 3 1 (.slice (some ⟨g, 0, none⟩) n c) n (ints L)) {k : Nat} (hk : k < n) (b : Int) :
    W.cell? ⟨g, k, none⟩ = some (.int .i64 (L[k]?.getD 0)) ∧ W.frozen? ⟨g, k, none⟩ = false ∧ (W.setCell ⟨g, k, none⟩ (.int .i64 b)).ownsRow base 3 1 (.slice (some ⟨g, 0, none⟩) n c) n (ints (L.set k b)) ∧ W.grownBy (W.setCell ⟨g, k, none⟩ (.int .i64 b)) (some g) := by
  have hl : L.length = n := by have := h.1; simpa using this
  have hc := h.cellAt k (by omega)
  obtain ⟨o, gr⟩ := h.stored k (.int .i64 b)
  refine ⟨?_, h.frozenAt k, ?_, gr⟩
  · rw [hc]; simp [List.getElem?_eq_getElem (show k < L.length by omega)]
  · rw [show (ints L).set k (.int .i64 b) = ints (L.set k b) by simp [ints, List.map_set]] at o
    exact o
theorem own_intv {w : World} {base n : Nat} {v : Value} {cs : List Value} (h : w.ownsRow base 3 1 v n cs) (hn : 0 < n) : ∃ g c, v = .slice (some ⟨g, 0, none⟩) n c ∧ base ≤ g := by
  rcases h.2 with ⟨_, rfl⟩ | ⟨g, cap, cur, e, hb, _⟩
  · omega
  · exact ⟨g, cap, e, hb⟩
def vsOf (n : Nat) (ps : List (Nat × Nat)) : List Value := ps.map fun p => .slice (some ⟨p.1, 0, none⟩) n p.2
theorem vsOf_len (n : Nat) (ps : List (Nat × Nat)) : (vsOf n ps).length = ps.length := by simp [vsOf]
theorem vsOf_at {n : Nat} {ps : List (Nat × Nat)} {i : Nat} (h : i < ps.length) : (vsOf n ps)[i]? = some (.slice (some ⟨ps[i].1, 0, none⟩) n ps[i].2) := by simp [vsOf, h]
/-- Rows of the call's own, each its own block. -/
structure RowsAt (w : World) (base n : Nat) (ps : List (Nat × Nat)) (M : Mat) : Prop where
  len : ps.length = M.length
  own : ∀ i (h : i < ps.length), w.ownsRow base 3 1 (.slice (some ⟨ps[i].1, 0, none⟩) n ps[i].2) n (ints (M[i]?.getD []))
  apart : ∀ i j (hi : i < ps.length) (hj : j < ps.length), i ≠ j → ps[i].1 ≠ ps[j].1
theorem RowsAt.kept {w w' : World} {base n : Nat} {ps : List (Nat × Nat)} {M : Mat} (h : RowsAt w base n ps M) {r : Option Nat} (hg : w.grownBy w' r) (hr : ∀ i (hi : i < ps.length), r ≠ some ps[i].1) : RowsAt w' base n ps M :=
  ⟨h.len, fun i hi => (h.own i hi).kept hg (by
    right
    intro e
    cases r with
    | none => cases e
    | some k => exact hr i hi e.symm), h.apart⟩
theorem RowsAt.drew {w : World} {base n : Nat} {ps : List (Nat × Nat)} {M : Mat} (h : RowsAt w base n ps M) : RowsAt w.drew base n ps M := ⟨h.len, fun i hi => (h.own i hi).drew, h.apart⟩
theorem RowsAt.lt {w : World} {base n : Nat} {ps : List (Nat × Nat)} {M : Mat} (h : RowsAt w base n ps M) (i : Nat) (hi : i < ps.length) : base ≤ ps[i].1 ∧ ps[i].1 < w.heap.size := (h.own i hi).lt _ rfl
theorem RowsAt.rowlen {w : World} {base n : Nat} {ps : List (Nat × Nat)} {M : Mat} (h : RowsAt w base n ps M) (i : Nat) (hi : i < ps.length) : (M[i]?.getD []).length = n := by
  have := (h.own i hi).1
  simpa using this
theorem RowsAt.snoc {w : World} {base n b c : Nat} {ps : List (Nat × Nat)} {M : Mat} {r : List Int} (h : RowsAt w base n ps M) (hr : w.ownsRow base 3 1 (.slice (some ⟨b, 0, none⟩) n c) n (ints r)) (hb : ∀ i (hi : i < ps.length), ps[i].1 ≠ b) : RowsAt w base n (ps ++ [(b, c)]) (M ++ [r]) := by
  have hl := h.len
  refine ⟨by simp [hl], fun i hi => ?_, fun i j hi hj hij => ?_⟩
  · by_cases e : i < ps.length
    · rw [List.getElem_append_left e, List.getElem?_append_left (by omega)]
      exact h.own i e
    · have e' : i = ps.length := by simp at hi; omega
      subst e'
      rw [List.getElem_append_right (Nat.le_refl _), List.getElem?_append_right (by omega)]
      simp [hl]
      exact hr
  · simp only [List.length_append, List.length_singleton] at hi hj
    by_cases e : i < ps.length
    · by_cases e' : j < ps.length
      · rw [List.getElem_append_left e, List.getElem_append_left e']
        exact h.apart i j e e' hij
      · have : j = ps.length := by omega
        subst this
        rw [List.getElem_append_left e, List.getElem_append_right (Nat.le_refl _)]
        simpa using hb i e
    · have : i = ps.length := by omega
      subst this
      have e' : j < ps.length := by omega
      rw [List.getElem_append_left e', List.getElem_append_right (Nat.le_refl _)]
      simpa using fun h' => hb j e' h'.symm
/-- One number written. -/
theorem RowsAt.put {w : World} {base n i j : Nat} {ps : List (Nat × Nat)} {M : Mat} (h : RowsAt w base n ps M) (hi : i < ps.length) (hj : j < n) (u : Int) :
    RowsAt (w.setCell ⟨ps[i].1, j, none⟩ (.int .i64 u)) base n ps (M.set i ((M[i]?.getD []).set j u)) ∧ w.grownBy (w.setCell ⟨ps[i].1, j, none⟩ (.int .i64 u)) (some ps[i].1) := by
  have hl := h.len
  obtain ⟨_, _, o3, o4⟩ := own_int (h.own i hi) hj u
  refine ⟨⟨by simp [hl], fun a ha => ?_, h.apart⟩, o4⟩
  by_cases e : a = i
  · subst e
    rw [List.getElem?_set_self (by omega)]
    exact o3
  · rw [List.getElem?_set_ne (fun h' => e h'.symm)]
    exact (h.own a ha).kept o4 (.inr (fun e' => h.apart a i ha hi e (by injection (show some ps[a].1 = some ps[i].1 from e'))))
/-- Its cells. -/
theorem RowsAt.cell {w : World} {base n i j : Nat} {ps : List (Nat × Nat)} {M : Mat} (h : RowsAt w base n ps M) (hi : i < ps.length) (hj : j < n) : w.cell? ⟨ps[i].1, j, none⟩ = some (.int .i64 (matAt M i j)) ∧ w.frozen? ⟨ps[i].1, j, none⟩ = false := by
  obtain ⟨o1, o2, _⟩ := own_int (h.own i hi) hj 0
  exact ⟨o1, o2⟩
/-- The row of the rows. -/
theorem hdr_cell {w : World} {base n gm cm e k : Nat} {ps : List (Nat × Nat)} (h : w.ownsRow base e 1 (.slice (some ⟨gm, 0, none⟩) n cm) n (vsOf n ps)) (hk : k < ps.length) : w.cell? ⟨gm, k, none⟩ = some (.slice (some ⟨ps[k].1, 0, none⟩) n ps[k].2) ∧ w.frozen? ⟨gm, k, none⟩ = false := by
  have := h.cellAt k (by have := h.1; rw [vsOf_len] at this; omega)
  rw [vsOf_at hk] at this
  exact ⟨this, h.frozenAt k⟩
theorem elem_rowv : Elem Tryz.prog 35 1 24 := Elem.of (z := .slice none 0 0) (by kernel_rfl) rfl (by omega)
theorem own_free1 {w w' : World} {base e size n : Nat} {v : Value} {xs : List Value} {r : Option Nat} (h : w.ownsRow base e size v n xs) (hg : w.grownBy w' r) (hne : v.ownBlock ≠ r) : w'.ownsRow base e size v n xs := h.kept hg (.inr hne)
theorem own_rowv {w : World} {base n e : Nat} {v : Value} {cs : List Value} (h : w.ownsRow base e 1 v n cs) (hn : 0 < n) : ∃ g c, v = .slice (some ⟨g, 0, none⟩) n c ∧ base ≤ g := by
  rcases h.2 with ⟨_, rfl⟩ | ⟨g, cap, cur, e, hb, _⟩
  · omega
  · exact ⟨g, cap, e, hb⟩
theorem one_row (v : Value) (h : v.oneCell' = true) : ∀ u ∈ [v], u.oneCell' = true := by
  intro u hu
  rw [List.mem_singleton.1 hu]; exact h
theorem RowsAt.below {w w' : World} {base n : Nat} {ps : List (Nat × Nat)} {M : Mat} (h : RowsAt w base n ps M) (hb : Below w.heap.size w w') : RowsAt w' base n ps M := ⟨h.len, fun i hi => own_below (h.own i hi) hb, h.apart⟩
/-- A matrix by its numbers. -/
def gridM (n : Nat) (f : Nat → Nat → Int) : Mat := (List.range n).map fun a => (List.range n).map fun b => f a b
theorem grid_len (n : Nat) (f : Nat → Nat → Int) : (gridM n f).length = n := by simp [gridM]
theorem grid_row {n a : Nat} {f : Nat → Nat → Int} (ha : a < n) : (gridM n f)[a]?.getD [] = (List.range n).map (f a) := by simp [gridM, ha]
theorem grid_at {n a b : Nat} {f : Nat → Nat → Int} (ha : a < n) (hb : b < n) : matAt (gridM n f) a b = f a b := by
  unfold matAt
  rw [grid_row ha]
  simp [hb]
theorem grid_congr {n : Nat} {f g : Nat → Nat → Int} (h : ∀ a b, a < n → b < n → f a b = g a b) : gridM n f = gridM n g := by
  unfold gridM
  refine List.map_congr_left fun a ha => List.map_congr_left fun b hb => ?_
  exact h a b (List.mem_range.1 ha) (List.mem_range.1 hb)
theorem grid_put {n i k : Nat} {f : Nat → Nat → Int} (hi : i < n) (hk : k < n) (u : Int) : (gridM n f).set i (((gridM n f)[i]?.getD []).set k u) = gridM n (fun a b => if a = i ∧ b = k then u else f a b) := by
  rw [grid_row hi]
  refine List.ext_getElem (by simp [gridM]) fun a h1 h2 => ?_
  have ha : a < n := by simpa [gridM] using h2
  rw [List.getElem_set]
  by_cases e : i = a
  · subst e
    rw [if_pos rfl]
    refine List.ext_getElem (by simp [gridM]) fun b h3 h4 => ?_
    have hb : b < n := by simpa [gridM] using h4
    rw [List.getElem_set]
    by_cases e : k = b
    · subst e; simp [gridM]
    · simp [gridM, e, Ne.symm e]
  · rw [if_neg e]
    simp [gridM, Ne.symm e]
theorem grid_take {n k : Nat} {f : Nat → Nat → Int} (hk : k < n) : (gridM n f).take (k + 1) = (gridM n f).take k ++ [(List.range n).map (f k)] := by
  rw [List.take_succ_eq_append_getElem (by rw [grid_len]; exact hk)]
  simp [gridM]
end Go.Proofs.YtmfdlijkpdgimaaGreatDoor

/-
  Chases: the model's catches.
-/
namespace Go.Proofs.YtmfdlijkpdgimaaGreatDoor
open Go.RowKit
set_option linter.unusedVariables false

def idV (a b : Nat) : Int := if a = b then 0 else -1
/-- What is known behind t rounds. -/
def maskV (C : List (List Nat)) (t a b : Nat) : Int := if 1 ≤ cAt C a b ∧ cAt C a b ≤ t + 1 then (cAt C a b : Int) - 1 else -1
/-- What is known in round t, ahead of the cell k of row i. -/
def stV (C : List (List Nat)) (t i k a b : Nat) : Int := if a < i ∨ (a = i ∧ b < k) then maskV C t a b else maskV C (t - 1) a b
/-- Whether the round has found something. -/
def Chg (C : List (List Nat)) (n t i k : Nat) : Prop := ∃ a b, a < n ∧ b < n ∧ (a < i ∨ (a = i ∧ b < k)) ∧ cAt C a b = t + 1
theorem mask_id {L : List Nat} {C : List (List Nat)} (h : CatOk L C) {a b : Nat} (ha : a < L.length) (hb : b < L.length) : maskV C 0 a b = idV a b := by
  unfold maskV idV
  by_cases e : a = b
  · subst e
    have := h.diag a ha
    rw [if_pos rfl, if_pos (by omega)]
    omega
  · have := h.off a b ha hb e
    rw [if_neg e, if_neg (by omega)]
theorem mask_top {L : List Nat} {C : List (List Nat)} (h : CatOk L C) {a b : Nat} (ha : a < L.length) (hb : b < L.length) : maskV C (topN C) a b = maskV C (topN C - 1) a b := by
  have := h.top a b ha hb
  have := h.low.1
  unfold maskV
  by_cases e : 1 ≤ cAt C a b
  · rw [if_pos (by omega), if_pos (by omega)]
  · rw [if_neg (by omega), if_neg (by omega)]
theorem st_fine (C : List (List Nat)) {t i k : Nat} (ht : 1 ≤ t) (x y : Nat) : 1 ≤ cAt C x y ∧ cAt C x y ≤ t ↔ 0 ≤ stV C t i k x y ∧ stV C t i k x y < (t : Int) := by
  unfold stV maskV
  split
  · split <;> omega
  · split <;> omega
theorem st_here (C : List (List Nat)) {t i k : Nat} : stV C t i k i k = maskV C (t - 1) i k := by
  unfold stV
  rw [if_neg (by omega)]
theorem st_same {C : List (List Nat)} {t i k : Nat} (ht : 1 ≤ t) (hc : cAt C i k ≠ t + 1) (a b : Nat) : stV C t i (k + 1) a b = stV C t i k a b := by
  unfold stV
  by_cases e : a = i ∧ b = k
  · obtain ⟨rfl, rfl⟩ := e
    rw [if_pos (by omega), if_neg (by omega)]
    unfold maskV
    by_cases e : 1 ≤ cAt C a b ∧ cAt C a b ≤ t
    · rw [if_pos (by omega), if_pos (by omega)]
    · rw [if_neg (by omega), if_neg (by omega)]
  · by_cases e' : a < i ∨ (a = i ∧ b < k)
    · rw [if_pos (by omega), if_pos e']
    · rw [if_neg (by omega), if_neg e']
theorem st_put {C : List (List Nat)} {t i k : Nat} (hc : cAt C i k = t + 1) (a b : Nat) : (if a = i ∧ b = k then (t : Int) else stV C t i k a b) = stV C t i (k + 1) a b := by
  by_cases e : a = i ∧ b = k
  · obtain ⟨rfl, rfl⟩ := e
    rw [if_pos ⟨rfl, rfl⟩]
    unfold stV maskV
    rw [if_pos (by omega), if_pos (by omega)]
    omega
  · rw [if_neg e]
    unfold stV
    by_cases e' : a < i ∨ (a = i ∧ b < k)
    · rw [if_pos e', if_pos (by omega)]
    · rw [if_neg e', if_neg (by omega)]
theorem st_next (C : List (List Nat)) {t i n : Nat} {a b : Nat} (hb : b < n) : stV C t i n a b = stV C t (i + 1) 0 a b := by
  unfold stV
  by_cases e : a < i ∨ (a = i ∧ b < n)
  · rw [if_pos e, if_pos (by omega)]
  · rw [if_neg e, if_neg (by omega)]
theorem st_first (C : List (List Nat)) (t a b : Nat) : stV C t 0 0 a b = maskV C (t - 1) a b := by
  unfold stV
  rw [if_neg (by omega)]
theorem st_last (C : List (List Nat)) {t n a b : Nat} (ha : a < n) : stV C t n 0 a b = maskV C t a b := by
  unfold stV
  rw [if_pos (by omega)]
theorem chg_same {C : List (List Nat)} {n t i k : Nat} (hc : cAt C i k ≠ t + 1) : Chg C n t i (k + 1) ↔ Chg C n t i k := by
  constructor
  · rintro ⟨a, b, ha, hb, ho, he⟩
    refine ⟨a, b, ha, hb, ?_, he⟩
    by_cases e : a = i ∧ b = k
    · obtain ⟨rfl, rfl⟩ := e
      exact absurd he hc
    · omega
  · rintro ⟨a, b, ha, hb, ho, he⟩
    exact ⟨a, b, ha, hb, by omega, he⟩
theorem chg_next {C : List (List Nat)} {n t i : Nat} : Chg C n t i n ↔ Chg C n t (i + 1) 0 := by
  constructor
  · rintro ⟨a, b, ha, hb, ho, he⟩
    exact ⟨a, b, ha, hb, by omega, he⟩
  · rintro ⟨a, b, ha, hb, ho, he⟩
    exact ⟨a, b, ha, hb, by omega, he⟩
theorem chg_first {C : List (List Nat)} {n t : Nat} : ¬ Chg C n t 0 0 := by
  rintro ⟨a, b, ha, hb, ho, he⟩
  omega
def CatchIs (n : Nat) (C : List (List Nat)) (W : World) (e : Ending) (w' : World) : Prop := ∃ gm cm ps, e = .returned (.slice (some ⟨gm, 0, none⟩) n cm) ∧ w'.ownsRow W.heap.size 35 1 (.slice (some ⟨gm, 0, none⟩) n cm) n (vsOf n ps) ∧ RowsAt w' W.heap.size n ps (gridM n (maskV C (topN C))) ∧ Below W.heap.size W w'
end Go.Proofs.YtmfdlijkpdgimaaGreatDoor

/-
  Chases: the model's CatchMoves.
-/
namespace Go.Proofs.YtmfdlijkpdgimaaGreatDoor
open Go.RowKit
set_option linter.unusedVariables false

/-- What is known of a small board and a kind. -/
structure ChaseOf (bc br : Int) (L : List Nat) (n : Nat) : Prop where
  len : L.length = n
  one : 1 ≤ n
  nine : n ≤ 9
  size : bc * br = (n : Int)
  sets : Sets9 L
  tab : (chTab.any fun e => e.1 == L) = true
theorem chase_of {bc br : Int} {s : List UInt8} {ss : List (Int × Int)} {far : Bool} (hS : Small bc br) (hk : kindL s = some (ss, far)) : ∃ n, ChaseOf bc br (setsP bc br far ss) n := by
  obtain ⟨h9s, hlen⟩ := sets9_of hS hk
  obtain ⟨h1, h2, h3, h4, h9⟩ := hS
  have h0 : 1 ≤ bc * br := (mul_bd h1 h2 h3 h4).1
  refine ⟨(setsP bc br far ss).length, rfl, by omega, h9s.len, hlen.symm, h9s, ?_⟩
  obtain ⟨a, rfl⟩ : ∃ a : Nat, bc = ((a + 1 : Nat) : Int) := ⟨(bc - 1).toNat, by omega⟩
  obtain ⟨b, rfl⟩ : ∃ b : Nat, br = ((b + 1 : Nat) : Int) := ⟨(br - 1).toNat, by omega⟩
  have h9' : (a + 1) * (b + 1) ≤ 9 := by
    have : (((a + 1) * (b + 1) : Nat) : Int) ≤ 9 := by rw [Int.natCast_mul]; exact h9
    omega
  exact List.all_eq_true.1 (in_tab ⟨a, by omega⟩ ⟨b, by omega⟩ h9') (ss, far) (kind_six6 hk)
/-- CatchMoves. -/
def catchV (bc br : Int) (s : List UInt8) (i k : Int) : Int := match smallK bc br s with
  | some (ss, far) => if (0 ≤ i ∧ i < bc * br) ∧ (0 ≤ k ∧ k < bc * br) then (cAt (catN (setsP bc br far ss)) i.toNat k.toNat : Int) - 1 else -1
  | none => -1
theorem mask_all {L : List Nat} {C : List (List Nat)} (h : CatOk L C) {a b : Nat} (ha : a < L.length) (hb : b < L.length) : maskV C (topN C) a b = (cAt C a b : Int) - 1 := by
  have := h.top a b ha hb
  unfold maskV
  by_cases e : 1 ≤ cAt C a b
  · rw [if_pos (by omega)]
  · rw [if_neg (by omega)]; omega
end Go.Proofs.YtmfdlijkpdgimaaGreatDoor

/-
  Chases: the model's foldOrder and FoldOrder.
-/
namespace Go.Proofs.YtmfdlijkpdgimaaGreatDoor
open Go.RowKit
set_option linter.unusedVariables false

theorem i64_andNotC (a b : Nat) (ha : a < 512) (hb : b < 512) : bits .andNot .i64 (a : Int) (b : Int) = ((a - (a &&& b) : Nat) : Int) := by
  have h1 : (BitVec.ofInt 64 (a : Int)).toNat = a := by
    rw [BitVec.ofInt_natCast, BitVec.toNat_ofNat]; exact Nat.mod_eq_of_lt (by omega)
  have h2 : (BitVec.ofInt 64 (b : Int)).toNat = b := by
    rw [BitVec.ofInt_natCast, BitVec.toNat_ofNat]; exact Nat.mod_eq_of_lt (by omega)
  show IntKind.i64.wrap ((BitVec.ofInt 64 (a : Int) &&& ~~~(BitVec.ofInt 64 (b : Int))).toNat : Int) = _
  generalize BitVec.ofInt 64 (a : Int) = X at *
  generalize BitVec.ofInt 64 (b : Int) = Y at *
  have hd : (X &&& ~~~Y) &&& (X &&& Y) = 0#64 := by
    apply BitVec.eq_of_getLsbD_eq
    intro i hi
    simp only [BitVec.getLsbD_and, BitVec.getLsbD_not, BitVec.getLsbD_zero]
    cases X.getLsbD i <;> cases Y.getLsbD i <;> simp
  have ho : (X &&& ~~~Y) + (X &&& Y) = X := by
    rw [BitVec.add_eq_or_of_and_eq_zero _ _ hd]
    apply BitVec.eq_of_getLsbD_eq
    intro i hi
    simp only [BitVec.getLsbD_and, BitVec.getLsbD_not, BitVec.getLsbD_or]
    cases X.getLsbD i <;> cases Y.getLsbD i <;> simp [hi]
  have hn := congrArg BitVec.toNat ho
  rw [BitVec.toNat_add, h1] at hn
  have l1 : (X &&& ~~~Y).toNat ≤ a := by rw [BitVec.toNat_and, h1]; exact Nat.and_le_left
  have l2 : (X &&& Y).toNat = a &&& b := by rw [BitVec.toNat_and, h1, h2]
  have l3 : a &&& b ≤ a := Nat.and_le_left
  rw [l2, Nat.mod_eq_of_lt (by omega)] at hn
  rw [IntWalk.i64_in _ (by omega)]
  omega
theorem bit_le {x i : Nat} (h : bitN x i = 1) : 2 ^ i ≤ x := by
  unfold bitN at h
  rcases Nat.lt_or_ge x (2 ^ i) with h' | h'
  · rw [Nat.div_eq_of_lt h'] at h; cases h
  · exact h'
theorem fit_more {L : List Nat} {l i k : Nat} (h : fitTo L l i k = true) : ∀ m, fitTo L l i (k + m) = true
  | 0 => h
  | m + 1 => by
    show (fitTo L l i (k + m) || _) = true
    rw [fit_more h m, Bool.true_or]
theorem fit_all {L : List Nat} {l i k n : Nat} (h : fitTo L l i k = true) (hk : k ≤ n) : fitTo L l i n = true := by
  have := fit_more h (n - k)
  rwa [show k + (n - k) = n by omega] at this
theorem first_more {L : List Nat} {l i x : Nat} (h : firstTo L l i = some x) : ∀ m, firstTo L l (i + m) = some x
  | 0 => h
  | m + 1 => by
    show (match firstTo L l (i + m) with | some x => some x | none => _) = some x
    rw [first_more h m]
theorem first_all {L : List Nat} {l i x n : Nat} (h : firstTo L l i = some x) (hi : i ≤ n) : firstTo L l n = some x := by
  have := first_more h (n - i)
  rwa [show i + (n - i) = n by omega] at this
theorem first_here {L : List Nat} {l i n : Nat} (hn : L.length = n) (hi : i < n) (h0 : firstTo L l i = none) (h : fitTo L l i n = true) : firstTo L l n = some i := by
  refine first_all (i := i + 1) ?_ hi
  show (match firstTo L l i with | some x => some x | none => if fitTo L l i L.length then some i else none) = some i
  rw [h0, hn]
  simp [h]
theorem first_not {L : List Nat} {l i n : Nat} (hn : L.length = n) (h0 : firstTo L l i = none) (h : fitTo L l i n = false) : firstTo L l (i + 1) = none := by
  show (match firstTo L l i with | some x => some x | none => if fitTo L l i L.length then some i else none) = none
  rw [h0, hn]
  simp [h]
def againN : Value → Nat
  | .bool true => 1
  | _ => 0
/-- What is folded away, what is left to fold. -/
def FoldSt (L : List Nat) (F : List Nat) (n : Nat) (a : Bool) (l : Nat) (out : List Nat) : Prop :=
  (a = true ∧ ∃ f rest, foldFrom L f l = some rest ∧ out ++ rest = F ∧ out.length + f = n + 1 ∧ l < 512) ∨ (a = false ∧ out = F ∧ l < 512)
set_option maxHeartbeats 4000000 in
set_option maxRecDepth 100000 in
theorem foldOrder_c (A : Option Addr) (c : Nat) (L F : List Nat) (n : Nat) (W : World) (hn : L.length = n) (hn1 : 1 ≤ n) (hL : Sets9 L) (hF : foldFrom L (n + 1) (2 ^ n - 1) = some F) (hr : Row W A (ints (natI L))) :
    Calls Tryz.prog 36 #[.slice A n c] W (Owns 3 1 F.length (ints (natI F)) W) := by
  have hn9 : n ≤ 9 := by have := hL.len; omega
  have HPn := hide (fun w5 => specPower9_c n hn9 w5)
  have HPi := hide (fun j (hj : j ≤ 9) w5 => specPower9_c j hj w5)
  have HBt := hide (fun x j (hx : x < 512) (hj : j ≤ 9) w5 => specBit9_c x j hx hj w5)
  have HL := hide hL
  have HR := hide hr
  have HN := hide hn
  have HF := hide hF
  obtain ⟨p1, p2⟩ := pow9 hn9
  have HS0 : Hid (FoldSt L F n true (2 ^ n - 1) []) := .inl ⟨rfl, n + 1, F, hF, rfl, by simp, by omega⟩
  have e0 : IntKind.i64.wrap (((2 ^ n : Nat) : Int) - 1) = ((2 ^ n - 1 : Nat) : Int) := (IntWalk.i64_in _ (by omega)).trans (by omega)
  clear hL hr hn hF
  generalize 2 ^ n - 1 = l0 at *
  generalize 2 ^ n = P at *
  go_enter Tryz.func36, Tryz.ntmps36
  go_wp2_with fail
  refine (HPn.out _).mono ?_
  rintro e w1 ⟨rfl, rfl⟩
  go_wp2_with fail
  clear HPn e0 p1 p2
  go_loopw [3, 4, 5] (fun lv v av wr => ∃ (a : Bool) (l : Nat) (out : List Nat), lv = .int .i64 (l : Int) ∧ av = .bool a ∧ Hid (FoldSt L F n a l out) ∧ wr.ownsRow W.heap.size 3 1 v out.length (ints (natI out)) ∧ Below W.heap.size W wr) (fun lv _ av _ => 2 * (intOf lv).toNat + againN av)
  case atStart => exact ⟨true, l0, [], rfl, rfl, HS0, by simpa [natI, ints] using World.ownsRow_made W (e := 3) (size := 1) #[] 0 (Nat.le_refl _) (by simp [maxLen]) rfl, (Below.refl _ _).alloc (Nat.le_refl _) _⟩
  case round =>
    clear HS0
    obtain ⟨a, l, out, rfl, rfl, hst, hown, hb⟩ := hrel
    obtain ⟨wo, rfl⟩ : ∃ wo : World, wo = wr := ⟨_, rfl⟩
    obtain ⟨A0, c0, rfl, _⟩ := own_row hown
    cases a with
    | false =>
      obtain ⟨he, hl5⟩ : out = F ∧ l < 512 := by
        rcases hst.out with ⟨h, _⟩ | ⟨_, h⟩
        · cases h
        · exact h
      subst he
      clear hst
      go_wp2_with fail
      go_ret
      exact ⟨_, rfl, hown, hb⟩
    | true =>
      obtain ⟨f, rest, hff, hor, hlf, hl5⟩ : ∃ f rest, foldFrom L f l = some rest ∧ out ++ rest = F ∧ out.length + f = n + 1 ∧ l < 512 := by
        rcases hst.out with ⟨_, h⟩ | ⟨h, _⟩
        · exact h
        · cases h
      obtain ⟨f, rfl⟩ : ∃ f', f = f' + 1 := ⟨f - 1, by
        rcases f with _ | f
        · cases hff
        · rfl⟩
      have HNONE : Hid (firstTo L l n = none → out = F) := fun h => by
        unfold foldFrom at hff
        rw [HN.out, h] at hff
        injection hff with hff
        rw [← hor, ← hff, List.append_nil]
      have HSOME : Hid (∀ i, i < n → firstTo L l n = some i → 2 ^ i ≤ l → FoldSt L F n true (l - 2 ^ i) (out ++ [i])) := fun i hi h hle => by
        unfold foldFrom at hff
        rw [HN.out, h] at hff
        simp only [Option.map_eq_some_iff] at hff
        obtain ⟨r2, h1, h2⟩ := hff
        exact .inl ⟨rfl, f, r2, h1, by rw [← hor, ← h2]; simp, by simp; omega, Nat.lt_of_le_of_lt (Nat.sub_le _ _) hl5⟩
      have hout : out.length ≤ 10 := by omega
      have HOW := hide hown
      have HB := hide hb
      clear hff hor hlf hst hown hb
      go_wp2_with fail
      go_loopw [3, 4, 5, 6] (fun lv v av iv wr => ∃ (a : Bool) (l2 : Nat) (o2 : List Nat) (i : Nat), i ≤ n ∧ lv = .int .i64 (l2 : Int) ∧ av = .bool a ∧ iv = .int .i64 (i : Int) ∧ Hid ((a = false ∧ l2 = l ∧ o2 = out ∧ firstTo L l i = none) ∨ (a = true ∧ l2 < l ∧ FoldSt L F n true l2 o2)) ∧ wr.ownsRow W.heap.size 3 1 v o2.length (ints (natI o2)) ∧ Below W.heap.size W wr) (fun _ _ _ iv _ => n - (intOf iv).toNat)
      case atStart => exact ⟨false, l, out, 0, Nat.zero_le _, rfl, rfl, rfl, .inl ⟨rfl, rfl, rfl, rfl⟩, HOW.out, HB.out⟩
      case round =>
        clear HOW HB
        obtain ⟨a, l2, o2, i, hi, rfl, rfl, rfl, hst, hown, hb⟩ := hrel
        obtain ⟨wi, rfl⟩ : ∃ wi : World, wi = wr := ⟨_, rfl⟩
        cases a with
        | true =>
          obtain ⟨hlt2, hF2⟩ : l2 < l ∧ FoldSt L F n true l2 o2 := by
            rcases hst.out with ⟨h, _⟩ | ⟨_, h⟩
            · cases h
            · exact h
          have HF2 := hide hF2
          have HOW := hide hown
          have HB := hide hb
          clear hst hF2 hown hb
          by_cases hin : i < n
          · go_wp2_with fail
            exact ⟨⟨true, l2, o2, rfl, rfl, HF2, HOW.out, HB.out⟩, by simp [intOf, againN]; omega⟩
          · go_wp2_with fail
            exact ⟨⟨true, l2, o2, rfl, rfl, HF2, HOW.out, HB.out⟩, by simp [intOf, againN]; omega⟩
        | false =>
          obtain ⟨hl2, ho2, hfi⟩ : l2 = l ∧ o2 = out ∧ firstTo L l i = none := by
            rcases hst.out with ⟨_, h⟩ | ⟨h, _⟩
            · exact h
            · cases h
          subst hl2
          subst ho2
          clear hst
          by_cases hin : i < n
          · have HFI := hide hfi
            have HIN := hide hin
            have HOW := hide hown
            have HB := hide hb
            clear hfi hown hb
            have i0 : (0 : Int) ≤ (i : Int) := by omega
            have i1 : (i : Int) < (n : Int) := by omega
            go_wp2_with fail
            go_loopw [3, 4, 5, 7] (fun lv v av kv wr => ∃ (a : Bool) (l3 : Nat) (o3 : List Nat) (k : Nat), k ≤ n ∧ lv = .int .i64 (l3 : Int) ∧ av = .bool a ∧ kv = .int .i64 (k : Int) ∧ Hid ((a = false ∧ l3 = l2 ∧ o3 = o2 ∧ fitTo L l2 i k = false) ∨ (a = true ∧ l3 < l2 ∧ FoldSt L F n true l3 o3)) ∧ wr.ownsRow W.heap.size 3 1 v o3.length (ints (natI o3)) ∧ Below W.heap.size W wr) (fun _ _ _ kv _ => n - (intOf kv).toNat)
            case atStart => exact ⟨false, l2, o2, 0, Nat.zero_le _, rfl, rfl, rfl, .inl ⟨rfl, rfl, rfl, rfl⟩, HOW.out, HB.out⟩
            case round =>
              clear HOW HB
              obtain ⟨a, l3, o3, k, hk, rfl, rfl, rfl, hst, hown, hb⟩ := hrel
              obtain ⟨wk, rfl⟩ : ∃ wk : World, wk = wr := ⟨_, rfl⟩
              cases a with
              | true =>
                obtain ⟨hlt2, hF2⟩ : l3 < l2 ∧ FoldSt L F n true l3 o3 := by
                  rcases hst.out with ⟨h, _⟩ | ⟨_, h⟩
                  · cases h
                  · exact h
                have HF2 := hide hF2
                have HLT := hide hlt2
                have HOW := hide hown
                have HB := hide hb
                clear hst hF2 hown hb hlt2
                by_cases hkn : k < n
                · go_wp2_with fail
                  exact ⟨⟨true, l3, o3, i + 1, HIN.out, rfl, rfl, by go_num, .inr ⟨rfl, HLT.out, HF2.out⟩, HOW.out, HB.out⟩, by simp [intOf]; omega⟩
                · go_wp2_with fail
                  exact ⟨⟨true, l3, o3, i + 1, HIN.out, rfl, rfl, by go_num, .inr ⟨rfl, HLT.out, HF2.out⟩, HOW.out, HB.out⟩, by simp [intOf]; omega⟩
              | false =>
                obtain ⟨hl3, ho3, hft⟩ : l3 = l2 ∧ o3 = o2 ∧ fitTo L l2 i k = false := by
                  rcases hst.out with ⟨_, h⟩ | ⟨h, _⟩
                  · exact h
                  · cases h
                subst hl3
                subst ho3
                clear hst
                have HOW := hide hown
                have HB := hide hb
                by_cases hkn : k < n
                · have HFS : Hid (fitTo L l3 i (k + 1) = (fitTo L l3 i k || fitF L l3 i k)) := rfl
                  have HFT := hide hft
                  have HKN := hide hkn
                  have k0 : (0 : Int) ≤ (k : Int) := by omega
                  have k1 : (k : Int) < (n : Int) := by omega
                  have HBi := hide (fun w5 => HBt.out l3 i hl5 (by omega) w5)
                  have HBk := hide (fun w5 => HBt.out l3 k hl5 (by omega) w5)
                  have HFD : Hid (fitF L l3 i k = (i != k && bitN l3 i == 1 && bitN l3 k == 1 && ((((L[i]?.getD 0) ||| 2 ^ i) &&& l3) &&& ((L[k]?.getD 0) ||| 2 ^ k) == (((L[i]?.getD 0) ||| 2 ^ i) &&& l3)))) := rfl
                  clear hown hb hft
                  by_cases hik : i = k
                  · have hik' : ((i : Int) == (k : Int)) = true := by rw [hik]; simp
                    have HNO : Hid (fitTo L l3 i (k + 1) = false) := by show _ = _; rw [HFS.out, HFT.out, HFD.out, hik]; simp
                    clear hik
                    go_wp2_with fail
                    exact ⟨⟨false, l3, o3, k + 1, HKN.out, rfl, rfl, by go_num, .inl ⟨rfl, rfl, rfl, HNO.out⟩, HOW.out, HB.out⟩, by simp [intOf]; omega⟩
                  · have hik' : ((i : Int) == (k : Int)) = false := by rw [beq_eq_false_iff_ne]; omega
                    rcases bitN_two l3 i with hbi | hbi
                    · have HNO : Hid (fitTo L l3 i (k + 1) = false) := by show _ = _; rw [HFS.out, HFT.out, HFD.out, hbi]; simp
                      rw [hbi] at HBi
                      clear hbi hik
                      go_wp2_with fail
                      refine (HBi.out _).mono ?_
                      rintro e w7 ⟨rfl, rfl⟩
                      go_wp2_with fail
                      exact ⟨⟨false, l3, o3, k + 1, HKN.out, rfl, rfl, by go_num, .inl ⟨rfl, rfl, rfl, HNO.out⟩, HOW.out, HB.out⟩, by simp [intOf]; omega⟩
                    · rcases bitN_two l3 k with hbk | hbk
                      · have HNO : Hid (fitTo L l3 i (k + 1) = false) := by show _ = _; rw [HFS.out, HFT.out, HFD.out, hbk]; simp
                        rw [hbi] at HBi
                        rw [hbk] at HBk
                        clear hbi hbk hik
                        go_wp2_with fail
                        refine (HBi.out _).mono ?_
                        rintro e w7 ⟨rfl, rfl⟩
                        go_wp2_with fail
                        refine (HBk.out _).mono ?_
                        rintro e w8 ⟨rfl, rfl⟩
                        go_wp2_with fail
                        exact ⟨⟨false, l3, o3, k + 1, HKN.out, rfl, rfl, by go_num, .inl ⟨rfl, rfl, rfl, HNO.out⟩, HOW.out, HB.out⟩, by simp [intOf]; omega⟩
                      · obtain ⟨ad, rfl, hci⟩ := (HR.out.below HB.out).int (k := i) (by rw [natI_len, HN.out]; omega)
                        obtain ⟨_, ⟨rfl⟩, hck⟩ := (HR.out.below HB.out).int (k := k) (by rw [natI_len, HN.out]; omega)
                        rw [natI_at] at hci hck
                        have x1 := HL.out.bd i
                        have x2 := HL.out.bd k
                        have y1 : 2 ^ i < 512 := Nat.lt_of_le_of_lt (Nat.pow_le_pow_right (by omega) (by omega : i ≤ 8)) (by decide)
                        have y2 : 2 ^ k < 512 := Nat.lt_of_le_of_lt (Nat.pow_le_pow_right (by omega) (by omega : k ≤ 8)) (by decide)
                        have hle := bit_le hbi
                        have hp1 : 1 ≤ 2 ^ i := Nat.one_le_two_pow
                        rw [hbi, hbk] at HFD
                        rw [hbi] at HBi
                        rw [hbk] at HBk
                        have HPI := hide (fun w5 => HPi.out i (by omega) w5)
                        have HPK := hide (fun w5 => HPi.out k (by omega) w5)
                        have HSI := hide (fun h => HSOME.out i hin h hle)
                        generalize L[i]?.getD 0 = li at *
                        generalize L[k]?.getD 0 = lk at *
                        generalize 2 ^ i = pi at *
                        generalize 2 ^ k = pk at *
                        obtain ⟨o1, o1b⟩ := i64_or9 li pi x1 y1
                        obtain ⟨o2', o2b⟩ := i64_or9 lk pk x2 y2
                        generalize li ||| pi = mi at *
                        generalize lk ||| pk = mk at *
                        obtain ⟨a1, a1b⟩ := i64_and9 mi l3 o1b hl5
                        generalize mi &&& l3 = near at *
                        have a2 := i64_andNotC near mk a1b o2b
                        have hnl : near &&& mk ≤ near := Nat.and_le_left
                        generalize near &&& mk = nm at *
                        have HFD2 : Hid (fitF L l3 i k = (nm == near)) := by show _ = _; rw [HFD.out]; simp [hik]
                        have e3 : IntKind.i64.wrap ((l3 : Int) - (pi : Int)) = ((l3 - pi : Nat) : Int) := (IntWalk.i64_in _ (by omega)).trans (by omega)
                        have hlt3 : l3 - pi < l3 := by omega
                        clear HFD hbi hbk
                        by_cases hfit : nm = near
                        · have hd : near - nm = 0 := by omega
                          rw [hd] at a2
                          have HST := hide (HSI.out (first_here HN.out hin HFI.out (fit_all (k := k + 1) (by rw [HFS.out, HFD2.out, hfit]; simp) hkn)))
                          clear hd hfit HSI HFD2 hnl hik
                          go_wp2_with fail
                          refine (HBi.out _).mono ?_
                          rintro e w7 ⟨rfl, rfl⟩
                          go_wp2_with fail
                          refine (HBk.out _).mono ?_
                          rintro e w8 ⟨rfl, rfl⟩
                          go_wp2_with fail
                          refine wp_region_still_lit (by kernel_rfl) (by kernel_rfl) ?_
                          repeat still_step
                          still_call ((HPI.out _).mono (fun _ _ h => ⟨h.1, h.2.symm⟩))
                          repeat still_step
                          refine wpStill_nil ?_
                          change Exit.then _ _ _ _ wk.drew
                          have hckd : wk.drew.cell? (ad.add k) = some (.int .i64 (lk : Int)) := hck
                          have HOW := hide HOW.out.drew
                          have HB := hide HB.out.drew
                          clear hci hck
                          generalize wk.drew = wd at *
                          go_wp2_with fail
                          refine wp_region_still_lit (by kernel_rfl) (by kernel_rfl) ?_
                          repeat still_step
                          still_call ((HPK.out _).mono (fun _ _ h => ⟨h.1, h.2.symm⟩))
                          repeat still_step
                          refine wpStill_nil ?_
                          change Exit.then _ _ _ _ wd.drew
                          have HOW := hide HOW.out.drew
                          have HB := hide HB.out.drew
                          clear hckd
                          generalize wd.drew = we at *
                          have hvc := hide (HOW.out.alloc (.cells #[.int .i64 (i : Int)] 3))
                          have hbc := HB.out.alloc HB.out.size (.cells #[.int .i64 (i : Int)] 3)
                          go_wp2_with (first
                            | (refine (HPI.out _).mono ?_; rintro e w9 ⟨rfl, rfl⟩)
                            | (at_builtin; refine put_own rfl (.tmp 73) (.tmp 75) rfl Tryz.underlying35 elem_int' rfl hvc.out rfl (m := 1) (news := [.int .i64 (i : Int)]) rfl (row_new _ _ _ rfl) (by simp [Value.oneCell']) (by omega) (by omega) hbc.size ?_; intro v9 w9 own9 hg9 ho9))
                          exact ⟨⟨true, l3 - pi, o3 ++ [i], k + 1, HKN.out, rfl, rfl, by go_num, .inr ⟨rfl, hlt3, HST.out⟩, by simpa [natI, ints] using own9, below_grown hbc hbc.size hvc.out (Nat.le_refl _) hg9⟩, by simp [intOf]; omega⟩
                        · have HNO : Hid (fitTo L l3 i (k + 1) = false) := by show _ = _; rw [HFS.out, HFT.out, HFD2.out]; simp [hfit]
                          obtain ⟨d, hd⟩ : ∃ d, near - nm = d := ⟨_, rfl⟩
                          rw [hd] at a2
                          have hd0 : ((d : Int) == 0) = false := by rw [beq_eq_false_iff_ne]; omega
                          clear hd hfit HSI HFD2 hnl hik
                          go_wp2_with fail
                          refine (HBi.out _).mono ?_
                          rintro e w7 ⟨rfl, rfl⟩
                          go_wp2_with fail
                          refine (HBk.out _).mono ?_
                          rintro e w8 ⟨rfl, rfl⟩
                          go_wp2_with fail
                          refine wp_region_still_lit (by kernel_rfl) (by kernel_rfl) ?_
                          repeat still_step
                          still_call ((HPI.out _).mono (fun _ _ h => ⟨h.1, h.2.symm⟩))
                          repeat still_step
                          refine wpStill_nil ?_
                          change Exit.then _ _ _ _ wk.drew
                          have hckd : wk.drew.cell? (ad.add k) = some (.int .i64 (lk : Int)) := hck
                          have HOW := hide HOW.out.drew
                          have HB := hide HB.out.drew
                          clear hci hck
                          generalize wk.drew = wd at *
                          go_wp2_with fail
                          refine wp_region_still_lit (by kernel_rfl) (by kernel_rfl) ?_
                          repeat still_step
                          still_call ((HPK.out _).mono (fun _ _ h => ⟨h.1, h.2.symm⟩))
                          repeat still_step
                          refine wpStill_nil ?_
                          change Exit.then _ _ _ _ wd.drew
                          have HOW := hide HOW.out.drew
                          have HB := hide HB.out.drew
                          clear hckd
                          generalize wd.drew = we at *
                          go_wp2_with fail
                          exact ⟨⟨false, l3, o3, k + 1, HKN.out, rfl, rfl, by go_num, .inl ⟨rfl, rfl, rfl, HNO.out⟩, HOW.out, HB.out⟩, by simp [intOf]; omega⟩
                · obtain rfl : k = n := by omega
                  have HNI := hide (first_not HN.out HFI.out hft)
                  clear hft hown hb
                  go_wp2_with fail
                  exact ⟨⟨false, l3, o3, i + 1, HIN.out, rfl, rfl, by go_num, .inl ⟨rfl, rfl, rfl, HNI.out⟩, HOW.out, HB.out⟩, by simp [intOf]; omega⟩
          · obtain rfl : i = n := by omega
            have HFE := hide (HNONE.out hfi)
            have HOW := hide hown
            have HB := hide hb
            clear hfi hown hb
            go_wp2_with fail
            exact ⟨⟨false, l2, o2, rfl, rfl, .inr ⟨rfl, HFE.out, hl5⟩, HOW.out, HB.out⟩, by simp [intOf, againN]⟩
end Go.Proofs.YtmfdlijkpdgimaaGreatDoor

/-
  Chases: the model's FoldOrder.
-/
namespace Go.Proofs.YtmfdlijkpdgimaaGreatDoor
open Go.RowKit
set_option linter.unusedVariables false

theorem fold_from {L : List Nat} {n : Nat} (hn : L.length = n) (h : (chTab.any fun e => e.1 == L) = true) : foldFrom L (n + 1) (2 ^ n - 1) = some (foldN L) := by
  obtain ⟨e, he, h1, h2⟩ := chOf_mem h
  have := beq_iff_eq.1 (List.all_eq_true.1 fold_ok e he)
  unfold foldN
  rw [h2]
  rw [h1, hn] at this
  exact this
def foldV (bc br : Int) (s : List UInt8) : List Nat := match smallK bc br s with
  | some (ss, far) => foldN (setsP bc br far ss)
  | none => []
end Go.Proofs.YtmfdlijkpdgimaaGreatDoor

/-
  Chases, purely: in how many moves each is caught, on each small board by each kind; the cells that are folded away.
-/
import Derived.Test.YtdjkdjnbmhpokabGuardP
namespace Go.Proofs.Ytdjkdjnbmhpokab
open Go.RowKit
set_option linter.unusedVariables false

/-- Sets of cells reached; how many moves (one more than that, 0: never); what is folded away. -/
def chTab : List (List Nat × List (List Nat) × List Nat) := [
  ([0], [[1]], []),
  ([0, 0], [[1, 0], [0, 1]], []),
  ([2, 1], [[1, 2], [2, 1]], [0]),
  ([0, 0, 0], [[1, 0, 0], [0, 1, 0], [0, 0, 1]], []),
  ([2, 5, 2], [[1, 2, 3], [2, 1, 2], [3, 2, 1]], [0, 1]),
  ([6, 5, 3], [[1, 2, 2], [2, 1, 2], [2, 2, 1]], [0, 1]),
  ([0, 0, 0, 0], [[1, 0, 0, 0], [0, 1, 0, 0], [0, 0, 1, 0], [0, 0, 0, 1]], []),
  ([2, 5, 10, 4], [[1, 2, 4, 4], [2, 1, 2, 3], [3, 2, 1, 2], [4, 4, 2, 1]], [0, 1, 2]),
  ([6, 9, 9, 6], [[1, 2, 2, 0], [2, 1, 0, 2], [2, 0, 1, 2], [0, 2, 2, 1]], []),
  ([8, 4, 2, 1], [[1, 0, 0, 2], [0, 1, 2, 0], [0, 2, 1, 0], [2, 0, 0, 1]], [0, 1]),
  ([14, 13, 11, 7], [[1, 2, 2, 2], [2, 1, 2, 2], [2, 2, 1, 2], [2, 2, 2, 1]], [0, 1, 2]),
  ([0, 0, 0, 0, 0], [[1, 0, 0, 0, 0], [0, 1, 0, 0, 0], [0, 0, 1, 0, 0], [0, 0, 0, 1, 0], [0, 0, 0, 0, 1]], []),
  ([2, 5, 10, 20, 8], [[1, 2, 5, 5, 5], [2, 1, 2, 4, 4], [3, 2, 1, 2, 3], [4, 4, 2, 1, 2], [5, 5, 5, 2, 1]], [0, 1, 2, 3]),
  ([30, 29, 27, 23, 15], [[1, 2, 2, 2, 2], [2, 1, 2, 2, 2], [2, 2, 1, 2, 2], [2, 2, 2, 1, 2], [2, 2, 2, 2, 1]], [0, 1, 2, 3]),
  ([6, 9, 25, 38, 36, 24], [[1, 2, 2, 0, 0, 0], [2, 1, 0, 2, 0, 0], [2, 0, 1, 2, 2, 0], [0, 2, 2, 1, 0, 2], [0, 0, 2, 0, 1, 2], [0, 0, 0, 2, 2, 1]], []),
  ([8, 4, 34, 17, 8, 4], [[1, 0, 0, 2, 3, 0], [0, 1, 2, 0, 0, 3], [0, 2, 1, 0, 0, 2], [2, 0, 0, 1, 2, 0], [3, 0, 0, 2, 1, 0], [0, 3, 2, 0, 0, 1]], [0, 1, 2, 3]),
  ([10, 21, 34, 17, 42, 20], [[1, 2, 0, 2, 0, 0], [2, 1, 2, 0, 2, 0], [0, 2, 1, 0, 0, 2], [2, 0, 0, 1, 2, 0], [0, 2, 0, 2, 1, 2], [0, 0, 2, 0, 2, 1]], []),
  ([14, 13, 59, 55, 44, 28], [[1, 2, 2, 2, 3, 3], [2, 1, 2, 2, 3, 3], [2, 2, 1, 2, 2, 2], [2, 2, 2, 1, 2, 2], [3, 3, 2, 2, 1, 2], [3, 3, 2, 2, 2, 1]], [0, 1, 2, 3, 4]),
  ([14, 21, 35, 49, 42, 28], [[1, 2, 2, 2, 0, 0], [2, 1, 2, 0, 2, 0], [2, 2, 1, 0, 0, 2], [2, 0, 0, 1, 2, 2], [0, 2, 0, 2, 1, 2], [0, 0, 2, 2, 2, 1]], []),
  ([16, 40, 16, 2, 5, 2], [[1, 0, 3, 0, 2, 0], [0, 1, 0, 2, 0, 2], [3, 0, 1, 0, 2, 0], [0, 2, 0, 1, 0, 3], [2, 0, 2, 0, 1, 0], [0, 2, 0, 3, 0, 1]], [0, 2, 3, 1]),
  ([22, 41, 25, 38, 37, 26], [[1, 2, 2, 0, 2, 0], [2, 1, 0, 2, 0, 2], [2, 0, 1, 2, 2, 0], [0, 2, 2, 1, 0, 2], [2, 0, 2, 0, 1, 2], [0, 2, 0, 2, 2, 1]], []),
  ([26, 61, 50, 19, 47, 22], [[1, 2, 3, 2, 2, 3], [2, 1, 2, 2, 2, 2], [3, 2, 1, 3, 2, 2], [2, 2, 3, 1, 2, 3], [2, 2, 2, 2, 1, 2], [3, 2, 2, 3, 2, 1]], [0, 1, 2, 3, 4]),
  ([30, 45, 59, 55, 45, 30], [[1, 2, 2, 2, 2, 3], [2, 1, 2, 2, 3, 2], [2, 2, 1, 2, 2, 2], [2, 2, 2, 1, 2, 2], [2, 3, 2, 2, 1, 2], [3, 2, 2, 2, 2, 1]], [0, 1, 2, 3, 4]),
  ([30, 61, 51, 51, 47, 30], [[1, 2, 2, 2, 2, 3], [2, 1, 2, 2, 2, 2], [2, 2, 1, 3, 2, 2], [2, 2, 3, 1, 2, 2], [2, 2, 2, 2, 1, 2], [3, 2, 2, 2, 2, 1]], [0, 1, 2, 3, 4]),
  ([32, 0, 8, 4, 0, 1], [[1, 0, 0, 0, 0, 2], [0, 1, 0, 0, 0, 0], [0, 0, 1, 2, 0, 0], [0, 0, 2, 1, 0, 0], [0, 0, 0, 0, 1, 0], [2, 0, 0, 0, 0, 1]], [0, 2]),
  ([32, 16, 0, 0, 2, 1], [[1, 0, 0, 0, 0, 2], [0, 1, 0, 0, 2, 0], [0, 0, 1, 0, 0, 0], [0, 0, 0, 1, 0, 0], [0, 2, 0, 0, 1, 0], [2, 0, 0, 0, 0, 1]], [0, 1]),
  ([6, 9, 25, 38, 100, 152, 144, 96], [[1, 2, 2, 0, 0, 0, 0, 0], [2, 1, 0, 2, 0, 0, 0, 0], [2, 0, 1, 2, 2, 0, 0, 0], [0, 2, 2, 1, 0, 2, 0, 0], [0, 0, 2, 0, 1, 2, 2, 0], [0, 0, 0, 2, 2, 1, 0, 2], [0, 0, 0, 0, 2, 0, 1, 2], [0, 0, 0, 0, 0, 2, 2, 1]], []),
  ([8, 4, 34, 17, 136, 68, 32, 16], [[1, 0, 0, 2, 4, 0, 0, 4], [0, 1, 2, 0, 0, 4, 4, 0], [0, 2, 1, 0, 0, 2, 3, 0], [2, 0, 0, 1, 2, 0, 0, 3], [3, 0, 0, 2, 1, 0, 0, 2], [0, 3, 2, 0, 0, 1, 2, 0], [0, 4, 4, 0, 0, 2, 1, 0], [4, 0, 0, 4, 2, 0, 0, 1]], [0, 1, 2, 3, 4, 5]),
  ([14, 13, 59, 55, 236, 220, 176, 112], [[1, 2, 2, 2, 4, 4, 4, 4], [2, 1, 2, 2, 4, 4, 4, 4], [2, 2, 1, 2, 2, 2, 3, 3], [2, 2, 2, 1, 2, 2, 3, 3], [3, 3, 2, 2, 1, 2, 2, 2], [3, 3, 2, 2, 2, 1, 2, 2], [4, 4, 4, 4, 2, 2, 1, 2], [4, 4, 4, 4, 2, 2, 2, 1]], [0, 1, 2, 3, 4, 5, 6]),
  ([18, 37, 74, 132, 33, 82, 164, 72], [[1, 2, 0, 0, 2, 0, 0, 0], [2, 1, 2, 0, 0, 2, 0, 0], [0, 2, 1, 2, 0, 0, 2, 0], [0, 0, 2, 1, 0, 0, 0, 2], [2, 0, 0, 0, 1, 2, 0, 0], [0, 2, 0, 0, 2, 1, 2, 0], [0, 0, 2, 0, 0, 2, 1, 2], [0, 0, 0, 2, 0, 0, 2, 1]], []),
  ([30, 45, 75, 135, 225, 210, 180, 120], [[1, 2, 2, 2, 2, 0, 0, 0], [2, 1, 2, 2, 0, 2, 0, 0], [2, 2, 1, 2, 0, 0, 2, 0], [2, 2, 2, 1, 0, 0, 0, 2], [2, 0, 0, 0, 1, 2, 2, 2], [0, 2, 0, 0, 2, 1, 2, 2], [0, 0, 2, 0, 2, 2, 1, 2], [0, 0, 0, 2, 2, 2, 2, 1]], []),
  ([32, 16, 128, 64, 2, 1, 8, 4], [[1, 0, 0, 0, 0, 2, 0, 0], [0, 1, 0, 0, 2, 0, 0, 0], [0, 0, 1, 0, 0, 0, 0, 2], [0, 0, 0, 1, 0, 0, 2, 0], [0, 2, 0, 0, 1, 0, 0, 0], [2, 0, 0, 0, 0, 1, 0, 0], [0, 0, 0, 2, 0, 0, 1, 0], [0, 0, 2, 0, 0, 0, 0, 1]], [0, 1, 2, 3]),
  ([32, 80, 160, 64, 2, 5, 10, 4], [[1, 0, 4, 0, 0, 2, 0, 4], [0, 1, 0, 3, 2, 0, 2, 0], [3, 0, 1, 0, 0, 2, 0, 2], [0, 4, 0, 1, 4, 0, 2, 0], [0, 2, 0, 4, 1, 0, 4, 0], [2, 0, 2, 0, 0, 1, 0, 3], [0, 2, 0, 2, 3, 0, 1, 0], [4, 0, 2, 0, 0, 4, 0, 1]], [0, 3, 4, 1, 5, 2]),
  ([50, 117, 234, 196, 35, 87, 174, 76], [[1, 2, 4, 4, 2, 2, 4, 4], [2, 1, 2, 3, 2, 2, 2, 3], [3, 2, 1, 2, 3, 2, 2, 2], [4, 4, 2, 1, 4, 4, 2, 2], [2, 2, 4, 4, 1, 2, 4, 4], [2, 2, 2, 3, 2, 1, 2, 3], [3, 2, 2, 2, 3, 2, 1, 2], [4, 4, 2, 2, 4, 4, 2, 1]], [0, 1, 2, 3, 4, 5, 6]),
  ([62, 125, 235, 199, 227, 215, 190, 124], [[1, 2, 2, 2, 2, 2, 4, 4], [2, 1, 2, 2, 2, 2, 2, 3], [2, 2, 1, 2, 3, 2, 2, 2], [2, 2, 2, 1, 4, 4, 2, 2], [2, 2, 4, 4, 1, 2, 2, 2], [2, 2, 2, 3, 2, 1, 2, 2], [3, 2, 2, 2, 2, 2, 1, 2], [4, 4, 2, 2, 2, 2, 2, 1]], [0, 1, 2, 3, 4, 5, 6]),
  ([64, 128, 16, 32, 4, 8, 1, 2], [[1, 0, 0, 0, 0, 0, 2, 0], [0, 1, 0, 0, 0, 0, 0, 2], [0, 0, 1, 0, 2, 0, 0, 0], [0, 0, 0, 1, 0, 2, 0, 0], [0, 0, 2, 0, 1, 0, 0, 0], [0, 0, 0, 2, 0, 1, 0, 0], [2, 0, 0, 0, 0, 0, 1, 0], [0, 2, 0, 0, 0, 0, 0, 1]], [0, 1, 2, 3]),
  ([86, 169, 89, 166, 101, 154, 149, 106], [[1, 2, 2, 0, 2, 0, 2, 0], [2, 1, 0, 2, 0, 2, 0, 2], [2, 0, 1, 2, 2, 0, 2, 0], [0, 2, 2, 1, 0, 2, 0, 2], [2, 0, 2, 0, 1, 2, 2, 0], [0, 2, 0, 2, 2, 1, 0, 2], [2, 0, 2, 0, 2, 0, 1, 2], [0, 2, 0, 2, 0, 2, 2, 1]], []),
  ([94, 173, 123, 183, 237, 222, 181, 122], [[1, 2, 2, 2, 2, 4, 2, 4], [2, 1, 2, 2, 4, 2, 4, 2], [2, 2, 1, 2, 2, 2, 2, 3], [2, 2, 2, 1, 2, 2, 3, 2], [2, 3, 2, 2, 1, 2, 2, 2], [3, 2, 2, 2, 2, 1, 2, 2], [2, 4, 2, 4, 2, 2, 1, 2], [4, 2, 4, 2, 2, 2, 2, 1]], [0, 1, 2, 3, 4, 5, 6]),
  ([10, 21, 34, 81, 170, 276, 136, 336, 160], [[1, 2, 0, 2, 0, 0, 0, 0, 0], [2, 1, 2, 0, 2, 0, 0, 0, 0], [0, 2, 1, 0, 0, 2, 0, 0, 0], [2, 0, 0, 1, 2, 0, 2, 0, 0], [0, 2, 0, 2, 1, 2, 0, 2, 0], [0, 0, 2, 0, 2, 1, 0, 0, 2], [0, 0, 0, 2, 0, 0, 1, 2, 0], [0, 0, 0, 0, 2, 0, 2, 1, 2], [0, 0, 0, 0, 0, 2, 0, 2, 1]], []),
  ([26, 61, 50, 211, 495, 406, 152, 376, 176], [[1, 2, 3, 2, 2, 3, 3, 3, 3], [2, 1, 2, 2, 2, 2, 3, 3, 3], [3, 2, 1, 3, 2, 2, 3, 3, 3], [2, 2, 3, 1, 2, 3, 2, 2, 3], [2, 2, 2, 2, 1, 2, 2, 2, 2], [3, 2, 2, 3, 2, 1, 3, 2, 2], [3, 3, 3, 2, 2, 3, 1, 2, 3], [3, 3, 3, 2, 2, 2, 2, 1, 2], [3, 3, 3, 3, 2, 2, 3, 2, 1]], [0, 1, 2, 3, 4, 5, 6, 7]),
  ([78, 149, 291, 113, 170, 284, 393, 338, 228], [[1, 2, 2, 2, 0, 0, 2, 0, 0], [2, 1, 2, 0, 2, 0, 0, 2, 0], [2, 2, 1, 0, 0, 2, 0, 0, 2], [2, 0, 0, 1, 2, 2, 2, 0, 0], [0, 2, 0, 2, 1, 2, 0, 2, 0], [0, 0, 2, 2, 2, 1, 0, 0, 2], [2, 0, 0, 2, 0, 0, 1, 2, 2], [0, 2, 0, 0, 2, 0, 2, 1, 2], [0, 0, 2, 0, 0, 2, 2, 2, 1]], []),
  ([160, 320, 136, 260, 0, 65, 34, 5, 10], [[1, 0, 0, 0, 0, 2, 0, 2, 0], [0, 1, 0, 0, 0, 0, 2, 0, 2], [0, 0, 1, 2, 0, 0, 0, 2, 0], [0, 0, 2, 1, 0, 0, 0, 0, 2], [0, 0, 0, 0, 1, 0, 0, 0, 0], [2, 0, 0, 0, 0, 1, 2, 0, 0], [0, 2, 0, 0, 0, 2, 1, 0, 0], [2, 0, 2, 0, 0, 0, 0, 1, 0], [0, 2, 0, 2, 0, 0, 0, 0, 1]], []),
  ([272, 40, 80, 130, 325, 130, 20, 40, 17], [[1, 0, 3, 0, 2, 0, 3, 0, 2], [0, 1, 0, 2, 0, 2, 0, 0, 0], [3, 0, 1, 0, 2, 0, 2, 0, 3], [0, 2, 0, 1, 0, 0, 0, 2, 0], [2, 0, 2, 0, 1, 0, 2, 0, 2], [0, 2, 0, 0, 0, 1, 0, 2, 0], [3, 0, 2, 0, 2, 0, 1, 0, 3], [0, 0, 0, 2, 0, 2, 0, 1, 0], [2, 0, 3, 0, 2, 0, 3, 0, 1]], [0, 2, 6, 4]),
  ([350, 189, 371, 243, 495, 414, 413, 378, 245], [[1, 2, 2, 2, 2, 3, 2, 3, 2], [2, 1, 2, 2, 2, 2, 3, 2, 3], [2, 2, 1, 3, 2, 2, 2, 3, 2], [2, 2, 3, 1, 2, 2, 2, 2, 3], [2, 2, 2, 2, 1, 2, 2, 2, 2], [3, 2, 2, 2, 2, 1, 3, 2, 2], [2, 3, 2, 2, 2, 3, 1, 2, 2], [3, 2, 3, 2, 2, 2, 2, 1, 2], [2, 3, 2, 3, 2, 2, 2, 2, 1]], [0, 1, 2, 3, 4, 5, 6, 7])]
def chOf (L : List Nat) : List (List Nat) × List Nat := ((chTab.find? (fun e => e.1 == L)).map (·.2)).getD ([], [])
def catN (L : List Nat) : List (List Nat) := (chOf L).1
def foldN (L : List Nat) : List Nat := (chOf L).2
def cAt (C : List (List Nat)) (i k : Nat) : Nat := (C[i]?.getD [])[k]?.getD 0
/-- A piece goes there, or stays. -/
def nearN (L : List Nat) (i x : Nat) : Bool := x == i || bitN (L[i]?.getD 0) x == 1
/-- Wherever the other one goes, of the first y cells, it is caught in fewer than t moves. -/
def allTo (L : List Nat) (C : List (List Nat)) (k x t : Nat) : Nat → Bool
  | 0 => true
  | y + 1 => allTo L C k x t y && !(nearN L k y && !(decide (1 ≤ cAt C x y) && decide (cAt C x y ≤ t)))
/-- A move to one of the first x cells does it. -/
def canTo (L : List Nat) (C : List (List Nat)) (i k t : Nat) : Nat → Bool
  | 0 => false
  | x + 1 => canTo L C i k t x || (nearN L i x && (x == k || allTo L C k x t L.length))
def topN (C : List (List Nat)) : Nat := C.foldl (fun a r => r.foldl max a) 0
structure CatOk (L : List Nat) (C : List (List Nat)) : Prop where
  len : C.length = L.length
  row : ∀ r ∈ C, r.length = L.length
  top : ∀ i k, i < L.length → k < L.length → cAt C i k ≤ topN C
  low : 1 ≤ topN C ∧ topN C ≤ 5
  diag : ∀ i, i < L.length → cAt C i i = 1
  off : ∀ i k, i < L.length → k < L.length → i ≠ k → cAt C i k ≠ 1
  can : ∀ i k t, i < L.length → k < L.length → i ≠ k → 1 ≤ t → t ≤ topN C → canTo L C i k t L.length = (decide (2 ≤ cAt C i k) && decide (cAt C i k ≤ t + 1))
  each : ∀ t, 2 ≤ t → t ≤ topN C → ∃ i k, i < L.length ∧ k < L.length ∧ cAt C i k = t
def catOk (L : List Nat) (C : List (List Nat)) : Bool :=
  C.length == L.length && C.all (fun r => r.length == L.length) && decide (1 ≤ topN C) && decide (topN C ≤ 5)
  && ((List.range L.length).all fun i => (List.range L.length).all fun k => decide (cAt C i k ≤ topN C) && (if i == k then cAt C i k == 1 else cAt C i k != 1 && (List.range (topN C)).all fun t => canTo L C i k (t + 1) L.length == (decide (2 ≤ cAt C i k) && decide (cAt C i k ≤ t + 2))))
  && ((List.range (topN C - 1)).all fun t => (List.range L.length).any fun i => (List.range L.length).any fun k => cAt C i k == t + 2)
theorem catOk_is {L : List Nat} {C : List (List Nat)} (h : catOk L C = true) : CatOk L C := by
  unfold catOk at h
  simp only [Bool.and_eq_true, decide_eq_true_eq, beq_iff_eq] at h
  obtain ⟨⟨⟨⟨⟨h1, h2⟩, h3⟩, h4⟩, h5⟩, h6⟩ := h
  have h5' : ∀ i k, i < L.length → k < L.length → _ := fun i k hi hk => (Bool.and_eq_true _ _).mp (List.all_eq_true.1 (List.all_eq_true.1 h5 i (List.mem_range.2 hi)) k (List.mem_range.2 hk))
  refine ⟨h1, fun r hr => beq_iff_eq.1 (List.all_eq_true.1 h2 r hr), fun i k hi hk => of_decide_eq_true (h5' i k hi hk).1, ⟨h3, h4⟩, fun i hi => ?_, fun i k hi hk hne => ?_, fun i k t hi hk hne h1t ht => ?_, fun t h2t ht => ?_⟩
  · have := (h5' i i hi hi).2
    rw [if_pos (by simp)] at this
    exact beq_iff_eq.1 this
  · have := (h5' i k hi hk).2
    rw [if_neg (by simpa using hne), Bool.and_eq_true] at this
    exact bne_iff_ne.1 this.1
  · have := (h5' i k hi hk).2
    rw [if_neg (by simpa using hne), Bool.and_eq_true] at this
    have := beq_iff_eq.1 (List.all_eq_true.1 this.2 (t - 1) (List.mem_range.2 (by omega)))
    rw [show t - 1 + 1 = t by omega, show t - 1 + 2 = t + 1 by omega] at this
    exact this
  · have := List.all_eq_true.1 h6 (t - 2) (List.mem_range.2 (by omega))
    obtain ⟨i, hi, this⟩ := List.any_eq_true.1 this
    obtain ⟨k, hk, this⟩ := List.any_eq_true.1 this
    exact ⟨i, k, List.mem_range.1 hi, List.mem_range.1 hk, by have := beq_iff_eq.1 this; omega⟩
def catAll (bc br : Nat) (p : List (Int × Int) × Bool) : Bool := catOk (setsP bc br p.2 p.1) (catN (setsP bc br p.2 p.1))
theorem tab_ok : chTab.all (fun e => catOk e.1 e.2.1) = true := by decide +kernel
def inTab (bc br : Nat) (p : List (Int × Int) × Bool) : Bool := chTab.any fun e => e.1 == setsP bc br p.2 p.1
theorem in_tab : ∀ a : Fin 5, ∀ b : Fin 5, (a.val + 1) * (b.val + 1) ≤ 9 → kinds6.all (inTab (a.val + 1) (b.val + 1)) = true := by decide +kernel
theorem chOf_mem {L : List Nat} (h : (chTab.any fun e => e.1 == L) = true) : ∃ e ∈ chTab, e.1 = L ∧ chOf L = e.2 := by
  unfold chOf
  cases hf : chTab.find? (fun e => e.1 == L) with
  | none =>
    obtain ⟨e, he, hq⟩ := List.any_eq_true.1 h
    exact absurd hq (List.find?_eq_none.1 hf e he)
  | some e => exact ⟨e, List.mem_of_find?_eq_some hf, beq_iff_eq.1 (List.find?_some (p := fun (e : List Nat × List (List Nat) × List Nat) => e.1 == L) hf), rfl⟩
theorem cat_ok {L : List Nat} (h : (chTab.any fun e => e.1 == L) = true) : CatOk L (catN L) := by
  obtain ⟨e, he, h1, h2⟩ := chOf_mem h
  have := catOk_is (List.all_eq_true.1 tab_ok e he)
  unfold catN
  rw [h2, ← h1]
  exact this
/-- The cell i may be folded away behind the cell k. -/
def fitF (L : List Nat) (left i k : Nat) : Bool := i != k && bitN left i == 1 && bitN left k == 1 && ((((L[i]?.getD 0) ||| 2 ^ i) &&& left) &&& ((L[k]?.getD 0) ||| 2 ^ k) == (((L[i]?.getD 0) ||| 2 ^ i) &&& left))
def fitTo (L : List Nat) (left i : Nat) : Nat → Bool
  | 0 => false
  | k + 1 => fitTo L left i k || fitF L left i k
/-- The first of the first i cells that may be folded away. -/
def firstTo (L : List Nat) (left : Nat) : Nat → Option Nat
  | 0 => none
  | i + 1 => match firstTo L left i with
    | some x => some x
    | none => if fitTo L left i L.length then some i else none
def foldFrom (L : List Nat) : Nat → Nat → Option (List Nat)
  | 0, _ => none
  | f + 1, left => match firstTo L left L.length with
    | none => some []
    | some i => (foldFrom L f (left - 2 ^ i)).map (i :: ·)
theorem fold_ok : chTab.all (fun e => foldFrom e.1 (e.1.length + 1) (2 ^ e.1.length - 1) == some e.2.2) = true := by decide +kernel
end Go.Proofs.Ytdjkdjnbmhpokab

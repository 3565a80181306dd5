
/-
  The model's queens: images, purely and by the model.
-/
import Derived.Test.YtgcchpabmkdkhacQueenE
import Derived.OwnWalk
namespace Go.Proofs.Ytgcchpabmkdkhac
open Go.RowKit
set_option linter.unusedVariables false

/-! ### A row of columns, turned and mirrored -/
def turnTo (n : Nat) (now : List Int) : Nat → List Int
  | 0 => List.replicate n 0
  | k + 1 => (turnTo n now k).set (now[k]?.getD 0).toNat ((n : Int) - 1 - (k : Int))
def nowAt (l : List Int) : Nat → List Int
  | 0 => l
  | t + 1 => turnTo l.length (nowAt l t) l.length
def imagesTo (l : List Int) : Nat → List (List Int)
  | 0 => []
  | t + 1 => imagesTo l t ++ [nowAt l t, (nowAt l t).reverse]
/-- Columns of a board of n. -/
def Cols (n : Nat) (l : List Int) : Prop := l.length = n ∧ ∀ i, i < n → 0 ≤ l[i]?.getD 0 ∧ l[i]?.getD 0 < (n : Int)
theorem turnTo_cols {n : Nat} (h1 : 1 ≤ n) (now : List Int) : ∀ k, k ≤ n → Cols n (turnTo n now k)
  | 0, _ => ⟨by simp [turnTo], fun i hi => by simp [turnTo, hi]; omega⟩
  | k + 1, hk => by
    have ih := turnTo_cols h1 now k (by omega)
    refine ⟨by simp [turnTo, ih.1], fun i hi => ?_⟩
    rw [turnTo, List.getElem?_set]
    split
    · split
      · simp only [Option.getD_some]; omega
      · simp only [Option.getD_none]; omega
    · exact ih.2 i hi
theorem nowAt_cols {l : List Int} (h1 : 1 ≤ l.length) (h : Cols l.length l) : ∀ t, Cols l.length (nowAt l t)
  | 0 => h
  | t + 1 => turnTo_cols h1 _ _ (Nat.le_refl _)
theorem imagesTo_rows {l : List Int} (h1 : 1 ≤ l.length) (h : Cols l.length l) : ∀ t, ∀ x ∈ imagesTo l t, 1 ≤ x.length
  | 0, x, hx => by cases hx
  | t + 1, x, hx => by
    simp only [imagesTo, List.mem_append, List.mem_cons, List.not_mem_nil, or_false] at hx
    have := (nowAt_cols h1 h t).1
    rcases hx with hx | rfl | rfl
    · exact imagesTo_rows h1 h t x hx
    · omega
    · rw [List.length_reverse]; omega
theorem imagesTo_len (l : List Int) : ∀ t, (imagesTo l t).length = 2 * t
  | 0 => rfl
  | t + 1 => by rw [imagesTo, List.length_append, imagesTo_len l t]; simp; omega
theorem back_snoc (l : List Int) (j : Nat) (hj : j < l.length) : l.reverse.take (j + 1) = l.reverse.take j ++ [l[l.length - 1 - j]?.getD 0] := by
  rw [take_snoc _ _ (by rw [List.length_reverse]; exact hj), List.getElem?_reverse hj]
theorem info_of {P : Program} {e : TypeId} {z : Value} {size bytes : Nat} (h : (P.info? e).map (fun i => (i.zero, i.size, i.bytes)) = some (some z, size, bytes)) : ∃ i, P.info? e = some i ∧ i.zero = some z ∧ i.size = size ∧ i.bytes = bytes := by
  cases hi : P.info? e with
  | none => simp [hi] at h
  | some i =>
    simp only [hi, Option.map_some, Option.some.injEq, Prod.mk.injEq] at h
    exact ⟨i, rfl, h.1, h.2.1, h.2.2⟩
theorem own_filled {w : World} {base : Nat} {e : TypeId} {v : Value} {n : Nat} {z : Value} (hz : z.cells = #[z]) (h : w.ownsRow base e 1 v n (madeCells z.cells (n * 1)).toList) : w.ownsRow base e 1 v n (List.replicate n z) := by
  rwa [hz, Nat.mul_one, toList_madeCells_one] at h
theorem ints_put (l : List Int) (i : Nat) (u : Int) : (ints l).set i (.int .i64 u) = ints (l.set i u) := by simp [ints, List.map_set]

end Go.Proofs.Ytgcchpabmkdkhac


/-
  Rows of rows of the call's own, in memory.
-/
import Derived.Test.YtoapmmmmdfmaeacProg
import Derived.Test.YtoapmmmmdfmaeacBase
import Derived.Test.YtoapmmmmdfmaeacSpecM
namespace Go.Proofs.Ytoapmmmmdfmaeac
open Go.RowKit
set_option linter.unusedVariables false

abbrev Mat := List (List Int)
def matAt (M : Mat) (i j : Nat) : Int := (M[i]?.getD [])[j]?.getD 0
/-- A row of numbers of the call's own: its cells, and one of them written. -/
theorem own_int {W : World} {base g n c : Nat} {L : List Int} (h : W.ownsRow base 3 1 (.slice (some ⟨g, 0, none⟩) n c) n (ints L)) {k : Nat} (hk : k < n) (b : Int) :
    W.cell? ⟨g, k, none⟩ = some (.int .i64 (L[k]?.getD 0)) ∧ W.frozen? ⟨g, k, none⟩ = false ∧ (W.setCell ⟨g, k, none⟩ (.int .i64 b)).ownsRow base 3 1 (.slice (some ⟨g, 0, none⟩) n c) n (ints (L.set k b)) ∧ W.grownBy (W.setCell ⟨g, k, none⟩ (.int .i64 b)) (some g) := by
  have hl : L.length = n := by have := h.1; simpa using this
  have hc := h.cellAt k (by omega)
  obtain ⟨o, gr⟩ := h.stored k (.int .i64 b)
  refine ⟨?_, h.frozenAt k, ?_, gr⟩
  · rw [hc]; simp [List.getElem?_eq_getElem (show k < L.length by omega)]
  · rw [show (ints L).set k (.int .i64 b) = ints (L.set k b) by simp [ints, List.map_set]] at o
    exact o
theorem own_intv {w : World} {base n : Nat} {v : Value} {cs : List Value} (h : w.ownsRow base 3 1 v n cs) (hn : 0 < n) : ∃ g c, v = .slice (some ⟨g, 0, none⟩) n c ∧ base ≤ g := by
  rcases h.2 with ⟨_, rfl⟩ | ⟨g, cap, cur, e, hb, _⟩
  · omega
  · exact ⟨g, cap, e, hb⟩
def vsOf (n : Nat) (ps : List (Nat × Nat)) : List Value := ps.map fun p => .slice (some ⟨p.1, 0, none⟩) n p.2
theorem vsOf_len (n : Nat) (ps : List (Nat × Nat)) : (vsOf n ps).length = ps.length := by simp [vsOf]
theorem vsOf_at {n : Nat} {ps : List (Nat × Nat)} {i : Nat} (h : i < ps.length) : (vsOf n ps)[i]? = some (.slice (some ⟨ps[i].1, 0, none⟩) n ps[i].2) := by simp [vsOf, h]
/-- Rows of the call's own, each its own block. -/
structure RowsAt (w : World) (base n : Nat) (ps : List (Nat × Nat)) (M : Mat) : Prop where
  len : ps.length = M.length
  own : ∀ i (h : i < ps.length), w.ownsRow base 3 1 (.slice (some ⟨ps[i].1, 0, none⟩) n ps[i].2) n (ints (M[i]?.getD []))
  apart : ∀ i j (hi : i < ps.length) (hj : j < ps.length), i ≠ j → ps[i].1 ≠ ps[j].1
theorem RowsAt.kept {w w' : World} {base n : Nat} {ps : List (Nat × Nat)} {M : Mat} (h : RowsAt w base n ps M) {r : Option Nat} (hg : w.grownBy w' r) (hr : ∀ i (hi : i < ps.length), r ≠ some ps[i].1) : RowsAt w' base n ps M :=
  ⟨h.len, fun i hi => (h.own i hi).kept hg (by
    right
    intro e
    cases r with
    | none => cases e
    | some k => exact hr i hi e.symm), h.apart⟩
theorem RowsAt.drew {w : World} {base n : Nat} {ps : List (Nat × Nat)} {M : Mat} (h : RowsAt w base n ps M) : RowsAt w.drew base n ps M := ⟨h.len, fun i hi => (h.own i hi).drew, h.apart⟩
theorem RowsAt.lt {w : World} {base n : Nat} {ps : List (Nat × Nat)} {M : Mat} (h : RowsAt w base n ps M) (i : Nat) (hi : i < ps.length) : base ≤ ps[i].1 ∧ ps[i].1 < w.heap.size := (h.own i hi).lt _ rfl
theorem RowsAt.rowlen {w : World} {base n : Nat} {ps : List (Nat × Nat)} {M : Mat} (h : RowsAt w base n ps M) (i : Nat) (hi : i < ps.length) : (M[i]?.getD []).length = n := by
  have := (h.own i hi).1
  simpa using this
theorem RowsAt.snoc {w : World} {base n b c : Nat} {ps : List (Nat × Nat)} {M : Mat} {r : List Int} (h : RowsAt w base n ps M) (hr : w.ownsRow base 3 1 (.slice (some ⟨b, 0, none⟩) n c) n (ints r)) (hb : ∀ i (hi : i < ps.length), ps[i].1 ≠ b) : RowsAt w base n (ps ++ [(b, c)]) (M ++ [r]) := by
  have hl := h.len
  refine ⟨by simp [hl], fun i hi => ?_, fun i j hi hj hij => ?_⟩
  · by_cases e : i < ps.length
    · rw [List.getElem_append_left e, List.getElem?_append_left (by omega)]
      exact h.own i e
    · have e' : i = ps.length := by simp at hi; omega
      subst e'
      rw [List.getElem_append_right (Nat.le_refl _), List.getElem?_append_right (by omega)]
      simp [hl]
      exact hr
  · simp only [List.length_append, List.length_singleton] at hi hj
    by_cases e : i < ps.length
    · by_cases e' : j < ps.length
      · rw [List.getElem_append_left e, List.getElem_append_left e']
        exact h.apart i j e e' hij
      · have : j = ps.length := by omega
        subst this
        rw [List.getElem_append_left e, List.getElem_append_right (Nat.le_refl _)]
        simpa using hb i e
    · have : i = ps.length := by omega
      subst this
      have e' : j < ps.length := by omega
      rw [List.getElem_append_left e', List.getElem_append_right (Nat.le_refl _)]
      simpa using fun h' => hb j e' h'.symm
/-- One number written. -/
theorem RowsAt.put {w : World} {base n i j : Nat} {ps : List (Nat × Nat)} {M : Mat} (h : RowsAt w base n ps M) (hi : i < ps.length) (hj : j < n) (u : Int) :
    RowsAt (w.setCell ⟨ps[i].1, j, none⟩ (.int .i64 u)) base n ps (M.set i ((M[i]?.getD []).set j u)) ∧ w.grownBy (w.setCell ⟨ps[i].1, j, none⟩ (.int .i64 u)) (some ps[i].1) := by
  have hl := h.len
  obtain ⟨_, _, o3, o4⟩ := own_int (h.own i hi) hj u
  refine ⟨⟨by simp [hl], fun a ha => ?_, h.apart⟩, o4⟩
  by_cases e : a = i
  · subst e
    rw [List.getElem?_set_self (by omega)]
    exact o3
  · rw [List.getElem?_set_ne (fun h' => e h'.symm)]
    exact (h.own a ha).kept o4 (.inr (fun e' => h.apart a i ha hi e (by injection (show some ps[a].1 = some ps[i].1 from e'))))
/-- Its cells. -/
theorem RowsAt.cell {w : World} {base n i j : Nat} {ps : List (Nat × Nat)} {M : Mat} (h : RowsAt w base n ps M) (hi : i < ps.length) (hj : j < n) : w.cell? ⟨ps[i].1, j, none⟩ = some (.int .i64 (matAt M i j)) ∧ w.frozen? ⟨ps[i].1, j, none⟩ = false := by
  obtain ⟨o1, o2, _⟩ := own_int (h.own i hi) hj 0
  exact ⟨o1, o2⟩
/-- The row of the rows. -/
theorem hdr_cell {w : World} {base n gm cm e k : Nat} {ps : List (Nat × Nat)} (h : w.ownsRow base e 1 (.slice (some ⟨gm, 0, none⟩) n cm) n (vsOf n ps)) (hk : k < ps.length) : w.cell? ⟨gm, k, none⟩ = some (.slice (some ⟨ps[k].1, 0, none⟩) n ps[k].2) ∧ w.frozen? ⟨gm, k, none⟩ = false := by
  have := h.cellAt k (by have := h.1; rw [vsOf_len] at this; omega)
  rw [vsOf_at hk] at this
  exact ⟨this, h.frozenAt k⟩
theorem elem_rowv : Elem Try.prog 30 1 24 := Elem.of (z := .slice none 0 0) (by kernel_rfl) rfl (by omega)
theorem own_free1 {w w' : World} {base e size n : Nat} {v : Value} {xs : List Value} {r : Option Nat} (h : w.ownsRow base e size v n xs) (hg : w.grownBy w' r) (hne : v.ownBlock ≠ r) : w'.ownsRow base e size v n xs := h.kept hg (.inr hne)
theorem own_rowv {w : World} {base n e : Nat} {v : Value} {cs : List Value} (h : w.ownsRow base e 1 v n cs) (hn : 0 < n) : ∃ g c, v = .slice (some ⟨g, 0, none⟩) n c ∧ base ≤ g := by
  rcases h.2 with ⟨_, rfl⟩ | ⟨g, cap, cur, e, hb, _⟩
  · omega
  · exact ⟨g, cap, e, hb⟩
theorem one_row (v : Value) (h : v.oneCell' = true) : ∀ u ∈ [v], u.oneCell' = true := by
  intro u hu
  rw [List.mem_singleton.1 hu]; exact h
theorem RowsAt.below {w w' : World} {base n : Nat} {ps : List (Nat × Nat)} {M : Mat} (h : RowsAt w base n ps M) (hb : Below w.heap.size w w') : RowsAt w' base n ps M := ⟨h.len, fun i hi => own_below (h.own i hi) hb, h.apart⟩
/-- A matrix by its numbers. -/
def gridM (n : Nat) (f : Nat → Nat → Int) : Mat := (List.range n).map fun a => (List.range n).map fun b => f a b
theorem grid_len (n : Nat) (f : Nat → Nat → Int) : (gridM n f).length = n := by simp [gridM]
theorem grid_row {n a : Nat} {f : Nat → Nat → Int} (ha : a < n) : (gridM n f)[a]?.getD [] = (List.range n).map (f a) := by simp [gridM, ha]
theorem grid_at {n a b : Nat} {f : Nat → Nat → Int} (ha : a < n) (hb : b < n) : matAt (gridM n f) a b = f a b := by
  unfold matAt
  rw [grid_row ha]
  simp [hb]
theorem grid_congr {n : Nat} {f g : Nat → Nat → Int} (h : ∀ a b, a < n → b < n → f a b = g a b) : gridM n f = gridM n g := by
  unfold gridM
  refine List.map_congr_left fun a ha => List.map_congr_left fun b hb => ?_
  exact h a b (List.mem_range.1 ha) (List.mem_range.1 hb)
theorem grid_put {n i k : Nat} {f : Nat → Nat → Int} (hi : i < n) (hk : k < n) (u : Int) : (gridM n f).set i (((gridM n f)[i]?.getD []).set k u) = gridM n (fun a b => if a = i ∧ b = k then u else f a b) := by
  rw [grid_row hi]
  refine List.ext_getElem (by simp [gridM]) fun a h1 h2 => ?_
  have ha : a < n := by simpa [gridM] using h2
  rw [List.getElem_set]
  by_cases e : i = a
  · subst e
    rw [if_pos rfl]
    refine List.ext_getElem (by simp [gridM]) fun b h3 h4 => ?_
    have hb : b < n := by simpa [gridM] using h4
    rw [List.getElem_set]
    by_cases e : k = b
    · subst e; simp [gridM]
    · simp [gridM, e, Ne.symm e]
  · rw [if_neg e]
    simp [gridM, Ne.symm e]
theorem grid_take {n k : Nat} {f : Nat → Nat → Int} (hk : k < n) : (gridM n f).take (k + 1) = (gridM n f).take k ++ [(List.range n).map (f k)] := by
  rw [List.take_succ_eq_append_getElem (by rw [grid_len]; exact hk)]
  simp [gridM]
end Go.Proofs.Ytoapmmmmdfmaeac

/-
  Fewest moves, ring by ring: plain mathematics. Nothing of a program.
-/
import Derived.Test.YtljojjkaeclcfaaReach
namespace Go.Proofs.Ytljojjkaeclcfaa
open Go Go.RowKit
set_option linter.unusedVariables false

/-- What one next cell does to the numbers and to the list of cells met. -/
def visitP (x : Int) (st : List Int × List Int) (y : Int) : List Int × List Int :=
  if st.1[y.toNat]?.getD 0 < 0 then (st.1.set y.toNat (st.1[x.toNat]?.getD 0 + 1), st.2 ++ [y]) else st
def expandP (bc br : Int) (far : Bool) (ss : List (Int × Int)) (x : Int) (st : List Int × List Int) : List Int × List Int := (reachP bc br far [] x ss).foldl (visitP x) st
def bfsP (bc br : Int) (far : Bool) (ss : List (Int × Int)) : Nat → List Int × List Int → Nat → List Int
  | 0, st, _ => st.1
  | f + 1, st, i => if i < st.2.length then bfsP bc br far ss f (expandP bc br far ss (st.2[i]?.getD 0) st) (i + 1) else st.1
def movesP (bc br : Int) (far : Bool) (ss : List (Int × Int)) (cell : Int) : List Int :=
  bfsP bc br far ss 26 ((List.replicate (bc * br).toNat (-1)).set cell.toNat 0, [cell]) 0

structure Met (N : Nat) (st : List Int × List Int) : Prop where
  len : st.1.length = N
  mem : ∀ y ∈ st.2, (0 ≤ y ∧ y < N) ∧ 0 ≤ st.1[y.toNat]?.getD 0
  cnt : st.1.countP (fun v => decide (v < 0)) + st.2.length = N
  bd : ∀ v ∈ st.1, -1 ≤ v ∧ v ≤ st.2.length
theorem Met.le {N : Nat} {st : List Int × List Int} (h : Met N st) : st.2.length ≤ N := by have := h.cnt; omega
theorem Met.at_bd {N : Nat} {st : List Int × List Int} (h : Met N st) (y : Int) (h0 : 0 ≤ y) (h1 : y < N) : -1 ≤ st.1[y.toNat]?.getD 0 ∧ st.1[y.toNat]?.getD 0 ≤ st.2.length := by
  have hl : y.toNat < st.1.length := by rw [h.len]; omega
  rw [List.getElem?_eq_getElem hl, Option.getD_some]
  exact h.bd _ (List.getElem_mem hl)
theorem Met.start {N : Nat} {cell : Int} (h0 : 0 ≤ cell) (h1 : cell < N) : Met N ((List.replicate N (-1)).set cell.toNat 0, [cell]) := by
  have hl : cell.toNat < (List.replicate N (-1 : Int)).length := by simp; omega
  refine ⟨by simp, fun y hy => ?_, ?_, fun v hv => ?_⟩
  · simp only [List.mem_singleton] at hy
    subst hy
    refine ⟨⟨h0, h1⟩, ?_⟩
    rw [List.getElem?_set_self hl]; simp
  · simp only
    have hN : 0 < N := by omega
    rw [List.countP_set hl, List.countP_replicate]
    simp
    omega
  · rcases List.mem_or_eq_of_mem_set hv with hv | hv
    · have := List.eq_of_mem_replicate hv; simp only [List.length_cons, List.length_nil]; omega
    · simp only [List.length_cons, List.length_nil]; omega
theorem Met.visit {N : Nat} {st : List Int × List Int} (h : Met N st) {x y : Int} (hx : x ∈ st.2) (y0 : 0 ≤ y) (y1 : y < N) : Met N (visitP x st y) ∧ ∃ l, (visitP x st y).2 = st.2 ++ l := by
  unfold visitP
  split
  · rename_i hneg
    obtain ⟨⟨x0, x1⟩, x2⟩ := h.mem x hx
    have xb := h.at_bd x x0 x1
    have hl : y.toNat < st.1.length := by rw [h.len]; omega
    have hyv : st.1[y.toNat] < 0 := by rw [List.getElem?_eq_getElem hl, Option.getD_some] at hneg; exact hneg
    refine ⟨⟨by simpa using h.len, fun z hz => ?_, ?_, fun v hv => ?_⟩, ⟨[y], rfl⟩⟩
    · simp only [List.mem_append, List.mem_singleton] at hz
      by_cases e : z.toNat = y.toNat
      · have hzz : z = y ∨ z ∈ st.2 := by rcases hz with hz | hz
                                          · exact .inr hz
                                          · exact .inl hz
        have z0 : 0 ≤ z ∧ z < N := by
          rcases hzz with rfl | hz
          · exact ⟨y0, y1⟩
          · exact (h.mem z hz).1
        refine ⟨z0, ?_⟩
        simp only
        rw [e, List.getElem?_set_self hl, Option.getD_some]
        omega
      · rcases hz with hz | rfl
        · obtain ⟨a, b⟩ := h.mem z hz
          refine ⟨a, ?_⟩
          simp only
          rw [List.getElem?_set_ne (fun e' => e e'.symm)]
          exact b
        · exact absurd rfl e
    · simp only
      rw [List.countP_set hl]
      have hc := h.cnt
      have hpos : 0 < st.1.countP (fun v => decide (v < 0)) := List.countP_pos_iff.2 ⟨_, List.getElem_mem hl, by simpa using hyv⟩
      rw [if_pos (by simpa using hyv), if_neg (by simp; omega), List.length_append, List.length_singleton]
      omega
    · simp only [List.length_append, List.length_singleton]
      rcases List.mem_or_eq_of_mem_set hv with hv | rfl
      · have := h.bd v hv; omega
      · omega
  · exact ⟨h, [], by simp⟩
theorem fold_met {N : Nat} (x : Int) (l : List Int) (hl : ∀ y ∈ l, 0 ≤ y ∧ y < N) {st : List Int × List Int} (h : Met N st) (hx : x ∈ st.2) : Met N (l.foldl (visitP x) st) ∧ ∃ m, (l.foldl (visitP x) st).2 = st.2 ++ m := by
  induction l generalizing st with
  | nil => exact ⟨h, [], by simp⟩
  | cons y l ih =>
    obtain ⟨y0, y1⟩ := hl y (by simp)
    obtain ⟨h1, m1, e1⟩ := h.visit hx y0 y1
    obtain ⟨h2, m2, e2⟩ := ih (fun z hz => hl z (by simp [hz])) h1 (by rw [e1]; simp [hx])
    exact ⟨h2, m1 ++ m2, by rw [List.foldl_cons, e2, e1, List.append_assoc]⟩
theorem visit_far {N : Nat} {st : List Int × List Int} (h : Met N st) {x y : Int} (hx : x ∈ st.2) (y0 : 0 ≤ y) (hn : st.1[y.toNat]?.getD 0 < 0) : x.toNat ≠ y.toNat := fun e => by
  have := (h.mem x hx).2
  rw [e] at this
  omega
theorem bfs_more (bc br : Int) (far : Bool) (ss : List (Int × Int)) (f : Nat) (st : List Int × List Int) (i : Nat) (h : i < st.2.length) : bfsP bc br far ss (f + 1) st i = bfsP bc br far ss f (expandP bc br far ss (st.2[i]?.getD 0) st) (i + 1) := by
  rw [bfsP, if_pos h]
theorem bfs_end (bc br : Int) (far : Bool) (ss : List (Int × Int)) (f : Nat) (st : List Int × List Int) (i : Nat) (h : ¬ i < st.2.length) : bfsP bc br far ss f st i = st.1 := by
  cases f with
  | zero => rfl
  | succ f => rw [bfsP, if_neg h]
/-- MOVESFROM, as it should answer. -/
def movesFromP (bc br : Int) (s : List UInt8) (cell : Int) : List Int :=
  match kindL s with
  | some (ss, far) => if Brd bc br ∧ 0 ≤ cell ∧ cell < bc * br then movesP bc br far ss cell else []
  | none => []
end Go.Proofs.Ytljojjkaeclcfaa

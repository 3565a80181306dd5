
/-
  Pegs: the model's comes.
-/
import Derived.Test.YtgbbmnnpphkkbaaPegD
namespace Go.Proofs.Ytgbbmnnpphkkbaa
open Go.RowKit
set_option linter.unusedVariables false

/-- Which sets are among some. -/
def seenL (P : Nat) (o : List Nat) : List Bool := (List.range P).map fun x => o.contains x
abbrev boolsP (l : List Bool) : List Value := l.map Value.bool
theorem seen_len (P : Nat) (o : List Nat) : (seenL P o).length = P := by simp [seenL]
theorem seen_set {P y : Nat} {o : List Nat} (hy : y < P) : (seenL P o).set y true = seenL P (o ++ [y]) := by
  apply List.ext_getElem
  · simp [seenL]
  · intro i h1 h2
    simp only [seenL, List.length_set, List.length_map, List.length_range] at h1
    rw [List.getElem_set]
    simp only [seenL, List.getElem_map, List.getElem_range]
    by_cases e : y = i
    · subst e; simp
    · rw [if_neg e, Bool.eq_iff_iff]
      simp only [List.contains_iff_mem, List.mem_append, List.mem_singleton]
      exact ⟨.inl, fun h => h.elim id fun h => absurd h.symm e⟩
theorem seen_none (P : Nat) : boolsP (seenL P []) = List.replicate P (.bool false) := by
  apply List.ext_getElem
  · simp [seenL]
  · intro i i1 i2
    simp [seenL]
theorem own_seen {W : World} {base g P : Nat} {o : List Nat} (h : W.ownsRow base 4 1 (.slice (some ⟨g, 0, none⟩) P P) P (boolsP (seenL P o))) {y : Nat} (hy : y < P) :
    W.cell? ⟨g, y, none⟩ = some (.bool (o.contains y)) ∧ W.frozen? ⟨g, y, none⟩ = false ∧ (W.setCell ⟨g, y, none⟩ (.bool true)).ownsRow base 4 1 (.slice (some ⟨g, 0, none⟩) P P) P (boolsP (seenL P (o ++ [y]))) ∧ W.grownBy (W.setCell ⟨g, y, none⟩ (.bool true)) (some g) := by
  have hc := h.cellAt y (by omega)
  obtain ⟨o', gr⟩ := h.stored y (.bool true)
  refine ⟨?_, h.frozenAt y, ?_, gr⟩
  · rw [hc]; simp [seenL, hy]
  · rw [show (boolsP (seenL P o)).set y (.bool true) = boolsP (seenL P (o ++ [y])) by rw [← seen_set hy]; simp [boolsP, List.map_set]] at o'
    exact o'
theorem made_boolsP {w : World} {base : Nat} {v : Value} {n : Nat} {z : Value} (hz : z.cells = #[z]) (h : w.ownsRow base 4 1 v n (madeCells z.cells (n * 1)).toList) : w.ownsRow base 4 1 v n (List.replicate n z) := by
  rwa [hz, Nat.mul_one, toList_madeCells_one] at h
theorem info_ofP {P : Program} {e : TypeId} {z : Value} {size bytes : Nat} (h : (P.info? e).map (fun i => (i.zero, i.size, i.bytes)) = some (some z, size, bytes)) : ∃ i, P.info? e = some i ∧ i.zero = some z ∧ i.size = size ∧ i.bytes = bytes := by
  cases hi : P.info? e with
  | none => simp [hi] at h
  | some i =>
    simp only [hi, Option.map_some, Option.some.injEq, Prod.mk.injEq] at h
    exact ⟨i, rfl, h.1, h.2.1, h.2.2⟩
/-- What the walk wants of the search, at its k-th set. -/
structure AtK (w n s k : Nat) (o : List Nat) (x : Nat) (J : List Jump) : Prop where
  bx : x < 2 ^ n
  at_ : ∀ q, (putsTo x J o q)[k]?.getD 0 = x ∧ k < (putsTo x J o q).length ∧ o.length ≤ (putsTo x J o q).length
  len : ∀ q, q ≤ J.length → (putsTo x J o q).length ≤ 2 ^ n
  jump : ∀ q, q < J.length → JumpIs w n x (J[q]?.getD (0, 0, 0)) ∧ behindP x (J[q]?.getD (0, 0, 0)) < 2 ^ n
  next : bfsL w n s (k + 1) = putsTo x J o J.length
theorem puts_pre (x : Nat) (J : List Jump) (o : List Nat) : ∀ q, ∃ e, putsTo x J o q = o ++ e
  | 0 => ⟨[], by simp [putsTo]⟩
  | q + 1 => by
    obtain ⟨e, h⟩ := puts_pre x J o q
    rw [putsTo, h]
    unfold putN
    split
    · exact ⟨e, rfl⟩
    · exact ⟨e ++ [_], by rw [List.append_assoc]⟩
theorem at_k {w n s k : Nat} (hw : 1 ≤ w) (hs : s < 2 ^ n) (hk : k < (bfsL w n s k).length) : AtK w n s k (bfsL w n s k) ((bfsL w n s k)[k]?.getD 0) (jumpL w n ((bfsL w n s k)[k]?.getD 0)) := by
  have hB := bfs_is hw hs k
  have hx : (bfsL w n s k)[k]? = some ((bfsL w n s k)[k]?.getD 0) := by rw [List.getElem?_eq_getElem hk]; rfl
  have hm := List.mem_of_getElem? hx
  have hnext : bfsL w n s (k + 1) = putsTo ((bfsL w n s k)[k]?.getD 0) (jumpL w n ((bfsL w n s k)[k]?.getD 0)) (bfsL w n s k) (jumpL w n ((bfsL w n s k)[k]?.getD 0)).length := by rw [bfsL, hx]; rfl
  generalize (bfsL w n s k)[k]?.getD 0 = x at *
  generalize bfsL w n s k = o at *
  refine ⟨hB.lt x hm, fun q => ?_, fun q hq => ?_, fun q hq => ?_, hnext⟩
  · obtain ⟨e, he⟩ := puts_pre x (jumpL w n x) o q
    rw [he, List.getElem?_append_left hk, hx, List.length_append]
    exact ⟨rfl, by omega, by omega⟩
  · have h := mid_to hB.mid hw (hB.lt x hm) (hB.come x hm) q hq
    exact nodup_le _ _ h.nodup h.lt
  · rw [List.getElem?_eq_getElem hq]
    have hJ := jump_is hw (List.getElem_mem hq)
    exact ⟨hJ, behind_lt hJ (hB.lt x hm)⟩
theorem put_old {o : List Nat} {y : Nat} (h : o.contains y = true) : putN o y = o := by unfold putN; rw [if_pos h]
theorem put_new {o : List Nat} {y : Nat} (h : o.contains y = false) : putN o y = o ++ [y] := by unfold putN; rw [if_neg (by rw [h]; exact Bool.false_ne_true)]
theorem natI_snoc (o : List Nat) (y : Nat) : ints (natI (o ++ [y])) = ints (natI o) ++ [.int .i64 (y : Int)] := by simp [natI, ints]

end Go.Proofs.Ytgbbmnnpphkkbaa

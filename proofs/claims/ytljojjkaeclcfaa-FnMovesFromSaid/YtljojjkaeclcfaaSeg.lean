/-
  A slice that begins in the midst of a row of the call's own: read, cut at its head, appended to.
-/
import Derived.Test.YtljojjkaeclcfaaReach
import Derived.ArgAppend
namespace Go.Proofs.Ytljojjkaeclcfaa
open Go.RowKit
set_option linter.unusedVariables false

/-- The value is a slice over one-cell elements xs in block g, from B on, with its spare room. -/
def Seg (w : World) (B g : Nat) (t : TypeId) (v : Value) (xs : List Value) : Prop :=
  ∃ off cap cur, v = .slice (some ⟨g, off, none⟩) xs.length cap ∧ B ≤ g ∧ w.heap[g]? = some (.cells cur t (0, 0)) ∧ xs.length ≤ cap ∧ cap ≤ maxLen ∧ off + cap ≤ cur.size ∧ ∀ j, j < xs.length → cur[off + j]? = xs[j]?
section
variable {w w' : World} {B g : Nat} {t : TypeId} {v : Value} {xs : List Value}
theorem Seg.lt (h : Seg w B g t v xs) : B ≤ g ∧ g < w.heap.size := by
  obtain ⟨off, cap, cur, _, hb, hg, _⟩ := h
  exact ⟨hb, (Array.getElem?_eq_some_iff.1 hg).1⟩
theorem Seg.kept (h : Seg w B g t v xs) (hk : w'.heap[g]? = w.heap[g]?) : Seg w' B g t v xs := by
  obtain ⟨off, cap, cur, h1, h2, h3, h4⟩ := h
  exact ⟨off, cap, cur, h1, h2, hk.trans h3, h4⟩
theorem Seg.then (h : Seg w B g t v xs) (hb : Below w.heap.size w w') : Seg w' B g t v xs := h.kept (hb.block g h.lt.2)
theorem Seg.grown {r : Option Nat} (h : Seg w B g t v xs) (hg : w.grownBy w' r) (hr : r ≠ some g) : Seg w' B g t v xs := h.kept (hg.block g h.lt.2 (fun e => hr e.symm))
theorem Seg.other (h : Seg w B g t v xs) {p : Addr} (hp : g ≠ p.block) (u : Value) : Seg (w.setCell p u) B g t v xs := h.kept (Below.heap_setCell w p u g hp)
theorem Seg.of_own {base size : Nat} {e : TypeId} (h : w.ownsRow base e 1 v xs.length xs) (hn : 0 < xs.length) : ∃ g, Seg w base g e v xs := by
  rcases h.2 with ⟨_, h0⟩ | ⟨g, cap, cur, rfl, hb, hg, hn, hm, hs, ht⟩
  · omega
  · refine ⟨g, 0, cap, cur, rfl, hb, hg, hn, hm, by omega, fun j hj => ?_⟩
    have : (cur.toList.take (xs.length * 1))[j]? = xs[j]? := by rw [ht]
    rw [List.getElem?_take, if_pos (by omega)] at this
    simpa using this
theorem Seg.row (h : Seg w B g t v xs) : ∃ off cap, v = .slice (some ⟨g, off, none⟩) xs.length cap ∧ xs.length ≤ cap ∧ cap ≤ maxLen ∧ (∀ j, j < xs.length → w.cell? ⟨g, off + j, none⟩ = xs[j]?) := by
  obtain ⟨off, cap, cur, h1, h2, h3, h4, h5, h6, h7⟩ := h
  exact ⟨off, cap, h1, h4, h5, fun j hj => by rw [cell_of_row w g (off + j) cur t (0, 0) h3]; exact h7 j hj⟩
theorem Seg.tail {off cap : Nat} {x : Value} (h : Seg w B g t (.slice (some ⟨g, off, none⟩) (xs.length + 1) cap) (x :: xs)) :
    Seg w B g t (.slice (if cap = 1 then some ⟨g, off, none⟩ else some ⟨g, off + 1, none⟩) xs.length (cap - 1)) xs := by
  obtain ⟨off', cap', cur, h1, h2, h3, h4, h5, h6, h7⟩ := h
  injection h1 with e1 _ e3
  injection e1 with e1
  injection e1 with _ e1 _
  subst e1 e3
  simp only [List.length_cons] at h4
  by_cases hc : cap = 1
  · rw [if_pos hc]
    have : xs = [] := List.eq_nil_of_length_eq_zero (by omega)
    subst this
    exact ⟨off, cap - 1, cur, rfl, h2, h3, by simp, by omega, by omega, fun j hj => absurd hj (by simp)⟩
  · rw [if_neg hc]
    refine ⟨off + 1, cap - 1, cur, rfl, h2, h3, by omega, by omega, by omega, fun j hj => ?_⟩
    have := h7 (j + 1) (by simp; omega)
    rw [show off + 1 + j = off + (j + 1) by omega, this]
    simp
end

/-- ONE MORE AT ITS END. -/
theorem seg_run {P : Program} (w : World) {ts e : TypeId} {bytes : Nat} (ty : TypeId) (ht : P.underlying ts = some (.slice e)) (he : Elem P e 1 bytes)
    {B g c : Nat} {v u : Value} {xs : List Value} {ad : Addr} (h : Seg w B g e v xs) (hx : w.cell? ad = some u) (h1 : u.oneCell' = true) (hsmall : xs.length ≤ 1000000) (hbytes : bytes ≤ 100) (hB : B ≤ w.heap.size) :
    ∃ v' w' g', (Builtin.append_ #[ts, ts] ty #[v, .slice (some ad) 1 c]).run P w = .ok v' w' ∧ Seg w' B g' e v' (xs ++ [u]) ∧ w.grownBy w' (some g) ∧ (g' = g ∨ w.heap.size ≤ g') := by
  obtain ⟨⟨i, z, hi, hz, hs, hby, hzs⟩, hpos⟩ := he
  obtain ⟨off, cap, cur, rfl, hb, hg, hn, hm, hoff, hc⟩ := h
  have hnews : ∀ j u', [u][j]? = some u' → w.cell? (ad.add j) = some u' := fun j u' hj => by
    rcases j with _ | j
    · simp only [List.getElem?_cons_zero, Option.some.injEq] at hj
      subst hj
      exact hx
    · simp at hj
  have hone : ∀ u' ∈ [u], u'.oneCell' = true := by simpa using h1
  by_cases hroom : xs.length + 1 ≤ cap
  · have hcell : (w.cell? ⟨g, off + xs.length * i.size + 0, none⟩).isSome = true := by
      rw [hs, cell_of_row w g _ cur e (0, 0) hg]
      rw [Array.getElem?_eq_getElem (by omega)]
      rfl
    have hfree : w.frozen? ⟨g, off + xs.length * i.size + 0, none⟩ = false := by simp [World.frozen?, hg]
    have hr := run_append_room_cells (P := P) w ts ty e i ht hi g off xs.length cap ad 1 c [u] (by rw [hs]; rfl) hnews hone hroom
      (fun j hj => by simp only [List.length_cons, List.length_nil] at hj; obtain rfl : j = 0 := (by omega); exact hcell)
      (fun j hj => by simp only [List.length_cons, List.length_nil] at hj; obtain rfl : j = 0 := (by omega); exact hfree)
    have hw : w.setCells g (off + xs.length * i.size) [u] = w.setCell ⟨g, off + xs.length, none⟩ u := by
      rw [hs, Nat.mul_one]; rfl
    refine ⟨_, _, g, hr, ?_, ?_, .inl rfl⟩
    · rw [hw]
      refine ⟨off, cap, cur.setIfInBounds (off + xs.length) u, by simp, hb, ?_, by simp; omega, hm, by simpa using hoff, fun j hj => ?_⟩
      · simp [World.setCell, Array.getElem?_modify, hg]
      · simp only [List.length_append, List.length_cons, List.length_nil] at hj
        rw [Array.getElem?_setIfInBounds]
        by_cases hjl : j = xs.length
        · subst hjl
          rw [if_pos rfl, if_pos (by omega)]
          simp
        · rw [if_neg (by omega), hc j (by omega), List.getElem?_append_left (by omega)]
    · rw [hw]
      exact ⟨rfl, rfl, rfl, by simp [World.setCell], fun k hk hne => Below.heap_setCell w _ u k (fun x => hne (by rw [x]))⟩
  · obtain ⟨v', w', hr, ho, hgr⟩ := run_append_arg_grows (P := P) w ts ty e i z 1 bytes ht hi hz hs hby hzs hpos ⟨g, off, none⟩ xs.length cap xs (by simp)
      (fun j u' hj => by
        obtain ⟨hjl, _⟩ := List.getElem?_eq_some_iff.1 hj
        rw [show (⟨g, off, none⟩ : Addr).add j = ⟨g, off + j, none⟩ from by unfold Addr.add; split <;> simp_all]
        rw [cell_of_row w g _ cur e (0, 0) hg, hc j hjl, hj])
      ad 1 c [u] rfl hnews (by omega) (by simp only [maxLen]; omega) (Nat.le_trans (Nat.mul_le_mul (show xs.length + 1 ≤ 1000001 by omega) hbytes) (by omega))
    have ho' : w'.ownsRow w.heap.size e 1 v' (xs ++ [u]).length (xs ++ [u]) := by simpa using ho
    obtain ⟨g', sg⟩ := Seg.of_own (size := 1) ho' (by simp)
    have sg' : Seg w' B g' e v' (xs ++ [u]) := by
      obtain ⟨o, c', cu, a1, a2, a3⟩ := sg
      exact ⟨o, c', cu, a1, by omega, a3⟩
    exact ⟨v', w', g', hr, sg', ⟨hgr.os, hgr.tape, hgr.output, hgr.size, fun k hk _ => hgr.block k hk (by simp)⟩, .inr sg.lt.1⟩
theorem seg_put {P : Program} {ops : Array Oper} {rest : List Oper} {o : Oper} {a : Act} {Q : Exit → Act → World → Prop} {w : World} (hgd : o.guard = none) (s x : Operand) {ts : TypeId}
    (ho : o.op = .call { callee := .builtin .append, args := #[s, x], argTypes := #[ts, ts] })
    {e : TypeId} {bytes : Nat} (ht : P.underlying ts = some (.slice e)) (he : Elem P e 1 bytes)
    {B g c : Nat} {v u : Value} {xs : List Value} {ad : Addr} (hs : a.eval s = v) (hsg : Seg w B g e v xs) (hx : a.eval x = .slice (some ad) 1 c) (hc : w.cell? ad = some u) (h1 : u.oneCell' = true)
    (hsmall : xs.length ≤ 1000000) (hbytes : bytes ≤ 100) (hB : B ≤ w.heap.size)
    (h : ∀ v' w' g', Seg w' B g' e v' (xs ++ [u]) → w.grownBy w' (some g) → (g' = g ∨ w.heap.size ≤ g') → wpList P ops Q rest (a.put o.dst v') w') : wpList P ops Q (o :: rest) a w := by
  obtain ⟨v', w', g', hrun, h2, h3, h4⟩ := seg_run (P := P) w o.type ht he (c := c) hsg hc h1 hsmall hbytes hB
  refine wpList_plain hgd fun K hK => ?_
  unfold Oper.wp execOp
  simp only [ho, resolve, invoke, builtin, Sem.run_bind, Sem.run_pure, Result.andThen_ok, List.map_toArray, List.map_cons, List.map_nil, hs, hx, hrun]
  exact hK _ _ (h v' w' g' h2 h3 h4)
end Go.Proofs.Ytljojjkaeclcfaa

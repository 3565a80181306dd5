
/-
  The model's determinant.
-/
import Derived.Test.YtoapmmmmdfmaeaaDetX
import Derived.Test.YtoapmmmmdfmaeaaGuardM
import Derived.StillTailTactics
namespace Go.Proofs.Ytoapmmmmdfmaeaa
open Go.RowKit
set_option linter.unusedVariables false

theorem RowsAt.swap {w : World} {base n p k : Nat} {ps : List (Nat × Nat)} {M : Mat} (h : RowsAt w base n ps M) (hp : p < ps.length) (hk : k < ps.length) : RowsAt w base n ((ps.set p ps[k]).set k ps[p]) (swapP M p k) := by
  have hl := h.len
  have hat : ∀ i (hi : i < ps.length) (hi' : i < ((ps.set p ps[k]).set k ps[p]).length), ((ps.set p ps[k]).set k ps[p])[i] = ps[sg p k i]'(sg_lt hp hk hi) := fun i hi hi' => by
    have := swap_at (l := ps) (p := p) (k := k) (List.getElem?_eq_getElem hp) (List.getElem?_eq_getElem hk) i hi
    rw [List.getElem?_eq_getElem hi', List.getElem?_eq_getElem (sg_lt hp hk hi)] at this
    exact Option.some.inj this
  refine ⟨by rw [swapM_len]; simp [hl], fun i hi => ?_, fun i j hi hj hij => ?_⟩
  · have hi' : i < ps.length := by simpa using hi
    rw [hat i hi' hi, swapM_at (by omega) (by omega) i (by omega)]
    exact h.own _ (sg_lt hp hk hi')
  · have hi' : i < ps.length := by simpa using hi
    have hj' : j < ps.length := by simpa using hj
    rw [hat i hi' hi, hat j hj' hj]
    exact h.apart _ _ _ _ (fun e => hij (sg_inj e))
theorem hdr_put {w : World} {base n gm cm e k : Nat} {ps : List (Nat × Nat)} (h : w.ownsRow base e 1 (.slice (some ⟨gm, 0, none⟩) n cm) n (vsOf n ps)) (q : Nat × Nat) : (w.setCell ⟨gm, k, none⟩ (.slice (some ⟨q.1, 0, none⟩) n q.2)).ownsRow base e 1 (.slice (some ⟨gm, 0, none⟩) n cm) n (vsOf n (ps.set k q)) ∧ w.grownBy (w.setCell ⟨gm, k, none⟩ (.slice (some ⟨q.1, 0, none⟩) n q.2)) (some gm) := by
  obtain ⟨o, g⟩ := h.stored k (.slice (some ⟨q.1, 0, none⟩) n q.2)
  rw [show (vsOf n ps).set k (.slice (some ⟨q.1, 0, none⟩) n q.2) = vsOf n (ps.set k q) by simp [vsOf, List.map_set]] at o
  exact ⟨o, g⟩
theorem swap_rows {w W : World} {n gm cm e q k : Nat} {ps : List (Nat × Nat)} {M : Mat} (hown : w.ownsRow W.heap.size e 1 (.slice (some ⟨gm, 0, none⟩) n cm) n (vsOf n ps)) (hrows : RowsAt w W.heap.size n ps M) (hq : q < ps.length) (hk : k < ps.length) (hqk : q ≠ k)
    (hoff : ∀ i (hi : i < ps.length), ps[i].1 ≠ gm) (hb : Below W.heap.size W w) :
    ∃ ps2 : List (Nat × Nat), ps2.length = ps.length ∧ (∀ pr ∈ ps2, pr.1 ≠ gm) ∧
      ((w.setCell ⟨gm, q, none⟩ (.slice (some ⟨ps[k].1, 0, none⟩) n ps[k].2)).setCell ⟨gm, k, none⟩ (.slice (some ⟨ps[q].1, 0, none⟩) n ps[q].2)).ownsRow W.heap.size e 1 (.slice (some ⟨gm, 0, none⟩) n cm) n (vsOf n ps2) ∧
      RowsAt ((w.setCell ⟨gm, q, none⟩ (.slice (some ⟨ps[k].1, 0, none⟩) n ps[k].2)).setCell ⟨gm, k, none⟩ (.slice (some ⟨ps[q].1, 0, none⟩) n ps[q].2)) W.heap.size n ps2 (swapP M q k) ∧
      Below W.heap.size W ((w.setCell ⟨gm, q, none⟩ (.slice (some ⟨ps[k].1, 0, none⟩) n ps[k].2)).setCell ⟨gm, k, none⟩ (.slice (some ⟨ps[q].1, 0, none⟩) n ps[q].2)) ∧
      (w.setCell ⟨gm, q, none⟩ (.slice (some ⟨ps[k].1, 0, none⟩) n ps[k].2)).cell? ⟨gm, k, none⟩ = some (.slice (some ⟨ps[k].1, 0, none⟩) n ps[k].2) ∧
      (w.setCell ⟨gm, q, none⟩ (.slice (some ⟨ps[k].1, 0, none⟩) n ps[k].2)).frozen? ⟨gm, k, none⟩ = false := by
  have hgm := (hown.lt gm rfl).1
  obtain ⟨o1, g1⟩ := hdr_put (k := q) hown ps[k]
  obtain ⟨ck, ckf⟩ := hdr_cell o1 (k := k) (by simp; omega)
  rw [List.getElem_set_ne (fun h => hqk h)] at ck
  obtain ⟨o2, g2⟩ := hdr_put (k := k) o1 ps[q]
  refine ⟨(ps.set q ps[k]).set k ps[q], by simp, fun pr hpr => ?_, o2, ((hrows.kept g1 (fun i hi e => hoff i hi (by injection e with e; exact e.symm))).kept g2 (fun i hi e => hoff i hi (by injection e with e; exact e.symm))).swap hq hk, (hb.grown g1 hb.size (fun z e => by injection e with e; omega)).grown g2 (Nat.le_trans hb.size g1.size) (fun z e => by injection e with e; omega), ck, ckf⟩
  obtain ⟨i, hi, rfl⟩ := List.getElem_of_mem hpr
  rw [List.getElem_set]
  split
  · exact hoff q hq
  · rw [List.getElem_set]
    split
    · exact hoff k hk
    · exact hoff i (by simpa using hi)
/-- The rows that the call is given. -/
def InRows (w : World) (vs : List Value) (n : Nat) (M : Mat) : Prop := vs.length = M.length ∧ ∀ i, i < M.length → ∃ ad c, vs[i]? = some (.slice (some ad) n c) ∧ Row w (some ad) (ints (M[i]?.getD [])) ∧ (M[i]?.getD []).length = n
theorem InRows.below {w w' : World} {vs : List Value} {n : Nat} {M : Mat} (h : InRows w vs n M) (hb : Below w.heap.size w w') : InRows w' vs n M := ⟨h.1, fun i hi => by
  obtain ⟨ad, c, e1, e2, e3⟩ := h.2 i hi
  exact ⟨ad, c, e1, e2.below hb, e3⟩⟩
end Go.Proofs.Ytoapmmmmdfmaeaa

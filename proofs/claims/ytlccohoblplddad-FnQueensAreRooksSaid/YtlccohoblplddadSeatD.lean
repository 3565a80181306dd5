
/-
  The other seats, by the program and by the model.
-/
import Derived.Test.YtlccohoblplddadSeatA
import Derived.Test.YtlccohoblplddadSpecC
import Derived.Test.YtlccohoblplddadOwnWords
import Derived.OwnWalk
namespace Go.Proofs.Ytlccohoblplddad
open Go.RowKit
set_option linter.unusedVariables false

theorem made_of {P : Program} {e : TypeId} {z : Value} {size bytes : Nat} (h : (P.info? e).map (fun i => (i.zero, i.size, i.bytes)) = some (some z, size, bytes)) : ∃ i, P.info? e = some i ∧ i.zero = some z ∧ i.size = size ∧ i.bytes = bytes := by
  cases hi : P.info? e with
  | none => simp [hi] at h
  | some i =>
    simp only [hi, Option.map_some, Option.some.injEq, Prod.mk.injEq] at h
    exact ⟨i, rfl, h.1, h.2.1, h.2.2⟩
theorem made_own {w : World} {base : Nat} {e : TypeId} {v : Value} {n : Nat} {z : Value} (hz : z.cells = #[z]) (h : w.ownsRow base e 1 v n (madeCells z.cells (n * 1)).toList) : w.ownsRow base e 1 v n (List.replicate n z) := by
  rwa [hz, Nat.mul_one, toList_madeCells_one] at h
theorem ints_set2 (l : List Int) (i : Nat) (u : Int) : (ints l).set i (.int .i64 u) = ints (l.set i u) := by simp [ints, List.map_set]
theorem andNot_full {n : Nat} (h1 : 1 ≤ n) (h5 : n ≤ 5) {x : Int} (x0 : 0 ≤ x) (x1 : x ≤ fullP n) : bits .andNot .i64 (fullP n) x = fullP n - x := by
  obtain ⟨k, rfl⟩ := Int.eq_ofNat_of_zero_le x0
  have hb := (full_bd h1 h5).2
  have := (by decide +kernel : ∀ n : Fin 6, ∀ k : Fin 32, 1 ≤ n.val → (k.val : Int) ≤ fullP n.val → bits .andNot .i64 (fullP n.val) (k.val : Int) = fullP n.val - (k.val : Int)) ⟨n, by omega⟩ ⟨k, by omega⟩ h1 x1
  exact this
def othersP (l : List Int) : List Int := l.map fun x => fullP l.length - x
/-- The first k are reckoned. -/
def Upto (Z l : List Int) (F : Int) (k : Nat) : Prop := Z.length = l.length ∧ ∀ i, i < k → Z[i]?.getD 0 = F - l[i]?.getD 0
theorem Upto.succ {Z l : List Int} {F : Int} {k : Nat} (h : Upto Z l F k) (hk : k < l.length) : Upto (Z.set k (F - l[k]?.getD 0)) l F (k + 1) :=
  ⟨by rw [List.length_set]; exact h.1, fun i hi => by
    by_cases e : i = k
    · subst e; rw [List.getElem?_set_self (by rw [h.1]; exact hk)]; rfl
    · rw [List.getElem?_set_ne (by omega)]; exact h.2 i (by omega)⟩
theorem Upto.all {Z l : List Int} (h : Upto Z l (fullP l.length) l.length) : Z = othersP l := by
  apply List.ext_getElem
  · rw [h.1]; simp [othersP]
  · intro i h1 h2
    have hl : i < l.length := by rw [← h.1]; exact h1
    have := h.2 i hl
    rw [List.getElem?_eq_getElem h1, List.getElem?_eq_getElem hl] at this
    simpa [othersP] using this
theorem seat_at {l : List Int} (h : Seats l) {k : Nat} (hk : k < l.length) : 0 ≤ l[k]?.getD 0 ∧ l[k]?.getD 0 ≤ fullP l.length := h.2 k hk

theorem others_step (l : List Int) (F : Int) (k : Nat) (hk : k < l.length) : (l.take k).map (fun x => F - x) ++ [F - l[k]?.getD 0] = (l.take (k + 1)).map (fun x => F - x) := by
  rw [take_snoc l k hk, List.map_append]; rfl
end Go.Proofs.Ytlccohoblplddad

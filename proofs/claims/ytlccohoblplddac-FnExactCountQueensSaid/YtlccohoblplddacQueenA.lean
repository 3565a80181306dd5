
/-
  The model's queens: apart, queensFrom, QueensOf.
-/
import Derived.Test.YtlccohoblplddacQueenP
import Derived.Test.YtlccohoblplddacSpecA
import Derived.Test.YtlccohoblplddacSpecC
import Derived.Test.YtlccohoblplddacLawWords
import Derived.Test.YtlccohoblplddacOwnWords
namespace Go.Proofs.Ytlccohoblplddac
open Go.RowKit
set_option linter.unusedVariables false

def Small (l : List Int) : Prop := l.length ≤ 7 ∧ ∀ i, i < l.length → -1 ≤ l[i]?.getD 0 ∧ l[i]?.getD 0 ≤ 10
/-- A slice of so many numbers has room for them. -/
def Room (n c : Nat) : Prop := n ≤ c ∧ c ≤ maxLen
/-- vs are slices, from block B on, that read as the lists L. -/
def Reads (w : World) (B : Nat) (vs : List Value) (L : List (List Int)) : Prop := vs.length = L.length ∧ ∀ i (h : i < L.length), ∃ A c, vs[i]? = some (.slice A (L[i]).length c) ∧ Row w A (ints L[i]) ∧ From B A ∧ Room (L[i]).length c
theorem Reads.below {w w' : World} {B : Nat} {vs : List Value} {L : List (List Int)} (h : Reads w B vs L) (hb : Below w.heap.size w w') : Reads w' B vs L :=
  ⟨h.1, fun i hi => by obtain ⟨A, c, e, hr, hf⟩ := h.2 i hi; exact ⟨A, c, e, hr.below hb, hf⟩⟩
theorem Reads.mono {w : World} {B B' : Nat} {vs : List Value} {L : List (List Int)} (h : Reads w B vs L) (hb : B' ≤ B) : Reads w B' vs L :=
  ⟨h.1, fun i hi => by obtain ⟨A, c, e, hr, hf⟩ := h.2 i hi; exact ⟨A, c, e, hr, hf.1.mono hb, hf.2⟩⟩
theorem Reads.nil (w : World) (B : Nat) : Reads w B [] [] := ⟨rfl, fun i h => by simp at h⟩
theorem Reads.one {w : World} {B : Nat} {A : Option Addr} {c : Nat} {l : List Int} (h : Row w A (ints l)) (hf : From B A) (hc : Room l.length c) : Reads w B [.slice A l.length c] [l] :=
  ⟨rfl, fun i hi => by
    have : i = 0 := by simpa using hi
    subst this
    exact ⟨A, c, rfl, h, hf, hc⟩⟩
theorem Reads.append {w : World} {B : Nat} {vs us : List Value} {L M : List (List Int)} (h : Reads w B vs L) (k : Reads w B us M) : Reads w B (vs ++ us) (L ++ M) :=
  ⟨by rw [List.length_append, List.length_append, h.1, k.1], fun i hi => by
    by_cases hl : i < L.length
    · obtain ⟨A, c, e, hr⟩ := h.2 i hl
      rw [List.getElem_append_left hl]
      exact ⟨A, c, by rw [List.getElem?_append_left (by rw [h.1]; exact hl)]; exact e, hr⟩
    · have hm : i - L.length < M.length := by rw [List.length_append] at hi; omega
      obtain ⟨A, c, e, hr⟩ := k.2 _ hm
      rw [List.getElem_append_right (by omega)]
      exact ⟨A, c, by rw [List.getElem?_append_right (by rw [h.1]; omega), h.1]; exact e, hr⟩⟩
theorem Reads.one_cell {w : World} {B : Nat} {vs : List Value} {L : List (List Int)} (h : Reads w B vs L) : ∀ u ∈ vs, u.oneCell' = true := fun u hu => by
  obtain ⟨i, hi, rfl⟩ := List.getElem_of_mem hu
  obtain ⟨A, c, e, _⟩ := h.2 i (by rw [← h.1]; exact hi)
  rw [List.getElem?_eq_getElem hi] at e
  injection e with e
  rw [e]; rfl
/-- None of the rows lies in block g. -/
def Off (g : Nat) (vs : List Value) : Prop := ∀ (i : Nat) (a : Addr) (n c : Nat), vs[i]? = some (Value.slice (some a) n c) → a.block ≠ g
theorem Off.append {g : Nat} {vs us : List Value} (h : Off g vs) (k : Off g us) : Off g (vs ++ us) := fun i a n c e => by
  by_cases hl : i < vs.length
  · rw [List.getElem?_append_left hl] at e; exact h i a n c e
  · rw [List.getElem?_append_right (by omega)] at e; exact k _ a n c e
theorem Reads.off_low {w : World} {B g : Nat} {vs : List Value} {L : List (List Int)} (h : Reads w B vs L) (hg : g < B) : Off g vs := fun i a n c e => by
  have hi : i < vs.length := (List.getElem?_eq_some_iff.1 e).1
  obtain ⟨A, c', e', _, hf⟩ := h.2 i (by rw [← h.1]; exact hi)
  rw [e] at e'
  injection e' with e'
  injection e' with e'
  have := hf.1 a e'.symm
  omega
theorem Reads.off_new {w : World} {B g : Nat} {vs : List Value} {L : List (List Int)} (h : Reads w B vs L) (hne : ∀ x ∈ L, 1 ≤ x.length) (hg : w.heap.size ≤ g) : Off g vs := fun i a n c e => by
  have hi : i < vs.length := (List.getElem?_eq_some_iff.1 e).1
  have hiL : i < L.length := by rw [← h.1]; exact hi
  obtain ⟨A, c', e', hr, _⟩ := h.2 i hiL
  rw [e] at e'
  injection e' with e'
  injection e' with e'
  subst e'
  obtain ⟨ad, ea, hc⟩ := hr 0 (by have := hne _ (List.getElem_mem hiL); simp; omega)
  injection ea with ea
  subst ea
  have := World.block_lt_of_cell? _ _ hc
  rw [addr_block] at this
  omega
theorem Reads.grown {w w' : World} {B : Nat} {vs : List Value} {L : List (List Int)} {r : Option Nat} (h : Reads w B vs L) (hg : w.grownBy w' r) (hr : ∀ g, r = some g → Off g vs) : Reads w' B vs L :=
  ⟨h.1, fun i hi => by
    obtain ⟨A, c, e, hrow, hf⟩ := h.2 i hi
    exact ⟨A, c, e, hrow.grown hg (fun ad ea hx => by subst ea; exact hr _ hx i ad _ c e rfl), hf⟩⟩
theorem elem_rows : Elem Try.prog 22 1 24 := Elem.of (z := .slice none 0 0) (by kernel_rfl) rfl (by omega)

def Heads (n : Nat) (head : List Int) : Prop := ∀ i, i < head.length → 0 ≤ head[i]?.getD 0 ∧ head[i]?.getD 0 < (n : Int)
theorem Heads.small {n : Nat} {head : List Int} (h : Heads n head) (hn : n ≤ 6) (hl : head.length ≤ n) : Small head := ⟨by omega, fun i hi => by have := h i hi; omega⟩
theorem Heads.snoc {n : Nat} {head : List Int} (h : Heads n head) {c : Nat} (hc : c < n) : Heads n (head ++ [(c : Int)]) := fun i hi => by
  by_cases e : i < head.length
  · rw [List.getElem?_append_left e]; exact h i e
  · have : i = head.length := by simp at hi; omega
    subst this
    rw [List.getElem?_append_right (Nat.le_refl _), Nat.sub_self]
    simp only [List.getElem?_cons_zero, Option.getD_some]
    omega
/-- What a call of queensFrom comes to. -/
def Queens (B : Nat) (L : List (List Int)) (w : World) (e : Ending) (w' : World) : Prop := ∃ v vs, e = .returned v ∧ w'.ownsRow w.heap.size 22 1 v (List.length vs) vs ∧ Reads w' B vs L ∧ Below w.heap.size w w'
def queensOfP (n : Int) : List (List Int) := if 1 ≤ n ∧ n ≤ 6 then queensP n.toNat n.toNat [] else []
end Go.Proofs.Ytlccohoblplddac

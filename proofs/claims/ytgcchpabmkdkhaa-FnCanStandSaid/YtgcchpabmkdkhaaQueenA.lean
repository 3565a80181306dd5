
/-
  The model's queens: apart, queensFrom, QueensOf.
-/
import Derived.Test.YtgcchpabmkdkhaaQueenP
import Derived.Test.YtgcchpabmkdkhaaSpecA
import Derived.Test.YtgcchpabmkdkhaaSpecC
import Derived.Test.YtgcchpabmkdkhaaLawWords
import Derived.Test.YtgcchpabmkdkhaaOwnWords
namespace Go.Proofs.Ytgcchpabmkdkhaa
open Go.RowKit
set_option linter.unusedVariables false

def Small (l : List Int) : Prop := l.length ≤ 7 ∧ ∀ i, i < l.length → -1 ≤ l[i]?.getD 0 ∧ l[i]?.getD 0 ≤ 10
set_option maxHeartbeats 400000 in
theorem specApart_c (A : Option Addr) (cc : Nat) (head : List Int) (c : Int) (w : World) (hr : Row w A (ints head)) (hs : Small head) (c0 : -1 ≤ c) (c1 : c ≤ 10) :
    Calls Try.prog 19 #[.slice A head.length cc, .int .i64 c] w fun e w' => e = .returned (.bool (apartP head c)) ∧ w = w' := by
  obtain ⟨hl, hb⟩ := hs
  have HB := hide hb
  have HA := hide (fun (h : apartTo head c head.length) => apart_all h)
  have HN := hide (fun (k : Nat) (hk : k < head.length) (h : withP head c k = false) => apart_not hk h)
  clear hb
  generalize apartP head c = res at *
  go_enter Try.func19, Try.ntmps19
  go_wp2_with fail
  go_loopw [5] (fun i wr => ∃ k : Nat, k ≤ head.length ∧ i = .int .i64 (k : Int) ∧ Hid (apartTo head c k) ∧ w = wr) (fun i _ => head.length - (intOf i).toNat)
  case atStart => exact ⟨0, Nat.zero_le _, rfl, fun i hi => absurd hi (by omega), rfl⟩
  case round =>
    obtain ⟨k, hk, rfl, ha, rfl⟩ := hrel
    by_cases hlt : k < head.length
    · obtain ⟨ad, rfl, hc⟩ := hr.int hlt
      obtain ⟨b0, b1⟩ := HB.out k hlt
      have hw : Hid (withP head c k = !(head[k]?.getD 0 == c || head[k]?.getD 0 - c == (head.length : Int) - (k : Int) || c - head[k]?.getD 0 == (head.length : Int) - (k : Int))) := rfl
      generalize head[k]?.getD 0 = x at *
      obtain ⟨d, hd⟩ : ∃ d : Int, (head.length : Int) - (k : Int) = d := ⟨_, rfl⟩
      rw [hd] at hw
      have ed : IntKind.i64.wrap ((head.length : Int) - (k : Int)) = d := (IntWalk.i64_in _ (by omega)).trans hd
      have k0 : (0 : Int) ≤ (k : Int) := by omega
      have k1 : (k : Int) < (head.length : Int) := by omega
      have e1 : IntKind.i64.wrap (x - c) = x - c := IntWalk.i64_in _ (by omega)
      have e2 : IntKind.i64.wrap (c - x) = c - x := IntWalk.i64_in _ (by omega)
      clear hd
      cases q1 : (x == c) with
      | true =>
        have hf : Hid (withP head c k = false) := by show _ = _; rw [hw.out, q1]; rfl
        clear hw
        go_wp2_with fail
        go_ret
        exact ⟨by rw [HN.out k hlt hf.out]; rfl, rfl⟩
      | false =>
        cases q2 : (x - c == d) with
        | true =>
          have hf : Hid (withP head c k = false) := by show _ = _; rw [hw.out, q1, q2]; rfl
          clear hw
          go_wp2_with fail
          go_ret
          exact ⟨by rw [HN.out k hlt hf.out]; rfl, rfl⟩
        | false =>
          cases q3 : (c - x == d) with
          | true =>
            have hf : Hid (withP head c k = false) := by show _ = _; rw [hw.out, q1, q2, q3]; rfl
            clear hw
            go_wp2_with fail
            go_ret
            exact ⟨by rw [HN.out k hlt hf.out]; rfl, rfl⟩
          | false =>
            have hf : Hid (withP head c k = true) := by show _ = _; rw [hw.out, q1, q2, q3]; rfl
            clear hw
            go_wp2_with fail
            exact ⟨⟨k + 1, hlt, rfl, fun i hi => by
              by_cases e : i = k
              · subst e; exact hf.out
              · exact ha.out i (by omega), trivial⟩, by simp [intOf]; omega⟩
    · have hkl : Hid (k = head.length) := hide (by omega)
      go_wp2_with fail
      go_ret
      exact ⟨by rw [HA.out (by rw [← hkl.out]; exact ha.out)]; rfl, rfl⟩

/-- A slice of so many numbers has room for them. -/
def Room (n c : Nat) : Prop := n ≤ c ∧ c ≤ maxLen
/-- vs are slices, from block B on, that read as the lists L. -/
def Reads (w : World) (B : Nat) (vs : List Value) (L : List (List Int)) : Prop := vs.length = L.length ∧ ∀ i (h : i < L.length), ∃ A c, vs[i]? = some (.slice A (L[i]).length c) ∧ Row w A (ints L[i]) ∧ From B A ∧ Room (L[i]).length c
theorem Reads.below {w w' : World} {B : Nat} {vs : List Value} {L : List (List Int)} (h : Reads w B vs L) (hb : Below w.heap.size w w') : Reads w' B vs L :=
  ⟨h.1, fun i hi => by obtain ⟨A, c, e, hr, hf⟩ := h.2 i hi; exact ⟨A, c, e, hr.below hb, hf⟩⟩
theorem Reads.mono {w : World} {B B' : Nat} {vs : List Value} {L : List (List Int)} (h : Reads w B vs L) (hb : B' ≤ B) : Reads w B' vs L :=
  ⟨h.1, fun i hi => by obtain ⟨A, c, e, hr, hf⟩ := h.2 i hi; exact ⟨A, c, e, hr, hf.1.mono hb, hf.2⟩⟩
theorem Reads.nil (w : World) (B : Nat) : Reads w B [] [] := ⟨rfl, fun i h => by simp at h⟩
theorem Reads.one {w : World} {B : Nat} {A : Option Addr} {c : Nat} {l : List Int} (h : Row w A (ints l)) (hf : From B A) (hc : Room l.length c) : Reads w B [.slice A l.length c] [l] :=
  ⟨rfl, fun i hi => by
    have : i = 0 := by simpa using hi
    subst this
    exact ⟨A, c, rfl, h, hf, hc⟩⟩
theorem Reads.append {w : World} {B : Nat} {vs us : List Value} {L M : List (List Int)} (h : Reads w B vs L) (k : Reads w B us M) : Reads w B (vs ++ us) (L ++ M) :=
  ⟨by rw [List.length_append, List.length_append, h.1, k.1], fun i hi => by
    by_cases hl : i < L.length
    · obtain ⟨A, c, e, hr⟩ := h.2 i hl
      rw [List.getElem_append_left hl]
      exact ⟨A, c, by rw [List.getElem?_append_left (by rw [h.1]; exact hl)]; exact e, hr⟩
    · have hm : i - L.length < M.length := by rw [List.length_append] at hi; omega
      obtain ⟨A, c, e, hr⟩ := k.2 _ hm
      rw [List.getElem_append_right (by omega)]
      exact ⟨A, c, by rw [List.getElem?_append_right (by rw [h.1]; omega), h.1]; exact e, hr⟩⟩
theorem Reads.one_cell {w : World} {B : Nat} {vs : List Value} {L : List (List Int)} (h : Reads w B vs L) : ∀ u ∈ vs, u.oneCell' = true := fun u hu => by
  obtain ⟨i, hi, rfl⟩ := List.getElem_of_mem hu
  obtain ⟨A, c, e, _⟩ := h.2 i (by rw [← h.1]; exact hi)
  rw [List.getElem?_eq_getElem hi] at e
  injection e with e
  rw [e]; rfl
/-- None of the rows lies in block g. -/
def Off (g : Nat) (vs : List Value) : Prop := ∀ (i : Nat) (a : Addr) (n c : Nat), vs[i]? = some (Value.slice (some a) n c) → a.block ≠ g
theorem Off.append {g : Nat} {vs us : List Value} (h : Off g vs) (k : Off g us) : Off g (vs ++ us) := fun i a n c e => by
  by_cases hl : i < vs.length
  · rw [List.getElem?_append_left hl] at e; exact h i a n c e
  · rw [List.getElem?_append_right (by omega)] at e; exact k _ a n c e
theorem Reads.off_low {w : World} {B g : Nat} {vs : List Value} {L : List (List Int)} (h : Reads w B vs L) (hg : g < B) : Off g vs := fun i a n c e => by
  have hi : i < vs.length := (List.getElem?_eq_some_iff.1 e).1
  obtain ⟨A, c', e', _, hf⟩ := h.2 i (by rw [← h.1]; exact hi)
  rw [e] at e'
  injection e' with e'
  injection e' with e'
  have := hf.1 a e'.symm
  omega
theorem Reads.off_new {w : World} {B g : Nat} {vs : List Value} {L : List (List Int)} (h : Reads w B vs L) (hne : ∀ x ∈ L, 1 ≤ x.length) (hg : w.heap.size ≤ g) : Off g vs := fun i a n c e => by
  have hi : i < vs.length := (List.getElem?_eq_some_iff.1 e).1
  have hiL : i < L.length := by rw [← h.1]; exact hi
  obtain ⟨A, c', e', hr, _⟩ := h.2 i hiL
  rw [e] at e'
  injection e' with e'
  injection e' with e'
  subst e'
  obtain ⟨ad, ea, hc⟩ := hr 0 (by have := hne _ (List.getElem_mem hiL); simp; omega)
  injection ea with ea
  subst ea
  have := World.block_lt_of_cell? _ _ hc
  rw [addr_block] at this
  omega
theorem Reads.grown {w w' : World} {B : Nat} {vs : List Value} {L : List (List Int)} {r : Option Nat} (h : Reads w B vs L) (hg : w.grownBy w' r) (hr : ∀ g, r = some g → Off g vs) : Reads w' B vs L :=
  ⟨h.1, fun i hi => by
    obtain ⟨A, c, e, hrow, hf⟩ := h.2 i hi
    exact ⟨A, c, e, hrow.grown hg (fun ad ea hx => by subst ea; exact hr _ hx i ad _ c e rfl), hf⟩⟩
theorem elem_rows : Elem Try.prog 23 1 24 := Elem.of (z := .slice none 0 0) (by kernel_rfl) rfl (by omega)

def Heads (n : Nat) (head : List Int) : Prop := ∀ i, i < head.length → 0 ≤ head[i]?.getD 0 ∧ head[i]?.getD 0 < (n : Int)
theorem Heads.small {n : Nat} {head : List Int} (h : Heads n head) (hn : n ≤ 6) (hl : head.length ≤ n) : Small head := ⟨by omega, fun i hi => by have := h i hi; omega⟩
theorem Heads.snoc {n : Nat} {head : List Int} (h : Heads n head) {c : Nat} (hc : c < n) : Heads n (head ++ [(c : Int)]) := fun i hi => by
  by_cases e : i < head.length
  · rw [List.getElem?_append_left e]; exact h i e
  · have : i = head.length := by simp at hi; omega
    subst this
    rw [List.getElem?_append_right (Nat.le_refl _), Nat.sub_self]
    simp only [List.getElem?_cons_zero, Option.getD_some]
    omega
/-- What a call of queensFrom comes to. -/
def Queens (B : Nat) (L : List (List Int)) (w : World) (e : Ending) (w' : World) : Prop := ∃ v vs, e = .returned v ∧ w'.ownsRow w.heap.size 23 1 v (List.length vs) vs ∧ Reads w' B vs L ∧ Below w.heap.size w w'
def queensOfP (n : Int) : List (List Int) := if 1 ≤ n ∧ n ≤ 6 then queensP n.toNat n.toNat [] else []
end Go.Proofs.Ytgcchpabmkdkhaa


/-
  Drawn kinds, boards, cells.
-/
import Derived.Test.YtakphmcelhbaiabDrawA
namespace Go.Proofs.Ytakphmcelhbaiab
open Go.RowKit
set_option linter.unusedVariables false

/-- A slice of drawn bytes: what a law is handed. -/
def Code (w : World) (A : Option Addr) (n c : Nat) : Prop := ∃ zs : List Int, zs.length = n ∧ n ≤ c ∧ c ≤ maxLen ∧ Row w A (bytesV zs) ∧ Hid (∀ z ∈ zs, 0 ≤ z ∧ z ≤ 255)
def Newly (w : World) (e : Ending) (w' : World) : Prop := ∃ R, e = .returned (.pointer (some ⟨R, 0, none⟩)) ∧ Reader w' R w.heap.size 0 ∧ Below w.heap.size w w'
theorem code_lt {w : World} {A : Option Addr} {zs : List Int} (h : Row w A (bytesV zs)) : zs.length = 0 ∨ ∀ ad, A = some ad → ad.block < w.heap.size := by
  rcases Nat.eq_zero_or_pos zs.length with h0 | h0
  · exact .inl h0
  · right
    intro ad e
    obtain ⟨ad', e', hc⟩ := h 0 (by simpa using h0)
    have : ad = ad' := by rw [e] at e'; injection e'
    subst this
    have := World.block_lt_of_cell? w _ hc
    rwa [addr_block] at this
theorem Row.bytes_upto {w : World} {A : Option Addr} {zs : List Int} (h : Row w A (bytesV zs)) (j : Nat) : Row w A (bytesV (zs.take j)) := fun i hi => by
  simp only [List.length_map, List.length_take] at hi
  obtain ⟨ad, e, hc⟩ := h i (by simp; omega)
  exact ⟨ad, e, by rw [hc]; simp⟩
set_option maxHeartbeats 400000 in
theorem newReader_c (A : Option Addr) (n c : Nat) (w : World) (h : Code w A n c) : Calls Try.prog 25 #[.slice A n c] w (Newly w) := by
  obtain ⟨zs, rfl, hc1, hc2, hr, hz⟩ := h
  unfold maxLen at hc2
  have hlt := hide (code_lt hr)
  have b1 : (zs.length : Int) ≤ (c : Int) := by omega
  by_cases hl : 2000 < (zs.length : Int)
  · have hl2 : (2000 : Int) ≤ (c : Int) := by omega
    have hr' := hr.bytes_upto 2000
    have HE : Hid (∀ w', Box w' w.heap.size 55 #[.slice A 2000 c, .int .i64 0] → Row w' A (bytesV (zs.take 2000)) → Reader w' w.heap.size w.heap.size 0) := fun w' hb hrow =>
      ⟨A, c, zs.take 2000, 0, by rw [show (zs.take 2000).length = 2000 by simp; omega]; exact hb, hrow, by
        rcases hlt.out with h | h
        · omega
        · exact .inr h, Nat.le_refl _, by simp; omega, fun z h => hz.out z (List.mem_of_mem_take h), Nat.le_refl _⟩
    go_enter Try.func25, Try.ntmps25
    go_wp2_with fail
    go_ret
    exact ⟨_, rfl, HE.out _ (Box.new _ _ _) (hr'.alloc _), (Below.refl _ _).alloc (Nat.le_refl _) _⟩
  · have HE : Hid (∀ w', Box w' w.heap.size 55 #[.slice A zs.length c, .int .i64 0] → Row w' A (bytesV zs) → Reader w' w.heap.size w.heap.size 0) := fun w' hb hrow =>
      ⟨A, c, zs, 0, hb, hrow, hlt.out, Nat.le_refl _, by omega, hz, Nat.le_refl _⟩
    go_enter Try.func25, Try.ntmps25
    go_wp2_with fail
    go_ret
    exact ⟨_, rfl, HE.out _ (Box.new _ _ _) (hr.alloc _), (Below.refl _ _).alloc (Nat.le_refl _) _⟩

def SomeKind (R B N : Nat) (w : World) (e : Ending) (w' : World) : Prop := ∃ s : ByteArray, e = .returned (.string s) ∧ s.size ≤ 6 ∧ Reader w' R B N ∧ w.grownBy w' (some R)
set_option maxHeartbeats 400000 in
theorem aKind_c (R B N : Nat) (w : World) (h : Reader w R B N) (hN : N ≤ 900000) : Calls Try.prog 27 #[.pointer (some ⟨R, 0, none⟩)] w (SomeKind R B (N + 2) w) := by
  have hlt := h.lt
  go_enter Try.func27, Try.ntmps27
  go_wp2_with fail
  refine (pick_c 24 R B N w h (by omega) (by omega) (by omega)).mono ?_
  rintro e w1 ⟨x, rfl, _, _, rd, hg⟩
  have z1 := hg.size
  cases hx : (x == 0) with
  | true =>
    have rd1 := rd.grown_alloc (.cells #[.string ⟨#[]⟩, .string ⟨#[112, 97, 119, 110]⟩, .string ⟨#[75, 105, 110, 103]⟩] 9)
    go_wp2_with fail
    refine (of_c _ _ [⟨#[]⟩, ⟨#[112, 97, 119, 110]⟩, ⟨#[75, 105, 110, 103]⟩] R B _ _ rd1 (row_new w1 _ _ rfl) (fun ad e => by injection e with e; subst e; show w1.heap.size ≠ R; have := rd.lt; omega) (by omega) (by decide) (by decide)).mono ?_
    rintro e w2 ⟨s, rfl, hm, rd2, hg2⟩
    have hs : s.size ≤ 6 := by
      simp only [List.mem_cons, List.not_mem_nil, or_false] at hm
      rcases hm with rfl | rfl | rfl <;> decide
    go_wp2_with fail
    go_ret
    exact ⟨s, rfl, hs, rd2, (hg.trans (World.grownBy_alloc _ _ _)).trans hg2⟩
  | false =>
    have rd1 := rd.grown_alloc (.cells #[.string ⟨#[115, 116, 101, 112]⟩, .string ⟨#[107, 105, 110, 103]⟩, .string ⟨#[107, 110, 105, 103, 104, 116]⟩, .string ⟨#[114, 111, 111, 107]⟩, .string ⟨#[98, 105, 115, 104, 111, 112]⟩, .string ⟨#[113, 117, 101, 101, 110]⟩] 9)
    go_wp2_with fail
    refine (of_c _ _ [⟨#[115, 116, 101, 112]⟩, ⟨#[107, 105, 110, 103]⟩, ⟨#[107, 110, 105, 103, 104, 116]⟩, ⟨#[114, 111, 111, 107]⟩, ⟨#[98, 105, 115, 104, 111, 112]⟩, ⟨#[113, 117, 101, 101, 110]⟩] R B _ _ rd1 (row_new w1 _ _ rfl) (fun ad e => by injection e with e; subst e; show w1.heap.size ≠ R; have := rd.lt; omega) (by omega) (by decide) (by decide)).mono ?_
    rintro e w2 ⟨s, rfl, hm, rd2, hg2⟩
    have hs : s.size ≤ 6 := by
      simp only [List.mem_cons, List.not_mem_nil, or_false] at hm
      rcases hm with rfl | rfl | rfl | rfl | rfl | rfl <;> decide
    go_wp2_with fail
    go_ret
    exact ⟨s, rfl, hs, rd2, (hg.trans (World.grownBy_alloc _ _ _)).trans hg2⟩

def SomeBoard (R B N : Nat) (w : World) (e : Ending) (w' : World) : Prop := ∃ x y : Int, e = .returned (.tuple #[.int .i64 x, .int .i64 y]) ∧ (-1 ≤ x ∧ x ≤ 6) ∧ (-1 ≤ y ∧ y ≤ 6) ∧ Reader w' R B N ∧ w.grownBy w' (some R)
theorem one_new (xs : List Int) (R B N : Nat) (w : World) (h : Reader w R B N) (hN : N ≤ 1000000) (h0 : 0 < xs.length) (h1 : xs.length ≤ 1000) :
    Calls Try.prog 38 #[.pointer (some ⟨R, 0, none⟩), .slice (some ⟨w.heap.size, 0, none⟩) xs.length xs.length] (w.alloc (.cells (ints xs).toArray 3)) (Drawn (· ∈ xs) R B (N + 1) w) :=
  (one_c _ _ xs R B N _ (h.grown_alloc _) (row_new w _ _ rfl) (fun ad e => by injection e with e; subst e; show w.heap.size ≠ R; have := h.lt; omega) hN h0 h1).mono fun e w' ⟨x, he, hm, rd, hg⟩ => ⟨x, he, hm, rd, (World.grownBy_alloc w _ _).trans hg⟩
end Go.Proofs.Ytakphmcelhbaiab

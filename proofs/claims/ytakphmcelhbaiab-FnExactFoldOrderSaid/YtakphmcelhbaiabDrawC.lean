
/-
  Drawn cells; the drawn arguments of the functions of chapter 1.
-/
import Derived.Test.YtakphmcelhbaiabDrawB
import Derived.OwnWalk
namespace Go.Proofs.Ytakphmcelhbaiab
open Go.RowKit
set_option linter.unusedVariables false

theorem elem_intd : Elem Try.prog 3 1 8 := Elem.of (z := .int .i64 0) (by kernel_rfl) rfl (by omega)
theorem grown_own {w w1 w2 : World} {R base e size n : Nat} {v : Value} {xs : List Value} (h : w.grownBy w1 (some R)) (hown : w1.ownsRow base e size v n xs) (hb : w.heap.size ≤ base) (hg : w1.grownBy w2 v.ownBlock) : w.grownBy w2 (some R) :=
  ⟨hg.os.trans h.os, hg.tape.trans h.tape, hg.output.trans h.output, Nat.le_trans h.size hg.size, fun k hk hne => by
    rw [hg.block k (Nat.lt_of_lt_of_le hk h.size) (fun e => by have := (hown.lt k e.symm).1; omega)]
    exact h.block k hk hne⟩
theorem Reader.grown {w w' : World} {R B N : Nat} {r : Option Nat} (h : Reader w R B N) (hg : w.grownBy w' r) (hr : ∀ k, r = some k → R < k) : Reader w' R B N := by
  obtain ⟨A, c, zs, p, a, b, d, e, f, g, i⟩ := h
  refine ⟨A, c, zs, p, a.grown hg (fun x => by have := hr R x; omega), ?_, d, e, f, g, i⟩
  rcases d with d | d
  · obtain rfl : zs = [] := List.eq_nil_of_length_eq_zero d
    exact Row.empty _ _
  · exact b.grown hg (fun ad x y => by have := hr _ y; have := d ad x; omega)
theorem own_aside {w w' : World} {base e size n R : Nat} {v : Value} {xs : List Value} (h : w.ownsRow base e size v n xs) (hR : R < base) (hg : w.grownBy w' (some R)) : w'.ownsRow base e size v n xs :=
  h.kept hg (by
    cases hk : v.ownBlock with
    | none => exact .inl rfl
    | some k =>
      right
      intro x
      injection x with x
      have := (h.lt k hk).1
      omega)
def SomeCells (R B N : Nat) (w : World) (e : Ending) (w' : World) : Prop := ∃ v xs, e = .returned v ∧ w'.ownsRow w.heap.size 3 1 v (List.length xs) (ints xs) ∧ xs.length ≤ 40 ∧ Reader w' R B N ∧ w.grownBy w' (some R)
theorem results_tmp4 {fn : Func} {t u v x : Tmp} (h : fn.results = #[.tmp t, .tmp u, .tmp v, .tmp x]) (tmps : Array Value) (P : Program) (w : World) :
    (results fn tmps).run P w = .ok (.tuple #[tmps.getD t undef, tmps.getD u undef, tmps.getD v undef, tmps.getD x undef]) w := by simp [results, h]
theorem results_tmp5 {fn : Func} {t u v x y : Tmp} (h : fn.results = #[.tmp t, .tmp u, .tmp v, .tmp x, .tmp y]) (tmps : Array Value) (P : Program) (w : World) :
    (results fn tmps).run P w = .ok (.tuple #[tmps.getD t undef, tmps.getD u undef, tmps.getD v undef, tmps.getD x undef, tmps.getD y undef]) w := by simp [results, h]
/-- Behind a reader of its own a call has turned nothing that was there. -/
theorem below_reader {w w1 w2 : World} {R : Nat} (hb : Below w.heap.size w w1) (hR : w.heap.size ≤ R) (hg : w1.grownBy w2 (some R)) : Below w.heap.size w w2 :=
  hb.grown hg hb.size (fun k e => by injection e with e; omega)
def DrawnKind (w : World) (e : Ending) (w' : World) : Prop := ∃ s : ByteArray, e = .returned (.string s) ∧ s.size ≤ 6 ∧ Below w.heap.size w w'
def DrawnBoard (w : World) (e : Ending) (w' : World) : Prop := ∃ (x y : Int) (s : ByteArray), e = .returned (.tuple #[.int .i64 x, .int .i64 y, .string s]) ∧ (-1 ≤ x ∧ x ≤ 6) ∧ (-1 ≤ y ∧ y ≤ 6) ∧ s.size ≤ 6 ∧ Below w.heap.size w w'
def DrawnCell (w : World) (e : Ending) (w' : World) : Prop := ∃ (x y c : Int) (s : ByteArray), e = .returned (.tuple #[.int .i64 x, .int .i64 y, .string s, .int .i64 c]) ∧ (-1 ≤ x ∧ x ≤ 6) ∧ (-1 ≤ y ∧ y ≤ 6) ∧ (-1001 ≤ c ∧ c ≤ 1000) ∧ s.size ≤ 6 ∧ Below w.heap.size w w'
def DrawnReach (w : World) (e : Ending) (w' : World) : Prop := ∃ (x y c : Int) (s : ByteArray) (v : Value) (xs : List Int), e = .returned (.tuple #[.int .i64 x, .int .i64 y, .string s, .int .i64 c, v]) ∧ (-1 ≤ x ∧ x ≤ 6) ∧ (-1 ≤ y ∧ y ≤ 6) ∧ (-1001 ≤ c ∧ c ≤ 1000) ∧ s.size ≤ 6 ∧ w'.ownsRow w.heap.size 3 1 v xs.length (ints xs) ∧ xs.length ≤ 40 ∧ Below w.heap.size w w'
theorem prod_bd {x y : Int} (h1 : -1 ≤ x ∧ x ≤ 6) (h2 : -1 ≤ y ∧ y ≤ 6) : -36 ≤ x * y ∧ x * y ≤ 36 := by
  obtain ⟨a, b⟩ := h1
  have : x = -1 ∨ x = 0 ∨ x = 1 ∨ x = 2 ∨ x = 3 ∨ x = 4 ∨ x = 5 ∨ x = 6 := by omega
  rcases this with rfl | rfl | rfl | rfl | rfl | rfl | rfl | rfl <;> omega

end Go.Proofs.Ytakphmcelhbaiab

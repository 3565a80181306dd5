
/-
  Drawn cells; the drawn arguments of the functions of chapter 1.
-/
import Derived.Test.YtnikgnicjbcbmaaDoorDrawB
import Derived.OwnWalk
namespace Go.Proofs.YtnikgnicjbcbmaaDoor
open Go.RowKit
set_option linter.unusedVariables false

theorem elem_intd : Elem Tryd.prog 3 1 8 := Elem.of (z := .int .i64 0) (by kernel_rfl) rfl (by omega)
theorem grown_own {w w1 w2 : World} {R base e size n : Nat} {v : Value} {xs : List Value} (h : w.grownBy w1 (some R)) (hown : w1.ownsRow base e size v n xs) (hb : w.heap.size ≤ base) (hg : w1.grownBy w2 v.ownBlock) : w.grownBy w2 (some R) :=
  ⟨hg.os.trans h.os, hg.tape.trans h.tape, hg.output.trans h.output, Nat.le_trans h.size hg.size, fun k hk hne => by
    rw [hg.block k (Nat.lt_of_lt_of_le hk h.size) (fun e => by have := (hown.lt k e.symm).1; omega)]
    exact h.block k hk hne⟩
theorem Reader.grown {w w' : World} {R B N : Nat} {r : Option Nat} (h : Reader w R B N) (hg : w.grownBy w' r) (hr : ∀ k, r = some k → R < k) : Reader w' R B N := by
  obtain ⟨A, c, zs, p, a, b, d, e, f, g, i⟩ := h
  refine ⟨A, c, zs, p, a.grown hg (fun x => by have := hr R x; omega), ?_, d, e, f, g, i⟩
  rcases d with d | d
  · obtain rfl : zs = [] := List.eq_nil_of_length_eq_zero d
    exact Row.empty _ _
  · exact b.grown hg (fun ad x y => by have := hr _ y; have := d ad x; omega)
theorem own_aside {w w' : World} {base e size n R : Nat} {v : Value} {xs : List Value} (h : w.ownsRow base e size v n xs) (hR : R < base) (hg : w.grownBy w' (some R)) : w'.ownsRow base e size v n xs :=
  h.kept hg (by
    cases hk : v.ownBlock with
    | none => exact .inl rfl
    | some k =>
      right
      intro x
      injection x with x
      have := (h.lt k hk).1
      omega)
def SomeCells (R B N : Nat) (w : World) (e : Ending) (w' : World) : Prop := ∃ v xs, e = .returned v ∧ w'.ownsRow w.heap.size 3 1 v (List.length xs) (ints xs) ∧ xs.length ≤ 40 ∧ Reader w' R B N ∧ w.grownBy w' (some R)
set_option maxHeartbeats 1000000 in
set_option maxRecDepth 100000 in
theorem someCells_c (n often : Int) (R B N : Nat) (w : World) (h : Reader w R B N) (hN : N ≤ 900000) (n1 : -36 ≤ n) (n2 : n ≤ 36) (o1 : -1000 ≤ often) (o2 : often ≤ 1000) :
    Calls Tryd.prog 15 #[.pointer (some ⟨R, 0, none⟩), .int .i64 n, .int .i64 often] w (SomeCells R B (N + 40) w) := by
  have hlt := h.lt
  go_enter Tryd.func15, Tryd.ntmps15
  go_wp2_with fail
  go_loopw [7, 8] (fun v i wr => ∃ (k : Nat) (xs : List Int), i = .int .i64 k ∧ (k = 0 ∨ (k : Int) ≤ n) ∧ wr.ownsRow w.heap.size 3 1 v xs.length (ints xs) ∧ xs.length ≤ k ∧ Reader wr R B (N + k) ∧ w.grownBy wr (some R)) (fun _ i _ => (n - intOf i).toNat)
  case atStart => exact ⟨0, [], rfl, .inl rfl, World.ownsRow_made w #[] 0 (Nat.le_refl _) (by simp [maxLen]) rfl, Nat.le_refl _, h.grown_alloc _, World.grownBy_alloc _ _ _⟩
  case round =>
    obtain ⟨k, xs, rfl, hk, hown, hxl, rd, hg⟩ := hrel
    obtain ⟨wo, rfl⟩ : ∃ wo : World, wo = wr := ⟨_, rfl⟩
    have z := hg.size
    have hk36 : k ≤ 36 := by omega
    by_cases hkn : (k : Int) < n
    · have Hk := hide hk
      clear hk
      go_wp2_with fail
      refine (pick_c often R B (N + k) _ rd (by omega) (by omega) (by omega)).mono ?_
      rintro e w1 ⟨x, rfl, _, _, rd1, hg1⟩
      have own1 := own_aside hown hlt hg1
      have hg1 := hg.trans hg1
      have z1 := hg1.size
      cases hx : (x == 0) with
      | true =>
        go_wp2_with ((at_builtin; refine put_own rfl (.tmp 19) (.tmp 21) rfl Tryd.underlying23 elem_intd rfl (own1.alloc _) rfl (m := 1) (news := [.int .i64 (k : Int)]) rfl (row_new _ _ _ rfl) (by simp [Value.oneCell']) (by omega) (by omega) (by simp; omega) ?_; intro v3 w3 hown3 hg3 ho3))
        have own1' := own1.alloc (.cells #[.int .i64 (k : Int)] 3)
        exact ⟨⟨k + 1, xs ++ [(k : Int)], rfl, .inr (by push_cast; omega), by simpa using hown3, by simp; omega, (rd1.grown_alloc _).grown hg3 (fun j e => by have := (own1'.lt j e).1; omega), grown_own (hg1.trans (World.grownBy_alloc _ _ _)) own1' (Nat.le_refl _) hg3⟩, by simp [intOf]; omega⟩
      | false =>
        go_wp2_with fail
        exact ⟨⟨k + 1, xs, rfl, .inr (by push_cast; omega), own1, by omega, rd1, hg1⟩, by simp [intOf]; omega⟩
    · go_wp2_with fail
      refine (pick_c 30 R B (N + k) _ rd (by omega) (by omega) (by omega)).mono ?_
      rintro e w1 ⟨x, rfl, _, _, rd1, hg1⟩
      have own1 := own_aside hown hlt hg1
      have hg1 := hg.trans hg1
      have z1 := hg1.size
      cases hx : (x == 0) with
      | true =>
        go_wp2_with fail
        refine (one_new [n, 0, -1] R B (N + k + 1) _ rd1 (by omega) (by simp) (by simp)).mono ?_
        rintro e w2 ⟨y, rfl, _, rd2, hg2⟩
        have own2 := own_aside own1 hlt hg2
        have hg2 := hg1.trans hg2
        have z2 := hg2.size
        have own2' := own2.alloc (.cells #[.int .i64 y] 3)
        go_wp2_with ((at_builtin; refine put_own rfl (.tmp 26) (.tmp 31) rfl Tryd.underlying23 elem_intd rfl own2' rfl (m := 1) (news := [.int .i64 y]) rfl (row_new _ _ _ rfl) (by simp [Value.oneCell']) (by omega) (by omega) (by simp; omega) ?_; intro v3 w3 hown3 hg3 ho3))
        go_ret
        exact ⟨v3, xs ++ [y], rfl, by simpa using hown3, by simp; omega, ((rd2.grown_alloc _).grown hg3 (fun j e => by have := (own2'.lt j e).1; omega)).mono (by omega), grown_own (hg2.trans (World.grownBy_alloc _ _ _)) own2' (Nat.le_refl _) hg3⟩
      | false =>
        go_wp2_with fail
        go_ret
        exact ⟨_, xs, rfl, own1, by omega, rd1.mono (by omega), hg1⟩

theorem results_tmp4 {fn : Func} {t u v x : Tmp} (h : fn.results = #[.tmp t, .tmp u, .tmp v, .tmp x]) (tmps : Array Value) (P : Program) (w : World) :
    (results fn tmps).run P w = .ok (.tuple #[tmps.getD t undef, tmps.getD u undef, tmps.getD v undef, tmps.getD x undef]) w := by simp [results, h]
theorem results_tmp5 {fn : Func} {t u v x y : Tmp} (h : fn.results = #[.tmp t, .tmp u, .tmp v, .tmp x, .tmp y]) (tmps : Array Value) (P : Program) (w : World) :
    (results fn tmps).run P w = .ok (.tuple #[tmps.getD t undef, tmps.getD u undef, tmps.getD v undef, tmps.getD x undef, tmps.getD y undef]) w := by simp [results, h]
/-- Behind a reader of its own a call has turned nothing that was there. -/
theorem below_reader {w w1 w2 : World} {R : Nat} (hb : Below w.heap.size w w1) (hR : w.heap.size ≤ R) (hg : w1.grownBy w2 (some R)) : Below w.heap.size w w2 :=
  hb.grown hg hb.size (fun k e => by injection e with e; omega)
def DrawnKind (w : World) (e : Ending) (w' : World) : Prop := ∃ s : ByteArray, e = .returned (.string s) ∧ s.size ≤ 6 ∧ Below w.heap.size w w'
def DrawnBoard (w : World) (e : Ending) (w' : World) : Prop := ∃ (x y : Int) (s : ByteArray), e = .returned (.tuple #[.int .i64 x, .int .i64 y, .string s]) ∧ (-1 ≤ x ∧ x ≤ 6) ∧ (-1 ≤ y ∧ y ≤ 6) ∧ s.size ≤ 6 ∧ Below w.heap.size w w'
def DrawnCell (w : World) (e : Ending) (w' : World) : Prop := ∃ (x y c : Int) (s : ByteArray), e = .returned (.tuple #[.int .i64 x, .int .i64 y, .string s, .int .i64 c]) ∧ (-1 ≤ x ∧ x ≤ 6) ∧ (-1 ≤ y ∧ y ≤ 6) ∧ (-1001 ≤ c ∧ c ≤ 1000) ∧ s.size ≤ 6 ∧ Below w.heap.size w w'
def DrawnReach (w : World) (e : Ending) (w' : World) : Prop := ∃ (x y c : Int) (s : ByteArray) (v : Value) (xs : List Int), e = .returned (.tuple #[.int .i64 x, .int .i64 y, .string s, .int .i64 c, v]) ∧ (-1 ≤ x ∧ x ≤ 6) ∧ (-1 ≤ y ∧ y ≤ 6) ∧ (-1001 ≤ c ∧ c ≤ 1000) ∧ s.size ≤ 6 ∧ w'.ownsRow w.heap.size 3 1 v xs.length (ints xs) ∧ xs.length ≤ 40 ∧ Below w.heap.size w w'
theorem prod_bd {x y : Int} (h1 : -1 ≤ x ∧ x ≤ 6) (h2 : -1 ≤ y ∧ y ≤ 6) : -36 ≤ x * y ∧ x * y ≤ 36 := by
  obtain ⟨a, b⟩ := h1
  have : x = -1 ∨ x = 0 ∨ x = 1 ∨ x = 2 ∨ x = 3 ∨ x = 4 ∨ x = 5 ∨ x = 6 := by omega
  rcases this with rfl | rfl | rfl | rfl | rfl | rfl | rfl | rfl <;> omega

end Go.Proofs.YtnikgnicjbcbmaaDoor

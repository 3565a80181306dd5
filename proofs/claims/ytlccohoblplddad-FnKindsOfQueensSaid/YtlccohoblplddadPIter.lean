
/-
  The program's rows of queens as an iterator: what its pieces hand back.
-/
import Derived.Test.YtlccohoblplddadIter
import Derived.Test.YtlccohoblplddadPQueenA
import Derived.Lib.SliceRun
namespace Go.Proofs.Ytlccohoblplddad
open Go.RowKit
set_option linter.unusedVariables false

/-! ### Rows that begin with some and go on as fits allows, purely -/
def rowsP (n : Nat) (fit : List Int → Int → Bool) : Nat → List Int → List (List Int)
  | 0, head => [head]
  | m + 1, head => (List.range n).flatMap fun (c : Nat) => if fit head (c : Int) then rowsP n fit m (head ++ [(c : Int)]) else []
def rowsTo (n : Nat) (fit : List Int → Int → Bool) (m : Nat) (head : List Int) (cn : Nat) : List (List Int) := (List.range cn).flatMap fun (c : Nat) => if fit head (c : Int) then rowsP n fit m (head ++ [(c : Int)]) else []
theorem rowsTo_succ (n : Nat) (fit : List Int → Int → Bool) (m : Nat) (head : List Int) (cn : Nat) : rowsTo n fit m head (cn + 1) = rowsTo n fit m head cn ++ (if fit head (cn : Int) then rowsP n fit m (head ++ [(cn : Int)]) else []) := by
  simp [rowsTo, List.range_succ, List.flatMap_append]
theorem rowsTo_all (n : Nat) (fit : List Int → Int → Bool) (m : Nat) (head : List Int) : rowsTo n fit m head n = rowsP n fit (m + 1) head := rfl
theorem rowsTo_pre (n : Nat) (fit : List Int → Int → Bool) (m : Nat) (head : List Int) (k : Nat) : ∀ j, rowsTo n fit m head k <+: rowsTo n fit m head (k + j)
  | 0 => List.prefix_refl _
  | j + 1 => by
    rw [← Nat.add_assoc, rowsTo_succ]
    exact (rowsTo_pre n fit m head k j).trans (List.prefix_append _ _)
theorem rowsP_queens (n : Nat) : ∀ m head, rowsP n apartP m head = queensP n m head
  | 0, _ => rfl
  | m + 1, head => by
    have h : ∀ c : Nat, rowsP n apartP m (head ++ [(c : Int)]) = queensP n m (head ++ [(c : Int)]) := fun c => rowsP_queens n m _
    simp only [rowsP, queensP, h]
/-- Who goes on with those of the beginning. -/
def fitP (first head : List Int) (c : Int) : Bool := if head.length < first.length ∧ c ≠ first[head.length]?.getD 0 then false else apartP head c

/-! ### The pieces -/
theorem rowsBehind_c (n : Int) (A : Option Addr) (len c fg : Nat) (lb : Array Value) (w : World) :
    Calls Try.prog 46 #[.int .i64 n, .slice A len c, .func (.func fg) #[] lb] w fun e w' => e = .returned (.func (.func 58) #[] #[.pointer (some ⟨w.heap.size + 1, 0, none⟩), .pointer (some ⟨w.heap.size, 0, none⟩), .pointer (some ⟨w.heap.size + 2, 0, none⟩)]) ∧ w' = ((w.alloc (.cells #[.int .i64 n] 3)).alloc (.cells #[.slice A len c] 27)).alloc (.cells #[.func (.func fg) #[] lb] 44) := by
  go_enter Try.func46, Try.ntmps46
  go_wp2_with fail
  go_ret
  exact ⟨rfl, rfl⟩
theorem fits_c (b0 : Nat) (A0 : Option Addr) (c0 : Nat) (first : List Int) (A : Option Addr) (cc : Nat) (head : List Int) (c : Int) (w : World) (hb : w.cell? ⟨b0, 0, none⟩ = some (.slice A0 first.length c0)) (hr0 : Row w A0 (ints first)) (hf : first.length ≤ 6)
    (hr : Row w A (ints head)) (hs : Small head) (h0 : -1 ≤ c) (h1 : c ≤ 10) :
    Calls Try.prog 47 #[.slice A head.length cc, .int .i64 c, .pointer (some ⟨b0, 0, none⟩)] w fun e w' => e = .returned (.bool (fitP first head c)) ∧ w = w' := by
  have HF := hide (isFree_c A cc head c w hr hs h0 h1)
  have hl := hs.1
  by_cases hlt : head.length < first.length
  · obtain ⟨ad, rfl, hc⟩ := hr0.int hlt
    have HP : Hid (fitP first head c = if c ≠ first[head.length]?.getD 0 then false else apartP head c) := by show _ = _; unfold fitP; simp only [hlt, true_and]
    generalize first[head.length]?.getD 0 = x at *
    have l0 : (head.length : Int) < (first.length : Int) := by omega
    cases hx : (c != x) with
    | true =>
      have HP2 : Hid (fitP first head c = false) := by show _ = _; rw [HP.out, if_pos (by simpa using hx)]
      clear HP
      go_enter Try.func47, Try.ntmps47
      go_wp2_with fail
      go_ret
      exact ⟨ret_bool HP2.out.symm, rfl⟩
    | false =>
      have HP2 : Hid (fitP first head c = apartP head c) := by show _ = _; rw [HP.out, if_neg (by simpa using hx)]
      clear HP
      go_enter Try.func47, Try.ntmps47
      go_wp2_with fail
      refine HF.out.mono ?_
      rintro e w1 ⟨rfl, rfl⟩
      go_wp2_with fail
      go_ret
      exact ⟨ret_bool HP2.out.symm, rfl⟩
  · have HP2 : Hid (fitP first head c = apartP head c) := by show _ = _; unfold fitP; rw [if_neg (fun h => hlt h.1)]
    go_enter Try.func47, Try.ntmps47
    go_wp2_with fail
    refine HF.out.mono ?_
    rintro e w1 ⟨rfl, rfl⟩
    go_wp2_with fail
    go_ret
    exact ⟨ret_bool HP2.out.symm, rfl⟩
theorem queensBehind_c (n : Int) (A : Option Addr) (len c : Nat) (w : World) :
    Calls Try.prog 30 #[.int .i64 n, .slice A len c] w fun e w' => e = .returned (.func (.func 58) #[] #[.pointer (some ⟨w.heap.size + 2, 0, none⟩), .pointer (some ⟨w.heap.size + 1, 0, none⟩), .pointer (some ⟨w.heap.size + 3, 0, none⟩)]) ∧
      w' = (((w.alloc (.cells #[.slice A len c] 27)).alloc (.cells #[.int .i64 n] 3)).alloc (.cells #[.slice none 0 0] 27)).alloc (.cells #[.func (.func 47) #[] #[.pointer (some ⟨w.heap.size, 0, none⟩)]] 44) := by
  have H := hide (fun A len c fg lb w5 => rowsBehind_c n A len c fg lb w5)
  go_enter Try.func30, Try.ntmps30
  go_wp2_with fail
  refine (H.out _ _ _ _ _ _).mono ?_
  rintro e w1 ⟨rfl, rfl⟩
  go_wp2_with fail
  go_ret
  exact ⟨by simp [Nat.add_assoc], rfl⟩
end Go.Proofs.Ytlccohoblplddad

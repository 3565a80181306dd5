
/-
  Drawn seats; rows the other way round.
-/
import Derived.Test.YtlccohoblplddadSeatA
import Derived.Test.YtlccohoblplddadDrawC
namespace Go.Proofs.Ytlccohoblplddad
open Go.RowKit
set_option linter.unusedVariables false

theorem ints_set' (l : List Int) (i : Nat) (u : Int) : (ints l).set i (.int .i64 u) = ints (l.set i u) := by simp [ints, List.map_set]
def lenV : Value → Nat
  | .slice _ n _ => n
  | _ => 0
theorem own_lenV {w : World} {base e size n : Nat} {v : Value} {xs : List Value} (h : w.ownsRow base e size v n xs) : lenV v = n := by
  obtain ⟨A, c, rfl, _⟩ := own_row h
  rfl
def SomeSeats (R B N : Nat) (w : World) (e : Ending) (w' : World) : Prop := ∃ v xs, e = .returned v ∧ w'.ownsRow w.heap.size 3 1 v (List.length xs) (ints xs) ∧ xs.length ≤ 5 ∧ Reader w' R B N ∧ w.grownBy w' (some R)
def DrawnSeats (w : World) (e : Ending) (w' : World) : Prop := ∃ v xs, e = .returned v ∧ w'.ownsRow w.heap.size 3 1 v (List.length xs) (ints xs) ∧ xs.length ≤ 5 ∧ Below w.heap.size w w'
theorem Seats.reverse {l : List Int} (h : Seats l) : Seats l.reverse := by
  obtain ⟨h1, h2⟩ := h
  refine ⟨by simpa using h1, fun i hi => ?_⟩
  rw [List.length_reverse] at hi ⊢
  have := h2 (l.length - 1 - i) (by omega)
  rw [List.getElem?_reverse hi]
  exact this
theorem drop_step (xs : List Int) (k : Nat) (hk : k < xs.length) : (xs.drop (k + 1)).reverse ++ [xs[k]?.getD 0] = (xs.drop k).reverse := by
  rw [List.drop_eq_getElem_cons hk, List.reverse_cons, List.getElem?_eq_getElem hk]; rfl
set_option maxHeartbeats 400000 in
theorem backwards_c (A : Option Addr) (c : Nat) (l : List Int) (w : World) (hr : Row w A (ints l)) (hm : l.length ≤ 1048576) :
    Calls Try.prog 11 #[.slice A l.length c] w (Owns 3 1 l.length (ints l.reverse) w) := by
  go_enter Try.func11, Try.ntmps11
  go_wp2_with fail
  go_loopw [3, 4] (fun v i wr => ∃ k : Nat, k ≤ l.length ∧ i = .int .i64 ((k : Int) - 1) ∧ wr.ownsRow w.heap.size 3 1 v (l.length - k) (ints (l.drop k).reverse) ∧ Below w.heap.size w wr) (fun _ i _ => (intOf i + 1).toNat)
  case atStart => exact ⟨l.length, Nat.le_refl _, rfl, by simpa using World.ownsRow_made w #[] 0 (Nat.le_refl _) (by simp [maxLen]) rfl, (Below.refl _ _).alloc (Nat.le_refl _) _⟩
  case round =>
    obtain ⟨k, hk, rfl, hown, hb⟩ := hrel
    obtain ⟨wo, rfl⟩ : ∃ wo : World, wo = wr := ⟨_, rfl⟩
    have z := hb.size
    obtain ⟨A0, c0, rfl, _⟩ := own_row hown
    rcases Nat.eq_zero_or_pos k with h0 | h0
    · subst h0
      have hneg : ¬ (0 : Int) ≤ ((0 : Nat) : Int) - 1 := by omega
      go_wp2_with fail
      go_ret
      exact ⟨_, rfl, by simpa using hown, hb⟩
    · obtain ⟨j, rfl⟩ : ∃ j, k = j + 1 := ⟨k - 1, by omega⟩
      have hj : j < l.length := by omega
      obtain ⟨ad, rfl, hc⟩ := (hr.below hb).int hj
      have hd := hide (drop_step l j hj)
      obtain ⟨x, hx⟩ : ∃ x, l[j]?.getD 0 = x := ⟨_, rfl⟩
      rw [hx] at hc hd
      clear hx
      have hjj : ((j + 1 : Nat) : Int) - 1 = (j : Int) := by omega
      rw [hjj]
      clear hjj
      have own1 := hown.alloc (.cells #[.int .i64 x] 3)
      have Own := hide own1
      have j0 : (0 : Int) ≤ (j : Int) := by omega
      have j1 : (j : Int) < (l.length : Int) := by omega
      go_wp2_with ((at_builtin; refine put_own rfl (.tmp 13) (.tmp 18) rfl Try.underlying27 elem_intd rfl Own.out rfl (m := 1) (news := [.int .i64 x]) rfl (row_new _ _ _ rfl) (by simp [Value.oneCell']) (by omega) (by omega) (by simp; omega) ?_; intro v3 w3 hown3 hg3 ho3))
      have e1 : l.length - (j + 1) + 1 = l.length - j := by omega
      have e2 : ints (l.drop (j + 1)).reverse ++ [Value.int .i64 x] = ints (l.drop j).reverse := by rw [← hd.out]; simp [ints]
      rw [e1, e2] at hown3
      exact ⟨⟨j, by omega, rfl, hown3, below_grown (hb.alloc z _) (by simp; omega) Own.out (Nat.le_refl _) hg3⟩, by simp [intOf]⟩
end Go.Proofs.Ytlccohoblplddad

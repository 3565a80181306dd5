
/-
  The reference model's ascending: numbers put into their places one by one.
-/
import Derived.Test.YtgbbmnnpphkkbaaSpecB
import Derived.Test.YtgbbmnnpphkkbaaAscP
import Derived.Deep.DeepCutAuto
import Derived.Deep.CutRange
import Derived.Deep.RegionHeld3
import Derived.Deep.AppendLies
namespace Go.Proofs.Ytgbbmnnpphkkbaa
open Go.RowKit
set_option linter.unusedVariables false

theorem elem_int' : Elem Try.prog 3 1 8 := Elem.of (z := .int .i64 0) (by kernel_rfl) rfl (by omega)

/-- An append to a row of the call's own, as a step of a region that draws its order. -/
theorem step_put {P : Program} {ops : Array Oper} {o : Oper} {a : Act} {w : World} {K : Act → World → Prop} {Q : Exit → Act → World → Prop} {E : Prop} (hgd : o.guard = none) (s x : Operand) {t : TypeId}
    (ho : o.op = .call { callee := .builtin .append, args := #[s, x], argTypes := #[t, t] })
    {e : TypeId} {size bytes : Nat} (ht : P.underlying t = some (.slice e)) (he : Elem P e size bytes)
    {B n m c : Nat} {v : Value} {xs news : List Value} {A : Option Addr} (hs : a.eval s = v) (hown : w.ownsRow B e size v n xs) (hx : a.eval x = .slice A m c) (hl : news.length = m * size) (hr : Row w A news)
    (h1 : ∀ u ∈ news, u.oneCell' = true) (hsmall : n + m ≤ 1099511627776) (hbytes : bytes ≤ 100) (hB : B ≤ w.heap.size)
    (h : ∀ v' w', w'.ownsRow B e size v' (n + m) (xs ++ news) → w.grownBy w' v.ownBlock → (v'.ownBlock = v.ownBlock ∨ v'.ownBlock = some w.heap.size) → K (a.put o.dst v') w') :
    if Region.wanted o (yielded ops a.tmps) = true then Oper.wp P o a w K Q else E := by
  have hw : Region.wanted o (yielded ops a.tmps) = true := by simp [Region.wanted, hgd]
  rw [if_pos hw]
  obtain ⟨v', w', hrun, h2, h3, h4⟩ := put_run (P := P) w o.type ht he (c := c) hown hl hr h1 hsmall hbytes hB
  unfold Oper.wp execOp
  simp only [ho, resolve, invoke, builtin, Sem.run_bind, Sem.run_pure, Result.andThen_ok, List.map_toArray, List.map_cons, List.map_nil, hs, hx, hrun]
  exact h v' w' h2 h3 h4

theorem one_ints (l : List Int) : ∀ u ∈ ints l, u.oneCell' = true := by
  intro u hu
  simp only [ints, List.mem_map] at hu
  obtain ⟨g, _, rfl⟩ := hu
  rfl
theorem Row.upto {w : World} {A : Option Addr} {out : List Int} (h : Row w A (ints out)) (j : Nat) : Row w A (ints (out.take j)) := fun i hi => by
  simp only [ints, List.length_map, List.length_take] at hi
  obtain ⟨ad, e, hc⟩ := h i (by simp; omega)
  exact ⟨ad, e, by rw [hc]; simp⟩
theorem Row.cut {w : World} {ao : Addr} {out : List Int} (h : Row w (some ao) (ints out)) {j c : Nat} (hj : j ≤ out.length) (hc : out.length ≤ c) : Row w (if c = j then some ao else some (ao.add j)) (ints (out.drop j)) := fun i hi => by
  simp only [ints, List.length_map, List.length_drop] at hi
  obtain ⟨_, ⟨rfl⟩, hc⟩ := h (j + i) (by simp; omega)
  rw [if_neg (by omega)]
  exact ⟨_, rfl, by rw [addr_far, hc]; simp⟩
end Go.Proofs.Ytgbbmnnpphkkbaa

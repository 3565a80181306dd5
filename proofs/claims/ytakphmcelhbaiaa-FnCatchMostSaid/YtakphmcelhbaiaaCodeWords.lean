
/-
  What a law's shell knows of its code.
-/
import Derived.Test.YtakphmcelhbaiaaDrawC
namespace Go.Proofs.Ytakphmcelhbaiaa
open Go.RowKit
set_option linter.unusedVariables false

/-- What the law's shell knows of its code. -/
theorem code_of {w : World} {a : Option Addr} {len cap : Nat} {zs : List Int}
    (h : (a = none ∧ len = 0 ∧ cap = 0 ∧ zs = []) ∨ ∃ x, a = some x ∧ len ≤ cap ∧ cap ≤ maxLen ∧ zs.length = cap ∧ (∀ i, i < zs.length → w.cell? (x.add i) = some (.int .u8 (zs.getD i 0))) ∧ ∀ n ∈ zs, (Lit.int .u8 n).wf = true) : Code w a len cap := by
  rcases h with ⟨rfl, rfl, rfl, rfl⟩ | ⟨x, rfl, hl, hm, hz, hc, hw⟩
  · exact ⟨[], rfl, Nat.le_refl _, by simp [maxLen], Row.empty _ _, fun z h => by cases h⟩
  · refine ⟨zs.take len, by simp; omega, hl, hm, fun j hj => ⟨x, rfl, ?_⟩, fun z h => ?_⟩
    · simp only [List.length_map, List.length_take] at hj
      rw [hc j (by omega)]
      simp [List.getElem?_eq_getElem (show j < zs.length by omega)]
    · have := hw z (List.mem_of_mem_take h)
      simp [Lit.wf, IntKind.min, IntKind.max, IntKind.bits, IntKind.signed] at this
      omega
end Go.Proofs.Ytakphmcelhbaiaa

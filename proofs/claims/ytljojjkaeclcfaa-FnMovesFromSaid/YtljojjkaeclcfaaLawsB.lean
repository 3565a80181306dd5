
/-
  The walk of the law FnValidKind.
-/
import Derived.Test.YtljojjkaeclcfaaLawsA
import Derived.Test.YtljojjkaeclcfaaCodeWords
namespace Go.Proofs.Ytljojjkaeclcfaa
open Go.RowKit
set_option linter.unusedVariables false

set_option maxHeartbeats 1000000 in
theorem kind_goes {s : List UInt8} (h : (kindL s).isSome = true) : 4 ≤ (reachOfP 5 5 s 12 []).length := by
  unfold reachOfP
  unfold kindL at h ⊢
  repeat' (split at h)
  all_goals first | (simp at h; done) | simp only [*, if_true, if_false, Bool.false_eq_true]
  all_goals
    rw [if_pos (by decide +kernel)]
    unfold reachP
    rw [List.length_mergeSort]
    decide +kernel

end Go.Proofs.Ytljojjkaeclcfaa

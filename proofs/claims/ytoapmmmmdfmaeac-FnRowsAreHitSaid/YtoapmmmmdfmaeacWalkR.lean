
/-
  Walks by chance, purely: the mean times of the table are right, by the kernel.
-/
import Derived.Test.YtoapmmmmdfmaeacWalkP
namespace Go.Proofs.Ytoapmmmmdfmaeac
set_option linter.unusedVariables false

theorem hit_20 : hitOk (hitTab[20]?.getD ([], [])) = true := by decide +kernel
theorem hit_21 : hitOk (hitTab[21]?.getD ([], [])) = true := by decide +kernel
theorem hit_22 : hitOk (hitTab[22]?.getD ([], [])) = true := by decide +kernel
theorem hit_23 : hitOk (hitTab[23]?.getD ([], [])) = true := by decide +kernel
end Go.Proofs.Ytoapmmmmdfmaeac

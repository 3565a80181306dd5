
/-
  Walks by chance, purely: the mean times of the table are right, by the kernel.
-/
import Derived.Test.YtoapmmmmdfmaeacWalkP
namespace Go.Proofs.Ytoapmmmmdfmaeac
set_option linter.unusedVariables false

theorem hit_24 : hitOk (hitTab[24]?.getD ([], [])) = true := by decide +kernel
theorem hit_25 : hitOk (hitTab[25]?.getD ([], [])) = true := by decide +kernel
theorem hit_26 : hitOk (hitTab[26]?.getD ([], [])) = true := by decide +kernel
theorem hit_27 : hitOk (hitTab[27]?.getD ([], [])) = true := by decide +kernel
end Go.Proofs.Ytoapmmmmdfmaeac

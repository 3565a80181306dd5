
/-
  Walks by chance, purely: the mean times of the table are right, by the kernel.
-/
import Derived.Test.YtoapmmmmdfmaeacWalkP
namespace Go.Proofs.Ytoapmmmmdfmaeac
set_option linter.unusedVariables false

theorem hit_a : (hitTab.take 16).all hitOk = true := by decide +kernel
theorem hit_16 : hitOk (hitTab[16]?.getD ([], [])) = true := by decide +kernel
theorem hit_17 : hitOk (hitTab[17]?.getD ([], [])) = true := by decide +kernel
theorem hit_18 : hitOk (hitTab[18]?.getD ([], [])) = true := by decide +kernel
theorem hit_19 : hitOk (hitTab[19]?.getD ([], [])) = true := by decide +kernel
end Go.Proofs.Ytoapmmmmdfmaeac

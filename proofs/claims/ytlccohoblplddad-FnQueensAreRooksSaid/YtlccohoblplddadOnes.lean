
/-
  How many bits a small number has, by the library.
-/
import Derived.Test.YtlccohoblplddadSeatA
import Derived.Test.YtlccohoblplddadRookP
namespace Go.Proofs.Ytlccohoblplddad
open Go.RowKit
set_option linter.unusedVariables false

set_option maxRecDepth 100000 in
theorem ones64_c (t : Nat) (ht : t < 32) (w : World) : Calls Try.prog 67 #[.int .u64 (t : Int)] w fun e w' => e = .returned (.int .i64 ((pc t : Nat) : Int)) ∧ w = w' := by
  go_enter Try.func67, Try.ntmps67
  go_wp2_with fail
  go_ret
  refine ⟨?_, rfl⟩
  refine (show Ending.returned (.int .i64 _) = _ from ret_int (k := .i64) ?_)
  obtain ⟨t', rfl⟩ : ∃ t' : Fin 32, t'.val = t := ⟨⟨t, ht⟩, rfl⟩
  clear ht
  revert t'
  decide +kernel
theorem ones_c (t : Nat) (ht : t < 32) (w : World) : Calls Try.prog 63 #[.int .u64 (t : Int)] w fun e w' => e = .returned (.int .i64 ((pc t : Nat) : Int)) ∧ w = w' := by
  have H := hide (fun w5 => ones64_c t ht w5)
  go_enter Try.func63, Try.ntmps63
  go_wp2_with fail
  refine (H.out _).mono ?_
  rintro e w1 ⟨rfl, rfl⟩
  go_wp2_with fail
  go_ret
  exact ⟨rfl, rfl⟩
theorem sizeOf_c (t : Nat) (ht : t < 32) (w : World) : Calls Try.prog 57 #[.int .i64 (t : Int)] w fun e w' => e = .returned (.int .i64 ((pc t : Nat) : Int)) ∧ w = w' := by
  have H := hide (fun w5 => ones_c t ht w5)
  have e0 : IntKind.u64.wrap (t : Int) = (t : Int) := IntWalk.u64_in _ (by omega)
  go_enter Try.func57, Try.ntmps57
  go_wp2_with fail
  refine (H.out _).mono ?_
  rintro e w1 ⟨rfl, rfl⟩
  go_wp2_with fail
  go_ret
  exact ⟨rfl, rfl⟩
end Go.Proofs.Ytlccohoblplddad

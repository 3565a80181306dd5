
/-
  Pegs: the model's behind, comes.
-/
import Derived.Test.YtgbbmnnpphkkbacPegC
namespace Go.Proofs.Ytgbbmnnpphkkbac
open Go.RowKit
set_option linter.unusedVariables false

theorem jump_sum {w n s : Nat} {j : Jump} (h : JumpIs w n s j) : 2 ^ j.1 + 2 ^ j.2.1 ≤ s := by
  have h1 := Nat.ge_two_pow_of_testBit h.bi
  have h2 : (s - 2 ^ j.1).testBit j.2.1 = true := by rw [sub_bit h.bi, flip_at, h.bm]; simp [h.im]
  have h3 := Nat.ge_two_pow_of_testBit h2
  omega
theorem power_q (n : Nat) (hn : n ≤ 12) (w : World) : Calls Try.prog 37 #[.int .i64 (n : Int)] w fun e w' => e = .returned (.int .i64 ((2 ^ n : Nat) : Int)) ∧ ∃ m, w' = w.drewN m :=
  (specPower12_c n hn w).mono fun e w' ⟨h, h'⟩ => ⟨h, 0, h'.symm⟩
set_option maxHeartbeats 1000000 in
set_option maxRecDepth 100000 in
theorem behind_c (w n s : Nat) (j : Jump) (hJ : JumpIs w n s j) (hn : n ≤ 12) (hs : s < 4096) (A : Option Addr) (c : Nat) (W : World) (hr : Row W A (ints (rowJ j))) :
    Calls Try.prog 46 #[.int .i64 (s : Int), .slice A 3 c] W fun e w' => e = .returned (.int .i64 ((behindP s j : Nat) : Int)) ∧ ∃ m, w' = W.drewN m := by
  obtain ⟨i, m, k⟩ := j
  have hsum := jump_sum hJ
  have hi := hJ.i
  have hm := hJ.m
  have hk := hJ.k
  simp only at hsum hi hm hk
  obtain ⟨ad, rfl, h0⟩ := hr 0 (by simp [rowJ])
  obtain ⟨ad1, e1, h1⟩ := hr 1 (by simp [rowJ])
  obtain ⟨ad2, e2, h2⟩ := hr 2 (by simp [rowJ])
  injection e1 with e1
  injection e2 with e2
  subst e1
  subst e2
  simp only [rowJ, ints, List.map_cons, List.map_nil, List.getElem_cons_zero, List.getElem_cons_succ] at h0 h1 h2
  have h0 : W.cell? ad = some (.int .i64 (i : Int)) := h0
  have h1 : W.cell? ⟨ad.block, ad.off + 1, none⟩ = some (.int .i64 (m : Int)) := h1
  have h2 : W.cell? ⟨ad.block, ad.off + 2, none⟩ = some (.int .i64 (k : Int)) := h2
  have HP := hide (fun (q : Nat) (hq : q ≤ 12) w5 => power_q q hq w5)
  have pk := pow12 (n := k) (by omega)
  have HV := hide (show behindP s (i, m, k) = s - 2 ^ i - 2 ^ m + 2 ^ k from rfl)
  rw [HV.out]
  have i12 : i ≤ 12 := by omega
  have m12 : m ≤ 12 := by omega
  have k12 : k ≤ 12 := by omega
  clear hr hJ HV
  generalize hP : 2 ^ i = P at *
  generalize hQ : 2 ^ m = Q at *
  generalize hR : 2 ^ k = R at *
  have HPi := hide (fun w5 => show Calls Try.prog 37 #[.int .i64 (i : Int)] w5 fun e w' => e = .returned (.int .i64 (P : Int)) ∧ ∃ m, w' = w5.drewN m by have := HP.out i i12 w5; rwa [hP] at this)
  have HPm := hide (fun w5 => show Calls Try.prog 37 #[.int .i64 (m : Int)] w5 fun e w' => e = .returned (.int .i64 (Q : Int)) ∧ ∃ m, w' = w5.drewN m by have := HP.out m m12 w5; rwa [hQ] at this)
  have HPk := hide (fun w5 => show Calls Try.prog 37 #[.int .i64 (k : Int)] w5 fun e w' => e = .returned (.int .i64 (R : Int)) ∧ ∃ m, w' = w5.drewN m by have := HP.out k k12 w5; rwa [hR] at this)
  obtain ⟨s1, hs1⟩ : ∃ s1, s - P = s1 := ⟨_, rfl⟩
  obtain ⟨s2, hs2⟩ : ∃ s2, s1 - Q = s2 := ⟨_, rfl⟩
  obtain ⟨s3, hs3⟩ : ∃ s3, s2 + R = s3 := ⟨_, rfl⟩
  have f1 : IntKind.i64.wrap ((s : Int) - (P : Int)) = (s1 : Int) := (IntWalk.i64_in _ (by omega)).trans (by omega)
  have f2 : IntKind.i64.wrap ((s1 : Int) - (Q : Int)) = (s2 : Int) := (IntWalk.i64_in _ (by omega)).trans (by omega)
  have f3 : IntKind.i64.wrap ((s2 : Int) + (R : Int)) = (s3 : Int) := (IntWalk.i64_in _ (by omega)).trans (by omega)
  rw [hs1, hs2, hs3]
  clear HP hP hQ hR hs1 hs2 hs3 hsum
  go_enter Try.func46, Try.ntmps46
  go_wp2_with fail
  refine wp_region_quiet_lit (by kernel_rfl) (by kernel_rfl) ?_
  repeat (quiet_step (fail))
  quiet_step ((go_at_call 37; exact Calls.quiet_of (HPi.out _)))
  repeat (quiet_step (fail))
  quiet_step ((go_at_call 37; exact Calls.quiet_of (HPm.out _)))
  repeat (quiet_step (fail))
  quiet_step ((go_at_call 37; exact Calls.quiet_of (HPk.out _)))
  repeat (quiet_step (fail))
  refine wpQuiet_nil ?_
  intro _ hw'
  obtain ⟨nq, hw''⟩ := hw'
  subst hw''
  go_wp2_with fail
  go_ret
  exact ⟨rfl, nq, rfl⟩
end Go.Proofs.Ytgbbmnnpphkkbac

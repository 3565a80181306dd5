
/-
  The walk of the law FnValidSmall.
-/
import Derived.Test.YtmednlgokcbdjabPGuardD
import Derived.Test.YtmednlgokcbdjabGuardK
import Derived.Test.YtmednlgokcbdjabGuardN
import Derived.Test.YtmednlgokcbdjabDrawG
namespace Go.Proofs.Ytmednlgokcbdjab
open Go.RowKit
set_option linter.unusedVariables false

set_option maxHeartbeats 1000000 in
theorem validSmall_w (A : Option Addr) (n c : Nat) (w : World) (h : Code w A n c) : Calls Try.prog 5 #[.slice A n c] w (Plain (.bool true) w) := by
  by_cases hl : 1048576 < (n : Int)
  · go_enter Try.func5, Try.ntmps5
    go_wp2
    go_ret
    exact ⟨rfl, Below.refl _ _⟩
  · have HC := hide (drawValidSmall_c A n c w h)
    clear h
    go_enter Try.func5, Try.ntmps5
    go_wp2_with fail
    refine HC.out.mono ?_
    rintro e w1 ⟨bc, br, s, rfl, hx, hy, hs, b1⟩
    have HI := hide (fun w5 => implValidSmall_c bc br s w5)
    have HS := hide (fun w5 => specValidSmall_c bc br s w5)
    have HT := hide (fun w5 => implValidSmall_c br bc s w5)
    rw [smallK_turn] at HT
    have HK := hide (fun (h : (smallK bc br s.toList).isSome = true) => show IntKind.i64.wrap (bc * br) = bc * br ∧ bc * br ≤ 9 by
      obtain ⟨⟨ss, far⟩, hk⟩ := Option.isSome_iff_exists.1 h
      obtain ⟨⟨h1, h2, h3, h4, h9⟩, _⟩ := smallK_some hk
      have := mul_bd h1 h2 h3 h4
      exact ⟨IntWalk.i64_in _ (by omega), h9⟩)
    generalize (smallK bc br s.toList).isSome = x at *
    cases x with
    | true =>
      obtain ⟨e0, k9⟩ := HK.out rfl
      obtain ⟨p, hp⟩ : ∃ p, bc * br = p := ⟨_, rfl⟩
      replace e0 := e0.trans hp
      rw [hp] at k9
      clear hp HK
      go_wp2_with fail
      refine (HI.out _).mono ?_
      rintro e w2 ⟨rfl, b2⟩
      have b2 := below_then b1 b1.size b2
      go_wp2_with fail
      refine (HS.out _).mono ?_
      rintro e w3 ⟨rfl, b3⟩
      have b3 := below_then b2 b2.size b3
      go_wp2_with fail
      refine (HT.out _).mono ?_
      rintro e w4 ⟨rfl, b4⟩
      have b4 := below_then b3 b3.size b4
      go_wp2_with fail
      go_ret
      exact ⟨rfl, b4⟩
    | false =>
      clear HK HT
      go_wp2_with fail
      refine (HI.out _).mono ?_
      rintro e w2 ⟨rfl, b2⟩
      have b2 := below_then b1 b1.size b2
      go_wp2_with fail
      refine (HS.out _).mono ?_
      rintro e w3 ⟨rfl, b3⟩
      have b3 := below_then b2 b2.size b3
      go_wp2_with fail
      refine (HS.out _).mono ?_
      rintro e w4 ⟨rfl, b4⟩
      have b4 := below_then b3 b3.size b4
      go_wp2_with fail
      go_ret
      exact ⟨rfl, b4⟩
end Go.Proofs.Ytmednlgokcbdjab


/-
  The walk of the law FnFewestFull.
-/
import Derived.Test.YtmednlgokcbdjacPGuardD
import Derived.Test.YtmednlgokcbdjacGuardF
import Derived.Test.YtmednlgokcbdjacGuardN
import Derived.Test.YtmednlgokcbdjacDrawG
namespace Go.Proofs.Ytmednlgokcbdjac
open Go.RowKit
set_option linter.unusedVariables false

set_option maxHeartbeats 1000000 in
theorem fewestFull_w (A : Option Addr) (n c : Nat) (w : World) (h : Code w A n c) : Calls Try.prog 5 #[.slice A n c] w (Plain (.bool true) w) := by
  by_cases hl : 1048576 < (n : Int)
  · go_enter Try.func5, Try.ntmps5
    go_wp2
    go_ret
    exact ⟨rfl, Below.refl _ _⟩
  · have HC := hide (drawFewestFull_c A n c w h)
    clear h
    go_enter Try.func5, Try.ntmps5
    go_wp2_with fail
    refine HC.out.mono ?_
    rintro e w1 ⟨bc, br, s, rfl, hx, hy, hs, b1⟩
    cases hk : smallK bc br s.toList with
    | none =>
      have HI := hide (fun w5 => implFewestFull_c bc br s w5)
      have HS := hide (fun w5 => fewestFull_c bc br s w5)
      rw [valueOf_none _ hk] at HI HS
      clear hk
      go_wp2_with fail
      refine (HI.out _).mono ?_
      rintro e w2 ⟨rfl, b2⟩
      have b2 := below_then b1 b1.size b2
      go_wp2_with fail
      refine (HS.out _).mono ?_
      rintro e w3 ⟨rfl, b3⟩
      have b3 := below_then b2 b2.size b3
      go_wp2_with fail
      refine (HS.out _).mono ?_
      rintro e w4 ⟨rfl, b4⟩
      have b4 := below_then b3 b3.size b4
      go_wp2_with fail
      go_ret
      exact ⟨rfl, b4⟩
    | some p =>
      obtain ⟨ss, far⟩ := p
      obtain ⟨hS, hkk⟩ := smallK_some hk
      clear hk
      have HI := hide (fun w5 => implFewestFull_c bc br s w5)
      have HS := hide (fun w5 => fewestFull_c bc br s w5)
      rw [valueOf_some _ hS hkk] at HI HS
      have HG := hide (fun w5 => implFewestGuards_c bc br s w5)
      have HK := hide (fun w5 => implFewestGuards_c bc br ⟨#[107, 105, 110, 103]⟩ w5)
      have HL := hide (fun w5 => implFewestFull_c bc br ⟨#[107, 105, 110, 103]⟩ w5)
      rw [valueOf_some _ hS hkk] at HG
      rw [valueOf_some _ hS kind_king] at HK HL
      obtain ⟨o1, o2, o3, o4, o5, o6, o7⟩ := ofKind hS hkk
      obtain ⟨q1, q2, q3, q4, q5, q6, q7, q8⟩ := ofKinds hS
      obtain ⟨⟨v1, v2, v3, v4⟩, v5, v6⟩ := thirds hS
      obtain ⟨t1, t2, t3, t4, t5⟩ := hS
      rw [q3] at HK
      rw [q4] at HL
      clear o1 o3 o4 o5 o6 o7 q1 q2 q3 q4 q5 q6 q7 q8 t5 hkk
      generalize fewGuards (setsP bc br far ss) = g at *
      generalize fewFull (setsP bc br far ss) = f at *
      have i2 : (g : Int) ≤ (f : Int) := by omega
      have hmm : ((f : Int) != (f : Int)) = false := by simp
      have m0 : (0 : Int) ≤ (f : Int) := by omega
      clear o2
      go_wp2_with fail
      refine (HI.out _).mono ?_
      rintro e w2 ⟨rfl, b2⟩
      have b2 := below_then b1 b1.size b2
      go_wp2_with fail
      refine (HS.out _).mono ?_
      rintro e w3 ⟨rfl, b3⟩
      have b3 := below_then b2 b2.size b3
      go_wp2_with fail
      refine (HG.out _).mono ?_
      rintro e w4 ⟨rfl, b4⟩
      have b4 := below_then b3 b3.size b4
      go_wp2_with fail
      refine (HK.out _).mono ?_
      rintro e w5 ⟨rfl, b5⟩
      have b5 := below_then b4 b4.size b5
      go_wp2_with fail
      refine (HL.out _).mono ?_
      rintro e w6 ⟨rfl, b6⟩
      have b6 := below_then b5 b5.size b6
      go_wp2_with fail
      go_ret
      exact ⟨rfl, b6⟩

end Go.Proofs.Ytmednlgokcbdjac

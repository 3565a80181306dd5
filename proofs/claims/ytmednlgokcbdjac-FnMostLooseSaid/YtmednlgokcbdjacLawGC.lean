
/-
  The walk of the law FnMostLoose.
-/
import Derived.Test.YtmednlgokcbdjacPGuardD
import Derived.Test.YtmednlgokcbdjacGuardJ
import Derived.Test.YtmednlgokcbdjacGuardN
import Derived.Test.YtmednlgokcbdjacDrawG
namespace Go.Proofs.Ytmednlgokcbdjac
open Go.RowKit
set_option linter.unusedVariables false

set_option maxHeartbeats 1000000 in
theorem mostLoose_w (A : Option Addr) (n c : Nat) (w : World) (h : Code w A n c) : Calls Try.prog 4 #[.slice A n c] w (Plain (.bool true) w) := by
  by_cases hl : 1048576 < (n : Int)
  · go_enter Try.func4, Try.ntmps4
    go_wp2
    go_ret
    exact ⟨rfl, Below.refl _ _⟩
  · have HC := hide (drawMostLoose_c A n c w h)
    clear h
    go_enter Try.func4, Try.ntmps4
    go_wp2_with fail
    refine HC.out.mono ?_
    rintro e w1 ⟨bc, br, s, rfl, hx, hy, hs, b1⟩
    cases hk : smallK bc br s.toList with
    | none =>
      have HI := hide (fun w5 => implMostLoose_c bc br s w5)
      have HS := hide (fun w5 => mostLoose_c bc br s w5)
      rw [valueOf_none _ hk] at HI HS
      clear hk
      go_wp2_with fail
      refine (HI.out _).mono ?_
      rintro e w2 ⟨rfl, b2⟩
      have b2 := below_then b1 b1.size b2
      go_wp2_with fail
      refine (HS.out _).mono ?_
      rintro e w3 ⟨rfl, b3⟩
      have b3 := below_then b2 b2.size b3
      go_wp2_with fail
      refine (HS.out _).mono ?_
      rintro e w4 ⟨rfl, b4⟩
      have b4 := below_then b3 b3.size b4
      go_wp2_with fail
      go_ret
      exact ⟨rfl, b4⟩
    | some p =>
      obtain ⟨ss, far⟩ := p
      obtain ⟨hS, hkk⟩ := smallK_some hk
      clear hk
      have HI := hide (fun w5 => implMostLoose_c bc br s w5)
      have HS := hide (fun w5 => mostLoose_c bc br s w5)
      rw [valueOf_some _ hS hkk] at HI HS
      have HT := hide (fun w5 => implMostLoose_c br bc s w5)
      have HR := hide (fun w5 => implMostLoose_c bc br ⟨#[114, 111, 111, 107]⟩ w5)
      have HK := hide (fun w5 => implMostLoose_c bc br ⟨#[107, 105, 110, 103]⟩ w5)
      rw [valueOf_some _ (small_turn hS) hkk] at HT
      rw [valueOf_some _ hS kind_rook] at HR
      rw [valueOf_some _ hS kind_king] at HK
      obtain ⟨o1, o2, o3, o4, o5, o6, o7⟩ := ofKind hS hkk
      obtain ⟨q1, q2, q3, q4, q5, q6, q7, q8⟩ := ofKinds hS
      obtain ⟨⟨v1, v2, v3, v4⟩, v5, v6⟩ := halves hS
      obtain ⟨t1, t2, t3, t4, t5⟩ := hS
      rw [o5] at HT
      rw [q1] at HR
      rw [q2] at HK
      clear o1 o2 o3 o4 o5 o6 o7 q1 q2 q3 q4 q5 q6 q7 q8 t5 hkk
      generalize mostL (setsP bc br far ss) = m at *
      have hmm : ((m : Int) != (m : Int)) = false := by simp
      have m0 : (0 : Int) ≤ (m : Int) := by omega
      go_wp2_with fail
      refine (HI.out _).mono ?_
      rintro e w2 ⟨rfl, b2⟩
      have b2 := below_then b1 b1.size b2
      go_wp2_with fail
      refine (HS.out _).mono ?_
      rintro e w3 ⟨rfl, b3⟩
      have b3 := below_then b2 b2.size b3
      go_wp2_with fail
      refine (HR.out _).mono ?_
      rintro e w4 ⟨rfl, b4⟩
      have b4 := below_then b3 b3.size b4
      go_wp2_with fail
      refine (HK.out _).mono ?_
      rintro e w5 ⟨rfl, b5⟩
      have b5 := below_then b4 b4.size b5
      go_wp2_with fail
      refine (HT.out _).mono ?_
      rintro e w6 ⟨rfl, b6⟩
      have b6 := below_then b5 b5.size b6
      go_wp2_with fail
      go_ret
      exact ⟨rfl, b6⟩

end Go.Proofs.Ytmednlgokcbdjac

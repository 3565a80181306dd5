
/-
  The walk of the law FnQueensGuardMore.
-/
import Derived.Test.YtmednlgokcbdjadPGuardD
import Derived.Test.YtmednlgokcbdjadGuardE
import Derived.Test.YtmednlgokcbdjadGuardN
import Derived.Test.YtmednlgokcbdjadDrawG
namespace Go.Proofs.Ytmednlgokcbdjad
open Go.RowKit
set_option linter.unusedVariables false

set_option maxHeartbeats 1000000 in
theorem queensGuardMore_w (A : Option Addr) (n c : Nat) (w : World) (h : Code w A n c) : Calls Try.prog 5 #[.slice A n c] w (Plain (.bool true) w) := by
  by_cases hl : 1048576 < (n : Int)
  · go_enter Try.func5, Try.ntmps5
    go_wp2
    go_ret
    exact ⟨rfl, Below.refl _ _⟩
  · have HC := hide (drawFewestGuards_c A n c w h)
    clear h
    go_enter Try.func5, Try.ntmps5
    go_wp2_with fail
    refine HC.out.mono ?_
    rintro e w1 ⟨bc, br, s, rfl, hx, hy, hs, b1⟩
    cases hk : smallK bc br s.toList with
    | none =>
      have HI := hide (fun w5 => implFewestGuards_c bc br s w5)
      have HS := hide (fun w5 => fewestGuards_c bc br s w5)
      have HV := hide (fun w5 => implValidSmall_c bc br s w5)
      rw [valueOf_none _ hk] at HI HS
      rw [hk] at HV
      have hvn : (none : Option (List (Int × Int) × Bool)).isSome = false := rfl
      rw [hvn] at HV
      clear hk hvn
      go_wp2_with fail
      refine (HI.out _).mono ?_
      rintro e w2 ⟨rfl, b2⟩
      have b2 := below_then b1 b1.size b2
      go_wp2_with fail
      refine (HS.out _).mono ?_
      rintro e w3 ⟨rfl, b3⟩
      have b3 := below_then b2 b2.size b3
      go_wp2_with fail
      refine (HV.out _).mono ?_
      rintro e w4 ⟨rfl, b4⟩
      have b4 := below_then b3 b3.size b4
      go_wp2_with fail
      go_ret
      exact ⟨rfl, b4⟩
    | some p =>
      obtain ⟨ss, far⟩ := p
      obtain ⟨hS, hkk⟩ := smallK_some hk
      have HV := hide (fun w5 => implValidSmall_c bc br s w5)
      rw [hk, Option.isSome_some] at HV
      clear hk
      have HI := hide (fun w5 => implFewestGuards_c bc br s w5)
      have HS := hide (fun w5 => fewestGuards_c bc br s w5)
      rw [valueOf_some _ hS hkk] at HI HS
      have HQ := hide (fun w5 => implFewestGuards_c bc br ⟨#[113, 117, 101, 101, 110]⟩ w5)
      have HR := hide (fun w5 => implFewestGuards_c bc br ⟨#[114, 111, 111, 107]⟩ w5)
      have HB := hide (fun w5 => implFewestGuards_c bc br ⟨#[98, 105, 115, 104, 111, 112]⟩ w5)
      have HK := hide (fun w5 => implFewestGuards_c bc br ⟨#[107, 105, 110, 103]⟩ w5)
      rw [valueOf_some _ hS kind_queen] at HQ
      rw [valueOf_some _ hS kind_rook] at HR
      rw [valueOf_some _ hS kind_bishop] at HB
      rw [valueOf_some _ hS kind_king] at HK
      obtain ⟨q1, q2, q3, q4, q5, q6, q7, q8⟩ := ofKinds hS
      clear q1 q2 q3 q4
      rw [q5] at HR
      generalize fewGuards (setsP bc br far ss) = g at *
      generalize fewGuards (setsP bc br true both) = q at *
      generalize fewGuards (setsP bc br true slanted) = b at *
      generalize fewGuards (setsP bc br false both) = k at *
      have i1 : (q : Int) ≤ min bc br := by rw [← q5]; omega
      clear q5 q6
      have i2 : (q : Int) ≤ (b : Int) := by omega
      have i3 : (q : Int) ≤ (k : Int) := by omega
      have hgg : ((g : Int) != (g : Int)) = false := by simp
      clear q7 q8 hkk hS
      go_wp2_with fail
      refine (HI.out _).mono ?_
      rintro e w2 ⟨rfl, b2⟩
      have b2 := below_then b1 b1.size b2
      go_wp2_with fail
      refine (HS.out _).mono ?_
      rintro e w3 ⟨rfl, b3⟩
      have b3 := below_then b2 b2.size b3
      go_wp2_with fail
      refine (HV.out _).mono ?_
      rintro e w4 ⟨rfl, b4⟩
      have b4 := below_then b3 b3.size b4
      go_wp2_with fail
      refine (HQ.out _).mono ?_
      rintro e w5 ⟨rfl, b5⟩
      have b5 := below_then b4 b4.size b5
      go_wp2_with fail
      refine (HR.out _).mono ?_
      rintro e w6 ⟨rfl, b6⟩
      have b6 := below_then b5 b5.size b6
      go_wp2_with fail
      refine (HB.out _).mono ?_
      rintro e w7 ⟨rfl, b7⟩
      have b7 := below_then b6 b6.size b7
      go_wp2_with fail
      refine (HK.out _).mono ?_
      rintro e w8 ⟨rfl, b8⟩
      have b8 := below_then b7 b7.size b8
      go_wp2_with fail
      refine (HR.out _).mono ?_
      rintro e w9 ⟨rfl, b9⟩
      have b9 := below_then b8 b8.size b9
      go_wp2_with fail
      go_ret
      exact ⟨rfl, b9⟩

end Go.Proofs.Ytmednlgokcbdjad


/-
  The walks of the laws about ReachOf.
-/
import Derived.Test.YtdjkdjnbmhpokabSpecM
import Derived.Test.YtdjkdjnbmhpokabMoveH
namespace Go.Proofs.Ytdjkdjnbmhpokab
open Go.RowKit
set_option linter.unusedVariables false

theorem own_flat {w : World} {base e size n c : Nat} {A : Option Addr} {cs : List Value} (h : w.ownsRow base e size (.slice A n c) n cs) : Flat A := by
  obtain ⟨A', c', he, _, _, _, hf⟩ := own_row h
  injection he with h1
  subst h1
  intro ad e
  obtain ⟨g, hg, _⟩ := hf ad e
  exact ⟨g, 0, hg⟩
theorem reachOfP_len (bc br : Int) (s : List UInt8) (cell : Int) (others : List Int) : (reachOfP bc br s cell others).length ≤ 40 := by
  unfold reachOfP
  cases hk : kindL s with
  | none => simp
  | some p =>
    obtain ⟨ss, far⟩ := p
    simp only
    split
    · have := reach_len bc br far others cell ss
      have := (kind_ok hk).2.1
      omega
    · simp

end Go.Proofs.Ytdjkdjnbmhpokab
